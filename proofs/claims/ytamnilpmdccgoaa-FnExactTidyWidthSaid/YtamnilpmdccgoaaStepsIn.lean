/- stepsBehind: by how much a drawing is moved, the program's. -/
import Derived.Test.YtamnilpmdccgoaaContourIn
import Derived.Test.YtamnilpmdccgoaaEvenImp
import Derived.Deep.RegionHeld3
import Derived.Deep.DeepCutAuto
import Derived.BigQuiet
namespace Go.Proofs.Ytamnilpmdccgoaa
open Go.RowKit

theorem there_zeros {W : World} {g : Nat} {t : TypeId} (h : W.heap[g]? = some (.cells (List.replicate 24 (Value.int .i64 0)).toArray t (0, 0))) : W.there g 0 24 := fun j hj => by
  simp [World.cell?, World.frozen?, h, hj]

theorem heap_setCells_other (g b : Nat) (hne : b ≠ g) : ∀ (vs : List Value) (o : Nat) (W : World), (W.setCells g o vs).heap[b]? = W.heap[b]?
  | [], _, _ => rfl
  | _ :: r, o, _ => (heap_setCells_other g b hne r (o + 1) _).trans (heap_setCell_other _ _ _ _ hne)

/-- what two stores of long arrays into two new blocks want, and give -/
theorem twoStores {W0 W : World} {B g5 g6 : Nat} {L R : List Int} (hL : L.length = 24) (hR : R.length = 24) (z5 : W.heap[g5]? = some (.cells (List.replicate 24 (Value.int .i64 0)).toArray 168 (0, 0))) (z6 : W.heap[g6]? = some (.cells (List.replicate 24 (Value.int .i64 0)).toArray 168 (0, 0)))
    (hne : g5 ≠ g6) (h5 : B ≤ g5) (h6 : B ≤ g6) (hb : Below B W0 W) :
    W.there g5 0 (L.map (Value.int .i64)).toArray.size ∧ (W.setCells g5 0 (L.map (Value.int .i64))).there g6 0 (R.map (Value.int .i64)).toArray.size ∧
    (Try.prog.info? 168).map (·.size) = some (L.map (Value.int .i64)).toArray.size ∧ (Try.prog.info? 168).map (·.size) = some (R.map (Value.int .i64)).toArray.size ∧
    (L.map (Value.int .i64)).toArray.all (·.oneCell') = true ∧ (R.map (Value.int .i64)).toArray.all (·.oneCell') = true ∧
    Hid (((W.setCells g5 0 (L.map (Value.int .i64))).setCells g6 0 (R.map (Value.int .i64))).rangeAt g5 0 (L.map (Value.int .i64))) ∧ Hid (((W.setCells g5 0 (L.map (Value.int .i64))).setCells g6 0 (R.map (Value.int .i64))).rangeAt g6 0 (R.map (Value.int .i64))) ∧
    Hid (Below B W0 (W.setCells g5 0 (L.map (Value.int .i64)))) ∧ Hid (Below B W0 ((W.setCells g5 0 (L.map (Value.int .i64))).setCells g6 0 (R.map (Value.int .i64)))) := by
  have sL : (L.map (Value.int .i64)).toArray.size = 24 := by simp [hL]
  have sR : (R.map (Value.int .i64)).toArray.size = 24 := by simp [hR]
  have i1 : (Try.prog.info? 168).map (·.size) = some 24 := by kernel_rfl
  have t5 := there_zeros z5
  have t6 : (W.setCells g5 0 (L.map (Value.int .i64))).there g6 0 24 := there_zeros ((heap_setCells_other g5 g6 hne.symm _ _ _).trans z6)
  have b1 : Below B W0 (W.setCells g5 0 (L.map (Value.int .i64))) := below_cells h5 _ _ hb
  refine ⟨by rw [sL]; exact t5, by rw [sR]; exact t6, by rw [sL]; exact i1, by rw [sR]; exact i1, ?_, ?_, ?_, ?_, b1, below_cells h6 _ _ b1⟩
  · exact all_oneCell_toArray (fun v hv => by obtain ⟨x, _, rfl⟩ := List.mem_map.1 hv; rfl)
  · exact all_oneCell_toArray (fun v hv => by obtain ⟨x, _, rfl⟩ := List.mem_map.1 hv; rfl)
  · exact World.rangeAt_setCells_apart (World.rangeAt_setCells_same _ _ _ _ (by rw [List.length_map, hL]; exact t5)) _ _ _ (.inl hne)
  · exact World.rangeAt_setCells_same _ _ _ _ (by rw [List.length_map, hR]; exact t6)

set_option maxHeartbeats 8000000 in
set_option maxRecDepth 100000 in
theorem stepsBehind (A D A2 D2 : Option Addr) (P Ds P2 Ds2 : List Int) (m c cd m2 c2 cd2 : Nat) (w : World) (hm : m ≤ 24) (hm2 : m2 ≤ 24) (hP : Hid (P.length = m)) (hD : Hid (Ds.length = m)) (hP2 : Hid (P2.length = m2)) (hD2 : Hid (Ds2.length = m2))
    (h : Hid (Ints w w.heap.size A P)) (hd : Hid (Ints w w.heap.size D Ds)) (h2 : Hid (Ints w w.heap.size A2 P2)) (hd2 : Hid (Ints w w.heap.size D2 Ds2)) (bP : Hid (∀ x ∈ P, -100 ≤ x ∧ x ≤ 100)) (bD : Hid (∀ x ∈ Ds, 0 ≤ x ∧ x < 24)) (bP2 : Hid (∀ x ∈ P2, -100 ≤ x ∧ x ≤ 100)) (bD2 : Hid (∀ x ∈ Ds2, 0 ≤ x ∧ x < 24)) :
    Calls Try.prog 125 #[.agg #[.slice A m c, .slice D m cd], .agg #[.slice A2 m2 c2, .slice D2 m2 cd2]] w fun e w' => ∃ s L R, e = .returned (.int .i64 s) ∧ Hid (M.LftTo Ds P m L) ∧ Hid (M.RgtTo Ds2 P2 m2 R) ∧ Hid (M.StepTo L R 24 s) ∧ Hid (Below w.heap.size w w') := by
  go_enter Try.func125, Try.ntmps125
  go_wp2
  obtain ⟨W0, hW0⟩ : ∃ W0, W0 = (w.alloc (.cells #[.slice A m c, .slice D m cd] 126)).alloc (.cells #[.slice A2 m2 c2, .slice D2 m2 cd2] 126) := ⟨_, rfl⟩
  have hsz : W0.heap.size = w.heap.size + 1 + 1 := by rw [hW0]; simp
  have hs0 : w.heap.size < W0.heap.size := by omega
  have hs1 : w.heap.size + 1 < W0.heap.size := by omega
  have d0 : W0.cell? ⟨w.heap.size, 0, none⟩ = some (.slice A m c) := by rw [hW0]; exact cell_al (by simp) _
  have d1 : W0.cell? ⟨w.heap.size, 1, none⟩ = some (.slice D m cd) := by rw [hW0]; simp [go_sem]
  have d2 : W0.cell? ⟨w.heap.size + 1, 0, none⟩ = some (.slice A2 m2 c2) := by rw [hW0]; simp [go_sem]
  have d3 : W0.cell? ⟨w.heap.size + 1, 1, none⟩ = some (.slice D2 m2 cd2) := by rw [hW0]; simp [go_sem]
  have hB0 : Hid (Below w.heap.size w W0) := by rw [hW0]; exact bal (bal (b0 w) _) _
  rw [← hW0]
  clear hW0
  have HL : Hid (∀ W, Hid (Below W0.heap.size W0 W) → Calls Try.prog 155 #[.agg #[.slice A m c, .slice D m cd]] W fun e w' => ∃ L, e = .returned (.agg (L.map (Value.int .i64)).toArray) ∧ Hid (M.LftTo Ds P m L) ∧ Hid (Below W.heap.size W w')) := fun W hW =>
    leftContour A D P Ds m c cd W hm hP hD (Lib.hid ((h.out.be hB0.out).be hW.out)) (Lib.hid ((hd.out.be hB0.out).be hW.out)) bP bD
  have HR : Hid (∀ W, Hid (Below W0.heap.size W0 W) → Calls Try.prog 156 #[.agg #[.slice A2 m2 c2, .slice D2 m2 cd2]] W fun e w' => ∃ L, e = .returned (.agg (L.map (Value.int .i64)).toArray) ∧ Hid (M.RgtTo Ds2 P2 m2 L) ∧ Hid (Below W.heap.size W w')) := fun W hW =>
    rightContour A2 D2 P2 Ds2 m2 c2 cd2 W hm2 hP2 hD2 (Lib.hid ((h2.out.be hB0.out).be hW.out)) (Lib.hid ((hd2.out.be hB0.out).be hW.out)) bP2 bD2
  go_cut [5, 6] (fun s5 s6 wx => ∃ (g5 g6 : Nat) (L R : List Int), s5 = .pointer (some ⟨g5, 0, none⟩) ∧ s6 = .pointer (some ⟨g6, 0, none⟩) ∧ Hid (M.LftTo Ds P m L) ∧ Hid (M.RgtTo Ds2 P2 m2 R) ∧ Hid (wx.rangeAt g5 0 (L.map (Value.int .i64))) ∧ Hid (wx.rangeAt g6 0 (R.map (Value.int .i64))) ∧ Hid (Below w.heap.size w wx))
  case first =>
    have hB : Hid (Below W0.heap.size W0 W0.drew) := (Below.refl _ _).drew
    refine wp_region_held_drew (S := fun w' => Hid (Below W0.heap.size W0 w')) (by kernel_rfl) hB (fun hHeld0 => ?_)
    clear hHeld0
    generalize W0.drew = x0 at hB ⊢
    refine takeE 0 (some 9) (.agg #[.slice A m c, .slice D m cd]) rfl rfl (by kernel_rfl) (by kernel_rfl) (by kernel_rfl) (fun _ _ _ h => h) (by rfl) (by intro W hSw; have k1 := (Hid.out hSw).cell (p := ⟨w.heap.size, 0, none⟩) hs0 |>.trans d0; have k2 := (Hid.out hSw).cell (p := ⟨w.heap.size, 1, none⟩) hs0 |>.trans d1; go_simp) hB ?_
    try simp only [Act.put, List.setIfInBounds_toArray, List.set_cons_zero, List.set_cons_succ]
    refine takeE 2 (some 11) (.agg #[.slice A2 m2 c2, .slice D2 m2 cd2]) rfl rfl (by kernel_rfl) (by kernel_rfl) (by kernel_rfl) (fun _ _ _ h => h) (by rfl) (by intro W hSw; have k1 := (Hid.out hSw).cell (p := ⟨w.heap.size + 1, 0, none⟩) hs1 |>.trans d2; have k2 := (Hid.out hSw).cell (p := ⟨w.heap.size + 1, 1, none⟩) hs1 |>.trans d3; go_simp) hB ?_
    try simp only [Act.put, List.setIfInBounds_toArray, List.set_cons_zero, List.set_cons_succ]
    refine wpAnyH_ready (rs := [1, 4, 5]) (by kernel_rfl) (by simp) ?_
    refine AllReadyH.cons rfl (fun K hK => ?_) (AllReadyH.cons rfl (fun K hK => ?_) (AllReadyH.cons rfl (fun K hK => ?_) AllReadyH.nil))
    · go_simp
      go_at_call 155
      refine (HL.out _ hB).mono ?_
      rintro e x1 ⟨L1, rfl, t1, b1⟩
      go_wp2_with fail
      have B1 : Hid (Below W0.heap.size W0 x1) := btr hB.out b1.out
      refine hK.out _ _ B1 (fun _ => ?_)
      clear hK K
      try simp only [Act.put, List.setIfInBounds_toArray, List.set_cons_zero, List.set_cons_succ]
      refine wpAnyH_ready (rs := [3, 4, 5]) (by kernel_rfl) (by simp) ?_
      refine AllReadyH.cons rfl (fun K hK => ?_) (AllReadyH.cons rfl (fun K hK => ?_) (AllReadyH.cons rfl (fun K hK => ?_) AllReadyH.nil))
      · go_simp
        go_at_call 156
        refine (HR.out _ B1).mono ?_
        rintro e x2 ⟨R2, rfl, t2, b2⟩
        go_wp2_with fail
        have B2 : Hid (Below W0.heap.size W0 x2) := btr B1.out b2.out
        refine hK.out _ _ B2 (fun _ => ?_)
        clear hK K
        try simp only [Act.put, List.setIfInBounds_toArray, List.set_cons_zero, List.set_cons_succ]
        refine wpAnyH_ready (rs := [4, 5]) (by kernel_rfl) (by simp) ?_
        refine AllReadyH.cons rfl (fun K hK => ?_) (AllReadyH.cons rfl (fun K hK => ?_) AllReadyH.nil)
        · go_simp
          have B3 : Hid (Below W0.heap.size W0 (x2.alloc (.cells #[.int .i64 0, .int .i64 0, .int .i64 0, .int .i64 0, .int .i64 0, .int .i64 0, .int .i64 0, .int .i64 0, .int .i64 0, .int .i64 0, .int .i64 0, .int .i64 0, .int .i64 0, .int .i64 0, .int .i64 0, .int .i64 0, .int .i64 0, .int .i64 0, .int .i64 0, .int .i64 0, .int .i64 0, .int .i64 0, .int .i64 0, .int .i64 0] 168))) := bal B2.out _
          refine hK.out _ _ B3 (fun _ => ?_)
          clear hK K
          obtain ⟨g53, q3⟩ : ∃ g, x2.heap.size = g := ⟨_, rfl⟩
          have z3 : Hid ((x2.alloc (.cells #[.int .i64 0, .int .i64 0, .int .i64 0, .int .i64 0, .int .i64 0, .int .i64 0, .int .i64 0, .int .i64 0, .int .i64 0, .int .i64 0, .int .i64 0, .int .i64 0, .int .i64 0, .int .i64 0, .int .i64 0, .int .i64 0, .int .i64 0, .int .i64 0, .int .i64 0, .int .i64 0, .int .i64 0, .int .i64 0, .int .i64 0, .int .i64 0] 168)).heap[g53]? = some (.cells (List.replicate 24 (Value.int .i64 0)).toArray 168 (0, 0))) := by rw [← q3]; exact World.alloc_heap_new _ _
          have l3 : g53 < (x2.alloc (.cells #[.int .i64 0, .int .i64 0, .int .i64 0, .int .i64 0, .int .i64 0, .int .i64 0, .int .i64 0, .int .i64 0, .int .i64 0, .int .i64 0, .int .i64 0, .int .i64 0, .int .i64 0, .int .i64 0, .int .i64 0, .int .i64 0, .int .i64 0, .int .i64 0, .int .i64 0, .int .i64 0, .int .i64 0, .int .i64 0, .int .i64 0, .int .i64 0] 168)).heap.size := by rw [← q3]; simp
          have e3 : W0.heap.size ≤ g53 := by rw [← q3]; exact B2.out.size
          rw [q3]
          clear q3
          generalize (x2.alloc (.cells #[.int .i64 0, .int .i64 0, .int .i64 0, .int .i64 0, .int .i64 0, .int .i64 0, .int .i64 0, .int .i64 0, .int .i64 0, .int .i64 0, .int .i64 0, .int .i64 0, .int .i64 0, .int .i64 0, .int .i64 0, .int .i64 0, .int .i64 0, .int .i64 0, .int .i64 0, .int .i64 0, .int .i64 0, .int .i64 0, .int .i64 0, .int .i64 0] 168)) = x3 at *
          refine wpAnyH_ready (rs := [5]) (by kernel_rfl) (by simp) ?_
          refine AllReadyH.cons rfl (fun K hK => ?_) AllReadyH.nil
          · go_simp
            have B4 : Hid (Below W0.heap.size W0 (x3.alloc (.cells #[.int .i64 0, .int .i64 0, .int .i64 0, .int .i64 0, .int .i64 0, .int .i64 0, .int .i64 0, .int .i64 0, .int .i64 0, .int .i64 0, .int .i64 0, .int .i64 0, .int .i64 0, .int .i64 0, .int .i64 0, .int .i64 0, .int .i64 0, .int .i64 0, .int .i64 0, .int .i64 0, .int .i64 0, .int .i64 0, .int .i64 0, .int .i64 0] 168))) := bal B3.out _
            refine hK.out _ _ B4 (fun _ => ?_)
            clear hK K
            obtain ⟨g64, q4⟩ : ∃ g, x3.heap.size = g := ⟨_, rfl⟩
            have z4 : Hid ((x3.alloc (.cells #[.int .i64 0, .int .i64 0, .int .i64 0, .int .i64 0, .int .i64 0, .int .i64 0, .int .i64 0, .int .i64 0, .int .i64 0, .int .i64 0, .int .i64 0, .int .i64 0, .int .i64 0, .int .i64 0, .int .i64 0, .int .i64 0, .int .i64 0, .int .i64 0, .int .i64 0, .int .i64 0, .int .i64 0, .int .i64 0, .int .i64 0, .int .i64 0] 168)).heap[g64]? = some (.cells (List.replicate 24 (Value.int .i64 0)).toArray 168 (0, 0))) := by rw [← q4]; exact World.alloc_heap_new _ _
            have l4 : g64 < (x3.alloc (.cells #[.int .i64 0, .int .i64 0, .int .i64 0, .int .i64 0, .int .i64 0, .int .i64 0, .int .i64 0, .int .i64 0, .int .i64 0, .int .i64 0, .int .i64 0, .int .i64 0, .int .i64 0, .int .i64 0, .int .i64 0, .int .i64 0, .int .i64 0, .int .i64 0, .int .i64 0, .int .i64 0, .int .i64 0, .int .i64 0, .int .i64 0, .int .i64 0] 168)).heap.size := by rw [← q4]; simp
            have e4 : W0.heap.size ≤ g64 := by rw [← q4]; exact B3.out.size
            have zg54 : Hid ((x3.alloc (.cells #[.int .i64 0, .int .i64 0, .int .i64 0, .int .i64 0, .int .i64 0, .int .i64 0, .int .i64 0, .int .i64 0, .int .i64 0, .int .i64 0, .int .i64 0, .int .i64 0, .int .i64 0, .int .i64 0, .int .i64 0, .int .i64 0, .int .i64 0, .int .i64 0, .int .i64 0, .int .i64 0, .int .i64 0, .int .i64 0, .int .i64 0, .int .i64 0] 168)).heap[g53]? = some (.cells (List.replicate 24 (Value.int .i64 0)).toArray 168 (0, 0))) := (Below.heap_alloc _ _ _ l3).trans z3.out
            have lg54 : g53 < (x3.alloc (.cells #[.int .i64 0, .int .i64 0, .int .i64 0, .int .i64 0, .int .i64 0, .int .i64 0, .int .i64 0, .int .i64 0, .int .i64 0, .int .i64 0, .int .i64 0, .int .i64 0, .int .i64 0, .int .i64 0, .int .i64 0, .int .i64 0, .int .i64 0, .int .i64 0, .int .i64 0, .int .i64 0, .int .i64 0, .int .i64 0, .int .i64 0, .int .i64 0] 168)).heap.size := Nat.lt_trans (by rw [← q4]; exact l3) l4
            have ne4 : g53 ≠ g64 := by have := l3; omega
            rw [q4]
            clear q4
            generalize (x3.alloc (.cells #[.int .i64 0, .int .i64 0, .int .i64 0, .int .i64 0, .int .i64 0, .int .i64 0, .int .i64 0, .int .i64 0, .int .i64 0, .int .i64 0, .int .i64 0, .int .i64 0, .int .i64 0, .int .i64 0, .int .i64 0, .int .i64 0, .int .i64 0, .int .i64 0, .int .i64 0, .int .i64 0, .int .i64 0, .int .i64 0, .int .i64 0, .int .i64 0] 168)) = x4 at *
            obtain ⟨th1, th2, in1, in2, al1, al2, r1, r2, b1, b2⟩ := twoStores (W0 := W0) (B := W0.heap.size) t1.out.1 t2.out.1 zg54.out z4.out ne4 e3 e4 B4.out
            refine wpAnyH_ready (rs := [6]) (by kernel_rfl) (by simp) ?_
            refine AllReadyH.cons rfl (fun K hK => ?_) AllReadyH.nil
            rw [if_pos (by rfl)]
            refine wp_store_mid _ _ _ rfl g53 0 (L1.map (Value.int .i64)).toArray rfl rfl th1 in1 al1 ?_
            refine hK.out _ _ b1 (fun _ => ?_)
            clear hK K
            simp only [Act.put]
            refine wpAnyH_ready (rs := [7]) (by kernel_rfl) (by simp) ?_
            refine AllReadyH.cons rfl (fun K hK => ?_) AllReadyH.nil
            rw [if_pos (by rfl)]
            refine wp_store_mid _ _ _ rfl g64 0 (R2.map (Value.int .i64)).toArray rfl rfl th2 in2 al2 ?_
            refine hK.out _ _ b2 (fun _ => ?_)
            clear hK K
            simp only [Act.put]
            refine wpAnyH_done (by kernel_rfl) ?_ _
            go_wp2_with fail
            go_meet
            exact ⟨g53, g64, L1, R2, rfl, rfl, t1, t2, r1, r2, hB0.out.trans (b2.out.mono hB0.out.size)⟩
        · go_simp
          have B5 : Hid (Below W0.heap.size W0 (x2.alloc (.cells #[.int .i64 0, .int .i64 0, .int .i64 0, .int .i64 0, .int .i64 0, .int .i64 0, .int .i64 0, .int .i64 0, .int .i64 0, .int .i64 0, .int .i64 0, .int .i64 0, .int .i64 0, .int .i64 0, .int .i64 0, .int .i64 0, .int .i64 0, .int .i64 0, .int .i64 0, .int .i64 0, .int .i64 0, .int .i64 0, .int .i64 0, .int .i64 0] 168))) := bal B2.out _
          refine hK.out _ _ B5 (fun _ => ?_)
          clear hK K
          obtain ⟨g65, q5⟩ : ∃ g, x2.heap.size = g := ⟨_, rfl⟩
          have z5 : Hid ((x2.alloc (.cells #[.int .i64 0, .int .i64 0, .int .i64 0, .int .i64 0, .int .i64 0, .int .i64 0, .int .i64 0, .int .i64 0, .int .i64 0, .int .i64 0, .int .i64 0, .int .i64 0, .int .i64 0, .int .i64 0, .int .i64 0, .int .i64 0, .int .i64 0, .int .i64 0, .int .i64 0, .int .i64 0, .int .i64 0, .int .i64 0, .int .i64 0, .int .i64 0] 168)).heap[g65]? = some (.cells (List.replicate 24 (Value.int .i64 0)).toArray 168 (0, 0))) := by rw [← q5]; exact World.alloc_heap_new _ _
          have l5 : g65 < (x2.alloc (.cells #[.int .i64 0, .int .i64 0, .int .i64 0, .int .i64 0, .int .i64 0, .int .i64 0, .int .i64 0, .int .i64 0, .int .i64 0, .int .i64 0, .int .i64 0, .int .i64 0, .int .i64 0, .int .i64 0, .int .i64 0, .int .i64 0, .int .i64 0, .int .i64 0, .int .i64 0, .int .i64 0, .int .i64 0, .int .i64 0, .int .i64 0, .int .i64 0] 168)).heap.size := by rw [← q5]; simp
          have e5 : W0.heap.size ≤ g65 := by rw [← q5]; exact B2.out.size
          rw [q5]
          clear q5
          generalize (x2.alloc (.cells #[.int .i64 0, .int .i64 0, .int .i64 0, .int .i64 0, .int .i64 0, .int .i64 0, .int .i64 0, .int .i64 0, .int .i64 0, .int .i64 0, .int .i64 0, .int .i64 0, .int .i64 0, .int .i64 0, .int .i64 0, .int .i64 0, .int .i64 0, .int .i64 0, .int .i64 0, .int .i64 0, .int .i64 0, .int .i64 0, .int .i64 0, .int .i64 0] 168)) = x5 at *
          refine wpAnyH_ready (rs := [4]) (by kernel_rfl) (by simp) ?_
          refine AllReadyH.cons rfl (fun K hK => ?_) AllReadyH.nil
          · go_simp
            have B6 : Hid (Below W0.heap.size W0 (x5.alloc (.cells #[.int .i64 0, .int .i64 0, .int .i64 0, .int .i64 0, .int .i64 0, .int .i64 0, .int .i64 0, .int .i64 0, .int .i64 0, .int .i64 0, .int .i64 0, .int .i64 0, .int .i64 0, .int .i64 0, .int .i64 0, .int .i64 0, .int .i64 0, .int .i64 0, .int .i64 0, .int .i64 0, .int .i64 0, .int .i64 0, .int .i64 0, .int .i64 0] 168))) := bal B5.out _
            refine hK.out _ _ B6 (fun _ => ?_)
            clear hK K
            obtain ⟨g56, q6⟩ : ∃ g, x5.heap.size = g := ⟨_, rfl⟩
            have z6 : Hid ((x5.alloc (.cells #[.int .i64 0, .int .i64 0, .int .i64 0, .int .i64 0, .int .i64 0, .int .i64 0, .int .i64 0, .int .i64 0, .int .i64 0, .int .i64 0, .int .i64 0, .int .i64 0, .int .i64 0, .int .i64 0, .int .i64 0, .int .i64 0, .int .i64 0, .int .i64 0, .int .i64 0, .int .i64 0, .int .i64 0, .int .i64 0, .int .i64 0, .int .i64 0] 168)).heap[g56]? = some (.cells (List.replicate 24 (Value.int .i64 0)).toArray 168 (0, 0))) := by rw [← q6]; exact World.alloc_heap_new _ _
            have l6 : g56 < (x5.alloc (.cells #[.int .i64 0, .int .i64 0, .int .i64 0, .int .i64 0, .int .i64 0, .int .i64 0, .int .i64 0, .int .i64 0, .int .i64 0, .int .i64 0, .int .i64 0, .int .i64 0, .int .i64 0, .int .i64 0, .int .i64 0, .int .i64 0, .int .i64 0, .int .i64 0, .int .i64 0, .int .i64 0, .int .i64 0, .int .i64 0, .int .i64 0, .int .i64 0] 168)).heap.size := by rw [← q6]; simp
            have e6 : W0.heap.size ≤ g56 := by rw [← q6]; exact B5.out.size
            have zg66 : Hid ((x5.alloc (.cells #[.int .i64 0, .int .i64 0, .int .i64 0, .int .i64 0, .int .i64 0, .int .i64 0, .int .i64 0, .int .i64 0, .int .i64 0, .int .i64 0, .int .i64 0, .int .i64 0, .int .i64 0, .int .i64 0, .int .i64 0, .int .i64 0, .int .i64 0, .int .i64 0, .int .i64 0, .int .i64 0, .int .i64 0, .int .i64 0, .int .i64 0, .int .i64 0] 168)).heap[g65]? = some (.cells (List.replicate 24 (Value.int .i64 0)).toArray 168 (0, 0))) := (Below.heap_alloc _ _ _ l5).trans z5.out
            have lg66 : g65 < (x5.alloc (.cells #[.int .i64 0, .int .i64 0, .int .i64 0, .int .i64 0, .int .i64 0, .int .i64 0, .int .i64 0, .int .i64 0, .int .i64 0, .int .i64 0, .int .i64 0, .int .i64 0, .int .i64 0, .int .i64 0, .int .i64 0, .int .i64 0, .int .i64 0, .int .i64 0, .int .i64 0, .int .i64 0, .int .i64 0, .int .i64 0, .int .i64 0, .int .i64 0] 168)).heap.size := Nat.lt_trans (by rw [← q6]; exact l5) l6
            have ne6 : g65 ≠ g56 := by have := l5; omega
            rw [q6]
            clear q6
            generalize (x5.alloc (.cells #[.int .i64 0, .int .i64 0, .int .i64 0, .int .i64 0, .int .i64 0, .int .i64 0, .int .i64 0, .int .i64 0, .int .i64 0, .int .i64 0, .int .i64 0, .int .i64 0, .int .i64 0, .int .i64 0, .int .i64 0, .int .i64 0, .int .i64 0, .int .i64 0, .int .i64 0, .int .i64 0, .int .i64 0, .int .i64 0, .int .i64 0, .int .i64 0] 168)) = x6 at *
            obtain ⟨th1, th2, in1, in2, al1, al2, r1, r2, b1, b2⟩ := twoStores (W0 := W0) (B := W0.heap.size) t1.out.1 t2.out.1 z6.out zg66.out ne6.symm e6 e5 B6.out
            refine wpAnyH_ready (rs := [6]) (by kernel_rfl) (by simp) ?_
            refine AllReadyH.cons rfl (fun K hK => ?_) AllReadyH.nil
            rw [if_pos (by rfl)]
            refine wp_store_mid _ _ _ rfl g56 0 (L1.map (Value.int .i64)).toArray rfl rfl th1 in1 al1 ?_
            refine hK.out _ _ b1 (fun _ => ?_)
            clear hK K
            simp only [Act.put]
            refine wpAnyH_ready (rs := [7]) (by kernel_rfl) (by simp) ?_
            refine AllReadyH.cons rfl (fun K hK => ?_) AllReadyH.nil
            rw [if_pos (by rfl)]
            refine wp_store_mid _ _ _ rfl g65 0 (R2.map (Value.int .i64)).toArray rfl rfl th2 in2 al2 ?_
            refine hK.out _ _ b2 (fun _ => ?_)
            clear hK K
            simp only [Act.put]
            refine wpAnyH_done (by kernel_rfl) ?_ _
            go_wp2_with fail
            go_meet
            exact ⟨g56, g65, L1, R2, rfl, rfl, t1, t2, r1, r2, hB0.out.trans (b2.out.mono hB0.out.size)⟩
      · go_simp
        have B7 : Hid (Below W0.heap.size W0 (x1.alloc (.cells #[.int .i64 0, .int .i64 0, .int .i64 0, .int .i64 0, .int .i64 0, .int .i64 0, .int .i64 0, .int .i64 0, .int .i64 0, .int .i64 0, .int .i64 0, .int .i64 0, .int .i64 0, .int .i64 0, .int .i64 0, .int .i64 0, .int .i64 0, .int .i64 0, .int .i64 0, .int .i64 0, .int .i64 0, .int .i64 0, .int .i64 0, .int .i64 0] 168))) := bal B1.out _
        refine hK.out _ _ B7 (fun _ => ?_)
        clear hK K
        obtain ⟨g57, q7⟩ : ∃ g, x1.heap.size = g := ⟨_, rfl⟩
        have z7 : Hid ((x1.alloc (.cells #[.int .i64 0, .int .i64 0, .int .i64 0, .int .i64 0, .int .i64 0, .int .i64 0, .int .i64 0, .int .i64 0, .int .i64 0, .int .i64 0, .int .i64 0, .int .i64 0, .int .i64 0, .int .i64 0, .int .i64 0, .int .i64 0, .int .i64 0, .int .i64 0, .int .i64 0, .int .i64 0, .int .i64 0, .int .i64 0, .int .i64 0, .int .i64 0] 168)).heap[g57]? = some (.cells (List.replicate 24 (Value.int .i64 0)).toArray 168 (0, 0))) := by rw [← q7]; exact World.alloc_heap_new _ _
        have l7 : g57 < (x1.alloc (.cells #[.int .i64 0, .int .i64 0, .int .i64 0, .int .i64 0, .int .i64 0, .int .i64 0, .int .i64 0, .int .i64 0, .int .i64 0, .int .i64 0, .int .i64 0, .int .i64 0, .int .i64 0, .int .i64 0, .int .i64 0, .int .i64 0, .int .i64 0, .int .i64 0, .int .i64 0, .int .i64 0, .int .i64 0, .int .i64 0, .int .i64 0, .int .i64 0] 168)).heap.size := by rw [← q7]; simp
        have e7 : W0.heap.size ≤ g57 := by rw [← q7]; exact B1.out.size
        rw [q7]
        clear q7
        generalize (x1.alloc (.cells #[.int .i64 0, .int .i64 0, .int .i64 0, .int .i64 0, .int .i64 0, .int .i64 0, .int .i64 0, .int .i64 0, .int .i64 0, .int .i64 0, .int .i64 0, .int .i64 0, .int .i64 0, .int .i64 0, .int .i64 0, .int .i64 0, .int .i64 0, .int .i64 0, .int .i64 0, .int .i64 0, .int .i64 0, .int .i64 0, .int .i64 0, .int .i64 0] 168)) = x7 at *
        refine wpAnyH_ready (rs := [3, 5]) (by kernel_rfl) (by simp) ?_
        refine AllReadyH.cons rfl (fun K hK => ?_) (AllReadyH.cons rfl (fun K hK => ?_) AllReadyH.nil)
        · go_simp
          go_at_call 156
          refine (HR.out _ B7).mono ?_
          rintro e x8 ⟨R8, rfl, t8, b8⟩
          go_wp2_with fail
          have B8 : Hid (Below W0.heap.size W0 x8) := btr B7.out b8.out
          have zg58 : Hid (x8.heap[g57]? = some (.cells (List.replicate 24 (Value.int .i64 0)).toArray 168 (0, 0))) := (b8.out.block _ l7).trans z7.out
          have lg58 : g57 < x8.heap.size := Nat.lt_of_lt_of_le l7 b8.out.size
          refine hK.out _ _ B8 (fun _ => ?_)
          clear hK K
          try simp only [Act.put, List.setIfInBounds_toArray, List.set_cons_zero, List.set_cons_succ]
          refine wpAnyH_ready (rs := [5]) (by kernel_rfl) (by simp) ?_
          refine AllReadyH.cons rfl (fun K hK => ?_) AllReadyH.nil
          · go_simp
            have B9 : Hid (Below W0.heap.size W0 (x8.alloc (.cells #[.int .i64 0, .int .i64 0, .int .i64 0, .int .i64 0, .int .i64 0, .int .i64 0, .int .i64 0, .int .i64 0, .int .i64 0, .int .i64 0, .int .i64 0, .int .i64 0, .int .i64 0, .int .i64 0, .int .i64 0, .int .i64 0, .int .i64 0, .int .i64 0, .int .i64 0, .int .i64 0, .int .i64 0, .int .i64 0, .int .i64 0, .int .i64 0] 168))) := bal B8.out _
            refine hK.out _ _ B9 (fun _ => ?_)
            clear hK K
            obtain ⟨g69, q9⟩ : ∃ g, x8.heap.size = g := ⟨_, rfl⟩
            have z9 : Hid ((x8.alloc (.cells #[.int .i64 0, .int .i64 0, .int .i64 0, .int .i64 0, .int .i64 0, .int .i64 0, .int .i64 0, .int .i64 0, .int .i64 0, .int .i64 0, .int .i64 0, .int .i64 0, .int .i64 0, .int .i64 0, .int .i64 0, .int .i64 0, .int .i64 0, .int .i64 0, .int .i64 0, .int .i64 0, .int .i64 0, .int .i64 0, .int .i64 0, .int .i64 0] 168)).heap[g69]? = some (.cells (List.replicate 24 (Value.int .i64 0)).toArray 168 (0, 0))) := by rw [← q9]; exact World.alloc_heap_new _ _
            have l9 : g69 < (x8.alloc (.cells #[.int .i64 0, .int .i64 0, .int .i64 0, .int .i64 0, .int .i64 0, .int .i64 0, .int .i64 0, .int .i64 0, .int .i64 0, .int .i64 0, .int .i64 0, .int .i64 0, .int .i64 0, .int .i64 0, .int .i64 0, .int .i64 0, .int .i64 0, .int .i64 0, .int .i64 0, .int .i64 0, .int .i64 0, .int .i64 0, .int .i64 0, .int .i64 0] 168)).heap.size := by rw [← q9]; simp
            have e9 : W0.heap.size ≤ g69 := by rw [← q9]; exact B8.out.size
            have zg59 : Hid ((x8.alloc (.cells #[.int .i64 0, .int .i64 0, .int .i64 0, .int .i64 0, .int .i64 0, .int .i64 0, .int .i64 0, .int .i64 0, .int .i64 0, .int .i64 0, .int .i64 0, .int .i64 0, .int .i64 0, .int .i64 0, .int .i64 0, .int .i64 0, .int .i64 0, .int .i64 0, .int .i64 0, .int .i64 0, .int .i64 0, .int .i64 0, .int .i64 0, .int .i64 0] 168)).heap[g57]? = some (.cells (List.replicate 24 (Value.int .i64 0)).toArray 168 (0, 0))) := (Below.heap_alloc _ _ _ lg58).trans zg58.out
            have lg59 : g57 < (x8.alloc (.cells #[.int .i64 0, .int .i64 0, .int .i64 0, .int .i64 0, .int .i64 0, .int .i64 0, .int .i64 0, .int .i64 0, .int .i64 0, .int .i64 0, .int .i64 0, .int .i64 0, .int .i64 0, .int .i64 0, .int .i64 0, .int .i64 0, .int .i64 0, .int .i64 0, .int .i64 0, .int .i64 0, .int .i64 0, .int .i64 0, .int .i64 0, .int .i64 0] 168)).heap.size := Nat.lt_trans (by rw [← q9]; exact lg58) l9
            have ne9 : g57 ≠ g69 := by have := lg58; omega
            rw [q9]
            clear q9
            generalize (x8.alloc (.cells #[.int .i64 0, .int .i64 0, .int .i64 0, .int .i64 0, .int .i64 0, .int .i64 0, .int .i64 0, .int .i64 0, .int .i64 0, .int .i64 0, .int .i64 0, .int .i64 0, .int .i64 0, .int .i64 0, .int .i64 0, .int .i64 0, .int .i64 0, .int .i64 0, .int .i64 0, .int .i64 0, .int .i64 0, .int .i64 0, .int .i64 0, .int .i64 0] 168)) = x9 at *
            obtain ⟨th1, th2, in1, in2, al1, al2, r1, r2, b1, b2⟩ := twoStores (W0 := W0) (B := W0.heap.size) t1.out.1 t8.out.1 zg59.out z9.out ne9 e7 e9 B9.out
            refine wpAnyH_ready (rs := [6]) (by kernel_rfl) (by simp) ?_
            refine AllReadyH.cons rfl (fun K hK => ?_) AllReadyH.nil
            rw [if_pos (by rfl)]
            refine wp_store_mid _ _ _ rfl g57 0 (L1.map (Value.int .i64)).toArray rfl rfl th1 in1 al1 ?_
            refine hK.out _ _ b1 (fun _ => ?_)
            clear hK K
            simp only [Act.put]
            refine wpAnyH_ready (rs := [7]) (by kernel_rfl) (by simp) ?_
            refine AllReadyH.cons rfl (fun K hK => ?_) AllReadyH.nil
            rw [if_pos (by rfl)]
            refine wp_store_mid _ _ _ rfl g69 0 (R8.map (Value.int .i64)).toArray rfl rfl th2 in2 al2 ?_
            refine hK.out _ _ b2 (fun _ => ?_)
            clear hK K
            simp only [Act.put]
            refine wpAnyH_done (by kernel_rfl) ?_ _
            go_wp2_with fail
            go_meet
            exact ⟨g57, g69, L1, R8, rfl, rfl, t1, t8, r1, r2, hB0.out.trans (b2.out.mono hB0.out.size)⟩
        · go_simp
          have B10 : Hid (Below W0.heap.size W0 (x7.alloc (.cells #[.int .i64 0, .int .i64 0, .int .i64 0, .int .i64 0, .int .i64 0, .int .i64 0, .int .i64 0, .int .i64 0, .int .i64 0, .int .i64 0, .int .i64 0, .int .i64 0, .int .i64 0, .int .i64 0, .int .i64 0, .int .i64 0, .int .i64 0, .int .i64 0, .int .i64 0, .int .i64 0, .int .i64 0, .int .i64 0, .int .i64 0, .int .i64 0] 168))) := bal B7.out _
          refine hK.out _ _ B10 (fun _ => ?_)
          clear hK K
          obtain ⟨g610, q10⟩ : ∃ g, x7.heap.size = g := ⟨_, rfl⟩
          have z10 : Hid ((x7.alloc (.cells #[.int .i64 0, .int .i64 0, .int .i64 0, .int .i64 0, .int .i64 0, .int .i64 0, .int .i64 0, .int .i64 0, .int .i64 0, .int .i64 0, .int .i64 0, .int .i64 0, .int .i64 0, .int .i64 0, .int .i64 0, .int .i64 0, .int .i64 0, .int .i64 0, .int .i64 0, .int .i64 0, .int .i64 0, .int .i64 0, .int .i64 0, .int .i64 0] 168)).heap[g610]? = some (.cells (List.replicate 24 (Value.int .i64 0)).toArray 168 (0, 0))) := by rw [← q10]; exact World.alloc_heap_new _ _
          have l10 : g610 < (x7.alloc (.cells #[.int .i64 0, .int .i64 0, .int .i64 0, .int .i64 0, .int .i64 0, .int .i64 0, .int .i64 0, .int .i64 0, .int .i64 0, .int .i64 0, .int .i64 0, .int .i64 0, .int .i64 0, .int .i64 0, .int .i64 0, .int .i64 0, .int .i64 0, .int .i64 0, .int .i64 0, .int .i64 0, .int .i64 0, .int .i64 0, .int .i64 0, .int .i64 0] 168)).heap.size := by rw [← q10]; simp
          have e10 : W0.heap.size ≤ g610 := by rw [← q10]; exact B7.out.size
          have zg510 : Hid ((x7.alloc (.cells #[.int .i64 0, .int .i64 0, .int .i64 0, .int .i64 0, .int .i64 0, .int .i64 0, .int .i64 0, .int .i64 0, .int .i64 0, .int .i64 0, .int .i64 0, .int .i64 0, .int .i64 0, .int .i64 0, .int .i64 0, .int .i64 0, .int .i64 0, .int .i64 0, .int .i64 0, .int .i64 0, .int .i64 0, .int .i64 0, .int .i64 0, .int .i64 0] 168)).heap[g57]? = some (.cells (List.replicate 24 (Value.int .i64 0)).toArray 168 (0, 0))) := (Below.heap_alloc _ _ _ l7).trans z7.out
          have lg510 : g57 < (x7.alloc (.cells #[.int .i64 0, .int .i64 0, .int .i64 0, .int .i64 0, .int .i64 0, .int .i64 0, .int .i64 0, .int .i64 0, .int .i64 0, .int .i64 0, .int .i64 0, .int .i64 0, .int .i64 0, .int .i64 0, .int .i64 0, .int .i64 0, .int .i64 0, .int .i64 0, .int .i64 0, .int .i64 0, .int .i64 0, .int .i64 0, .int .i64 0, .int .i64 0] 168)).heap.size := Nat.lt_trans (by rw [← q10]; exact l7) l10
          have ne10 : g57 ≠ g610 := by have := l7; omega
          rw [q10]
          clear q10
          generalize (x7.alloc (.cells #[.int .i64 0, .int .i64 0, .int .i64 0, .int .i64 0, .int .i64 0, .int .i64 0, .int .i64 0, .int .i64 0, .int .i64 0, .int .i64 0, .int .i64 0, .int .i64 0, .int .i64 0, .int .i64 0, .int .i64 0, .int .i64 0, .int .i64 0, .int .i64 0, .int .i64 0, .int .i64 0, .int .i64 0, .int .i64 0, .int .i64 0, .int .i64 0] 168)) = x10 at *
          refine wpAnyH_ready (rs := [3]) (by kernel_rfl) (by simp) ?_
          refine AllReadyH.cons rfl (fun K hK => ?_) AllReadyH.nil
          · go_simp
            go_at_call 156
            refine (HR.out _ B10).mono ?_
            rintro e x11 ⟨R11, rfl, t11, b11⟩
            go_wp2_with fail
            have B11 : Hid (Below W0.heap.size W0 x11) := btr B10.out b11.out
            have zg511 : Hid (x11.heap[g57]? = some (.cells (List.replicate 24 (Value.int .i64 0)).toArray 168 (0, 0))) := (b11.out.block _ lg510).trans zg510.out
            have lg511 : g57 < x11.heap.size := Nat.lt_of_lt_of_le lg510 b11.out.size
            have zg611 : Hid (x11.heap[g610]? = some (.cells (List.replicate 24 (Value.int .i64 0)).toArray 168 (0, 0))) := (b11.out.block _ l10).trans z10.out
            have lg611 : g610 < x11.heap.size := Nat.lt_of_lt_of_le l10 b11.out.size
            refine hK.out _ _ B11 (fun _ => ?_)
            clear hK K
            try simp only [Act.put, List.setIfInBounds_toArray, List.set_cons_zero, List.set_cons_succ]
            obtain ⟨th1, th2, in1, in2, al1, al2, r1, r2, b1, b2⟩ := twoStores (W0 := W0) (B := W0.heap.size) t1.out.1 t11.out.1 zg511.out zg611.out ne10 e7 e10 B11.out
            refine wpAnyH_ready (rs := [6]) (by kernel_rfl) (by simp) ?_
            refine AllReadyH.cons rfl (fun K hK => ?_) AllReadyH.nil
            rw [if_pos (by rfl)]
            refine wp_store_mid _ _ _ rfl g57 0 (L1.map (Value.int .i64)).toArray rfl rfl th1 in1 al1 ?_
            refine hK.out _ _ b1 (fun _ => ?_)
            clear hK K
            simp only [Act.put]
            refine wpAnyH_ready (rs := [7]) (by kernel_rfl) (by simp) ?_
            refine AllReadyH.cons rfl (fun K hK => ?_) AllReadyH.nil
            rw [if_pos (by rfl)]
            refine wp_store_mid _ _ _ rfl g610 0 (R11.map (Value.int .i64)).toArray rfl rfl th2 in2 al2 ?_
            refine hK.out _ _ b2 (fun _ => ?_)
            clear hK K
            simp only [Act.put]
            refine wpAnyH_done (by kernel_rfl) ?_ _
            go_wp2_with fail
            go_meet
            exact ⟨g57, g610, L1, R11, rfl, rfl, t1, t11, r1, r2, hB0.out.trans (b2.out.mono hB0.out.size)⟩
      · go_simp
        have B12 : Hid (Below W0.heap.size W0 (x1.alloc (.cells #[.int .i64 0, .int .i64 0, .int .i64 0, .int .i64 0, .int .i64 0, .int .i64 0, .int .i64 0, .int .i64 0, .int .i64 0, .int .i64 0, .int .i64 0, .int .i64 0, .int .i64 0, .int .i64 0, .int .i64 0, .int .i64 0, .int .i64 0, .int .i64 0, .int .i64 0, .int .i64 0, .int .i64 0, .int .i64 0, .int .i64 0, .int .i64 0] 168))) := bal B1.out _
        refine hK.out _ _ B12 (fun _ => ?_)
        clear hK K
        obtain ⟨g612, q12⟩ : ∃ g, x1.heap.size = g := ⟨_, rfl⟩
        have z12 : Hid ((x1.alloc (.cells #[.int .i64 0, .int .i64 0, .int .i64 0, .int .i64 0, .int .i64 0, .int .i64 0, .int .i64 0, .int .i64 0, .int .i64 0, .int .i64 0, .int .i64 0, .int .i64 0, .int .i64 0, .int .i64 0, .int .i64 0, .int .i64 0, .int .i64 0, .int .i64 0, .int .i64 0, .int .i64 0, .int .i64 0, .int .i64 0, .int .i64 0, .int .i64 0] 168)).heap[g612]? = some (.cells (List.replicate 24 (Value.int .i64 0)).toArray 168 (0, 0))) := by rw [← q12]; exact World.alloc_heap_new _ _
        have l12 : g612 < (x1.alloc (.cells #[.int .i64 0, .int .i64 0, .int .i64 0, .int .i64 0, .int .i64 0, .int .i64 0, .int .i64 0, .int .i64 0, .int .i64 0, .int .i64 0, .int .i64 0, .int .i64 0, .int .i64 0, .int .i64 0, .int .i64 0, .int .i64 0, .int .i64 0, .int .i64 0, .int .i64 0, .int .i64 0, .int .i64 0, .int .i64 0, .int .i64 0, .int .i64 0] 168)).heap.size := by rw [← q12]; simp
        have e12 : W0.heap.size ≤ g612 := by rw [← q12]; exact B1.out.size
        rw [q12]
        clear q12
        generalize (x1.alloc (.cells #[.int .i64 0, .int .i64 0, .int .i64 0, .int .i64 0, .int .i64 0, .int .i64 0, .int .i64 0, .int .i64 0, .int .i64 0, .int .i64 0, .int .i64 0, .int .i64 0, .int .i64 0, .int .i64 0, .int .i64 0, .int .i64 0, .int .i64 0, .int .i64 0, .int .i64 0, .int .i64 0, .int .i64 0, .int .i64 0, .int .i64 0, .int .i64 0] 168)) = x12 at *
        refine wpAnyH_ready (rs := [3, 4]) (by kernel_rfl) (by simp) ?_
        refine AllReadyH.cons rfl (fun K hK => ?_) (AllReadyH.cons rfl (fun K hK => ?_) AllReadyH.nil)
        · go_simp
          go_at_call 156
          refine (HR.out _ B12).mono ?_
          rintro e x13 ⟨R13, rfl, t13, b13⟩
          go_wp2_with fail
          have B13 : Hid (Below W0.heap.size W0 x13) := btr B12.out b13.out
          have zg613 : Hid (x13.heap[g612]? = some (.cells (List.replicate 24 (Value.int .i64 0)).toArray 168 (0, 0))) := (b13.out.block _ l12).trans z12.out
          have lg613 : g612 < x13.heap.size := Nat.lt_of_lt_of_le l12 b13.out.size
          refine hK.out _ _ B13 (fun _ => ?_)
          clear hK K
          try simp only [Act.put, List.setIfInBounds_toArray, List.set_cons_zero, List.set_cons_succ]
          refine wpAnyH_ready (rs := [4]) (by kernel_rfl) (by simp) ?_
          refine AllReadyH.cons rfl (fun K hK => ?_) AllReadyH.nil
          · go_simp
            have B14 : Hid (Below W0.heap.size W0 (x13.alloc (.cells #[.int .i64 0, .int .i64 0, .int .i64 0, .int .i64 0, .int .i64 0, .int .i64 0, .int .i64 0, .int .i64 0, .int .i64 0, .int .i64 0, .int .i64 0, .int .i64 0, .int .i64 0, .int .i64 0, .int .i64 0, .int .i64 0, .int .i64 0, .int .i64 0, .int .i64 0, .int .i64 0, .int .i64 0, .int .i64 0, .int .i64 0, .int .i64 0] 168))) := bal B13.out _
            refine hK.out _ _ B14 (fun _ => ?_)
            clear hK K
            obtain ⟨g514, q14⟩ : ∃ g, x13.heap.size = g := ⟨_, rfl⟩
            have z14 : Hid ((x13.alloc (.cells #[.int .i64 0, .int .i64 0, .int .i64 0, .int .i64 0, .int .i64 0, .int .i64 0, .int .i64 0, .int .i64 0, .int .i64 0, .int .i64 0, .int .i64 0, .int .i64 0, .int .i64 0, .int .i64 0, .int .i64 0, .int .i64 0, .int .i64 0, .int .i64 0, .int .i64 0, .int .i64 0, .int .i64 0, .int .i64 0, .int .i64 0, .int .i64 0] 168)).heap[g514]? = some (.cells (List.replicate 24 (Value.int .i64 0)).toArray 168 (0, 0))) := by rw [← q14]; exact World.alloc_heap_new _ _
            have l14 : g514 < (x13.alloc (.cells #[.int .i64 0, .int .i64 0, .int .i64 0, .int .i64 0, .int .i64 0, .int .i64 0, .int .i64 0, .int .i64 0, .int .i64 0, .int .i64 0, .int .i64 0, .int .i64 0, .int .i64 0, .int .i64 0, .int .i64 0, .int .i64 0, .int .i64 0, .int .i64 0, .int .i64 0, .int .i64 0, .int .i64 0, .int .i64 0, .int .i64 0, .int .i64 0] 168)).heap.size := by rw [← q14]; simp
            have e14 : W0.heap.size ≤ g514 := by rw [← q14]; exact B13.out.size
            have zg614 : Hid ((x13.alloc (.cells #[.int .i64 0, .int .i64 0, .int .i64 0, .int .i64 0, .int .i64 0, .int .i64 0, .int .i64 0, .int .i64 0, .int .i64 0, .int .i64 0, .int .i64 0, .int .i64 0, .int .i64 0, .int .i64 0, .int .i64 0, .int .i64 0, .int .i64 0, .int .i64 0, .int .i64 0, .int .i64 0, .int .i64 0, .int .i64 0, .int .i64 0, .int .i64 0] 168)).heap[g612]? = some (.cells (List.replicate 24 (Value.int .i64 0)).toArray 168 (0, 0))) := (Below.heap_alloc _ _ _ lg613).trans zg613.out
            have lg614 : g612 < (x13.alloc (.cells #[.int .i64 0, .int .i64 0, .int .i64 0, .int .i64 0, .int .i64 0, .int .i64 0, .int .i64 0, .int .i64 0, .int .i64 0, .int .i64 0, .int .i64 0, .int .i64 0, .int .i64 0, .int .i64 0, .int .i64 0, .int .i64 0, .int .i64 0, .int .i64 0, .int .i64 0, .int .i64 0, .int .i64 0, .int .i64 0, .int .i64 0, .int .i64 0] 168)).heap.size := Nat.lt_trans (by rw [← q14]; exact lg613) l14
            have ne14 : g612 ≠ g514 := by have := lg613; omega
            rw [q14]
            clear q14
            generalize (x13.alloc (.cells #[.int .i64 0, .int .i64 0, .int .i64 0, .int .i64 0, .int .i64 0, .int .i64 0, .int .i64 0, .int .i64 0, .int .i64 0, .int .i64 0, .int .i64 0, .int .i64 0, .int .i64 0, .int .i64 0, .int .i64 0, .int .i64 0, .int .i64 0, .int .i64 0, .int .i64 0, .int .i64 0, .int .i64 0, .int .i64 0, .int .i64 0, .int .i64 0] 168)) = x14 at *
            obtain ⟨th1, th2, in1, in2, al1, al2, r1, r2, b1, b2⟩ := twoStores (W0 := W0) (B := W0.heap.size) t1.out.1 t13.out.1 z14.out zg614.out ne14.symm e14 e12 B14.out
            refine wpAnyH_ready (rs := [6]) (by kernel_rfl) (by simp) ?_
            refine AllReadyH.cons rfl (fun K hK => ?_) AllReadyH.nil
            rw [if_pos (by rfl)]
            refine wp_store_mid _ _ _ rfl g514 0 (L1.map (Value.int .i64)).toArray rfl rfl th1 in1 al1 ?_
            refine hK.out _ _ b1 (fun _ => ?_)
            clear hK K
            simp only [Act.put]
            refine wpAnyH_ready (rs := [7]) (by kernel_rfl) (by simp) ?_
            refine AllReadyH.cons rfl (fun K hK => ?_) AllReadyH.nil
            rw [if_pos (by rfl)]
            refine wp_store_mid _ _ _ rfl g612 0 (R13.map (Value.int .i64)).toArray rfl rfl th2 in2 al2 ?_
            refine hK.out _ _ b2 (fun _ => ?_)
            clear hK K
            simp only [Act.put]
            refine wpAnyH_done (by kernel_rfl) ?_ _
            go_wp2_with fail
            go_meet
            exact ⟨g514, g612, L1, R13, rfl, rfl, t1, t13, r1, r2, hB0.out.trans (b2.out.mono hB0.out.size)⟩
        · go_simp
          have B15 : Hid (Below W0.heap.size W0 (x12.alloc (.cells #[.int .i64 0, .int .i64 0, .int .i64 0, .int .i64 0, .int .i64 0, .int .i64 0, .int .i64 0, .int .i64 0, .int .i64 0, .int .i64 0, .int .i64 0, .int .i64 0, .int .i64 0, .int .i64 0, .int .i64 0, .int .i64 0, .int .i64 0, .int .i64 0, .int .i64 0, .int .i64 0, .int .i64 0, .int .i64 0, .int .i64 0, .int .i64 0] 168))) := bal B12.out _
          refine hK.out _ _ B15 (fun _ => ?_)
          clear hK K
          obtain ⟨g515, q15⟩ : ∃ g, x12.heap.size = g := ⟨_, rfl⟩
          have z15 : Hid ((x12.alloc (.cells #[.int .i64 0, .int .i64 0, .int .i64 0, .int .i64 0, .int .i64 0, .int .i64 0, .int .i64 0, .int .i64 0, .int .i64 0, .int .i64 0, .int .i64 0, .int .i64 0, .int .i64 0, .int .i64 0, .int .i64 0, .int .i64 0, .int .i64 0, .int .i64 0, .int .i64 0, .int .i64 0, .int .i64 0, .int .i64 0, .int .i64 0, .int .i64 0] 168)).heap[g515]? = some (.cells (List.replicate 24 (Value.int .i64 0)).toArray 168 (0, 0))) := by rw [← q15]; exact World.alloc_heap_new _ _
          have l15 : g515 < (x12.alloc (.cells #[.int .i64 0, .int .i64 0, .int .i64 0, .int .i64 0, .int .i64 0, .int .i64 0, .int .i64 0, .int .i64 0, .int .i64 0, .int .i64 0, .int .i64 0, .int .i64 0, .int .i64 0, .int .i64 0, .int .i64 0, .int .i64 0, .int .i64 0, .int .i64 0, .int .i64 0, .int .i64 0, .int .i64 0, .int .i64 0, .int .i64 0, .int .i64 0] 168)).heap.size := by rw [← q15]; simp
          have e15 : W0.heap.size ≤ g515 := by rw [← q15]; exact B12.out.size
          have zg615 : Hid ((x12.alloc (.cells #[.int .i64 0, .int .i64 0, .int .i64 0, .int .i64 0, .int .i64 0, .int .i64 0, .int .i64 0, .int .i64 0, .int .i64 0, .int .i64 0, .int .i64 0, .int .i64 0, .int .i64 0, .int .i64 0, .int .i64 0, .int .i64 0, .int .i64 0, .int .i64 0, .int .i64 0, .int .i64 0, .int .i64 0, .int .i64 0, .int .i64 0, .int .i64 0] 168)).heap[g612]? = some (.cells (List.replicate 24 (Value.int .i64 0)).toArray 168 (0, 0))) := (Below.heap_alloc _ _ _ l12).trans z12.out
          have lg615 : g612 < (x12.alloc (.cells #[.int .i64 0, .int .i64 0, .int .i64 0, .int .i64 0, .int .i64 0, .int .i64 0, .int .i64 0, .int .i64 0, .int .i64 0, .int .i64 0, .int .i64 0, .int .i64 0, .int .i64 0, .int .i64 0, .int .i64 0, .int .i64 0, .int .i64 0, .int .i64 0, .int .i64 0, .int .i64 0, .int .i64 0, .int .i64 0, .int .i64 0, .int .i64 0] 168)).heap.size := Nat.lt_trans (by rw [← q15]; exact l12) l15
          have ne15 : g612 ≠ g515 := by have := l12; omega
          rw [q15]
          clear q15
          generalize (x12.alloc (.cells #[.int .i64 0, .int .i64 0, .int .i64 0, .int .i64 0, .int .i64 0, .int .i64 0, .int .i64 0, .int .i64 0, .int .i64 0, .int .i64 0, .int .i64 0, .int .i64 0, .int .i64 0, .int .i64 0, .int .i64 0, .int .i64 0, .int .i64 0, .int .i64 0, .int .i64 0, .int .i64 0, .int .i64 0, .int .i64 0, .int .i64 0, .int .i64 0] 168)) = x15 at *
          refine wpAnyH_ready (rs := [3]) (by kernel_rfl) (by simp) ?_
          refine AllReadyH.cons rfl (fun K hK => ?_) AllReadyH.nil
          · go_simp
            go_at_call 156
            refine (HR.out _ B15).mono ?_
            rintro e x16 ⟨R16, rfl, t16, b16⟩
            go_wp2_with fail
            have B16 : Hid (Below W0.heap.size W0 x16) := btr B15.out b16.out
            have zg516 : Hid (x16.heap[g515]? = some (.cells (List.replicate 24 (Value.int .i64 0)).toArray 168 (0, 0))) := (b16.out.block _ l15).trans z15.out
            have lg516 : g515 < x16.heap.size := Nat.lt_of_lt_of_le l15 b16.out.size
            have zg616 : Hid (x16.heap[g612]? = some (.cells (List.replicate 24 (Value.int .i64 0)).toArray 168 (0, 0))) := (b16.out.block _ lg615).trans zg615.out
            have lg616 : g612 < x16.heap.size := Nat.lt_of_lt_of_le lg615 b16.out.size
            refine hK.out _ _ B16 (fun _ => ?_)
            clear hK K
            try simp only [Act.put, List.setIfInBounds_toArray, List.set_cons_zero, List.set_cons_succ]
            obtain ⟨th1, th2, in1, in2, al1, al2, r1, r2, b1, b2⟩ := twoStores (W0 := W0) (B := W0.heap.size) t1.out.1 t16.out.1 zg516.out zg616.out ne15.symm e15 e12 B16.out
            refine wpAnyH_ready (rs := [6]) (by kernel_rfl) (by simp) ?_
            refine AllReadyH.cons rfl (fun K hK => ?_) AllReadyH.nil
            rw [if_pos (by rfl)]
            refine wp_store_mid _ _ _ rfl g515 0 (L1.map (Value.int .i64)).toArray rfl rfl th1 in1 al1 ?_
            refine hK.out _ _ b1 (fun _ => ?_)
            clear hK K
            simp only [Act.put]
            refine wpAnyH_ready (rs := [7]) (by kernel_rfl) (by simp) ?_
            refine AllReadyH.cons rfl (fun K hK => ?_) AllReadyH.nil
            rw [if_pos (by rfl)]
            refine wp_store_mid _ _ _ rfl g612 0 (R16.map (Value.int .i64)).toArray rfl rfl th2 in2 al2 ?_
            refine hK.out _ _ b2 (fun _ => ?_)
            clear hK K
            simp only [Act.put]
            refine wpAnyH_done (by kernel_rfl) ?_ _
            go_wp2_with fail
            go_meet
            exact ⟨g515, g612, L1, R16, rfl, rfl, t1, t16, r1, r2, hB0.out.trans (b2.out.mono hB0.out.size)⟩
    · go_simp
      have B17 : Hid (Below W0.heap.size W0 (x0.alloc (.cells #[.int .i64 0, .int .i64 0, .int .i64 0, .int .i64 0, .int .i64 0, .int .i64 0, .int .i64 0, .int .i64 0, .int .i64 0, .int .i64 0, .int .i64 0, .int .i64 0, .int .i64 0, .int .i64 0, .int .i64 0, .int .i64 0, .int .i64 0, .int .i64 0, .int .i64 0, .int .i64 0, .int .i64 0, .int .i64 0, .int .i64 0, .int .i64 0] 168))) := bal hB.out _
      refine hK.out _ _ B17 (fun _ => ?_)
      clear hK K
      obtain ⟨g517, q17⟩ : ∃ g, x0.heap.size = g := ⟨_, rfl⟩
      have z17 : Hid ((x0.alloc (.cells #[.int .i64 0, .int .i64 0, .int .i64 0, .int .i64 0, .int .i64 0, .int .i64 0, .int .i64 0, .int .i64 0, .int .i64 0, .int .i64 0, .int .i64 0, .int .i64 0, .int .i64 0, .int .i64 0, .int .i64 0, .int .i64 0, .int .i64 0, .int .i64 0, .int .i64 0, .int .i64 0, .int .i64 0, .int .i64 0, .int .i64 0, .int .i64 0] 168)).heap[g517]? = some (.cells (List.replicate 24 (Value.int .i64 0)).toArray 168 (0, 0))) := by rw [← q17]; exact World.alloc_heap_new _ _
      have l17 : g517 < (x0.alloc (.cells #[.int .i64 0, .int .i64 0, .int .i64 0, .int .i64 0, .int .i64 0, .int .i64 0, .int .i64 0, .int .i64 0, .int .i64 0, .int .i64 0, .int .i64 0, .int .i64 0, .int .i64 0, .int .i64 0, .int .i64 0, .int .i64 0, .int .i64 0, .int .i64 0, .int .i64 0, .int .i64 0, .int .i64 0, .int .i64 0, .int .i64 0, .int .i64 0] 168)).heap.size := by rw [← q17]; simp
      have e17 : W0.heap.size ≤ g517 := by rw [← q17]; exact hB.out.size
      rw [q17]
      clear q17
      generalize (x0.alloc (.cells #[.int .i64 0, .int .i64 0, .int .i64 0, .int .i64 0, .int .i64 0, .int .i64 0, .int .i64 0, .int .i64 0, .int .i64 0, .int .i64 0, .int .i64 0, .int .i64 0, .int .i64 0, .int .i64 0, .int .i64 0, .int .i64 0, .int .i64 0, .int .i64 0, .int .i64 0, .int .i64 0, .int .i64 0, .int .i64 0, .int .i64 0, .int .i64 0] 168)) = x17 at *
      refine wpAnyH_ready (rs := [1, 5]) (by kernel_rfl) (by simp) ?_
      refine AllReadyH.cons rfl (fun K hK => ?_) (AllReadyH.cons rfl (fun K hK => ?_) AllReadyH.nil)
      · go_simp
        go_at_call 155
        refine (HL.out _ B17).mono ?_
        rintro e x18 ⟨L18, rfl, t18, b18⟩
        go_wp2_with fail
        have B18 : Hid (Below W0.heap.size W0 x18) := btr B17.out b18.out
        have zg518 : Hid (x18.heap[g517]? = some (.cells (List.replicate 24 (Value.int .i64 0)).toArray 168 (0, 0))) := (b18.out.block _ l17).trans z17.out
        have lg518 : g517 < x18.heap.size := Nat.lt_of_lt_of_le l17 b18.out.size
        refine hK.out _ _ B18 (fun _ => ?_)
        clear hK K
        try simp only [Act.put, List.setIfInBounds_toArray, List.set_cons_zero, List.set_cons_succ]
        refine wpAnyH_ready (rs := [3, 5]) (by kernel_rfl) (by simp) ?_
        refine AllReadyH.cons rfl (fun K hK => ?_) (AllReadyH.cons rfl (fun K hK => ?_) AllReadyH.nil)
        · go_simp
          go_at_call 156
          refine (HR.out _ B18).mono ?_
          rintro e x19 ⟨R19, rfl, t19, b19⟩
          go_wp2_with fail
          have B19 : Hid (Below W0.heap.size W0 x19) := btr B18.out b19.out
          have zg519 : Hid (x19.heap[g517]? = some (.cells (List.replicate 24 (Value.int .i64 0)).toArray 168 (0, 0))) := (b19.out.block _ lg518).trans zg518.out
          have lg519 : g517 < x19.heap.size := Nat.lt_of_lt_of_le lg518 b19.out.size
          refine hK.out _ _ B19 (fun _ => ?_)
          clear hK K
          try simp only [Act.put, List.setIfInBounds_toArray, List.set_cons_zero, List.set_cons_succ]
          refine wpAnyH_ready (rs := [5]) (by kernel_rfl) (by simp) ?_
          refine AllReadyH.cons rfl (fun K hK => ?_) AllReadyH.nil
          · go_simp
            have B20 : Hid (Below W0.heap.size W0 (x19.alloc (.cells #[.int .i64 0, .int .i64 0, .int .i64 0, .int .i64 0, .int .i64 0, .int .i64 0, .int .i64 0, .int .i64 0, .int .i64 0, .int .i64 0, .int .i64 0, .int .i64 0, .int .i64 0, .int .i64 0, .int .i64 0, .int .i64 0, .int .i64 0, .int .i64 0, .int .i64 0, .int .i64 0, .int .i64 0, .int .i64 0, .int .i64 0, .int .i64 0] 168))) := bal B19.out _
            refine hK.out _ _ B20 (fun _ => ?_)
            clear hK K
            obtain ⟨g620, q20⟩ : ∃ g, x19.heap.size = g := ⟨_, rfl⟩
            have z20 : Hid ((x19.alloc (.cells #[.int .i64 0, .int .i64 0, .int .i64 0, .int .i64 0, .int .i64 0, .int .i64 0, .int .i64 0, .int .i64 0, .int .i64 0, .int .i64 0, .int .i64 0, .int .i64 0, .int .i64 0, .int .i64 0, .int .i64 0, .int .i64 0, .int .i64 0, .int .i64 0, .int .i64 0, .int .i64 0, .int .i64 0, .int .i64 0, .int .i64 0, .int .i64 0] 168)).heap[g620]? = some (.cells (List.replicate 24 (Value.int .i64 0)).toArray 168 (0, 0))) := by rw [← q20]; exact World.alloc_heap_new _ _
            have l20 : g620 < (x19.alloc (.cells #[.int .i64 0, .int .i64 0, .int .i64 0, .int .i64 0, .int .i64 0, .int .i64 0, .int .i64 0, .int .i64 0, .int .i64 0, .int .i64 0, .int .i64 0, .int .i64 0, .int .i64 0, .int .i64 0, .int .i64 0, .int .i64 0, .int .i64 0, .int .i64 0, .int .i64 0, .int .i64 0, .int .i64 0, .int .i64 0, .int .i64 0, .int .i64 0] 168)).heap.size := by rw [← q20]; simp
            have e20 : W0.heap.size ≤ g620 := by rw [← q20]; exact B19.out.size
            have zg520 : Hid ((x19.alloc (.cells #[.int .i64 0, .int .i64 0, .int .i64 0, .int .i64 0, .int .i64 0, .int .i64 0, .int .i64 0, .int .i64 0, .int .i64 0, .int .i64 0, .int .i64 0, .int .i64 0, .int .i64 0, .int .i64 0, .int .i64 0, .int .i64 0, .int .i64 0, .int .i64 0, .int .i64 0, .int .i64 0, .int .i64 0, .int .i64 0, .int .i64 0, .int .i64 0] 168)).heap[g517]? = some (.cells (List.replicate 24 (Value.int .i64 0)).toArray 168 (0, 0))) := (Below.heap_alloc _ _ _ lg519).trans zg519.out
            have lg520 : g517 < (x19.alloc (.cells #[.int .i64 0, .int .i64 0, .int .i64 0, .int .i64 0, .int .i64 0, .int .i64 0, .int .i64 0, .int .i64 0, .int .i64 0, .int .i64 0, .int .i64 0, .int .i64 0, .int .i64 0, .int .i64 0, .int .i64 0, .int .i64 0, .int .i64 0, .int .i64 0, .int .i64 0, .int .i64 0, .int .i64 0, .int .i64 0, .int .i64 0, .int .i64 0] 168)).heap.size := Nat.lt_trans (by rw [← q20]; exact lg519) l20
            have ne20 : g517 ≠ g620 := by have := lg519; omega
            rw [q20]
            clear q20
            generalize (x19.alloc (.cells #[.int .i64 0, .int .i64 0, .int .i64 0, .int .i64 0, .int .i64 0, .int .i64 0, .int .i64 0, .int .i64 0, .int .i64 0, .int .i64 0, .int .i64 0, .int .i64 0, .int .i64 0, .int .i64 0, .int .i64 0, .int .i64 0, .int .i64 0, .int .i64 0, .int .i64 0, .int .i64 0, .int .i64 0, .int .i64 0, .int .i64 0, .int .i64 0] 168)) = x20 at *
            obtain ⟨th1, th2, in1, in2, al1, al2, r1, r2, b1, b2⟩ := twoStores (W0 := W0) (B := W0.heap.size) t18.out.1 t19.out.1 zg520.out z20.out ne20 e17 e20 B20.out
            refine wpAnyH_ready (rs := [6]) (by kernel_rfl) (by simp) ?_
            refine AllReadyH.cons rfl (fun K hK => ?_) AllReadyH.nil
            rw [if_pos (by rfl)]
            refine wp_store_mid _ _ _ rfl g517 0 (L18.map (Value.int .i64)).toArray rfl rfl th1 in1 al1 ?_
            refine hK.out _ _ b1 (fun _ => ?_)
            clear hK K
            simp only [Act.put]
            refine wpAnyH_ready (rs := [7]) (by kernel_rfl) (by simp) ?_
            refine AllReadyH.cons rfl (fun K hK => ?_) AllReadyH.nil
            rw [if_pos (by rfl)]
            refine wp_store_mid _ _ _ rfl g620 0 (R19.map (Value.int .i64)).toArray rfl rfl th2 in2 al2 ?_
            refine hK.out _ _ b2 (fun _ => ?_)
            clear hK K
            simp only [Act.put]
            refine wpAnyH_done (by kernel_rfl) ?_ _
            go_wp2_with fail
            go_meet
            exact ⟨g517, g620, L18, R19, rfl, rfl, t18, t19, r1, r2, hB0.out.trans (b2.out.mono hB0.out.size)⟩
        · go_simp
          have B21 : Hid (Below W0.heap.size W0 (x18.alloc (.cells #[.int .i64 0, .int .i64 0, .int .i64 0, .int .i64 0, .int .i64 0, .int .i64 0, .int .i64 0, .int .i64 0, .int .i64 0, .int .i64 0, .int .i64 0, .int .i64 0, .int .i64 0, .int .i64 0, .int .i64 0, .int .i64 0, .int .i64 0, .int .i64 0, .int .i64 0, .int .i64 0, .int .i64 0, .int .i64 0, .int .i64 0, .int .i64 0] 168))) := bal B18.out _
          refine hK.out _ _ B21 (fun _ => ?_)
          clear hK K
          obtain ⟨g621, q21⟩ : ∃ g, x18.heap.size = g := ⟨_, rfl⟩
          have z21 : Hid ((x18.alloc (.cells #[.int .i64 0, .int .i64 0, .int .i64 0, .int .i64 0, .int .i64 0, .int .i64 0, .int .i64 0, .int .i64 0, .int .i64 0, .int .i64 0, .int .i64 0, .int .i64 0, .int .i64 0, .int .i64 0, .int .i64 0, .int .i64 0, .int .i64 0, .int .i64 0, .int .i64 0, .int .i64 0, .int .i64 0, .int .i64 0, .int .i64 0, .int .i64 0] 168)).heap[g621]? = some (.cells (List.replicate 24 (Value.int .i64 0)).toArray 168 (0, 0))) := by rw [← q21]; exact World.alloc_heap_new _ _
          have l21 : g621 < (x18.alloc (.cells #[.int .i64 0, .int .i64 0, .int .i64 0, .int .i64 0, .int .i64 0, .int .i64 0, .int .i64 0, .int .i64 0, .int .i64 0, .int .i64 0, .int .i64 0, .int .i64 0, .int .i64 0, .int .i64 0, .int .i64 0, .int .i64 0, .int .i64 0, .int .i64 0, .int .i64 0, .int .i64 0, .int .i64 0, .int .i64 0, .int .i64 0, .int .i64 0] 168)).heap.size := by rw [← q21]; simp
          have e21 : W0.heap.size ≤ g621 := by rw [← q21]; exact B18.out.size
          have zg521 : Hid ((x18.alloc (.cells #[.int .i64 0, .int .i64 0, .int .i64 0, .int .i64 0, .int .i64 0, .int .i64 0, .int .i64 0, .int .i64 0, .int .i64 0, .int .i64 0, .int .i64 0, .int .i64 0, .int .i64 0, .int .i64 0, .int .i64 0, .int .i64 0, .int .i64 0, .int .i64 0, .int .i64 0, .int .i64 0, .int .i64 0, .int .i64 0, .int .i64 0, .int .i64 0] 168)).heap[g517]? = some (.cells (List.replicate 24 (Value.int .i64 0)).toArray 168 (0, 0))) := (Below.heap_alloc _ _ _ lg518).trans zg518.out
          have lg521 : g517 < (x18.alloc (.cells #[.int .i64 0, .int .i64 0, .int .i64 0, .int .i64 0, .int .i64 0, .int .i64 0, .int .i64 0, .int .i64 0, .int .i64 0, .int .i64 0, .int .i64 0, .int .i64 0, .int .i64 0, .int .i64 0, .int .i64 0, .int .i64 0, .int .i64 0, .int .i64 0, .int .i64 0, .int .i64 0, .int .i64 0, .int .i64 0, .int .i64 0, .int .i64 0] 168)).heap.size := Nat.lt_trans (by rw [← q21]; exact lg518) l21
          have ne21 : g517 ≠ g621 := by have := lg518; omega
          rw [q21]
          clear q21
          generalize (x18.alloc (.cells #[.int .i64 0, .int .i64 0, .int .i64 0, .int .i64 0, .int .i64 0, .int .i64 0, .int .i64 0, .int .i64 0, .int .i64 0, .int .i64 0, .int .i64 0, .int .i64 0, .int .i64 0, .int .i64 0, .int .i64 0, .int .i64 0, .int .i64 0, .int .i64 0, .int .i64 0, .int .i64 0, .int .i64 0, .int .i64 0, .int .i64 0, .int .i64 0] 168)) = x21 at *
          refine wpAnyH_ready (rs := [3]) (by kernel_rfl) (by simp) ?_
          refine AllReadyH.cons rfl (fun K hK => ?_) AllReadyH.nil
          · go_simp
            go_at_call 156
            refine (HR.out _ B21).mono ?_
            rintro e x22 ⟨R22, rfl, t22, b22⟩
            go_wp2_with fail
            have B22 : Hid (Below W0.heap.size W0 x22) := btr B21.out b22.out
            have zg522 : Hid (x22.heap[g517]? = some (.cells (List.replicate 24 (Value.int .i64 0)).toArray 168 (0, 0))) := (b22.out.block _ lg521).trans zg521.out
            have lg522 : g517 < x22.heap.size := Nat.lt_of_lt_of_le lg521 b22.out.size
            have zg622 : Hid (x22.heap[g621]? = some (.cells (List.replicate 24 (Value.int .i64 0)).toArray 168 (0, 0))) := (b22.out.block _ l21).trans z21.out
            have lg622 : g621 < x22.heap.size := Nat.lt_of_lt_of_le l21 b22.out.size
            refine hK.out _ _ B22 (fun _ => ?_)
            clear hK K
            try simp only [Act.put, List.setIfInBounds_toArray, List.set_cons_zero, List.set_cons_succ]
            obtain ⟨th1, th2, in1, in2, al1, al2, r1, r2, b1, b2⟩ := twoStores (W0 := W0) (B := W0.heap.size) t18.out.1 t22.out.1 zg522.out zg622.out ne21 e17 e21 B22.out
            refine wpAnyH_ready (rs := [6]) (by kernel_rfl) (by simp) ?_
            refine AllReadyH.cons rfl (fun K hK => ?_) AllReadyH.nil
            rw [if_pos (by rfl)]
            refine wp_store_mid _ _ _ rfl g517 0 (L18.map (Value.int .i64)).toArray rfl rfl th1 in1 al1 ?_
            refine hK.out _ _ b1 (fun _ => ?_)
            clear hK K
            simp only [Act.put]
            refine wpAnyH_ready (rs := [7]) (by kernel_rfl) (by simp) ?_
            refine AllReadyH.cons rfl (fun K hK => ?_) AllReadyH.nil
            rw [if_pos (by rfl)]
            refine wp_store_mid _ _ _ rfl g621 0 (R22.map (Value.int .i64)).toArray rfl rfl th2 in2 al2 ?_
            refine hK.out _ _ b2 (fun _ => ?_)
            clear hK K
            simp only [Act.put]
            refine wpAnyH_done (by kernel_rfl) ?_ _
            go_wp2_with fail
            go_meet
            exact ⟨g517, g621, L18, R22, rfl, rfl, t18, t22, r1, r2, hB0.out.trans (b2.out.mono hB0.out.size)⟩
      · go_simp
        have B23 : Hid (Below W0.heap.size W0 (x17.alloc (.cells #[.int .i64 0, .int .i64 0, .int .i64 0, .int .i64 0, .int .i64 0, .int .i64 0, .int .i64 0, .int .i64 0, .int .i64 0, .int .i64 0, .int .i64 0, .int .i64 0, .int .i64 0, .int .i64 0, .int .i64 0, .int .i64 0, .int .i64 0, .int .i64 0, .int .i64 0, .int .i64 0, .int .i64 0, .int .i64 0, .int .i64 0, .int .i64 0] 168))) := bal B17.out _
        refine hK.out _ _ B23 (fun _ => ?_)
        clear hK K
        obtain ⟨g623, q23⟩ : ∃ g, x17.heap.size = g := ⟨_, rfl⟩
        have z23 : Hid ((x17.alloc (.cells #[.int .i64 0, .int .i64 0, .int .i64 0, .int .i64 0, .int .i64 0, .int .i64 0, .int .i64 0, .int .i64 0, .int .i64 0, .int .i64 0, .int .i64 0, .int .i64 0, .int .i64 0, .int .i64 0, .int .i64 0, .int .i64 0, .int .i64 0, .int .i64 0, .int .i64 0, .int .i64 0, .int .i64 0, .int .i64 0, .int .i64 0, .int .i64 0] 168)).heap[g623]? = some (.cells (List.replicate 24 (Value.int .i64 0)).toArray 168 (0, 0))) := by rw [← q23]; exact World.alloc_heap_new _ _
        have l23 : g623 < (x17.alloc (.cells #[.int .i64 0, .int .i64 0, .int .i64 0, .int .i64 0, .int .i64 0, .int .i64 0, .int .i64 0, .int .i64 0, .int .i64 0, .int .i64 0, .int .i64 0, .int .i64 0, .int .i64 0, .int .i64 0, .int .i64 0, .int .i64 0, .int .i64 0, .int .i64 0, .int .i64 0, .int .i64 0, .int .i64 0, .int .i64 0, .int .i64 0, .int .i64 0] 168)).heap.size := by rw [← q23]; simp
        have e23 : W0.heap.size ≤ g623 := by rw [← q23]; exact B17.out.size
        have zg523 : Hid ((x17.alloc (.cells #[.int .i64 0, .int .i64 0, .int .i64 0, .int .i64 0, .int .i64 0, .int .i64 0, .int .i64 0, .int .i64 0, .int .i64 0, .int .i64 0, .int .i64 0, .int .i64 0, .int .i64 0, .int .i64 0, .int .i64 0, .int .i64 0, .int .i64 0, .int .i64 0, .int .i64 0, .int .i64 0, .int .i64 0, .int .i64 0, .int .i64 0, .int .i64 0] 168)).heap[g517]? = some (.cells (List.replicate 24 (Value.int .i64 0)).toArray 168 (0, 0))) := (Below.heap_alloc _ _ _ l17).trans z17.out
        have lg523 : g517 < (x17.alloc (.cells #[.int .i64 0, .int .i64 0, .int .i64 0, .int .i64 0, .int .i64 0, .int .i64 0, .int .i64 0, .int .i64 0, .int .i64 0, .int .i64 0, .int .i64 0, .int .i64 0, .int .i64 0, .int .i64 0, .int .i64 0, .int .i64 0, .int .i64 0, .int .i64 0, .int .i64 0, .int .i64 0, .int .i64 0, .int .i64 0, .int .i64 0, .int .i64 0] 168)).heap.size := Nat.lt_trans (by rw [← q23]; exact l17) l23
        have ne23 : g517 ≠ g623 := by have := l17; omega
        rw [q23]
        clear q23
        generalize (x17.alloc (.cells #[.int .i64 0, .int .i64 0, .int .i64 0, .int .i64 0, .int .i64 0, .int .i64 0, .int .i64 0, .int .i64 0, .int .i64 0, .int .i64 0, .int .i64 0, .int .i64 0, .int .i64 0, .int .i64 0, .int .i64 0, .int .i64 0, .int .i64 0, .int .i64 0, .int .i64 0, .int .i64 0, .int .i64 0, .int .i64 0, .int .i64 0, .int .i64 0] 168)) = x23 at *
        refine wpAnyH_ready (rs := [1]) (by kernel_rfl) (by simp) ?_
        refine AllReadyH.cons rfl (fun K hK => ?_) AllReadyH.nil
        · go_simp
          go_at_call 155
          refine (HL.out _ B23).mono ?_
          rintro e x24 ⟨L24, rfl, t24, b24⟩
          go_wp2_with fail
          have B24 : Hid (Below W0.heap.size W0 x24) := btr B23.out b24.out
          have zg524 : Hid (x24.heap[g517]? = some (.cells (List.replicate 24 (Value.int .i64 0)).toArray 168 (0, 0))) := (b24.out.block _ lg523).trans zg523.out
          have lg524 : g517 < x24.heap.size := Nat.lt_of_lt_of_le lg523 b24.out.size
          have zg624 : Hid (x24.heap[g623]? = some (.cells (List.replicate 24 (Value.int .i64 0)).toArray 168 (0, 0))) := (b24.out.block _ l23).trans z23.out
          have lg624 : g623 < x24.heap.size := Nat.lt_of_lt_of_le l23 b24.out.size
          refine hK.out _ _ B24 (fun _ => ?_)
          clear hK K
          try simp only [Act.put, List.setIfInBounds_toArray, List.set_cons_zero, List.set_cons_succ]
          refine wpAnyH_ready (rs := [3]) (by kernel_rfl) (by simp) ?_
          refine AllReadyH.cons rfl (fun K hK => ?_) AllReadyH.nil
          · go_simp
            go_at_call 156
            refine (HR.out _ B24).mono ?_
            rintro e x25 ⟨R25, rfl, t25, b25⟩
            go_wp2_with fail
            have B25 : Hid (Below W0.heap.size W0 x25) := btr B24.out b25.out
            have zg525 : Hid (x25.heap[g517]? = some (.cells (List.replicate 24 (Value.int .i64 0)).toArray 168 (0, 0))) := (b25.out.block _ lg524).trans zg524.out
            have lg525 : g517 < x25.heap.size := Nat.lt_of_lt_of_le lg524 b25.out.size
            have zg625 : Hid (x25.heap[g623]? = some (.cells (List.replicate 24 (Value.int .i64 0)).toArray 168 (0, 0))) := (b25.out.block _ lg624).trans zg624.out
            have lg625 : g623 < x25.heap.size := Nat.lt_of_lt_of_le lg624 b25.out.size
            refine hK.out _ _ B25 (fun _ => ?_)
            clear hK K
            try simp only [Act.put, List.setIfInBounds_toArray, List.set_cons_zero, List.set_cons_succ]
            obtain ⟨th1, th2, in1, in2, al1, al2, r1, r2, b1, b2⟩ := twoStores (W0 := W0) (B := W0.heap.size) t24.out.1 t25.out.1 zg525.out zg625.out ne23 e17 e23 B25.out
            refine wpAnyH_ready (rs := [6]) (by kernel_rfl) (by simp) ?_
            refine AllReadyH.cons rfl (fun K hK => ?_) AllReadyH.nil
            rw [if_pos (by rfl)]
            refine wp_store_mid _ _ _ rfl g517 0 (L24.map (Value.int .i64)).toArray rfl rfl th1 in1 al1 ?_
            refine hK.out _ _ b1 (fun _ => ?_)
            clear hK K
            simp only [Act.put]
            refine wpAnyH_ready (rs := [7]) (by kernel_rfl) (by simp) ?_
            refine AllReadyH.cons rfl (fun K hK => ?_) AllReadyH.nil
            rw [if_pos (by rfl)]
            refine wp_store_mid _ _ _ rfl g623 0 (R25.map (Value.int .i64)).toArray rfl rfl th2 in2 al2 ?_
            refine hK.out _ _ b2 (fun _ => ?_)
            clear hK K
            simp only [Act.put]
            refine wpAnyH_done (by kernel_rfl) ?_ _
            go_wp2_with fail
            go_meet
            exact ⟨g517, g623, L24, R25, rfl, rfl, t24, t25, r1, r2, hB0.out.trans (b2.out.mono hB0.out.size)⟩
    · go_simp
      have B26 : Hid (Below W0.heap.size W0 (x0.alloc (.cells #[.int .i64 0, .int .i64 0, .int .i64 0, .int .i64 0, .int .i64 0, .int .i64 0, .int .i64 0, .int .i64 0, .int .i64 0, .int .i64 0, .int .i64 0, .int .i64 0, .int .i64 0, .int .i64 0, .int .i64 0, .int .i64 0, .int .i64 0, .int .i64 0, .int .i64 0, .int .i64 0, .int .i64 0, .int .i64 0, .int .i64 0, .int .i64 0] 168))) := bal hB.out _
      refine hK.out _ _ B26 (fun _ => ?_)
      clear hK K
      obtain ⟨g626, q26⟩ : ∃ g, x0.heap.size = g := ⟨_, rfl⟩
      have z26 : Hid ((x0.alloc (.cells #[.int .i64 0, .int .i64 0, .int .i64 0, .int .i64 0, .int .i64 0, .int .i64 0, .int .i64 0, .int .i64 0, .int .i64 0, .int .i64 0, .int .i64 0, .int .i64 0, .int .i64 0, .int .i64 0, .int .i64 0, .int .i64 0, .int .i64 0, .int .i64 0, .int .i64 0, .int .i64 0, .int .i64 0, .int .i64 0, .int .i64 0, .int .i64 0] 168)).heap[g626]? = some (.cells (List.replicate 24 (Value.int .i64 0)).toArray 168 (0, 0))) := by rw [← q26]; exact World.alloc_heap_new _ _
      have l26 : g626 < (x0.alloc (.cells #[.int .i64 0, .int .i64 0, .int .i64 0, .int .i64 0, .int .i64 0, .int .i64 0, .int .i64 0, .int .i64 0, .int .i64 0, .int .i64 0, .int .i64 0, .int .i64 0, .int .i64 0, .int .i64 0, .int .i64 0, .int .i64 0, .int .i64 0, .int .i64 0, .int .i64 0, .int .i64 0, .int .i64 0, .int .i64 0, .int .i64 0, .int .i64 0] 168)).heap.size := by rw [← q26]; simp
      have e26 : W0.heap.size ≤ g626 := by rw [← q26]; exact hB.out.size
      rw [q26]
      clear q26
      generalize (x0.alloc (.cells #[.int .i64 0, .int .i64 0, .int .i64 0, .int .i64 0, .int .i64 0, .int .i64 0, .int .i64 0, .int .i64 0, .int .i64 0, .int .i64 0, .int .i64 0, .int .i64 0, .int .i64 0, .int .i64 0, .int .i64 0, .int .i64 0, .int .i64 0, .int .i64 0, .int .i64 0, .int .i64 0, .int .i64 0, .int .i64 0, .int .i64 0, .int .i64 0] 168)) = x26 at *
      refine wpAnyH_ready (rs := [1, 4]) (by kernel_rfl) (by simp) ?_
      refine AllReadyH.cons rfl (fun K hK => ?_) (AllReadyH.cons rfl (fun K hK => ?_) AllReadyH.nil)
      · go_simp
        go_at_call 155
        refine (HL.out _ B26).mono ?_
        rintro e x27 ⟨L27, rfl, t27, b27⟩
        go_wp2_with fail
        have B27 : Hid (Below W0.heap.size W0 x27) := btr B26.out b27.out
        have zg627 : Hid (x27.heap[g626]? = some (.cells (List.replicate 24 (Value.int .i64 0)).toArray 168 (0, 0))) := (b27.out.block _ l26).trans z26.out
        have lg627 : g626 < x27.heap.size := Nat.lt_of_lt_of_le l26 b27.out.size
        refine hK.out _ _ B27 (fun _ => ?_)
        clear hK K
        try simp only [Act.put, List.setIfInBounds_toArray, List.set_cons_zero, List.set_cons_succ]
        refine wpAnyH_ready (rs := [3, 4]) (by kernel_rfl) (by simp) ?_
        refine AllReadyH.cons rfl (fun K hK => ?_) (AllReadyH.cons rfl (fun K hK => ?_) AllReadyH.nil)
        · go_simp
          go_at_call 156
          refine (HR.out _ B27).mono ?_
          rintro e x28 ⟨R28, rfl, t28, b28⟩
          go_wp2_with fail
          have B28 : Hid (Below W0.heap.size W0 x28) := btr B27.out b28.out
          have zg628 : Hid (x28.heap[g626]? = some (.cells (List.replicate 24 (Value.int .i64 0)).toArray 168 (0, 0))) := (b28.out.block _ lg627).trans zg627.out
          have lg628 : g626 < x28.heap.size := Nat.lt_of_lt_of_le lg627 b28.out.size
          refine hK.out _ _ B28 (fun _ => ?_)
          clear hK K
          try simp only [Act.put, List.setIfInBounds_toArray, List.set_cons_zero, List.set_cons_succ]
          refine wpAnyH_ready (rs := [4]) (by kernel_rfl) (by simp) ?_
          refine AllReadyH.cons rfl (fun K hK => ?_) AllReadyH.nil
          · go_simp
            have B29 : Hid (Below W0.heap.size W0 (x28.alloc (.cells #[.int .i64 0, .int .i64 0, .int .i64 0, .int .i64 0, .int .i64 0, .int .i64 0, .int .i64 0, .int .i64 0, .int .i64 0, .int .i64 0, .int .i64 0, .int .i64 0, .int .i64 0, .int .i64 0, .int .i64 0, .int .i64 0, .int .i64 0, .int .i64 0, .int .i64 0, .int .i64 0, .int .i64 0, .int .i64 0, .int .i64 0, .int .i64 0] 168))) := bal B28.out _
            refine hK.out _ _ B29 (fun _ => ?_)
            clear hK K
            obtain ⟨g529, q29⟩ : ∃ g, x28.heap.size = g := ⟨_, rfl⟩
            have z29 : Hid ((x28.alloc (.cells #[.int .i64 0, .int .i64 0, .int .i64 0, .int .i64 0, .int .i64 0, .int .i64 0, .int .i64 0, .int .i64 0, .int .i64 0, .int .i64 0, .int .i64 0, .int .i64 0, .int .i64 0, .int .i64 0, .int .i64 0, .int .i64 0, .int .i64 0, .int .i64 0, .int .i64 0, .int .i64 0, .int .i64 0, .int .i64 0, .int .i64 0, .int .i64 0] 168)).heap[g529]? = some (.cells (List.replicate 24 (Value.int .i64 0)).toArray 168 (0, 0))) := by rw [← q29]; exact World.alloc_heap_new _ _
            have l29 : g529 < (x28.alloc (.cells #[.int .i64 0, .int .i64 0, .int .i64 0, .int .i64 0, .int .i64 0, .int .i64 0, .int .i64 0, .int .i64 0, .int .i64 0, .int .i64 0, .int .i64 0, .int .i64 0, .int .i64 0, .int .i64 0, .int .i64 0, .int .i64 0, .int .i64 0, .int .i64 0, .int .i64 0, .int .i64 0, .int .i64 0, .int .i64 0, .int .i64 0, .int .i64 0] 168)).heap.size := by rw [← q29]; simp
            have e29 : W0.heap.size ≤ g529 := by rw [← q29]; exact B28.out.size
            have zg629 : Hid ((x28.alloc (.cells #[.int .i64 0, .int .i64 0, .int .i64 0, .int .i64 0, .int .i64 0, .int .i64 0, .int .i64 0, .int .i64 0, .int .i64 0, .int .i64 0, .int .i64 0, .int .i64 0, .int .i64 0, .int .i64 0, .int .i64 0, .int .i64 0, .int .i64 0, .int .i64 0, .int .i64 0, .int .i64 0, .int .i64 0, .int .i64 0, .int .i64 0, .int .i64 0] 168)).heap[g626]? = some (.cells (List.replicate 24 (Value.int .i64 0)).toArray 168 (0, 0))) := (Below.heap_alloc _ _ _ lg628).trans zg628.out
            have lg629 : g626 < (x28.alloc (.cells #[.int .i64 0, .int .i64 0, .int .i64 0, .int .i64 0, .int .i64 0, .int .i64 0, .int .i64 0, .int .i64 0, .int .i64 0, .int .i64 0, .int .i64 0, .int .i64 0, .int .i64 0, .int .i64 0, .int .i64 0, .int .i64 0, .int .i64 0, .int .i64 0, .int .i64 0, .int .i64 0, .int .i64 0, .int .i64 0, .int .i64 0, .int .i64 0] 168)).heap.size := Nat.lt_trans (by rw [← q29]; exact lg628) l29
            have ne29 : g626 ≠ g529 := by have := lg628; omega
            rw [q29]
            clear q29
            generalize (x28.alloc (.cells #[.int .i64 0, .int .i64 0, .int .i64 0, .int .i64 0, .int .i64 0, .int .i64 0, .int .i64 0, .int .i64 0, .int .i64 0, .int .i64 0, .int .i64 0, .int .i64 0, .int .i64 0, .int .i64 0, .int .i64 0, .int .i64 0, .int .i64 0, .int .i64 0, .int .i64 0, .int .i64 0, .int .i64 0, .int .i64 0, .int .i64 0, .int .i64 0] 168)) = x29 at *
            obtain ⟨th1, th2, in1, in2, al1, al2, r1, r2, b1, b2⟩ := twoStores (W0 := W0) (B := W0.heap.size) t27.out.1 t28.out.1 z29.out zg629.out ne29.symm e29 e26 B29.out
            refine wpAnyH_ready (rs := [6]) (by kernel_rfl) (by simp) ?_
            refine AllReadyH.cons rfl (fun K hK => ?_) AllReadyH.nil
            rw [if_pos (by rfl)]
            refine wp_store_mid _ _ _ rfl g529 0 (L27.map (Value.int .i64)).toArray rfl rfl th1 in1 al1 ?_
            refine hK.out _ _ b1 (fun _ => ?_)
            clear hK K
            simp only [Act.put]
            refine wpAnyH_ready (rs := [7]) (by kernel_rfl) (by simp) ?_
            refine AllReadyH.cons rfl (fun K hK => ?_) AllReadyH.nil
            rw [if_pos (by rfl)]
            refine wp_store_mid _ _ _ rfl g626 0 (R28.map (Value.int .i64)).toArray rfl rfl th2 in2 al2 ?_
            refine hK.out _ _ b2 (fun _ => ?_)
            clear hK K
            simp only [Act.put]
            refine wpAnyH_done (by kernel_rfl) ?_ _
            go_wp2_with fail
            go_meet
            exact ⟨g529, g626, L27, R28, rfl, rfl, t27, t28, r1, r2, hB0.out.trans (b2.out.mono hB0.out.size)⟩
        · go_simp
          have B30 : Hid (Below W0.heap.size W0 (x27.alloc (.cells #[.int .i64 0, .int .i64 0, .int .i64 0, .int .i64 0, .int .i64 0, .int .i64 0, .int .i64 0, .int .i64 0, .int .i64 0, .int .i64 0, .int .i64 0, .int .i64 0, .int .i64 0, .int .i64 0, .int .i64 0, .int .i64 0, .int .i64 0, .int .i64 0, .int .i64 0, .int .i64 0, .int .i64 0, .int .i64 0, .int .i64 0, .int .i64 0] 168))) := bal B27.out _
          refine hK.out _ _ B30 (fun _ => ?_)
          clear hK K
          obtain ⟨g530, q30⟩ : ∃ g, x27.heap.size = g := ⟨_, rfl⟩
          have z30 : Hid ((x27.alloc (.cells #[.int .i64 0, .int .i64 0, .int .i64 0, .int .i64 0, .int .i64 0, .int .i64 0, .int .i64 0, .int .i64 0, .int .i64 0, .int .i64 0, .int .i64 0, .int .i64 0, .int .i64 0, .int .i64 0, .int .i64 0, .int .i64 0, .int .i64 0, .int .i64 0, .int .i64 0, .int .i64 0, .int .i64 0, .int .i64 0, .int .i64 0, .int .i64 0] 168)).heap[g530]? = some (.cells (List.replicate 24 (Value.int .i64 0)).toArray 168 (0, 0))) := by rw [← q30]; exact World.alloc_heap_new _ _
          have l30 : g530 < (x27.alloc (.cells #[.int .i64 0, .int .i64 0, .int .i64 0, .int .i64 0, .int .i64 0, .int .i64 0, .int .i64 0, .int .i64 0, .int .i64 0, .int .i64 0, .int .i64 0, .int .i64 0, .int .i64 0, .int .i64 0, .int .i64 0, .int .i64 0, .int .i64 0, .int .i64 0, .int .i64 0, .int .i64 0, .int .i64 0, .int .i64 0, .int .i64 0, .int .i64 0] 168)).heap.size := by rw [← q30]; simp
          have e30 : W0.heap.size ≤ g530 := by rw [← q30]; exact B27.out.size
          have zg630 : Hid ((x27.alloc (.cells #[.int .i64 0, .int .i64 0, .int .i64 0, .int .i64 0, .int .i64 0, .int .i64 0, .int .i64 0, .int .i64 0, .int .i64 0, .int .i64 0, .int .i64 0, .int .i64 0, .int .i64 0, .int .i64 0, .int .i64 0, .int .i64 0, .int .i64 0, .int .i64 0, .int .i64 0, .int .i64 0, .int .i64 0, .int .i64 0, .int .i64 0, .int .i64 0] 168)).heap[g626]? = some (.cells (List.replicate 24 (Value.int .i64 0)).toArray 168 (0, 0))) := (Below.heap_alloc _ _ _ lg627).trans zg627.out
          have lg630 : g626 < (x27.alloc (.cells #[.int .i64 0, .int .i64 0, .int .i64 0, .int .i64 0, .int .i64 0, .int .i64 0, .int .i64 0, .int .i64 0, .int .i64 0, .int .i64 0, .int .i64 0, .int .i64 0, .int .i64 0, .int .i64 0, .int .i64 0, .int .i64 0, .int .i64 0, .int .i64 0, .int .i64 0, .int .i64 0, .int .i64 0, .int .i64 0, .int .i64 0, .int .i64 0] 168)).heap.size := Nat.lt_trans (by rw [← q30]; exact lg627) l30
          have ne30 : g626 ≠ g530 := by have := lg627; omega
          rw [q30]
          clear q30
          generalize (x27.alloc (.cells #[.int .i64 0, .int .i64 0, .int .i64 0, .int .i64 0, .int .i64 0, .int .i64 0, .int .i64 0, .int .i64 0, .int .i64 0, .int .i64 0, .int .i64 0, .int .i64 0, .int .i64 0, .int .i64 0, .int .i64 0, .int .i64 0, .int .i64 0, .int .i64 0, .int .i64 0, .int .i64 0, .int .i64 0, .int .i64 0, .int .i64 0, .int .i64 0] 168)) = x30 at *
          refine wpAnyH_ready (rs := [3]) (by kernel_rfl) (by simp) ?_
          refine AllReadyH.cons rfl (fun K hK => ?_) AllReadyH.nil
          · go_simp
            go_at_call 156
            refine (HR.out _ B30).mono ?_
            rintro e x31 ⟨R31, rfl, t31, b31⟩
            go_wp2_with fail
            have B31 : Hid (Below W0.heap.size W0 x31) := btr B30.out b31.out
            have zg531 : Hid (x31.heap[g530]? = some (.cells (List.replicate 24 (Value.int .i64 0)).toArray 168 (0, 0))) := (b31.out.block _ l30).trans z30.out
            have lg531 : g530 < x31.heap.size := Nat.lt_of_lt_of_le l30 b31.out.size
            have zg631 : Hid (x31.heap[g626]? = some (.cells (List.replicate 24 (Value.int .i64 0)).toArray 168 (0, 0))) := (b31.out.block _ lg630).trans zg630.out
            have lg631 : g626 < x31.heap.size := Nat.lt_of_lt_of_le lg630 b31.out.size
            refine hK.out _ _ B31 (fun _ => ?_)
            clear hK K
            try simp only [Act.put, List.setIfInBounds_toArray, List.set_cons_zero, List.set_cons_succ]
            obtain ⟨th1, th2, in1, in2, al1, al2, r1, r2, b1, b2⟩ := twoStores (W0 := W0) (B := W0.heap.size) t27.out.1 t31.out.1 zg531.out zg631.out ne30.symm e30 e26 B31.out
            refine wpAnyH_ready (rs := [6]) (by kernel_rfl) (by simp) ?_
            refine AllReadyH.cons rfl (fun K hK => ?_) AllReadyH.nil
            rw [if_pos (by rfl)]
            refine wp_store_mid _ _ _ rfl g530 0 (L27.map (Value.int .i64)).toArray rfl rfl th1 in1 al1 ?_
            refine hK.out _ _ b1 (fun _ => ?_)
            clear hK K
            simp only [Act.put]
            refine wpAnyH_ready (rs := [7]) (by kernel_rfl) (by simp) ?_
            refine AllReadyH.cons rfl (fun K hK => ?_) AllReadyH.nil
            rw [if_pos (by rfl)]
            refine wp_store_mid _ _ _ rfl g626 0 (R31.map (Value.int .i64)).toArray rfl rfl th2 in2 al2 ?_
            refine hK.out _ _ b2 (fun _ => ?_)
            clear hK K
            simp only [Act.put]
            refine wpAnyH_done (by kernel_rfl) ?_ _
            go_wp2_with fail
            go_meet
            exact ⟨g530, g626, L27, R31, rfl, rfl, t27, t31, r1, r2, hB0.out.trans (b2.out.mono hB0.out.size)⟩
      · go_simp
        have B32 : Hid (Below W0.heap.size W0 (x26.alloc (.cells #[.int .i64 0, .int .i64 0, .int .i64 0, .int .i64 0, .int .i64 0, .int .i64 0, .int .i64 0, .int .i64 0, .int .i64 0, .int .i64 0, .int .i64 0, .int .i64 0, .int .i64 0, .int .i64 0, .int .i64 0, .int .i64 0, .int .i64 0, .int .i64 0, .int .i64 0, .int .i64 0, .int .i64 0, .int .i64 0, .int .i64 0, .int .i64 0] 168))) := bal B26.out _
        refine hK.out _ _ B32 (fun _ => ?_)
        clear hK K
        obtain ⟨g532, q32⟩ : ∃ g, x26.heap.size = g := ⟨_, rfl⟩
        have z32 : Hid ((x26.alloc (.cells #[.int .i64 0, .int .i64 0, .int .i64 0, .int .i64 0, .int .i64 0, .int .i64 0, .int .i64 0, .int .i64 0, .int .i64 0, .int .i64 0, .int .i64 0, .int .i64 0, .int .i64 0, .int .i64 0, .int .i64 0, .int .i64 0, .int .i64 0, .int .i64 0, .int .i64 0, .int .i64 0, .int .i64 0, .int .i64 0, .int .i64 0, .int .i64 0] 168)).heap[g532]? = some (.cells (List.replicate 24 (Value.int .i64 0)).toArray 168 (0, 0))) := by rw [← q32]; exact World.alloc_heap_new _ _
        have l32 : g532 < (x26.alloc (.cells #[.int .i64 0, .int .i64 0, .int .i64 0, .int .i64 0, .int .i64 0, .int .i64 0, .int .i64 0, .int .i64 0, .int .i64 0, .int .i64 0, .int .i64 0, .int .i64 0, .int .i64 0, .int .i64 0, .int .i64 0, .int .i64 0, .int .i64 0, .int .i64 0, .int .i64 0, .int .i64 0, .int .i64 0, .int .i64 0, .int .i64 0, .int .i64 0] 168)).heap.size := by rw [← q32]; simp
        have e32 : W0.heap.size ≤ g532 := by rw [← q32]; exact B26.out.size
        have zg632 : Hid ((x26.alloc (.cells #[.int .i64 0, .int .i64 0, .int .i64 0, .int .i64 0, .int .i64 0, .int .i64 0, .int .i64 0, .int .i64 0, .int .i64 0, .int .i64 0, .int .i64 0, .int .i64 0, .int .i64 0, .int .i64 0, .int .i64 0, .int .i64 0, .int .i64 0, .int .i64 0, .int .i64 0, .int .i64 0, .int .i64 0, .int .i64 0, .int .i64 0, .int .i64 0] 168)).heap[g626]? = some (.cells (List.replicate 24 (Value.int .i64 0)).toArray 168 (0, 0))) := (Below.heap_alloc _ _ _ l26).trans z26.out
        have lg632 : g626 < (x26.alloc (.cells #[.int .i64 0, .int .i64 0, .int .i64 0, .int .i64 0, .int .i64 0, .int .i64 0, .int .i64 0, .int .i64 0, .int .i64 0, .int .i64 0, .int .i64 0, .int .i64 0, .int .i64 0, .int .i64 0, .int .i64 0, .int .i64 0, .int .i64 0, .int .i64 0, .int .i64 0, .int .i64 0, .int .i64 0, .int .i64 0, .int .i64 0, .int .i64 0] 168)).heap.size := Nat.lt_trans (by rw [← q32]; exact l26) l32
        have ne32 : g626 ≠ g532 := by have := l26; omega
        rw [q32]
        clear q32
        generalize (x26.alloc (.cells #[.int .i64 0, .int .i64 0, .int .i64 0, .int .i64 0, .int .i64 0, .int .i64 0, .int .i64 0, .int .i64 0, .int .i64 0, .int .i64 0, .int .i64 0, .int .i64 0, .int .i64 0, .int .i64 0, .int .i64 0, .int .i64 0, .int .i64 0, .int .i64 0, .int .i64 0, .int .i64 0, .int .i64 0, .int .i64 0, .int .i64 0, .int .i64 0] 168)) = x32 at *
        refine wpAnyH_ready (rs := [1]) (by kernel_rfl) (by simp) ?_
        refine AllReadyH.cons rfl (fun K hK => ?_) AllReadyH.nil
        · go_simp
          go_at_call 155
          refine (HL.out _ B32).mono ?_
          rintro e x33 ⟨L33, rfl, t33, b33⟩
          go_wp2_with fail
          have B33 : Hid (Below W0.heap.size W0 x33) := btr B32.out b33.out
          have zg533 : Hid (x33.heap[g532]? = some (.cells (List.replicate 24 (Value.int .i64 0)).toArray 168 (0, 0))) := (b33.out.block _ l32).trans z32.out
          have lg533 : g532 < x33.heap.size := Nat.lt_of_lt_of_le l32 b33.out.size
          have zg633 : Hid (x33.heap[g626]? = some (.cells (List.replicate 24 (Value.int .i64 0)).toArray 168 (0, 0))) := (b33.out.block _ lg632).trans zg632.out
          have lg633 : g626 < x33.heap.size := Nat.lt_of_lt_of_le lg632 b33.out.size
          refine hK.out _ _ B33 (fun _ => ?_)
          clear hK K
          try simp only [Act.put, List.setIfInBounds_toArray, List.set_cons_zero, List.set_cons_succ]
          refine wpAnyH_ready (rs := [3]) (by kernel_rfl) (by simp) ?_
          refine AllReadyH.cons rfl (fun K hK => ?_) AllReadyH.nil
          · go_simp
            go_at_call 156
            refine (HR.out _ B33).mono ?_
            rintro e x34 ⟨R34, rfl, t34, b34⟩
            go_wp2_with fail
            have B34 : Hid (Below W0.heap.size W0 x34) := btr B33.out b34.out
            have zg534 : Hid (x34.heap[g532]? = some (.cells (List.replicate 24 (Value.int .i64 0)).toArray 168 (0, 0))) := (b34.out.block _ lg533).trans zg533.out
            have lg534 : g532 < x34.heap.size := Nat.lt_of_lt_of_le lg533 b34.out.size
            have zg634 : Hid (x34.heap[g626]? = some (.cells (List.replicate 24 (Value.int .i64 0)).toArray 168 (0, 0))) := (b34.out.block _ lg633).trans zg633.out
            have lg634 : g626 < x34.heap.size := Nat.lt_of_lt_of_le lg633 b34.out.size
            refine hK.out _ _ B34 (fun _ => ?_)
            clear hK K
            try simp only [Act.put, List.setIfInBounds_toArray, List.set_cons_zero, List.set_cons_succ]
            obtain ⟨th1, th2, in1, in2, al1, al2, r1, r2, b1, b2⟩ := twoStores (W0 := W0) (B := W0.heap.size) t33.out.1 t34.out.1 zg534.out zg634.out ne32.symm e32 e26 B34.out
            refine wpAnyH_ready (rs := [6]) (by kernel_rfl) (by simp) ?_
            refine AllReadyH.cons rfl (fun K hK => ?_) AllReadyH.nil
            rw [if_pos (by rfl)]
            refine wp_store_mid _ _ _ rfl g532 0 (L33.map (Value.int .i64)).toArray rfl rfl th1 in1 al1 ?_
            refine hK.out _ _ b1 (fun _ => ?_)
            clear hK K
            simp only [Act.put]
            refine wpAnyH_ready (rs := [7]) (by kernel_rfl) (by simp) ?_
            refine AllReadyH.cons rfl (fun K hK => ?_) AllReadyH.nil
            rw [if_pos (by rfl)]
            refine wp_store_mid _ _ _ rfl g626 0 (R34.map (Value.int .i64)).toArray rfl rfl th2 in2 al2 ?_
            refine hK.out _ _ b2 (fun _ => ?_)
            clear hK K
            simp only [Act.put]
            refine wpAnyH_done (by kernel_rfl) ?_ _
            go_wp2_with fail
            go_meet
            exact ⟨g532, g626, L33, R34, rfl, rfl, t33, t34, r1, r2, hB0.out.trans (b2.out.mono hB0.out.size)⟩
  case rest =>
    obtain ⟨g5, g6, L, R, rfl, rfl, hL, hR, r5, r6, hbc⟩ := hcut
    clear HL HR d0 d1 d2 d3
    have cl : Hid (∀ (wr : World), Below wc.heap.size wc wr → ∀ (e : Nat) (y : Int), L[e]? = some y → wr.cell? ⟨g5, e, none⟩ = some (.int .i64 y)) := fun wr hb e y hy => by
      have := r5.out e (.int .i64 y) (by rw [List.getElem?_map, hy]; rfl)
      rw [Nat.zero_add] at this
      exact (hb.cell (p := ⟨g5, e, none⟩) (World.block_lt_of_cell? _ _ this)).trans this
    have cr : Hid (∀ (wr : World), Below wc.heap.size wc wr → ∀ (e : Nat) (y : Int), R[e]? = some y → wr.cell? ⟨g6, e, none⟩ = some (.int .i64 y)) := fun wr hb e y hy => by
      have := r6.out e (.int .i64 y) (by rw [List.getElem?_map, hy]; rfl)
      rw [Nat.zero_add] at this
      exact (hb.cell (p := ⟨g6, e, none⟩) (World.block_lt_of_cell? _ _ this)).trans this
    have hst : Hid (M.StepTo L R 0 (-2400)) := M.step_start L R
    clear r5 r6
    go_wp2
    go_loopw [7, 8, 13] (fun qs _ i wr => ∃ (e : Nat) (s : Int), e ≤ 24 ∧ i = .int .i64 (e : Int) ∧ qs = .int .i64 s ∧ Hid (M.StepTo L R e s) ∧ Hid (Below wc.heap.size wc wr)) (fun _ _ i _ => 24 - (intOf i).toNat)
    case atStart => exact ⟨0, -2400, by omega, rfl, rfl, hst, b0 wc⟩
    case round =>
      obtain ⟨e, s, he, rfl, rfl, hS, hb⟩ := hrel
      clear hst
      by_cases hlt : e < 24
      · obtain ⟨x, hx, hx1, hx2⟩ := M.rgt_at hR.out hlt
        obtain ⟨y, hy, hy1, hy2⟩ := M.lft_at hL.out hlt
        have c1 := cr.out wr hb.out e x hx
        have c2 := cl.out wr hb.out e y hy
        have hn := Lib.hid (M.step_next hS.out hx hy (by omega))
        rw [show max s (x + 2 - y) = if s < x + 2 - y then x + 2 - y else s by split <;> omega] at hn
        have hei : (e : Int) < 24 := by omega
        have he0 : (0 : Int) ≤ (e : Int) := by omega
        have hw1 : IntKind.i64.wrap (x + 2) = x + 2 := IntWalk.i64_in _ (by omega)
        have hw2 : IntKind.i64.wrap (x + 2 - y) = x + 2 - y := IntWalk.i64_in _ (by omega)
        clear hx hy
        go_wp2
        go_quiet (fail)
        go_wp2
        go_roundw
        case rel => exact ⟨e + 1, _, by omega, by go_num, rfl, hn, below_drewN hb.out _⟩
        case measure => simp [intOf]; omega
      · obtain rfl : e = 24 := by omega
        go_wp2
        go_ret
        exact ⟨s, L, R, rfl, hL, hR, hS, btr hbc.out hb.out⟩
end Go.Proofs.Ytamnilpmdccgoaa
