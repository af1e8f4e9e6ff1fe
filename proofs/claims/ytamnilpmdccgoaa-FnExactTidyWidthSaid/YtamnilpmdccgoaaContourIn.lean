/- leftContour and rightContour: the program's contours. -/
import Derived.Test.YtamnilpmdccgoaaContour
import Derived.Test.YtamnilpmdccgoaaRepeat
import Derived.Test.YtamnilpmdccgoaaTree
import Derived.StillTailTactics
import Derived.Laws.Cover3
import Derived.Deep.MidRow
namespace Go.Proofs.Ytamnilpmdccgoaa
open Go.RowKit

theorem below_cells {B b : Nat} {a : World} (hb : B ≤ b) : ∀ (vs : List Value) (o : Nat) {w : World}, Below B a w → Below B a (w.setCells b o vs)
  | [], _, _, h => h
  | v :: r, o, _, h => below_cells hb r (o + 1) (below_setCell h hb v)

theorem own_repVals {w : World} {B g : Nat} {x : Int} (hB : B ≤ g) (h : w.heap[g]? = some (.cells (repVals x 24).toArray 2 (0, 0))) : Own64 w B (.slice (some ⟨g, 0, none⟩) 24 24) (List.replicate 24 x) := by
  have e : repVals x 24 = (List.replicate 24 x).map (Value.int .i64) := by rw [repVals, M.repRow_end]
  refine ⟨by simp, .inr ⟨g, 24, _, by simp, hB, h, by simp, by unfold maxLen; omega, ?_, ?_⟩⟩
  · rw [List.size_toArray, repVals_len (by omega)]
  · rw [e]; simp

set_option maxHeartbeats 4000000 in
set_option maxRecDepth 100000 in
theorem leftContour (A D : Option Addr) (P Ds : List Int) (m c cd : Nat) (w : World) (hm : m ≤ 24) (hP : Hid (P.length = m)) (hD : Hid (Ds.length = m)) (h : Hid (Ints w w.heap.size A P)) (hd : Hid (Ints w w.heap.size D Ds)) (bP : Hid (∀ x ∈ P, -100 ≤ x ∧ x ≤ 100)) (bD : Hid (∀ x ∈ Ds, 0 ≤ x ∧ x < 24)) :
    Calls Try.prog 155 #[.agg #[.slice A m c, .slice D m cd]] w fun e w' => ∃ L, e = .returned (.agg (L.map (Value.int .i64)).toArray) ∧ Hid (M.LftTo Ds P m L) ∧ Hid (Below w.heap.size w w') := by
  go_enter Try.func155, Try.ntmps155
  go_wp2_with fail
  obtain ⟨X, hX⟩ : ∃ X, X = (((w.alloc (.cells #[.slice A m c, .slice D m cd] 126)).alloc (.cells #[.int .i64 0, .int .i64 0, .int .i64 0, .int .i64 0, .int .i64 0, .int .i64 0, .int .i64 0, .int .i64 0, .int .i64 0, .int .i64 0, .int .i64 0, .int .i64 0, .int .i64 0, .int .i64 0, .int .i64 0, .int .i64 0, .int .i64 0, .int .i64 0, .int .i64 0, .int .i64 0, .int .i64 0, .int .i64 0, .int .i64 0, .int .i64 0] 168)).alloc (.cells #[.int .i64 2400] 2)) := ⟨_, rfl⟩
  have hXs : X.heap.size = w.heap.size + 1 + 1 + 1 := by rw [hX]; simp
  have hX0 : ((w.alloc (.cells #[.slice A m c, .slice D m cd] 126)).alloc (.cells #[.int .i64 0, .int .i64 0, .int .i64 0, .int .i64 0, .int .i64 0, .int .i64 0, .int .i64 0, .int .i64 0, .int .i64 0, .int .i64 0, .int .i64 0, .int .i64 0, .int .i64 0, .int .i64 0, .int .i64 0, .int .i64 0, .int .i64 0, .int .i64 0, .int .i64 0, .int .i64 0, .int .i64 0, .int .i64 0, .int .i64 0, .int .i64 0] 168)).heap.size = w.heap.size + 1 + 1 := by simp
  have cX : X.cell? ⟨w.heap.size + 1 + 1, 0, none⟩ = some (.int .i64 2400) := by
    have := World.cell?_alloc_new ((w.alloc (.cells #[.slice A m c, .slice D m cd] 126)).alloc (.cells #[.int .i64 0, .int .i64 0, .int .i64 0, .int .i64 0, .int .i64 0, .int .i64 0, .int .i64 0, .int .i64 0, .int .i64 0, .int .i64 0, .int .i64 0, .int .i64 0, .int .i64 0, .int .i64 0, .int .i64 0, .int .i64 0, .int .i64 0, .int .i64 0, .int .i64 0, .int .i64 0, .int .i64 0, .int .i64 0, .int .i64 0, .int .i64 0] 168)) #[.int .i64 2400] 2 0
    rw [hX0] at this
    rw [hX, this]; rfl
  have d0 : X.cell? ⟨w.heap.size, 0, none⟩ = some (.slice A m c) := by rw [hX]; exact cell_al (cell_al (by simp) _) _
  have d1 : X.cell? ⟨w.heap.size, 1, none⟩ = some (.slice D m cd) := by rw [hX]; simp [go_sem]
  have hz : X.heap[w.heap.size + 1]? = some (.cells (List.replicate 24 (Value.int .i64 0)).toArray 168 (0, 0)) := by
    rw [hX, Below.heap_alloc _ _ _ (by rw [hX0]; omega)]
    have := World.alloc_heap_new (w.alloc (.cells #[.slice A m c, .slice D m cd] 126)) (.cells #[.int .i64 0, .int .i64 0, .int .i64 0, .int .i64 0, .int .i64 0, .int .i64 0, .int .i64 0, .int .i64 0, .int .i64 0, .int .i64 0, .int .i64 0, .int .i64 0, .int .i64 0, .int .i64 0, .int .i64 0, .int .i64 0, .int .i64 0, .int .i64 0, .int .i64 0, .int .i64 0, .int .i64 0, .int .i64 0, .int .i64 0, .int .i64 0] 168)
    rw [World.size_alloc] at this
    exact this
  have hBX : Hid (Below w.heap.size w X) := by rw [hX]; exact bal (bal (bal (b0 w) _) _) _
  rw [← hX]
  clear hX hX0
  refine (repeat24 (w.heap.size + 1 + 1) 2400 X cX).mono ?_
  rintro e W3 ⟨rfl, hr3, hb3⟩
  have hX3 := (Array.getElem?_eq_some_iff.1 hr3.out).1
  have ho3 : Hid (Own64 W3 w.heap.size (.slice (some ⟨X.heap.size, 0, none⟩) 24 24) (List.replicate 24 2400)) := own_repVals (by omega) hr3.out
  have hst : Hid (M.LftTo Ds P 0 (List.replicate 24 2400)) := M.lft_start Ds P
  have D0 : Hid (W3.cell? ⟨w.heap.size, 0, none⟩ = some (.slice A m c)) := (hb3.out.cell (p := ⟨w.heap.size, 0, none⟩) (by show w.heap.size < _; omega)).trans d0
  have D1 : Hid (W3.cell? ⟨w.heap.size, 1, none⟩ = some (.slice D m cd)) := (hb3.out.cell (p := ⟨w.heap.size, 1, none⟩) (by show w.heap.size < _; omega)).trans d1
  have Hz : Hid (W3.heap[w.heap.size + 1]? = some (.cells (List.replicate 24 (Value.int .i64 0)).toArray 168 (0, 0))) := (hb3.out.block _ (by omega)).trans hz
  have hB3 : Hid (Below w.heap.size w W3) := hBX.out.trans (hb3.out.mono (by omega))
  obtain ⟨g, hg⟩ : ∃ g, X.heap.size = g := ⟨_, rfl⟩
  have hgw : w.heap.size + 1 + 1 + 1 = g := by omega
  rw [hg] at ho3 hX3 ⊢
  have d0 := D0.out
  have d1 := D1.out
  clear hr3 hb3 hXs cX hz hBX hg
  go_wp2
  clear d0 d1
  go_loopw [4, 5, 11] (fun _ _ i wr => ∃ (k : Nat) (L : List Int), k ≤ m ∧ i = .int .i64 (k : Int) ∧ Hid (M.LftTo Ds P k L) ∧ Hid (Own64 wr w.heap.size (.slice (some ⟨g, 0, none⟩) 24 24) L) ∧ Hid (Below g W3 wr)) (fun _ _ i _ => m - (intOf i).toNat)
  case atStart => exact ⟨0, _, Nat.zero_le _, rfl, hst, ho3, Below.refl _ _⟩
  case round =>
    obtain ⟨k, L, hk, rfl, hT, ho, hb⟩ := hrel
    clear hst ho3
    have d0 : wr.cell? ⟨w.heap.size, 0, none⟩ = some (.slice A m c) := (hb.out.cell (p := ⟨w.heap.size, 0, none⟩) (by show w.heap.size < _; omega)).trans D0.out
    have d1 : wr.cell? ⟨w.heap.size, 1, none⟩ = some (.slice D m cd) := (hb.out.cell (p := ⟨w.heap.size, 1, none⟩) (by show w.heap.size < _; omega)).trans D1.out
    by_cases hlt : k < m
    · obtain ⟨pb, po, x, rfl, hpb, g1, hX1⟩ := h.out.at_ (k := k) (by rw [hP.out]; exact hlt)
      obtain ⟨qb, qo, ee, rfl, hqb, g2, hX2⟩ := hd.out.at_ (k := k) (by rw [hD.out]; exact hlt)
      have c1 : wr.cell? ⟨pb, po + k, none⟩ = some (.int .i64 x) := (hb.out.cell (p := ⟨pb, po + k, none⟩) (by show pb < _; omega)).trans ((hB3.out.cell (p := ⟨pb, po + k, none⟩) hpb).trans g1)
      have c2 : wr.cell? ⟨qb, qo + k, none⟩ = some (.int .i64 ee) := (hb.out.cell (p := ⟨qb, qo + k, none⟩) (by show qb < _; omega)).trans ((hB3.out.cell (p := ⟨qb, qo + k, none⟩) hqb).trans g2)
      have he := bD.out ee (List.mem_of_getElem? hX2.out)
      have hxb := bP.out x (List.mem_of_getElem? hX1.out)
      obtain ⟨e, rfl⟩ := Int.eq_ofNat_of_zero_le he.1
      have he24 : e < 24 := by omega
      have he24' : (e : Int) < 24 := by omega
      have he0 : (0 : Int) ≤ (e : Int) := by omega
      have hki : (k : Int) < (m : Int) := by omega
      have hk0 : (0 : Int) ≤ (k : Int) := by omega
      obtain ⟨z, hz, hz1, hz2⟩ := M.lft_at hT.out he24
      have hLl : L.length = 24 := hT.out.1
      obtain ⟨c3, f3, _, hw3⟩ := own64_cell ho.out hLl hz
      have hs := Lib.hid (M.lft_step hT.out he24 hX2.out hX1.out hz (by omega) (by omega))
      rw [show min z x = (if x < z then x else z) by split <;> omega] at hs
      have hset := Lib.hid (own64_set ho.out hLl e (if x < z then x else z))
      have hb2 : Hid (Below g W3 (wr.setCell ⟨g, e, none⟩ (.int .i64 (if x < z then x else z))).drew) := (below_setCell hb.out (Nat.le_refl _) _).drew
      clear hX1 hX2 hz he hLl g1 g2
      go_wp2
      go_still_tail 13, (by kernel_rfl)
      go_wp2
      go_roundw
      case rel => exact ⟨k + 1, _, by omega, by go_num, hs, hset, hb2⟩
      case measure => simp [intOf]; omega
    · obtain rfl : k = m := by omega
      have hrunA := run_arrayAt (P := Try.prog) (w := wr) 168 2 24 (some ⟨g, 0, none⟩) 24 24 Try.underlying168 (Nat.le_refl _)
      have hLl : L.length = 24 := hT.out.1
      have hc : wr.rangeAt g 0 (L.map (Value.int .i64)) := fun j v hv => by
        rw [List.getElem?_map] at hv
        cases hj : L[j]? with
        | none => rw [hj] at hv; cases hv
        | some y =>
          rw [hj] at hv
          injection hv with hv
          subst hv
          rw [Nat.zero_add]
          exact (own64_cell ho.out hLl hj).1
      have hi : (Try.prog.info? 168).map (·.size) = some (L.map (Value.int .i64)).length := by rw [List.length_map, hLl]; kernel_rfl
      have hi2 : (Try.prog.info? 168).map (·.size) = some (L.map (Value.int .i64)).toArray.size := by rw [List.size_toArray]; exact hi
      have hzr : wr.heap[w.heap.size + 1]? = some (.cells (List.replicate 24 (Value.int .i64 0)).toArray 168 (0, 0)) := (hb.out.block _ (by omega)).trans Hz.out
      have hth : wr.there (w.heap.size + 1) 0 (L.map (Value.int .i64)).toArray.size := fun j hj => by
        rw [List.size_toArray, List.length_map, hLl] at hj
        simp [World.cell?, World.frozen?, hzr, hj]
      have h1 : (L.map (Value.int .i64)).toArray.all (·.oneCell') = true := all_oneCell_toArray (fun v hv => by obtain ⟨x, _, rfl⟩ := List.mem_map.1 hv; rfl)
      have Hc := Lib.hid hc
      have Hth := Lib.hid hth
      have H1 := Lib.hid h1
      have Hi := Lib.hid hi
      have Hi2 := Lib.hid hi2
      clear hc hth h1 hi hi2
      go_wp2_with (first | (refine wpList_load_mid rfl 168 (.tmp 31) rfl g 0 rfl _ _ Hc.out Try.underlying168 rfl Hi.out ?_) | (refine wpList_store_mid rfl 168 (.tmp 2) (.tmp 32) rfl (w.heap.size + 1) 0 _ rfl rfl Hth.out Hi2.out H1.out ?_))
      have hlr := run_loadVar_mid (P := Try.prog) (wr.setCells (w.heap.size + 1) 0 (L.map (Value.int .i64))) (w.heap.size + 1) 0 168 (L.map (Value.int .i64)) _ (World.rangeAt_setCells_same _ _ _ _ (by simpa using Hth.out)) Try.underlying168 rfl Hi.out
      refine bodyPost_ret (v := .agg (L.map (Value.int .i64)).toArray) (by simp [results, Try.results155, Act.put, asAddr, hlr]) rfl ?_
      exact ⟨L, rfl, hT, hB3.out.trans ((hb.out.mono (by omega)).trans (below_cells (by omega) _ _ (Below.refl _ _)))⟩

set_option maxHeartbeats 4000000 in
set_option maxRecDepth 100000 in
theorem rightContour (A D : Option Addr) (P Ds : List Int) (m c cd : Nat) (w : World) (hm : m ≤ 24) (hP : Hid (P.length = m)) (hD : Hid (Ds.length = m)) (h : Hid (Ints w w.heap.size A P)) (hd : Hid (Ints w w.heap.size D Ds)) (bP : Hid (∀ x ∈ P, -100 ≤ x ∧ x ≤ 100)) (bD : Hid (∀ x ∈ Ds, 0 ≤ x ∧ x < 24)) :
    Calls Try.prog 156 #[.agg #[.slice A m c, .slice D m cd]] w fun e w' => ∃ L, e = .returned (.agg (L.map (Value.int .i64)).toArray) ∧ Hid (M.RgtTo Ds P m L) ∧ Hid (Below w.heap.size w w') := by
  go_enter Try.func156, Try.ntmps156
  go_wp2_with fail
  obtain ⟨X, hX⟩ : ∃ X, X = (((w.alloc (.cells #[.slice A m c, .slice D m cd] 126)).alloc (.cells #[.int .i64 0, .int .i64 0, .int .i64 0, .int .i64 0, .int .i64 0, .int .i64 0, .int .i64 0, .int .i64 0, .int .i64 0, .int .i64 0, .int .i64 0, .int .i64 0, .int .i64 0, .int .i64 0, .int .i64 0, .int .i64 0, .int .i64 0, .int .i64 0, .int .i64 0, .int .i64 0, .int .i64 0, .int .i64 0, .int .i64 0, .int .i64 0] 168)).alloc (.cells #[.int .i64 (-2400)] 2)) := ⟨_, rfl⟩
  have hXs : X.heap.size = w.heap.size + 1 + 1 + 1 := by rw [hX]; simp
  have hX0 : ((w.alloc (.cells #[.slice A m c, .slice D m cd] 126)).alloc (.cells #[.int .i64 0, .int .i64 0, .int .i64 0, .int .i64 0, .int .i64 0, .int .i64 0, .int .i64 0, .int .i64 0, .int .i64 0, .int .i64 0, .int .i64 0, .int .i64 0, .int .i64 0, .int .i64 0, .int .i64 0, .int .i64 0, .int .i64 0, .int .i64 0, .int .i64 0, .int .i64 0, .int .i64 0, .int .i64 0, .int .i64 0, .int .i64 0] 168)).heap.size = w.heap.size + 1 + 1 := by simp
  have cX : X.cell? ⟨w.heap.size + 1 + 1, 0, none⟩ = some (.int .i64 (-2400)) := by
    have := World.cell?_alloc_new ((w.alloc (.cells #[.slice A m c, .slice D m cd] 126)).alloc (.cells #[.int .i64 0, .int .i64 0, .int .i64 0, .int .i64 0, .int .i64 0, .int .i64 0, .int .i64 0, .int .i64 0, .int .i64 0, .int .i64 0, .int .i64 0, .int .i64 0, .int .i64 0, .int .i64 0, .int .i64 0, .int .i64 0, .int .i64 0, .int .i64 0, .int .i64 0, .int .i64 0, .int .i64 0, .int .i64 0, .int .i64 0, .int .i64 0] 168)) #[.int .i64 (-2400)] 2 0
    rw [hX0] at this
    rw [hX, this]; rfl
  have d0 : X.cell? ⟨w.heap.size, 0, none⟩ = some (.slice A m c) := by rw [hX]; exact cell_al (cell_al (by simp) _) _
  have d1 : X.cell? ⟨w.heap.size, 1, none⟩ = some (.slice D m cd) := by rw [hX]; simp [go_sem]
  have hz : X.heap[w.heap.size + 1]? = some (.cells (List.replicate 24 (Value.int .i64 0)).toArray 168 (0, 0)) := by
    rw [hX, Below.heap_alloc _ _ _ (by rw [hX0]; omega)]
    have := World.alloc_heap_new (w.alloc (.cells #[.slice A m c, .slice D m cd] 126)) (.cells #[.int .i64 0, .int .i64 0, .int .i64 0, .int .i64 0, .int .i64 0, .int .i64 0, .int .i64 0, .int .i64 0, .int .i64 0, .int .i64 0, .int .i64 0, .int .i64 0, .int .i64 0, .int .i64 0, .int .i64 0, .int .i64 0, .int .i64 0, .int .i64 0, .int .i64 0, .int .i64 0, .int .i64 0, .int .i64 0, .int .i64 0, .int .i64 0] 168)
    rw [World.size_alloc] at this
    exact this
  have hBX : Hid (Below w.heap.size w X) := by rw [hX]; exact bal (bal (bal (b0 w) _) _) _
  rw [← hX]
  clear hX hX0
  refine (repeat24 (w.heap.size + 1 + 1) (-2400) X cX).mono ?_
  rintro e W3 ⟨rfl, hr3, hb3⟩
  have hX3 := (Array.getElem?_eq_some_iff.1 hr3.out).1
  have ho3 : Hid (Own64 W3 w.heap.size (.slice (some ⟨X.heap.size, 0, none⟩) 24 24) (List.replicate 24 (-2400))) := own_repVals (by omega) hr3.out
  have hst : Hid (M.RgtTo Ds P 0 (List.replicate 24 (-2400))) := M.rgt_start Ds P
  have D0 : Hid (W3.cell? ⟨w.heap.size, 0, none⟩ = some (.slice A m c)) := (hb3.out.cell (p := ⟨w.heap.size, 0, none⟩) (by show w.heap.size < _; omega)).trans d0
  have D1 : Hid (W3.cell? ⟨w.heap.size, 1, none⟩ = some (.slice D m cd)) := (hb3.out.cell (p := ⟨w.heap.size, 1, none⟩) (by show w.heap.size < _; omega)).trans d1
  have Hz : Hid (W3.heap[w.heap.size + 1]? = some (.cells (List.replicate 24 (Value.int .i64 0)).toArray 168 (0, 0))) := (hb3.out.block _ (by omega)).trans hz
  have hB3 : Hid (Below w.heap.size w W3) := hBX.out.trans (hb3.out.mono (by omega))
  obtain ⟨g, hg⟩ : ∃ g, X.heap.size = g := ⟨_, rfl⟩
  have hgw : w.heap.size + 1 + 1 + 1 = g := by omega
  rw [hg] at ho3 hX3 ⊢
  have d0 := D0.out
  have d1 := D1.out
  clear hr3 hb3 hXs cX hz hBX hg
  go_wp2
  clear d0 d1
  go_loopw [4, 5, 11] (fun _ _ i wr => ∃ (k : Nat) (L : List Int), k ≤ m ∧ i = .int .i64 (k : Int) ∧ Hid (M.RgtTo Ds P k L) ∧ Hid (Own64 wr w.heap.size (.slice (some ⟨g, 0, none⟩) 24 24) L) ∧ Hid (Below g W3 wr)) (fun _ _ i _ => m - (intOf i).toNat)
  case atStart => exact ⟨0, _, Nat.zero_le _, rfl, hst, ho3, Below.refl _ _⟩
  case round =>
    obtain ⟨k, L, hk, rfl, hT, ho, hb⟩ := hrel
    clear hst ho3
    have d0 : wr.cell? ⟨w.heap.size, 0, none⟩ = some (.slice A m c) := (hb.out.cell (p := ⟨w.heap.size, 0, none⟩) (by show w.heap.size < _; omega)).trans D0.out
    have d1 : wr.cell? ⟨w.heap.size, 1, none⟩ = some (.slice D m cd) := (hb.out.cell (p := ⟨w.heap.size, 1, none⟩) (by show w.heap.size < _; omega)).trans D1.out
    by_cases hlt : k < m
    · obtain ⟨pb, po, x, rfl, hpb, g1, hX1⟩ := h.out.at_ (k := k) (by rw [hP.out]; exact hlt)
      obtain ⟨qb, qo, ee, rfl, hqb, g2, hX2⟩ := hd.out.at_ (k := k) (by rw [hD.out]; exact hlt)
      have c1 : wr.cell? ⟨pb, po + k, none⟩ = some (.int .i64 x) := (hb.out.cell (p := ⟨pb, po + k, none⟩) (by show pb < _; omega)).trans ((hB3.out.cell (p := ⟨pb, po + k, none⟩) hpb).trans g1)
      have c2 : wr.cell? ⟨qb, qo + k, none⟩ = some (.int .i64 ee) := (hb.out.cell (p := ⟨qb, qo + k, none⟩) (by show qb < _; omega)).trans ((hB3.out.cell (p := ⟨qb, qo + k, none⟩) hqb).trans g2)
      have he := bD.out ee (List.mem_of_getElem? hX2.out)
      have hxb := bP.out x (List.mem_of_getElem? hX1.out)
      obtain ⟨e, rfl⟩ := Int.eq_ofNat_of_zero_le he.1
      have he24 : e < 24 := by omega
      have he24' : (e : Int) < 24 := by omega
      have he0 : (0 : Int) ≤ (e : Int) := by omega
      have hki : (k : Int) < (m : Int) := by omega
      have hk0 : (0 : Int) ≤ (k : Int) := by omega
      obtain ⟨z, hz, hz1, hz2⟩ := M.rgt_at hT.out he24
      have hLl : L.length = 24 := hT.out.1
      obtain ⟨c3, f3, _, hw3⟩ := own64_cell ho.out hLl hz
      have hs := Lib.hid (M.rgt_step hT.out he24 hX2.out hX1.out hz (by omega) (by omega))
      rw [show max z x = (if z < x then x else z) by split <;> omega] at hs
      have hset := Lib.hid (own64_set ho.out hLl e (if z < x then x else z))
      have hb2 : Hid (Below g W3 (wr.setCell ⟨g, e, none⟩ (.int .i64 (if z < x then x else z))).drew) := (below_setCell hb.out (Nat.le_refl _) _).drew
      clear hX1 hX2 hz he hLl g1 g2
      go_wp2
      go_still_tail 13, (by kernel_rfl)
      go_wp2
      go_roundw
      case rel => exact ⟨k + 1, _, by omega, by go_num, hs, hset, hb2⟩
      case measure => simp [intOf]; omega
    · obtain rfl : k = m := by omega
      have hrunA := run_arrayAt (P := Try.prog) (w := wr) 168 2 24 (some ⟨g, 0, none⟩) 24 24 Try.underlying168 (Nat.le_refl _)
      have hLl : L.length = 24 := hT.out.1
      have hc : wr.rangeAt g 0 (L.map (Value.int .i64)) := fun j v hv => by
        rw [List.getElem?_map] at hv
        cases hj : L[j]? with
        | none => rw [hj] at hv; cases hv
        | some y =>
          rw [hj] at hv
          injection hv with hv
          subst hv
          rw [Nat.zero_add]
          exact (own64_cell ho.out hLl hj).1
      have hi : (Try.prog.info? 168).map (·.size) = some (L.map (Value.int .i64)).length := by rw [List.length_map, hLl]; kernel_rfl
      have hi2 : (Try.prog.info? 168).map (·.size) = some (L.map (Value.int .i64)).toArray.size := by rw [List.size_toArray]; exact hi
      have hzr : wr.heap[w.heap.size + 1]? = some (.cells (List.replicate 24 (Value.int .i64 0)).toArray 168 (0, 0)) := (hb.out.block _ (by omega)).trans Hz.out
      have hth : wr.there (w.heap.size + 1) 0 (L.map (Value.int .i64)).toArray.size := fun j hj => by
        rw [List.size_toArray, List.length_map, hLl] at hj
        simp [World.cell?, World.frozen?, hzr, hj]
      have h1 : (L.map (Value.int .i64)).toArray.all (·.oneCell') = true := all_oneCell_toArray (fun v hv => by obtain ⟨x, _, rfl⟩ := List.mem_map.1 hv; rfl)
      have Hc := Lib.hid hc
      have Hth := Lib.hid hth
      have H1 := Lib.hid h1
      have Hi := Lib.hid hi
      have Hi2 := Lib.hid hi2
      clear hc hth h1 hi hi2
      go_wp2_with (first | (refine wpList_load_mid rfl 168 (.tmp 31) rfl g 0 rfl _ _ Hc.out Try.underlying168 rfl Hi.out ?_) | (refine wpList_store_mid rfl 168 (.tmp 2) (.tmp 32) rfl (w.heap.size + 1) 0 _ rfl rfl Hth.out Hi2.out H1.out ?_))
      have hlr := run_loadVar_mid (P := Try.prog) (wr.setCells (w.heap.size + 1) 0 (L.map (Value.int .i64))) (w.heap.size + 1) 0 168 (L.map (Value.int .i64)) _ (World.rangeAt_setCells_same _ _ _ _ (by simpa using Hth.out)) Try.underlying168 rfl Hi.out
      refine bodyPost_ret (v := .agg (L.map (Value.int .i64)).toArray) (by simp [results, Try.results156, Act.put, asAddr, hlr]) rfl ?_
      exact ⟨L, rfl, hT, hB3.out.trans ((hb.out.mono (by omega)).trans (below_cells (by omega) _ _ (Below.refl _ _)))⟩
end Go.Proofs.Ytamnilpmdccgoaa
