/- tidyIn: the columns of the tidy drawing, the program's. -/
import Derived.Test.YtamnilpmdccgoaaTidyAux
import Derived.Test.YtamnilpmdccgoaaMoveIn
import Derived.Test.YtamnilpmdccgoaaKids
import Derived.Test.YtamnilpmdccgoaaStepsIn
import Derived.Test.YtamnilpmdccgoaaDepthsIn
import Derived.Test.YtamnilpmdccgoaaEvenImp
import Derived.Test.YtamnilpmdccgoaaLeastIn
import Derived.Test.YtamnilpmdccgoaaBackK
import Derived.Test.YtamnilpmdccgoaaRangeRows
import Derived.Test.YtamnilpmdccgoaaCaps
import Derived.Deep.DeepCutAuto
namespace Go.Proofs.Ytamnilpmdccgoaa
open Go.RowKit Go.Shelf Go.Maps
attribute [local go_sem] Oper.semAt_some

theorem own_headT {w : World} {B n c : Nat} {A : Option Addr} {zs : List Int} (h : Own64 w B (.slice A n c) zs) (hz : 0 < n) : ∃ g, A = some ⟨g, 0, none⟩ ∧ B ≤ g ∧ g < w.heap.size := by
  have hl := own64_len h
  rcases h.2 with ⟨e, h0⟩ | ⟨g, cap, cur, hv, _⟩
  · omega
  · injection hv with e1
    subst e1
    exact ⟨g, rfl, World.ownsRow.lt h g rfl⟩
theorem setCell_at {W : World} {g i : Nat} {t : TypeId} {cs : Array Value} {p : Nat × Nat} (h : W.heap[g]? = some (.cells cs t p)) (u : Value) : (W.setCell ⟨g, i, none⟩ u).heap[g]? = some (.cells (cs.setIfInBounds i u) t p) := by
  simp [World.setCell, Array.getElem?_modify, h]
/-- a store of two values into a box of two cells -/
theorem boxStore {W : World} {g : Nat} {t : TypeId} {a b : Value} (h : W.heap[g]? = some (.cells #[a, b] t (0, 0))) (u v : Value) :
    W.cell? ⟨g, 0, none⟩ = some a ∧ W.cell? ⟨g, 1, none⟩ = some b ∧ W.frozen? ⟨g, 0, none⟩ = false ∧ W.frozen? ⟨g, 1, none⟩ = false ∧
    Hid (((W.setCell ⟨g, 0, none⟩ u).setCell ⟨g, 1, none⟩ v).heap[g]? = some (.cells #[u, v] t (0, 0))) ∧ Hid (∀ k, k ≠ g → ((W.setCell ⟨g, 0, none⟩ u).setCell ⟨g, 1, none⟩ v).heap[k]? = W.heap[k]?) :=
  ⟨by simp [World.cell?, h], by simp [World.cell?, h], by simp [World.frozen?, h], by simp [World.frozen?, h], setCell_at (setCell_at h u) v, fun k hk => (heap_setCell_other _ _ _ _ hk).trans (heap_setCell_other _ _ _ _ hk)⟩
theorem own_other {W W' : World} {B g n c X : Nat} {zs : List Int} (h : Own64 W B (.slice (some ⟨g, 0, none⟩) n c) zs) (ho : Hid (∀ k, k ≠ X → W'.heap[k]? = W.heap[k]?)) (hne : g ≠ X) : Hid (Own64 W' B (.slice (some ⟨g, 0, none⟩) n c) zs) := by
  refine ⟨h.1, ?_⟩
  rcases h.2 with h2 | ⟨g', cap, cur, hv, hg, hh, r⟩
  · exact .inl h2
  · refine .inr ⟨g', cap, cur, hv, hg, (ho.out g' ?_).trans hh, r⟩
    injection hv with e1
    injection e1 with e1
    injection e1 with e1
    omega

theorem grown_beT {w w' : World} (h : Below w.heap.size w w') (row : Option Nat) : w.grownBy w' row := ⟨h.os, h.tape, h.output, h.size, fun k hk _ => h.block k hk⟩
/-- what a round of tidyIn finds: the row of the columns, the depths, the drawing's box, the box of the degrees -/
structure TdI (w W0 : World) (b off c n gR gB gd cd : Nat) (ds : List Int) (W : World) (R : List Int) : Prop where
  len : R.length = n
  oR : Own64 W W0.heap.size (.slice (some ⟨gR, 0, none⟩) n n) R
  oD : Own64 W W0.heap.size (.slice (some ⟨gd, 0, none⟩) n cd) ds
  bx : W.heap[gB]? = some (.cells #[.slice (some ⟨gR, 0, none⟩) n n, .slice (some ⟨gd, 0, none⟩) n cd] 126 (0, 0))
  bG : Boxed W w.heap.size 22 (.slice (some ⟨b, off, none⟩) n c)
  be : Below W0.heap.size W0 W
section
variable {w W0 : World} {b off c n gR gB gd cd : Nat} {ds : List Int} {W W' : World} {R R' : List Int}
theorem TdI.kept {row : Option Nat} (h : TdI w W0 b off c n gR gB gd cd ds W R) (hg : W.grownBy W' row) (hr : ∀ r, row = some r → gR ≠ r ∧ gd ≠ r ∧ gB ≠ r ∧ w.heap.size ≠ r ∧ W0.heap.size ≤ r) : TdI w W0 b off c n gR gB gd cd ds W' R where
  len := h.len
  oR := h.oR.kept hg (.inr fun e => (hr gR e.symm).1 rfl)
  oD := h.oD.kept hg (.inr fun e => (hr gd e.symm).2.1 rfl)
  bx := (hg.block gB (Array.getElem?_eq_some_iff.1 h.bx).1 (fun e => (hr gB e.symm).2.2.1 rfl)).trans h.bx
  bG := h.bG.kept hg (fun e => (hr _ e.symm).2.2.2.1 rfl)
  be := h.be.grown hg h.be.size (fun k e => (hr k e).2.2.2.2)
theorem TdI.grown (h : TdI w W0 b off c n gR gB gd cd ds W R) (hg : W.grownBy W' (some gR)) (h1 : gd ≠ gR) (h2 : gB ≠ gR) (h3 : w.heap.size < W0.heap.size) (ho : Own64 W' W0.heap.size (.slice (some ⟨gR, 0, none⟩) n n) R') (hl : R'.length = n) : TdI w W0 b off c n gR gB gd cd ds W' R' where
  len := hl
  oR := ho
  oD := h.oD.kept hg (.inr fun e => by injection e with e; exact h1 e)
  bx := (hg.block gB (Array.getElem?_eq_some_iff.1 h.bx).1 (fun e => by injection e with e; omega)).trans h.bx
  bG := h.bG.kept hg (fun e => by injection e with e; have := World.ownsRow.lt h.oR gR rfl; omega)
  be := h.be.grown hg h.be.size (fun k e => by injection e with e; have := World.ownsRow.lt h.oR gR rfl; omega)
theorem TdI.below (h : TdI w W0 b off c n gR gB gd cd ds W R) (hb : Below W.heap.size W W') : TdI w W0 b off c n gR gB gd cd ds W' R :=
  h.kept (grown_beT hb none) (by simp)
theorem TdI.cells (h : TdI w W0 b off c n gR gB gd cd ds W R) : W.cell? ⟨w.heap.size, 0, none⟩ = some (.slice (some ⟨b, off, none⟩) n c) ∧ W.cell? ⟨gB, 0, none⟩ = some (.slice (some ⟨gR, 0, none⟩) n n) ∧ W.cell? ⟨gB, 1, none⟩ = some (.slice (some ⟨gd, 0, none⟩) n cd) :=
  ⟨h.bG.cell, by simp [World.cell?, h.bx], by simp [World.cell?, h.bx]⟩
end
/-- what the range over the degrees wants kept -/
def OkP (Bb n₀ : Nat) (A : Option Addr) (xs : List Int) (c : Nat) (X Y : World) : Prop := Boxed X Bb 22 (.slice A xs.length c) ∧ Ints X n₀ A xs → Boxed Y Bb 22 (.slice A xs.length c) ∧ Ints Y n₀ A xs
theorem okP_grown {Bb n₀ b off c : Nat} {xs : List Int} {X Y : World} {row : Option Nat} (hg : X.grownBy Y row) (h1 : some Bb ≠ row) (h2 : some b ≠ row) : OkP Bb n₀ (some ⟨b, off, none⟩) xs c X Y := fun ⟨p, q⟩ => ⟨p.kept hg h1, fun hz => by
  obtain ⟨b', off', e, hb, hc⟩ := q hz
  injection e with e
  injection e with e1 e2
  subst e1 e2
  exact ⟨b, off, rfl, hb, fun j x hx => (World.cell?_of_block (a := ⟨b, off + j, none⟩) (hg.block b (World.block_lt_of_cell? _ _ (hc j x hx)) h2)).trans (hc j x hx)⟩⟩
theorem keepsFrom_grown {D g : Nat} {W W' : World} (hg : W.grownBy W' (some g)) (h : g < D) : KeepsFrom D W W' := ⟨hg.size, fun k _ hk1 hk _ => (hg.block k (Array.getElem?_eq_some_iff.1 hk).1 (fun e => by injection e with e; omega)).trans hk⟩

set_option maxRecDepth 100000 in
set_option maxHeartbeats 8000000 in
theorem tidyIn_in (A : Option Addr) (xs : List Int) (c : Nat) (w : World) (hcl : xs.length ≤ c) (hcu : c ≤ 1000000000000) (ht : Hid (M.isTree xs = true)) (hI : Hid (Ints w w.heap.size A xs)) :
    CallsIn Fence.wide 5 Try.prog 76 #[.slice A xs.length c] w fun e w' => ∃ A' c', e = .returned (.slice A' xs.length c') ∧ Hid (Own64 w' w.heap.size (.slice A' xs.length c') (M.tidy xs (M.depths xs))) ∧ Below w.heap.size w w' := by
  have hlen := M.tree_len ht.out
  have hx := hlen.2
  have hmk := run_make_row' (P := Try.prog) 22 2 (.int .i64 0) 8 Try.underlying22 info64 rfl .i64 .i64 xs.length (by omega) (by omega)
  obtain ⟨b, off, rfl, hbB, hcells⟩ := hI.out (by omega)
  have Hcells := Lib.hid hcells
  clear hcells
  refine callsIn_of_wp_marks Try.func76 rfl trivial ?_ rfl
  simp only [Try.ntmps76, List.size_toArray, List.length_cons, List.length_nil, Nat.reduceAdd, Nat.reduceSub, Array.replicate_succ, Array.replicate_zero, List.push_toArray, List.append_toArray, List.nil_append, List.cons_append]
  gi_wp2
  rename_i Q0 K0 hK0
  obtain ⟨W0, hW0⟩ : ∃ W0, W0 = w.alloc (.cells #[.slice (some ⟨b, off, none⟩) xs.length c] 22) := ⟨_, rfl⟩
  have hsz : W0.heap.size = w.heap.size + 1 := by rw [hW0]; simp
  have hs0 : w.heap.size < W0.heap.size := by omega
  have d0 : W0.cell? ⟨w.heap.size, 0, none⟩ = some (.slice (some ⟨b, off, none⟩) xs.length c) := by rw [hW0]; simp
  have bG0 : Hid (Boxed W0 w.heap.size 22 (.slice (some ⟨b, off, none⟩) xs.length c)) := by rw [hW0]; exact Boxed.new w _ _
  have hB0 : Hid (Below w.heap.size w W0) := by rw [hW0]; exact bal (b0 w) _
  rw [← hW0]
  clear hW0
  have HD : Hid (∀ W, Hid (Below W0.heap.size W0 W) → Calls Try.prog 87 #[.slice (some ⟨b, off, none⟩) xs.length c] W fun e w' => ∃ A' c' ds, e = .returned (.slice A' xs.length c') ∧ Hid (M.DepsOK xs ds) ∧ Hid (Own64 w' W.heap.size (.slice A' xs.length c') ds) ∧ Hid (Below W.heap.size W w')) := fun W hW =>
    (callsIn_wide (n := 5)).1 (depthsIn_in (some ⟨b, off, none⟩) xs c W hcl hcu ht ((hI.out.be hB0.out).be hW.out))
  suffices hK1 : ∀ (gR gB gd cd : Nat) (ds : List Int) (wx : World), gR ≠ gB → gd ≠ gB → gR ≠ gd → Hid (M.DepsOK xs ds) → Hid (Own64 wx W0.heap.size (.slice (some ⟨gR, 0, none⟩) xs.length xs.length) (List.replicate xs.length 0)) → Hid (Own64 wx W0.heap.size (.slice (some ⟨gd, 0, none⟩) xs.length cd) ds) → Hid (wx.heap[gB]? = some (.cells #[.slice (some ⟨gR, 0, none⟩) xs.length xs.length, .slice (some ⟨gd, 0, none⟩) xs.length cd] 126 (0, 0))) → Hid (Below W0.heap.size W0 wx) →
      K0 { tmps := #[.slice (some ⟨b, off, none⟩) xs.length c, .pointer (some ⟨w.heap.size, 0, none⟩), .slice none 0 0, .pointer (some ⟨gB, 0, none⟩), undef, undef, undef, undef, undef, undef, .slice (some ⟨b, off, none⟩) xs.length c, .int .i64 xs.length, .slice (some ⟨gR, 0, none⟩) xs.length xs.length, .slice (some ⟨b, off, none⟩) xs.length c, .slice (some ⟨gd, 0, none⟩) xs.length cd, .agg #[.slice (some ⟨gR, 0, none⟩) xs.length xs.length, .slice (some ⟨gd, 0, none⟩) xs.length cd], undef, undef, undef, undef, undef, undef, undef, undef, undef, undef, undef, undef, undef, undef, undef, undef, undef, undef, undef, undef, undef, undef, undef, undef, undef, undef, undef, undef, undef, undef, undef, undef, undef, undef, undef, undef, undef, undef, undef, undef, undef, undef, undef, undef, undef, undef, undef, undef, undef, undef, undef, undef, undef], defers := [] } wx by
    refine wpIn_wide.2 ?_
    refine wp_region_noPanic ?_
    have hB : Hid (Below W0.heap.size W0 W0.drew) := (Below.refl _ _).drew
    refine wp_region_held_drew (S := fun w' => Hid (Below W0.heap.size W0 w')) (by kernel_rfl) hB (fun hHeld0 => ?_)
    clear hHeld0
    generalize W0.drew = x0 at hB ⊢
    refine takeE 0 (some 10) (.slice (some ⟨b, off, none⟩) xs.length c) rfl rfl (by kernel_rfl) (by kernel_rfl) (by kernel_rfl) (fun _ _ _ h => h) (by rfl) (by intro W hSw; have k1 := ((Hid.out hSw).cell (p := ⟨w.heap.size, 0, none⟩) hs0).trans d0; go_simp) hB ?_
    try simp only [Act.put, List.setIfInBounds_toArray, List.set_cons_zero, List.set_cons_succ]
    refine takeE 1 (some 11) (.int .i64 xs.length) rfl rfl (by kernel_rfl) (by kernel_rfl) (by kernel_rfl) (fun _ _ _ h => h) (by rfl) (by intro W hSw; go_simp) hB ?_
    try simp only [Act.put, List.setIfInBounds_toArray, List.set_cons_zero, List.set_cons_succ]
    refine takeE 3 (some 13) (.slice (some ⟨b, off, none⟩) xs.length c) rfl rfl (by kernel_rfl) (by kernel_rfl) (by kernel_rfl) (fun _ _ _ h => h) (by rfl) (by intro W hSw; have k1 := ((Hid.out hSw).cell (p := ⟨w.heap.size, 0, none⟩) hs0).trans d0; go_simp) hB ?_
    try simp only [Act.put, List.setIfInBounds_toArray, List.set_cons_zero, List.set_cons_succ]
    refine wpAnyH_ready (rs := [2, 4, 6]) (by kernel_rfl) (by simp) ?_
    refine AllReadyH.cons rfl (fun K hK => ?_) (AllReadyH.cons rfl (fun K hK => ?_) (AllReadyH.cons rfl (fun K hK => ?_) AllReadyH.nil))
    · go_simp
      have B1 : Hid (Below W0.heap.size W0 (x0.alloc (.cells (madeCells #[.int .i64 0] xs.length) 2))) := bal hB.out _
      refine hK.out _ _ B1 (fun _ => ?_)
      clear hK K
      try simp only [Act.put, List.setIfInBounds_toArray, List.set_cons_zero, List.set_cons_succ]
      obtain ⟨g1, q1⟩ : ∃ g, x0.heap.size = g := ⟨_, rfl⟩
      have f1 : Hid (Own64 (x0.alloc (.cells (madeCells #[.int .i64 0] xs.length) 2)) W0.heap.size (.slice (some ⟨g1, 0, none⟩) xs.length xs.length) (List.replicate xs.length 0)) := by rw [← q1]; exact own64_made hB.out.size (by unfold maxLen; omega)
      have l1 : g1 < (x0.alloc (.cells (madeCells #[.int .i64 0] xs.length) 2)).heap.size := by rw [← q1]; simp
      have e1 : W0.heap.size ≤ g1 := by rw [← q1]; exact hB.out.size
      rw [q1]
      clear q1
      generalize (x0.alloc (.cells (madeCells #[.int .i64 0] xs.length) 2)) = x1 at *
      refine wpAnyH_ready (rs := [4, 6]) (by kernel_rfl) (by simp) ?_
      refine AllReadyH.cons rfl (fun K hK => ?_) (AllReadyH.cons rfl (fun K hK => ?_) AllReadyH.nil)
      · go_simp
        go_at_call 87
        refine (HD.out _ B1).mono ?_
        rintro e x2 ⟨A2, cd2, ds2, rfl, ok2, o2, b2⟩
        obtain ⟨gd2, rfl, ge2, lt2⟩ := own_headT o2.out (by omega)
        go_wp2_with fail
        have B2 : Hid (Below W0.heap.size W0 x2) := btr B1.out b2.out
        have fR2 : Hid (Own64 x2 W0.heap.size (.slice (some ⟨g1, 0, none⟩) xs.length xs.length) (List.replicate xs.length 0)) := own_be f1.out b2.out
        have lR2 : g1 < x2.heap.size := Nat.lt_of_lt_of_le l1 b2.out.size
        have nR2 : g1 ≠ gd2 := by omega
        have o2' : Hid (Own64 x2 W0.heap.size (.slice (some ⟨gd2, 0, none⟩) xs.length cd2) ds2) := own_mono o2.out B1.out.size
        refine hK.out _ _ B2 (fun _ => ?_)
        clear hK K
        try simp only [Act.put, List.setIfInBounds_toArray, List.set_cons_zero, List.set_cons_succ]
        refine takeE 5 (some 15) (.agg #[.slice (some ⟨g1, 0, none⟩) xs.length xs.length, .slice (some ⟨gd2, 0, none⟩) xs.length cd2]) rfl rfl (by kernel_rfl) (by kernel_rfl) (by kernel_rfl) (fun _ _ _ h => h) (by rfl) (by intro W hSw; go_simp) B2 ?_
        try simp only [Act.put, List.setIfInBounds_toArray, List.set_cons_zero, List.set_cons_succ]
        refine wpAnyH_ready (rs := [6]) (by kernel_rfl) (by simp) ?_
        refine AllReadyH.cons rfl (fun K hK => ?_) AllReadyH.nil
        · go_simp
          have B3 : Hid (Below W0.heap.size W0 (x2.alloc (.cells #[.slice none 0 0, .slice none 0 0] 126))) := bal B2.out _
          refine hK.out _ _ B3 (fun _ => ?_)
          clear hK K
          obtain ⟨g3, q3⟩ : ∃ g, x2.heap.size = g := ⟨_, rfl⟩
          have f3 : Hid ((x2.alloc (.cells #[.slice none 0 0, .slice none 0 0] 126)).heap[g3]? = some (.cells #[.slice none 0 0, .slice none 0 0] 126 (0, 0))) := by rw [← q3]; exact World.alloc_heap_new _ _
          have l3 : g3 < (x2.alloc (.cells #[.slice none 0 0, .slice none 0 0] 126)).heap.size := by rw [← q3]; simp
          have e3 : W0.heap.size ≤ g3 := by rw [← q3]; exact B2.out.size
          have fR3 : Hid (Own64 (x2.alloc (.cells #[.slice none 0 0, .slice none 0 0] 126)) W0.heap.size (.slice (some ⟨g1, 0, none⟩) xs.length xs.length) (List.replicate xs.length 0)) := fR2.out.alloc _
          have lR3 : g1 < (x2.alloc (.cells #[.slice none 0 0, .slice none 0 0] 126)).heap.size := Nat.lt_trans (by rw [← q3]; exact lR2) l3
          have nR3 : g1 ≠ g3 := by have := lR2; omega
          have fD3 : Hid (Own64 (x2.alloc (.cells #[.slice none 0 0, .slice none 0 0] 126)) W0.heap.size (.slice (some ⟨gd2, 0, none⟩) xs.length cd2) ds2) := o2'.out.alloc _
          have lD3 : gd2 < (x2.alloc (.cells #[.slice none 0 0, .slice none 0 0] 126)).heap.size := Nat.lt_trans (by rw [← q3]; exact lt2) l3
          have nD3 : gd2 ≠ g3 := by have := lt2; omega
          rw [q3]
          clear q3
          generalize (x2.alloc (.cells #[.slice none 0 0, .slice none 0 0] 126)) = x3 at *
          obtain ⟨e0, e1, p0, p1, hfin, hoth⟩ := boxStore f3.out (.slice (some ⟨g1, 0, none⟩) xs.length xs.length) (.slice (some ⟨gd2, 0, none⟩) xs.length cd2)
          have nRX : g1 ≠ g3 := by omega
          have nDX : gd2 ≠ g3 := by omega
          have nRD : g1 ≠ gd2 := by omega
          have eX : W0.heap.size ≤ g3 := by omega
          refine wpAnyH_ready (rs := [7]) (by kernel_rfl) (by simp) ?_
          refine AllReadyH.cons rfl (fun K hK => ?_) AllReadyH.nil
          go_simp
          have BF : Hid (Below W0.heap.size W0 ((x3.setCell ⟨g3, 0, none⟩ (.slice (some ⟨g1, 0, none⟩) xs.length xs.length)).setCell ⟨g3, 1, none⟩ (.slice (some ⟨gd2, 0, none⟩) xs.length cd2))) := below_setCell (below_setCell B3.out eX _) eX _
          refine hK.out _ _ BF (fun _ => ?_)
          clear hK K
          refine wpAnyH_done (by kernel_rfl) ?_ _
          refine NoPanic.normal ?_
          exact hK1 g1 g3 gd2 cd2 ds2 _ nRX nDX nRD ok2 (own_other fR3.out hoth nRX) (own_other fD3.out hoth nDX) hfin BF
      · go_simp
        have B4 : Hid (Below W0.heap.size W0 (x1.alloc (.cells #[.slice none 0 0, .slice none 0 0] 126))) := bal B1.out _
        refine hK.out _ _ B4 (fun _ => ?_)
        clear hK K
        obtain ⟨g4, q4⟩ : ∃ g, x1.heap.size = g := ⟨_, rfl⟩
        have f4 : Hid ((x1.alloc (.cells #[.slice none 0 0, .slice none 0 0] 126)).heap[g4]? = some (.cells #[.slice none 0 0, .slice none 0 0] 126 (0, 0))) := by rw [← q4]; exact World.alloc_heap_new _ _
        have l4 : g4 < (x1.alloc (.cells #[.slice none 0 0, .slice none 0 0] 126)).heap.size := by rw [← q4]; simp
        have e4 : W0.heap.size ≤ g4 := by rw [← q4]; exact B1.out.size
        have fR4 : Hid (Own64 (x1.alloc (.cells #[.slice none 0 0, .slice none 0 0] 126)) W0.heap.size (.slice (some ⟨g1, 0, none⟩) xs.length xs.length) (List.replicate xs.length 0)) := f1.out.alloc _
        have lR4 : g1 < (x1.alloc (.cells #[.slice none 0 0, .slice none 0 0] 126)).heap.size := Nat.lt_trans (by rw [← q4]; exact l1) l4
        have nR4 : g1 ≠ g4 := by have := l1; omega
        rw [q4]
        clear q4
        generalize (x1.alloc (.cells #[.slice none 0 0, .slice none 0 0] 126)) = x4 at *
        refine wpAnyH_ready (rs := [4]) (by kernel_rfl) (by simp) ?_
        refine AllReadyH.cons rfl (fun K hK => ?_) AllReadyH.nil
        · go_simp
          go_at_call 87
          refine (HD.out _ B4).mono ?_
          rintro e x5 ⟨A5, cd5, ds5, rfl, ok5, o5, b5⟩
          obtain ⟨gd5, rfl, ge5, lt5⟩ := own_headT o5.out (by omega)
          go_wp2_with fail
          have B5 : Hid (Below W0.heap.size W0 x5) := btr B4.out b5.out
          have fR5 : Hid (Own64 x5 W0.heap.size (.slice (some ⟨g1, 0, none⟩) xs.length xs.length) (List.replicate xs.length 0)) := own_be fR4.out b5.out
          have lR5 : g1 < x5.heap.size := Nat.lt_of_lt_of_le lR4 b5.out.size
          have nR5 : g1 ≠ gd5 := by omega
          have fX5 : Hid (x5.heap[g4]? = some (.cells #[.slice none 0 0, .slice none 0 0] 126 (0, 0))) := (b5.out.block _ l4).trans f4.out
          have lX5 : g4 < x5.heap.size := Nat.lt_of_lt_of_le l4 b5.out.size
          have nX5 : g4 ≠ gd5 := by omega
          have o5' : Hid (Own64 x5 W0.heap.size (.slice (some ⟨gd5, 0, none⟩) xs.length cd5) ds5) := own_mono o5.out B4.out.size
          refine hK.out _ _ B5 (fun _ => ?_)
          clear hK K
          try simp only [Act.put, List.setIfInBounds_toArray, List.set_cons_zero, List.set_cons_succ]
          refine takeE 5 (some 15) (.agg #[.slice (some ⟨g1, 0, none⟩) xs.length xs.length, .slice (some ⟨gd5, 0, none⟩) xs.length cd5]) rfl rfl (by kernel_rfl) (by kernel_rfl) (by kernel_rfl) (fun _ _ _ h => h) (by rfl) (by intro W hSw; go_simp) B5 ?_
          try simp only [Act.put, List.setIfInBounds_toArray, List.set_cons_zero, List.set_cons_succ]
          obtain ⟨e0, e1, p0, p1, hfin, hoth⟩ := boxStore fX5.out (.slice (some ⟨g1, 0, none⟩) xs.length xs.length) (.slice (some ⟨gd5, 0, none⟩) xs.length cd5)
          have nRX : g1 ≠ g4 := by omega
          have nDX : gd5 ≠ g4 := by omega
          have nRD : g1 ≠ gd5 := by omega
          have eX : W0.heap.size ≤ g4 := by omega
          refine wpAnyH_ready (rs := [7]) (by kernel_rfl) (by simp) ?_
          refine AllReadyH.cons rfl (fun K hK => ?_) AllReadyH.nil
          go_simp
          have BF : Hid (Below W0.heap.size W0 ((x5.setCell ⟨g4, 0, none⟩ (.slice (some ⟨g1, 0, none⟩) xs.length xs.length)).setCell ⟨g4, 1, none⟩ (.slice (some ⟨gd5, 0, none⟩) xs.length cd5))) := below_setCell (below_setCell B5.out eX _) eX _
          refine hK.out _ _ BF (fun _ => ?_)
          clear hK K
          refine wpAnyH_done (by kernel_rfl) ?_ _
          refine NoPanic.normal ?_
          exact hK1 g1 g4 gd5 cd5 ds5 _ nRX nDX nRD ok5 (own_other fR5.out hoth nRX) (own_other o5'.out hoth nDX) hfin BF
    · go_simp
      go_at_call 87
      refine (HD.out _ hB).mono ?_
      rintro e x6 ⟨A6, cd6, ds6, rfl, ok6, o6, b6⟩
      obtain ⟨gd6, rfl, ge6, lt6⟩ := own_headT o6.out (by omega)
      go_wp2_with fail
      have B6 : Hid (Below W0.heap.size W0 x6) := btr hB.out b6.out
      have o6' : Hid (Own64 x6 W0.heap.size (.slice (some ⟨gd6, 0, none⟩) xs.length cd6) ds6) := own_mono o6.out hB.out.size
      refine hK.out _ _ B6 (fun _ => ?_)
      clear hK K
      try simp only [Act.put, List.setIfInBounds_toArray, List.set_cons_zero, List.set_cons_succ]
      refine wpAnyH_ready (rs := [2, 6]) (by kernel_rfl) (by simp) ?_
      refine AllReadyH.cons rfl (fun K hK => ?_) (AllReadyH.cons rfl (fun K hK => ?_) AllReadyH.nil)
      · go_simp
        have B7 : Hid (Below W0.heap.size W0 (x6.alloc (.cells (madeCells #[.int .i64 0] xs.length) 2))) := bal B6.out _
        refine hK.out _ _ B7 (fun _ => ?_)
        clear hK K
        try simp only [Act.put, List.setIfInBounds_toArray, List.set_cons_zero, List.set_cons_succ]
        obtain ⟨g7, q7⟩ : ∃ g, x6.heap.size = g := ⟨_, rfl⟩
        have f7 : Hid (Own64 (x6.alloc (.cells (madeCells #[.int .i64 0] xs.length) 2)) W0.heap.size (.slice (some ⟨g7, 0, none⟩) xs.length xs.length) (List.replicate xs.length 0)) := by rw [← q7]; exact own64_made B6.out.size (by unfold maxLen; omega)
        have l7 : g7 < (x6.alloc (.cells (madeCells #[.int .i64 0] xs.length) 2)).heap.size := by rw [← q7]; simp
        have e7 : W0.heap.size ≤ g7 := by rw [← q7]; exact B6.out.size
        have fD7 : Hid (Own64 (x6.alloc (.cells (madeCells #[.int .i64 0] xs.length) 2)) W0.heap.size (.slice (some ⟨gd6, 0, none⟩) xs.length cd6) ds6) := o6'.out.alloc _
        have lD7 : gd6 < (x6.alloc (.cells (madeCells #[.int .i64 0] xs.length) 2)).heap.size := Nat.lt_trans (by rw [← q7]; exact lt6) l7
        have nD7 : gd6 ≠ g7 := by have := lt6; omega
        rw [q7]
        clear q7
        generalize (x6.alloc (.cells (madeCells #[.int .i64 0] xs.length) 2)) = x7 at *
        refine takeE 5 (some 15) (.agg #[.slice (some ⟨g7, 0, none⟩) xs.length xs.length, .slice (some ⟨gd6, 0, none⟩) xs.length cd6]) rfl rfl (by kernel_rfl) (by kernel_rfl) (by kernel_rfl) (fun _ _ _ h => h) (by rfl) (by intro W hSw; go_simp) B7 ?_
        try simp only [Act.put, List.setIfInBounds_toArray, List.set_cons_zero, List.set_cons_succ]
        refine wpAnyH_ready (rs := [6]) (by kernel_rfl) (by simp) ?_
        refine AllReadyH.cons rfl (fun K hK => ?_) AllReadyH.nil
        · go_simp
          have B8 : Hid (Below W0.heap.size W0 (x7.alloc (.cells #[.slice none 0 0, .slice none 0 0] 126))) := bal B7.out _
          refine hK.out _ _ B8 (fun _ => ?_)
          clear hK K
          obtain ⟨g8, q8⟩ : ∃ g, x7.heap.size = g := ⟨_, rfl⟩
          have f8 : Hid ((x7.alloc (.cells #[.slice none 0 0, .slice none 0 0] 126)).heap[g8]? = some (.cells #[.slice none 0 0, .slice none 0 0] 126 (0, 0))) := by rw [← q8]; exact World.alloc_heap_new _ _
          have l8 : g8 < (x7.alloc (.cells #[.slice none 0 0, .slice none 0 0] 126)).heap.size := by rw [← q8]; simp
          have e8 : W0.heap.size ≤ g8 := by rw [← q8]; exact B7.out.size
          have fR8 : Hid (Own64 (x7.alloc (.cells #[.slice none 0 0, .slice none 0 0] 126)) W0.heap.size (.slice (some ⟨g7, 0, none⟩) xs.length xs.length) (List.replicate xs.length 0)) := f7.out.alloc _
          have lR8 : g7 < (x7.alloc (.cells #[.slice none 0 0, .slice none 0 0] 126)).heap.size := Nat.lt_trans (by rw [← q8]; exact l7) l8
          have nR8 : g7 ≠ g8 := by have := l7; omega
          have fD8 : Hid (Own64 (x7.alloc (.cells #[.slice none 0 0, .slice none 0 0] 126)) W0.heap.size (.slice (some ⟨gd6, 0, none⟩) xs.length cd6) ds6) := fD7.out.alloc _
          have lD8 : gd6 < (x7.alloc (.cells #[.slice none 0 0, .slice none 0 0] 126)).heap.size := Nat.lt_trans (by rw [← q8]; exact lD7) l8
          have nD8 : gd6 ≠ g8 := by have := lD7; omega
          rw [q8]
          clear q8
          generalize (x7.alloc (.cells #[.slice none 0 0, .slice none 0 0] 126)) = x8 at *
          obtain ⟨e0, e1, p0, p1, hfin, hoth⟩ := boxStore f8.out (.slice (some ⟨g7, 0, none⟩) xs.length xs.length) (.slice (some ⟨gd6, 0, none⟩) xs.length cd6)
          have nRX : g7 ≠ g8 := by omega
          have nDX : gd6 ≠ g8 := by omega
          have nRD : g7 ≠ gd6 := by omega
          have eX : W0.heap.size ≤ g8 := by omega
          refine wpAnyH_ready (rs := [7]) (by kernel_rfl) (by simp) ?_
          refine AllReadyH.cons rfl (fun K hK => ?_) AllReadyH.nil
          go_simp
          have BF : Hid (Below W0.heap.size W0 ((x8.setCell ⟨g8, 0, none⟩ (.slice (some ⟨g7, 0, none⟩) xs.length xs.length)).setCell ⟨g8, 1, none⟩ (.slice (some ⟨gd6, 0, none⟩) xs.length cd6))) := below_setCell (below_setCell B8.out eX _) eX _
          refine hK.out _ _ BF (fun _ => ?_)
          clear hK K
          refine wpAnyH_done (by kernel_rfl) ?_ _
          refine NoPanic.normal ?_
          exact hK1 g7 g8 gd6 cd6 ds6 _ nRX nDX nRD ok6 (own_other fR8.out hoth nRX) (own_other fD8.out hoth nDX) hfin BF
      · go_simp
        have B9 : Hid (Below W0.heap.size W0 (x6.alloc (.cells #[.slice none 0 0, .slice none 0 0] 126))) := bal B6.out _
        refine hK.out _ _ B9 (fun _ => ?_)
        clear hK K
        obtain ⟨g9, q9⟩ : ∃ g, x6.heap.size = g := ⟨_, rfl⟩
        have f9 : Hid ((x6.alloc (.cells #[.slice none 0 0, .slice none 0 0] 126)).heap[g9]? = some (.cells #[.slice none 0 0, .slice none 0 0] 126 (0, 0))) := by rw [← q9]; exact World.alloc_heap_new _ _
        have l9 : g9 < (x6.alloc (.cells #[.slice none 0 0, .slice none 0 0] 126)).heap.size := by rw [← q9]; simp
        have e9 : W0.heap.size ≤ g9 := by rw [← q9]; exact B6.out.size
        have fD9 : Hid (Own64 (x6.alloc (.cells #[.slice none 0 0, .slice none 0 0] 126)) W0.heap.size (.slice (some ⟨gd6, 0, none⟩) xs.length cd6) ds6) := o6'.out.alloc _
        have lD9 : gd6 < (x6.alloc (.cells #[.slice none 0 0, .slice none 0 0] 126)).heap.size := Nat.lt_trans (by rw [← q9]; exact lt6) l9
        have nD9 : gd6 ≠ g9 := by have := lt6; omega
        rw [q9]
        clear q9
        generalize (x6.alloc (.cells #[.slice none 0 0, .slice none 0 0] 126)) = x9 at *
        refine wpAnyH_ready (rs := [2]) (by kernel_rfl) (by simp) ?_
        refine AllReadyH.cons rfl (fun K hK => ?_) AllReadyH.nil
        · go_simp
          have B10 : Hid (Below W0.heap.size W0 (x9.alloc (.cells (madeCells #[.int .i64 0] xs.length) 2))) := bal B9.out _
          refine hK.out _ _ B10 (fun _ => ?_)
          clear hK K
          try simp only [Act.put, List.setIfInBounds_toArray, List.set_cons_zero, List.set_cons_succ]
          obtain ⟨g10, q10⟩ : ∃ g, x9.heap.size = g := ⟨_, rfl⟩
          have f10 : Hid (Own64 (x9.alloc (.cells (madeCells #[.int .i64 0] xs.length) 2)) W0.heap.size (.slice (some ⟨g10, 0, none⟩) xs.length xs.length) (List.replicate xs.length 0)) := by rw [← q10]; exact own64_made B9.out.size (by unfold maxLen; omega)
          have l10 : g10 < (x9.alloc (.cells (madeCells #[.int .i64 0] xs.length) 2)).heap.size := by rw [← q10]; simp
          have e10 : W0.heap.size ≤ g10 := by rw [← q10]; exact B9.out.size
          have fX10 : Hid ((x9.alloc (.cells (madeCells #[.int .i64 0] xs.length) 2)).heap[g9]? = some (.cells #[.slice none 0 0, .slice none 0 0] 126 (0, 0))) := (Below.heap_alloc _ _ _ l9).trans f9.out
          have lX10 : g9 < (x9.alloc (.cells (madeCells #[.int .i64 0] xs.length) 2)).heap.size := Nat.lt_trans (by rw [← q10]; exact l9) l10
          have nX10 : g9 ≠ g10 := by have := l9; omega
          have fD10 : Hid (Own64 (x9.alloc (.cells (madeCells #[.int .i64 0] xs.length) 2)) W0.heap.size (.slice (some ⟨gd6, 0, none⟩) xs.length cd6) ds6) := fD9.out.alloc _
          have lD10 : gd6 < (x9.alloc (.cells (madeCells #[.int .i64 0] xs.length) 2)).heap.size := Nat.lt_trans (by rw [← q10]; exact lD9) l10
          have nD10 : gd6 ≠ g10 := by have := lD9; omega
          rw [q10]
          clear q10
          generalize (x9.alloc (.cells (madeCells #[.int .i64 0] xs.length) 2)) = x10 at *
          refine takeE 5 (some 15) (.agg #[.slice (some ⟨g10, 0, none⟩) xs.length xs.length, .slice (some ⟨gd6, 0, none⟩) xs.length cd6]) rfl rfl (by kernel_rfl) (by kernel_rfl) (by kernel_rfl) (fun _ _ _ h => h) (by rfl) (by intro W hSw; go_simp) B10 ?_
          try simp only [Act.put, List.setIfInBounds_toArray, List.set_cons_zero, List.set_cons_succ]
          obtain ⟨e0, e1, p0, p1, hfin, hoth⟩ := boxStore fX10.out (.slice (some ⟨g10, 0, none⟩) xs.length xs.length) (.slice (some ⟨gd6, 0, none⟩) xs.length cd6)
          have nRX : g10 ≠ g9 := by omega
          have nDX : gd6 ≠ g9 := by omega
          have nRD : g10 ≠ gd6 := by omega
          have eX : W0.heap.size ≤ g9 := by omega
          refine wpAnyH_ready (rs := [7]) (by kernel_rfl) (by simp) ?_
          refine AllReadyH.cons rfl (fun K hK => ?_) AllReadyH.nil
          go_simp
          have BF : Hid (Below W0.heap.size W0 ((x10.setCell ⟨g9, 0, none⟩ (.slice (some ⟨g10, 0, none⟩) xs.length xs.length)).setCell ⟨g9, 1, none⟩ (.slice (some ⟨gd6, 0, none⟩) xs.length cd6))) := below_setCell (below_setCell B10.out eX _) eX _
          refine hK.out _ _ BF (fun _ => ?_)
          clear hK K
          refine wpAnyH_done (by kernel_rfl) ?_ _
          refine NoPanic.normal ?_
          exact hK1 g10 g9 gd6 cd6 ds6 _ nRX nDX nRD ok6 (own_other f10.out hoth nRX) (own_other fD10.out hoth nDX) hfin BF
    · go_simp
      have B11 : Hid (Below W0.heap.size W0 (x0.alloc (.cells #[.slice none 0 0, .slice none 0 0] 126))) := bal hB.out _
      refine hK.out _ _ B11 (fun _ => ?_)
      clear hK K
      obtain ⟨g11, q11⟩ : ∃ g, x0.heap.size = g := ⟨_, rfl⟩
      have f11 : Hid ((x0.alloc (.cells #[.slice none 0 0, .slice none 0 0] 126)).heap[g11]? = some (.cells #[.slice none 0 0, .slice none 0 0] 126 (0, 0))) := by rw [← q11]; exact World.alloc_heap_new _ _
      have l11 : g11 < (x0.alloc (.cells #[.slice none 0 0, .slice none 0 0] 126)).heap.size := by rw [← q11]; simp
      have e11 : W0.heap.size ≤ g11 := by rw [← q11]; exact hB.out.size
      rw [q11]
      clear q11
      generalize (x0.alloc (.cells #[.slice none 0 0, .slice none 0 0] 126)) = x11 at *
      refine wpAnyH_ready (rs := [2, 4]) (by kernel_rfl) (by simp) ?_
      refine AllReadyH.cons rfl (fun K hK => ?_) (AllReadyH.cons rfl (fun K hK => ?_) AllReadyH.nil)
      · go_simp
        have B12 : Hid (Below W0.heap.size W0 (x11.alloc (.cells (madeCells #[.int .i64 0] xs.length) 2))) := bal B11.out _
        refine hK.out _ _ B12 (fun _ => ?_)
        clear hK K
        try simp only [Act.put, List.setIfInBounds_toArray, List.set_cons_zero, List.set_cons_succ]
        obtain ⟨g12, q12⟩ : ∃ g, x11.heap.size = g := ⟨_, rfl⟩
        have f12 : Hid (Own64 (x11.alloc (.cells (madeCells #[.int .i64 0] xs.length) 2)) W0.heap.size (.slice (some ⟨g12, 0, none⟩) xs.length xs.length) (List.replicate xs.length 0)) := by rw [← q12]; exact own64_made B11.out.size (by unfold maxLen; omega)
        have l12 : g12 < (x11.alloc (.cells (madeCells #[.int .i64 0] xs.length) 2)).heap.size := by rw [← q12]; simp
        have e12 : W0.heap.size ≤ g12 := by rw [← q12]; exact B11.out.size
        have fX12 : Hid ((x11.alloc (.cells (madeCells #[.int .i64 0] xs.length) 2)).heap[g11]? = some (.cells #[.slice none 0 0, .slice none 0 0] 126 (0, 0))) := (Below.heap_alloc _ _ _ l11).trans f11.out
        have lX12 : g11 < (x11.alloc (.cells (madeCells #[.int .i64 0] xs.length) 2)).heap.size := Nat.lt_trans (by rw [← q12]; exact l11) l12
        have nX12 : g11 ≠ g12 := by have := l11; omega
        rw [q12]
        clear q12
        generalize (x11.alloc (.cells (madeCells #[.int .i64 0] xs.length) 2)) = x12 at *
        refine wpAnyH_ready (rs := [4]) (by kernel_rfl) (by simp) ?_
        refine AllReadyH.cons rfl (fun K hK => ?_) AllReadyH.nil
        · go_simp
          go_at_call 87
          refine (HD.out _ B12).mono ?_
          rintro e x13 ⟨A13, cd13, ds13, rfl, ok13, o13, b13⟩
          obtain ⟨gd13, rfl, ge13, lt13⟩ := own_headT o13.out (by omega)
          go_wp2_with fail
          have B13 : Hid (Below W0.heap.size W0 x13) := btr B12.out b13.out
          have fR13 : Hid (Own64 x13 W0.heap.size (.slice (some ⟨g12, 0, none⟩) xs.length xs.length) (List.replicate xs.length 0)) := own_be f12.out b13.out
          have lR13 : g12 < x13.heap.size := Nat.lt_of_lt_of_le l12 b13.out.size
          have nR13 : g12 ≠ gd13 := by omega
          have fX13 : Hid (x13.heap[g11]? = some (.cells #[.slice none 0 0, .slice none 0 0] 126 (0, 0))) := (b13.out.block _ lX12).trans fX12.out
          have lX13 : g11 < x13.heap.size := Nat.lt_of_lt_of_le lX12 b13.out.size
          have nX13 : g11 ≠ gd13 := by omega
          have o13' : Hid (Own64 x13 W0.heap.size (.slice (some ⟨gd13, 0, none⟩) xs.length cd13) ds13) := own_mono o13.out B12.out.size
          refine hK.out _ _ B13 (fun _ => ?_)
          clear hK K
          try simp only [Act.put, List.setIfInBounds_toArray, List.set_cons_zero, List.set_cons_succ]
          refine takeE 5 (some 15) (.agg #[.slice (some ⟨g12, 0, none⟩) xs.length xs.length, .slice (some ⟨gd13, 0, none⟩) xs.length cd13]) rfl rfl (by kernel_rfl) (by kernel_rfl) (by kernel_rfl) (fun _ _ _ h => h) (by rfl) (by intro W hSw; go_simp) B13 ?_
          try simp only [Act.put, List.setIfInBounds_toArray, List.set_cons_zero, List.set_cons_succ]
          obtain ⟨e0, e1, p0, p1, hfin, hoth⟩ := boxStore fX13.out (.slice (some ⟨g12, 0, none⟩) xs.length xs.length) (.slice (some ⟨gd13, 0, none⟩) xs.length cd13)
          have nRX : g12 ≠ g11 := by omega
          have nDX : gd13 ≠ g11 := by omega
          have nRD : g12 ≠ gd13 := by omega
          have eX : W0.heap.size ≤ g11 := by omega
          refine wpAnyH_ready (rs := [7]) (by kernel_rfl) (by simp) ?_
          refine AllReadyH.cons rfl (fun K hK => ?_) AllReadyH.nil
          go_simp
          have BF : Hid (Below W0.heap.size W0 ((x13.setCell ⟨g11, 0, none⟩ (.slice (some ⟨g12, 0, none⟩) xs.length xs.length)).setCell ⟨g11, 1, none⟩ (.slice (some ⟨gd13, 0, none⟩) xs.length cd13))) := below_setCell (below_setCell B13.out eX _) eX _
          refine hK.out _ _ BF (fun _ => ?_)
          clear hK K
          refine wpAnyH_done (by kernel_rfl) ?_ _
          refine NoPanic.normal ?_
          exact hK1 g12 g11 gd13 cd13 ds13 _ nRX nDX nRD ok13 (own_other fR13.out hoth nRX) (own_other o13'.out hoth nDX) hfin BF
      · go_simp
        go_at_call 87
        refine (HD.out _ B11).mono ?_
        rintro e x14 ⟨A14, cd14, ds14, rfl, ok14, o14, b14⟩
        obtain ⟨gd14, rfl, ge14, lt14⟩ := own_headT o14.out (by omega)
        go_wp2_with fail
        have B14 : Hid (Below W0.heap.size W0 x14) := btr B11.out b14.out
        have fX14 : Hid (x14.heap[g11]? = some (.cells #[.slice none 0 0, .slice none 0 0] 126 (0, 0))) := (b14.out.block _ l11).trans f11.out
        have lX14 : g11 < x14.heap.size := Nat.lt_of_lt_of_le l11 b14.out.size
        have nX14 : g11 ≠ gd14 := by omega
        have o14' : Hid (Own64 x14 W0.heap.size (.slice (some ⟨gd14, 0, none⟩) xs.length cd14) ds14) := own_mono o14.out B11.out.size
        refine hK.out _ _ B14 (fun _ => ?_)
        clear hK K
        try simp only [Act.put, List.setIfInBounds_toArray, List.set_cons_zero, List.set_cons_succ]
        refine wpAnyH_ready (rs := [2]) (by kernel_rfl) (by simp) ?_
        refine AllReadyH.cons rfl (fun K hK => ?_) AllReadyH.nil
        · go_simp
          have B15 : Hid (Below W0.heap.size W0 (x14.alloc (.cells (madeCells #[.int .i64 0] xs.length) 2))) := bal B14.out _
          refine hK.out _ _ B15 (fun _ => ?_)
          clear hK K
          try simp only [Act.put, List.setIfInBounds_toArray, List.set_cons_zero, List.set_cons_succ]
          obtain ⟨g15, q15⟩ : ∃ g, x14.heap.size = g := ⟨_, rfl⟩
          have f15 : Hid (Own64 (x14.alloc (.cells (madeCells #[.int .i64 0] xs.length) 2)) W0.heap.size (.slice (some ⟨g15, 0, none⟩) xs.length xs.length) (List.replicate xs.length 0)) := by rw [← q15]; exact own64_made B14.out.size (by unfold maxLen; omega)
          have l15 : g15 < (x14.alloc (.cells (madeCells #[.int .i64 0] xs.length) 2)).heap.size := by rw [← q15]; simp
          have e15 : W0.heap.size ≤ g15 := by rw [← q15]; exact B14.out.size
          have fX15 : Hid ((x14.alloc (.cells (madeCells #[.int .i64 0] xs.length) 2)).heap[g11]? = some (.cells #[.slice none 0 0, .slice none 0 0] 126 (0, 0))) := (Below.heap_alloc _ _ _ lX14).trans fX14.out
          have lX15 : g11 < (x14.alloc (.cells (madeCells #[.int .i64 0] xs.length) 2)).heap.size := Nat.lt_trans (by rw [← q15]; exact lX14) l15
          have nX15 : g11 ≠ g15 := by have := lX14; omega
          have fD15 : Hid (Own64 (x14.alloc (.cells (madeCells #[.int .i64 0] xs.length) 2)) W0.heap.size (.slice (some ⟨gd14, 0, none⟩) xs.length cd14) ds14) := o14'.out.alloc _
          have lD15 : gd14 < (x14.alloc (.cells (madeCells #[.int .i64 0] xs.length) 2)).heap.size := Nat.lt_trans (by rw [← q15]; exact lt14) l15
          have nD15 : gd14 ≠ g15 := by have := lt14; omega
          rw [q15]
          clear q15
          generalize (x14.alloc (.cells (madeCells #[.int .i64 0] xs.length) 2)) = x15 at *
          refine takeE 5 (some 15) (.agg #[.slice (some ⟨g15, 0, none⟩) xs.length xs.length, .slice (some ⟨gd14, 0, none⟩) xs.length cd14]) rfl rfl (by kernel_rfl) (by kernel_rfl) (by kernel_rfl) (fun _ _ _ h => h) (by rfl) (by intro W hSw; go_simp) B15 ?_
          try simp only [Act.put, List.setIfInBounds_toArray, List.set_cons_zero, List.set_cons_succ]
          obtain ⟨e0, e1, p0, p1, hfin, hoth⟩ := boxStore fX15.out (.slice (some ⟨g15, 0, none⟩) xs.length xs.length) (.slice (some ⟨gd14, 0, none⟩) xs.length cd14)
          have nRX : g15 ≠ g11 := by omega
          have nDX : gd14 ≠ g11 := by omega
          have nRD : g15 ≠ gd14 := by omega
          have eX : W0.heap.size ≤ g11 := by omega
          refine wpAnyH_ready (rs := [7]) (by kernel_rfl) (by simp) ?_
          refine AllReadyH.cons rfl (fun K hK => ?_) AllReadyH.nil
          go_simp
          have BF : Hid (Below W0.heap.size W0 ((x15.setCell ⟨g11, 0, none⟩ (.slice (some ⟨g15, 0, none⟩) xs.length xs.length)).setCell ⟨g11, 1, none⟩ (.slice (some ⟨gd14, 0, none⟩) xs.length cd14))) := below_setCell (below_setCell B15.out eX _) eX _
          refine hK.out _ _ BF (fun _ => ?_)
          clear hK K
          refine wpAnyH_done (by kernel_rfl) ?_ _
          refine NoPanic.normal ?_
          exact hK1 g15 g11 gd14 cd14 ds14 _ nRX nDX nRD ok14 (own_other f15.out hoth nRX) (own_other fD15.out hoth nDX) hfin BF
  intro gR gB gd cd ds wx nRX nDX nRD hok hoR hoD hbox hbx
  clear hmk HD d0
  have bG : Hid (Boxed wx w.heap.size 22 (.slice (some ⟨b, off, none⟩) xs.length c)) := boxed_be bG0.out hbx.out
  have cG := bG.out.cell
  gi_wp2_with (refine ⟨trivial, ?_⟩; gi_at_call 119; refine (backIn 4 (some ⟨b, off, none⟩) xs.length c _).mono ?_; rintro e w' ⟨rfl, rfl⟩)
  obtain ⟨V0, hV0⟩ : ∃ V0, V0 = wx.alloc (.cells #[.slice (some ⟨b, off, none⟩) xs.length c] 22) := ⟨_, rfl⟩
  have hT0 : TdI w W0 b off c xs.length gR gB gd cd ds wx (M.tdRow xs ds xs.length) := by
    rw [M.tdRow_start]; exact ⟨by simp, hoR.out, hoD.out, hbox.out, bG.out, hbx.out⟩
  have hTV : TdI w W0 b off c xs.length gR gB gd cd ds V0 (M.tdRow xs ds (xs.length - ([] : List Nat).length)) := by rw [hV0]; exact hT0.kept (World.grownBy_alloc wx _ none) (fun r e => by cases e)
  have bB : Boxed V0 wx.heap.size 22 (.slice (some ⟨b, off, none⟩) xs.length c) := by rw [hV0]; exact Boxed.new _ _ _
  have hsV : V0.heap.size = wx.heap.size + 1 := by rw [hV0]; simp
  have hIx : Ints wx wx.heap.size (some ⟨b, off, none⟩) xs := (hI.out.be hB0.out).be hbx.out
  have hIV : Ints V0 wx.heap.size (some ⟨b, off, none⟩) xs := by rw [hV0]; exact hIx.alloc (Nat.le_refl _) _
  have ltR := World.ownsRow.lt hoR.out gR rfl
  have ltD := World.ownsRow.lt hoD.out gd rfl
  have ltB : gB < wx.heap.size := (Array.getElem?_eq_some_iff.1 hbox.out).1
  have ltx := hbx.out.size
  have HI0 : Hid (Ints W0 W0.heap.size (some ⟨b, off, none⟩) xs) := hI.out.be hB0.out
  clear hIx hT0 cG bG hoR hoD hbox bG0
  rw [← hV0]
  clear hV0 hbx
  obtain ⟨Bb, hBb⟩ : ∃ Bb, wx.heap.size = Bb := ⟨_, rfl⟩
  rw [hBb] at ltR ltD ltB bB hsV hIV ltx ⊢
  clear hBb
  have h15 : 1 ≤ 5 := by omega
  refine wpIn_rangeRows rfl h15 (gf := 154) (lb := #[.pointer (some ⟨Bb, 0, none⟩)]) rfl trivial (enters_of Try.func154 (by kernel_rfl) rfl)
    (back_rowsK (fun k => #[.int .i64 ((xs.length - 1 - k : Nat) : Int), .int .i64 (xs[xs.length - 1 - k]?.getD 0)]) 4 (by omega) Bb Bb (some ⟨b, off, none⟩) xs c (by omega) (fun k v x hk hv => by rw [show xs.length - 1 - k = v by omega, hv]; rfl) V0 (OkP Bb Bb (some ⟨b, off, none⟩) xs c) (fun _ h => h) (fun h k p => k (h p)) (fun W W' hb hk => hk ⟨(hb.block _ (by omega)).trans bB, hIV.below hb (by omega)⟩))
    (Below.refl _ _) (fun h k p => k (h p))
    (fun W r r' h => okP_grown (grownBy_putObj' W _ _) (fun e => by injection e with e; omega) (fun e => by injection e with e; omega)) (fun _ => rfl)
    (fun pre W => TdI w W0 b off c xs.length gR gB gd cd ds W (M.tdRow xs ds (xs.length - pre.length)))
    (fun _ _ _ => False)
    (fun pre X Y r' h hg hr => h.kept hg (fun r e => by have := hr r e; omega))
    (fun _ _ _ _ _ h _ _ => h)
    (fun _ _ _ _ h _ _ => h)
    hTV
    (fun x => { tmps := #[.slice (some ⟨b, off, none⟩) xs.length c, .pointer (some ⟨w.heap.size, 0, none⟩), .slice none 0 0, .pointer (some ⟨gB, 0, none⟩), .int .i64 ((xs.length - 1 - x : Nat) : Int), undef, undef, undef, undef, undef, .slice (some ⟨b, off, none⟩) xs.length c, .int .i64 xs.length, .slice (some ⟨gR, 0, none⟩) xs.length xs.length, .slice (some ⟨b, off, none⟩) xs.length c, .slice (some ⟨gd, 0, none⟩) xs.length cd, .agg #[.slice (some ⟨gR, 0, none⟩) xs.length xs.length, .slice (some ⟨gd, 0, none⟩) xs.length cd], .slice (some ⟨b, off, none⟩) xs.length c, .func (.func 154) #[] #[.pointer (some ⟨Bb, 0, none⟩)], .int .i64 ((xs.length - 1 - x : Nat) : Int), .int .i64 (xs[xs.length - 1 - x]?.getD 0), undef, undef, undef, undef, undef, undef, undef, undef, undef, undef, undef, undef, undef, undef, undef, undef, undef, undef, undef, undef, undef, undef, undef, undef, undef, undef, undef, undef, undef, undef, undef, undef, undef, undef, undef, undef, undef, undef, undef, undef, undef, undef, undef, undef, undef, undef, undef, undef, undef], defers := [] }) ?assign ?body ?done ?stop
  case assign =>
    intro l x W K hK
    gi_wp2
    exact hK
  case body =>
    rintro l pre x W hinv ⟨hpre, hlt⟩
    subst hpre
    rw [List.length_range] at hinv
    obtain ⟨v, hv⟩ : ∃ v, v + 1 + x = xs.length := ⟨xs.length - 1 - x, by omega⟩
    rw [show xs.length - x = v + 1 by omega] at hinv
    obtain ⟨d, hd, hd24⟩ := M.tree_degN ht.out (v := v) (by omega)
    rw [show xs.length - 1 - x = v by omega, hd, Option.getD_some]
    have Hd := Lib.hid hd
    clear hd
    have cG := hinv.cells.1
    have HW0 := hinv.be
    have hIW : Ints W W.heap.size (some ⟨b, off, none⟩) xs := HI0.out.be HW0
    have HC := Lib.hid (childrenIn (some ⟨b, off, none⟩) xs c v d W hx hcl (by omega) ht Hd hIW)
    have HT := Lib.hid hinv
    have zW := HW0.size
    clear hinv HW0 hIW
    have hpost : Hid (∀ W' R', W.grownBy W' (some gR) → TdI w W0 b off c xs.length gR gB gd cd ds W' R' → R' = M.tdRow xs ds v → KeepsFrom V0.heap.size W W' ∧ OkP Bb Bb (some ⟨b, off, none⟩) xs c W W' ∧ TdI w W0 b off c xs.length gR gB gd cd ds W' (M.tdRow xs ds (xs.length - (List.range x ++ [x]).length))) := fun W' R' hg hT hR => by
      subst hR
      rw [List.length_append, List.length_range, List.length_singleton, show xs.length - (x + 1) = v by omega]
      exact ⟨keepsFrom_grown hg (by omega), okP_grown hg (fun e => by injection e with e; omega) (fun e => by injection e with e; omega), hT⟩
    rcases Nat.eq_zero_or_pos d with h0 | h0
    · subst h0
      gi_wp2_with (refine ⟨trivial, ?_⟩; gi_at_call 120; refine (CallsIn.inRound l (callsIn_wide.2 HC.out)).mono ?_; rintro e W2 ⟨Ac, cc, rfl, ho, hb⟩)
      exact hpost.out W2 _ (grown_beT hb _) (HT.out.below hb) (M.tdRow_leaf ht.out Hd.out)
    · have hde : (0 : Int) < (d : Int) := by omega
      have hd1 : Hid ((M.childs xs v d)[0]? = some (M.kidAt xs v 0 : Int)) := M.childs_at xs v h0
      have hcl2 : Hid ((M.childs xs v d).length = d) := M.childs_length xs v _
      gi_wp2_with (refine ⟨trivial, ?_⟩; gi_at_call 120; refine (CallsIn.inRound l (callsIn_wide.2 HC.out)).mono ?_; rintro e W2 ⟨Ac, cc, rfl, ho, hb⟩; obtain ⟨gc, rfl, gc1, gc2⟩ := own_headT ho h0; have hcap : d ≤ cc := (own_caps ho).1; have cc0 := (own64_cell ho hcl2.out hd1.out).1; have Ho := Lib.hid ho; have HB2 := Lib.hid hb; have HT2 := Lib.hid (HT.out.below hb); clear ho hb)
      all_goals
        have HG0 : Hid (W2.grownBy W2 (some gR)) := grown_beT (Below.refl _ _) _
        have HM0 : Hid (TdI w W0 b off c xs.length gR gB gd cd ds W2 (M.tdMid xs ds v (0 + 1))) := by rw [M.tdMid_one ht.out Hd.out h0]; exact HT2.out
        have hgR : gR < W.heap.size := (World.ownsRow.lt HT.out.oR gR rfl).2
        gi_loopw [8, 9, 32] (fun _ _ i wr => ∃ k : Nat, k + 1 ≤ d ∧ i = .int .i64 (k : Int) ∧ Hid (W2.grownBy wr (some gR)) ∧ Hid (TdI w W0 b off c xs.length gR gB gd cd ds wr (M.tdMid xs ds v (k + 1)))) (fun _ _ i _ => d - (intOf i).toNat)
        case atStart => exact ⟨0, by omega, rfl, HG0, HM0⟩
        clear HG0 HM0
        obtain ⟨k, hk, rfl, hg, hT⟩ := hrel
        by_cases hlt2 : k + 1 < d
      · omega
      · subst h
        have hkd : k + 1 = d := by omega
        have hkn : ¬ (k : Int) < ((d - 1 : Nat) : Int) := by omega
        have Hd2 : Hid (xs[v]? = some ((k + 1 : Nat) : Int)) := by rw [hkd]; exact Hd.out
        obtain ⟨x1, y1, r1, r2, a1, a2, a3, a4, hset⟩ := M.tdMid_root ht.out hok.out Hd2.out
        have R1 := Lib.hid r1
        have R2 := Lib.hid r2
        have Hset := Lib.hid hset
        clear r1 r2 hset
        have ho2 : Own64 wr W.heap.size (.slice (some ⟨gc, 0, none⟩) d 1) (M.childs xs v d) := Ho.out.kept hg.out (.inr fun e => by injection e with e; have e2 : gc = gR := e; omega)
        have hlm : Hid ((M.tdMid xs ds v (k + 1)).length = xs.length) := hT.out.len
        have hhb := M.half_bounds (n := x1 + y1) (a := -46) (b := 46) (by omega) (by omega)
        obtain ⟨z0, hz0⟩ : ∃ z, (M.tdMid xs ds v (k + 1))[v]? = some z := ⟨_, List.getElem?_eq_getElem (by rw [hlm.out]; omega)⟩
        obtain ⟨cv, fv, _, lv⟩ := own64_cell hT.out.oR hlm.out hz0
        have cB : wr.cell? ⟨gB, 0, none⟩ = some (.slice (some ⟨gR, 0, none⟩) xs.length xs.length) := hT.out.cells.2.1
        have hbd2 : Hid ((M.childs xs v d)[d - 1]? = some (M.kidAt xs v k : Int)) := by rw [show d - 1 = k by omega]; exact M.childs_at xs v (by omega)
        have HA := Lib.hid (columnAbove (some ⟨gR, 0, none⟩) (some ⟨gc, 0, none⟩) (M.tdMid xs ds v (k + 1)) (M.childs xs v d) xs.length xs.length d 1 _ _ x1 y1 wr.drew (by omega) h0 (by omega) (ints_of_own64 hT.out.oR) (ints_of_own64 ho2) hlm hcl2 hd1 hbd2 R1 R2 (by omega) (by omega) (by omega) (by omega))
        have hFin : Hid (∀ k', W.grownBy ((wr.drewN k').setCell ⟨gR, v, none⟩ (.int .i64 (M.half (x1 + y1)))) (some gR) ∧ TdI w W0 b off c xs.length gR gB gd cd ds ((wr.drewN k').setCell ⟨gR, v, none⟩ (.int .i64 (M.half (x1 + y1)))) (M.tdRow xs ds v)) := fun k' => by
          have hb3 : Below wr.heap.size wr (wr.drewN k') := below_drewN (Below.refl _ _) k'
          have hT3 := hT.out.below hb3
          have hg3 : (wr.drewN k').grownBy ((wr.drewN k').setCell ⟨gR, v, none⟩ (.int .i64 (M.half (x1 + y1)))) (some gR) := grown_set (grown_beT (Below.refl _ _) _) v _
          have ho3 := own64_set hT3.oR hlm.out v (M.half (x1 + y1))
          rw [Hset.out] at ho3
          exact ⟨(((grown_beT HB2.out _).trans hg.out).trans (grown_beT hb3 _)).trans hg3, hT3.grown hg3 nRD.symm nRX.symm hs0 ho3 (M.tdRow_len ht.out hok.out (by omega))⟩
        have hvi : (v : Int) < (xs.length : Int) := by omega
        have hv0 : (0 : Int) ≤ (v : Int) := by omega
        have hmix : Try.prog.follows .mixedOrders = true := by kernel_rfl
        have hne : gR ≠ gB := nRX
        clear hT ho2 hz0 hhb Hset R1 R2 HC HT2 Ho
        generalize M.half (x1 + y1) = Z at *
        gi_wp2
        refine region_round (S := fun w' => w'.cell? ⟨gB, 0, none⟩ = some (.slice (some ⟨gR, 0, none⟩) xs.length xs.length)) hmix (noDefer_of (by kernel_rfl)) (fun ⟨_, _, h⟩ => h) ?_
        have hH0 : wr.drew.cell? ⟨gB, 0, none⟩ = some (.slice (some ⟨gR, 0, none⟩) xs.length xs.length) := cB
        refine takeE 0 (some 53) (.pointer (some ⟨gB, 0, none⟩)) rfl rfl (by kernel_rfl) (by kernel_rfl) (by kernel_rfl) (fun _ _ _ h => h) (by rfl) (by intro W hSw; (try dsimp only at hSw); go_simp) (by assumption) ?_
        try simp only [Act.put, List.setIfInBounds_toArray, List.set_cons_zero, List.set_cons_succ]
        refine takeE 1 (some 54) (.slice (some ⟨gR, 0, none⟩) xs.length xs.length) rfl rfl (by kernel_rfl) (by kernel_rfl) (by kernel_rfl) (fun _ _ _ h => h) (by rfl) (by intro W hSw; (try dsimp only at hSw); go_simp) (by assumption) ?_
        try simp only [Act.put, List.setIfInBounds_toArray, List.set_cons_zero, List.set_cons_succ]
        refine takeE 2 (some 55) (.int .i64 (v : Int)) rfl rfl (by kernel_rfl) (by kernel_rfl) (by kernel_rfl) (fun _ _ _ h => h) (by rfl) (by intro W hSw; (try dsimp only at hSw); go_simp) (by assumption) ?_
        try simp only [Act.put, List.setIfInBounds_toArray, List.set_cons_zero, List.set_cons_succ]
        refine takeE 3 (some 56) (.pointer (some ⟨gB, 0, none⟩)) rfl rfl (by kernel_rfl) (by kernel_rfl) (by kernel_rfl) (fun _ _ _ h => h) (by rfl) (by intro W hSw; (try dsimp only at hSw); go_simp) (by assumption) ?_
        try simp only [Act.put, List.setIfInBounds_toArray, List.set_cons_zero, List.set_cons_succ]
        refine takeE 4 (some 57) (.slice (some ⟨gR, 0, none⟩) xs.length xs.length) rfl rfl (by kernel_rfl) (by kernel_rfl) (by kernel_rfl) (fun _ _ _ h => h) (by rfl) (by intro W hSw; (try dsimp only at hSw); go_simp) (by assumption) ?_
        try simp only [Act.put, List.setIfInBounds_toArray, List.set_cons_zero, List.set_cons_succ]
        refine takeE 5 (some 58) (.slice (some ⟨gc, 0, none⟩) d 1) rfl rfl (by kernel_rfl) (by kernel_rfl) (by kernel_rfl) (fun _ _ _ h => h) (by rfl) (by intro W hSw; (try dsimp only at hSw); go_simp) (by assumption) ?_
        try simp only [Act.put, List.setIfInBounds_toArray, List.set_cons_zero, List.set_cons_succ]
        refine wpAnyH_ready (rs := [6]) (by kernel_rfl) (by simp) ?_
        refine AllReadyH.cons rfl (fun K hK => ?_) AllReadyH.nil
        go_simp
        go_at_call 121
        refine HA.out.mono ?_
        rintro e W3 ⟨rfl, kk, rfl⟩
        go_wp2_with fail
        have hH1 : (wr.drew.drewN kk).cell? ⟨gB, 0, none⟩ = some (.slice (some ⟨gR, 0, none⟩) xs.length xs.length) := cB
        have cv3 : (wr.drew.drewN kk).cell? ⟨gR, v, none⟩ = some (.int .i64 z0) := cv
        have fv3 : (wr.drew.drewN kk).frozen? ⟨gR, v, none⟩ = false := fv
        refine hK.out _ _ hH1 (fun hHeld => ?_)
        clear hK K hHeld
        try simp only [Act.put, List.setIfInBounds_toArray, List.set_cons_zero, List.set_cons_succ]
        refine takeE 7 (some 60) (.pointer (some ⟨gR, v, none⟩)) rfl rfl (by kernel_rfl) (by kernel_rfl) (by kernel_rfl) (fun _ _ _ h => h) (by rfl) (by intro W hSw; (try dsimp only at hSw); go_simp) (by assumption) ?_
        try simp only [Act.put, List.setIfInBounds_toArray, List.set_cons_zero, List.set_cons_succ]
        refine wpAnyH_ready (rs := [8]) (by kernel_rfl) (by simp) ?_
        refine AllReadyH.cons rfl (fun K hK => ?_) AllReadyH.nil
        go_simp
        refine hK.out _ _ ?_ (fun hHeld => ?_)
        · exact (World.cell?_setCell_far _ _ _ _ hne).trans hH1
        clear hK K hHeld
        refine wpAnyH_done (by kernel_rfl) ?_ _
        gi_wp2
        exact hpost.out _ _ (hFin.out (1 + kk)).1 (hFin.out (1 + kk)).2 rfl
      · obtain ⟨p, hp⟩ : ∃ p, M.kidAt xs v (k + 1) = p := ⟨_, rfl⟩
        have hch := M.childs_at xs v hlt2
        rw [hp] at hch
        have ho2 : Own64 wr W.heap.size (.slice (some ⟨gc, 0, none⟩) d cc) (M.childs xs v d) := Ho.out.kept hg.out (.inr fun e => by injection e with e; have e2 : gc = gR := e; omega)
        have ck := (own64_cell ho2 hcl2.out hch).1
        rw [Nat.add_comm] at ck
        have hk1 : (k : Int) < ((d - 1 : Nat) : Int) := by omega
        have hk0 : (0 : Int) ≤ (k : Int) := by omega
        gi_wp2
        rename_i K2 hK2
        obtain ⟨S, hS⟩ : ∃ S, M.span 1 (xs.drop p) = S := ⟨_, rfl⟩
        have hkl := M.kid_lt ht.out Hd.out (i := k + 1) (by omega)
        rw [hp] at hkl
        have hSp := M.span_pos hkl
        have hSl := M.span_le (xs.drop p) 1
        rw [hS] at hSp hSl
        rw [List.length_drop] at hSl
        have hvp : v + 1 < p := by
          have h1 := M.tdP_good ht.out hok.out Hd.out (j := k + 1) (by omega)
          have h2 := (h1.2.1 (by omega)).1
          omega
        obtain ⟨q, hq⟩ : ∃ q, p + S = q := ⟨_, rfl⟩
        have hqi : (p : Int) + (S : Int) = (q : Int) := by omega
        have hwq : IntKind.i64.wrap ((p : Int) + (S : Int)) = (q : Int) := by rw [hqi]; exact IntWalk.i64_in _ (by omega)
        clear hqi
        have hcd : xs.length ≤ cd := (own_caps hT.out.oD).1
        have cGr := hT.out.cells.1
        have lG : w.heap.size < wr.heap.size := by have := hT.out.be.size; omega
        have hBR : gB ≠ gR := nRX.symm
        have hIr : Ints wr wr.heap.size (some ⟨b, off, none⟩) xs := HI0.out.be hT.out.be
        have HIr := Lib.hid hIr
        have hsk := Lib.hid (M.tree_ok ht.out hkl)
        have hS' : Hid (M.span 1 (xs.drop p) = S) := hS
        have HSz : Hid (∀ W', Hid (Below wr.heap.size wr W') → Calls Try.prog 80 #[.slice (some ⟨b, off, none⟩) xs.length c, .int .i64 (p : Int)] W' fun e w' => e = .returned (.int .i64 (S : Int)) ∧ W' = w') := fun W' hb => sizeAt _ xs c p S W' hS' hx hcl (by omega) hsk (HIr.out.be hb.out)
        have HBt : Hid (∀ W', Calls Try.prog 123 #[.agg #[.slice (some ⟨gR, 0, none⟩) xs.length xs.length, .slice (some ⟨gd, 0, none⟩) xs.length cd], .int .i64 (p : Int), .int .i64 (q : Int)] W' fun e w' => e = .returned (.agg #[.slice (some ⟨gR, p, none⟩) S S, .slice (some ⟨gd, p, none⟩) S S]) ∧ Hid (Below W'.heap.size W' w')) := fun W' => by
          have := between gR 0 gd 0 xs.length xs.length xs.length cd p q W' (by omega) (by omega) (by omega)
          rw [Nat.zero_add, show q - p = S by omega] at this
          exact this
        have HBf : Hid (∀ W', Calls Try.prog 123 #[.agg #[.slice (some ⟨gR, 0, none⟩) xs.length xs.length, .slice (some ⟨gd, 0, none⟩) xs.length cd], .int .i64 (M.kidAt xs v 0 : Int), .int .i64 (p : Int)] W' fun e w' => e = .returned (.agg #[.slice (some ⟨gR, v + 1, none⟩) (p - (v + 1)) (p - (v + 1)), .slice (some ⟨gd, v + 1, none⟩) (p - (v + 1)) (p - (v + 1))]) ∧ Hid (Below W'.heap.size W' w')) := fun W' => by
          have := between gR 0 gd 0 xs.length xs.length xs.length cd (v + 1) p W' (by omega) (by omega) (by omega)
          rw [Nat.zero_add] at this
          exact this
        have hTr := Lib.hid hT.out
        have hmix : Try.prog.follows .mixedOrders = true := by kernel_rfl
        suffices hN : ∀ (g9 : Nat) (W5 : World), wr.heap.size ≤ g9 → Hid (W5.heap[g9]? = some (.cells #[.slice (some ⟨gR, p, none⟩) S S, .slice (some ⟨gd, p, none⟩) S S] 126 (0, 0))) → Hid (Below wr.heap.size wr W5) → K2 { tmps := #[.slice (some ⟨b, off, none⟩) xs.length c, .pointer (some ⟨w.heap.size, 0, none⟩), .slice none 0 0, .pointer (some ⟨gB, 0, none⟩), .int .i64 (v : Int), .slice (some ⟨gc, 0, none⟩) d cc, .int .i64 (M.kidAt xs v 0 : Int), undef, .int .i64 (p : Int), .pointer (some ⟨g9, 0, none⟩), .slice (some ⟨b, off, none⟩) xs.length c, .int .i64 xs.length, .slice (some ⟨gR, 0, none⟩) xs.length xs.length, .slice (some ⟨b, off, none⟩) xs.length c, .slice (some ⟨gd, 0, none⟩) xs.length cd, .agg #[.slice (some ⟨gR, 0, none⟩) xs.length xs.length, .slice (some ⟨gd, 0, none⟩) xs.length cd], .slice (some ⟨b, off, none⟩) xs.length c, .func (.func 154) #[] #[.pointer (some ⟨Bb, 0, none⟩)], .int .i64 (v : Int), .int .i64 (d : Int), .slice (some ⟨b, off, none⟩) xs.length c, .int .i64 (v : Int), .slice (some ⟨gc, 0, none⟩) d cc, .slice (some ⟨gc, 0, none⟩) d cc, .int .i64 (d : Int), .bool false, .slice (some ⟨gc, 0, none⟩) d cc, .pointer (some ⟨gc, 0, none⟩), .int .i64 (M.kidAt xs v 0 : Int), .slice (some ⟨gc, 0, none⟩) d cc, .slice (some ⟨gc, 1, none⟩) (d - 1) (cc - 1), .int .i64 ((d - 1 : Nat) : Int), .int .i64 (k : Int), .bool true, .pointer (some ⟨gc, 1 + k, none⟩), .int .i64 (p : Int), .agg #[.slice (some ⟨gR, 0, none⟩) xs.length xs.length, .slice (some ⟨gd, 0, none⟩) xs.length cd], .int .i64 (p : Int), .int .i64 (p : Int), .slice (some ⟨b, off, none⟩) xs.length c, .int .i64 (p : Int), .int .i64 (S : Int), .int .i64 (q : Int), .agg #[.slice (some ⟨gR, p, none⟩) S S, .slice (some ⟨gd, p, none⟩) S S], u44, u45, u46, u47, u48, u49, u50, u51, u52, undef, undef, undef, undef, undef, undef, undef, undef, undef, undef, undef, undef, undef, undef, undef, undef], defers := [] } W5 by
          clear hK2 ho2 ck hIr
          have hB10 : Hid (Below wr.heap.size wr wr.drew) := (Below.refl _ _).drew
          refine region_round (S := fun w' => Hid (Below wr.heap.size wr w')) hmix (noDefer_of (by kernel_rfl)) (fun ⟨_, _, h⟩ => h) ?_
          generalize wr.drew = yy at hB10 ⊢
          refine takeE 0 (some 36) (.agg #[.slice (some ⟨gR, 0, none⟩) xs.length xs.length, .slice (some ⟨gd, 0, none⟩) xs.length cd]) rfl rfl (by kernel_rfl) (by kernel_rfl) (by kernel_rfl) (fun _ _ _ h => h) (by rfl) (by intro W hSw; obtain ⟨k1, k2⟩ := box2 hTr.out.bx (grown_beT hSw.out (some gR)) hBR; go_simp) hB10 ?_
          try simp only [Act.put, List.setIfInBounds_toArray, List.set_cons_zero, List.set_cons_succ]
          refine takeE 1 (some 37) (.int .i64 (p : Int)) rfl rfl (by kernel_rfl) (by kernel_rfl) (by kernel_rfl) (fun _ _ _ h => h) (by rfl) (by intro W hSw; go_simp) hB10 ?_
          try simp only [Act.put, List.setIfInBounds_toArray, List.set_cons_zero, List.set_cons_succ]
          refine takeE 2 (some 38) (.int .i64 (p : Int)) rfl rfl (by kernel_rfl) (by kernel_rfl) (by kernel_rfl) (fun _ _ _ h => h) (by rfl) (by intro W hSw; go_simp) hB10 ?_
          try simp only [Act.put, List.setIfInBounds_toArray, List.set_cons_zero, List.set_cons_succ]
          refine takeE 3 (some 39) (.slice (some ⟨b, off, none⟩) xs.length c) rfl rfl (by kernel_rfl) (by kernel_rfl) (by kernel_rfl) (fun _ _ _ h => h) (by rfl) (by intro W hSw; have k1 := (hSw.out.cell (p := ⟨w.heap.size, 0, none⟩) lG).trans cGr; go_simp) hB10 ?_
          try simp only [Act.put, List.setIfInBounds_toArray, List.set_cons_zero, List.set_cons_succ]
          refine takeE 4 (some 40) (.int .i64 (p : Int)) rfl rfl (by kernel_rfl) (by kernel_rfl) (by kernel_rfl) (fun _ _ _ h => h) (by rfl) (by intro W hSw; go_simp) hB10 ?_
          try simp only [Act.put, List.setIfInBounds_toArray, List.set_cons_zero, List.set_cons_succ]
          refine wpAnyH_ready (rs := [5, 8]) (by kernel_rfl) (by simp) ?_
          refine AllReadyH.cons rfl (fun K hK => ?_) (AllReadyH.cons rfl (fun K hK => ?_) AllReadyH.nil)
          · go_simp
            go_at_call 80
            refine (HSz.out _ hB10).mono ?_
            rintro e W' ⟨rfl, rfl⟩
            go_wp2_with fail
            refine hK.out _ _ hB10 (fun _ => ?_)
            clear hK K
            try simp only [Act.put, List.setIfInBounds_toArray, List.set_cons_zero, List.set_cons_succ]
            refine takeE 6 (some 42) (.int .i64 (q : Int)) rfl rfl (by kernel_rfl) (by kernel_rfl) (by kernel_rfl) (fun _ _ _ h => h) (by rfl) (by intro W hSw; go_simp) hB10 ?_
            try simp only [Act.put, List.setIfInBounds_toArray, List.set_cons_zero, List.set_cons_succ]
            refine wpAnyH_ready (rs := [7, 8]) (by kernel_rfl) (by simp) ?_
            refine AllReadyH.cons rfl (fun K hK => ?_) (AllReadyH.cons rfl (fun K hK => ?_) AllReadyH.nil)
            · go_simp
              go_at_call 123
              refine (HBt.out _).mono ?_
              rintro e y2 ⟨rfl, b2⟩
              go_wp2_with fail
              have B2 : Hid (Below wr.heap.size wr y2) := btr hB10.out b2.out
              refine hK.out _ _ B2 (fun _ => ?_)
              clear hK K
              try simp only [Act.put, List.setIfInBounds_toArray, List.set_cons_zero, List.set_cons_succ]
              refine wpAnyH_ready (rs := [8]) (by kernel_rfl) (by simp) ?_
              refine AllReadyH.cons rfl (fun K hK => ?_) AllReadyH.nil
              · go_simp
                have B3 : Hid (Below wr.heap.size wr (y2.alloc (.cells #[.slice none 0 0, .slice none 0 0] 126))) := bal B2.out _
                refine hK.out _ _ B3 (fun _ => ?_)
                clear hK K
                try simp only [Act.put, List.setIfInBounds_toArray, List.set_cons_zero, List.set_cons_succ]
                obtain ⟨g3, q3⟩ : ∃ g, y2.heap.size = g := ⟨_, rfl⟩
                have f3 : Hid ((y2.alloc (.cells #[.slice none 0 0, .slice none 0 0] 126)).heap[g3]? = some (.cells #[.slice none 0 0, .slice none 0 0] 126 (0, 0))) := by rw [← q3]; exact World.alloc_heap_new _ _
                have e3 : wr.heap.size ≤ g3 := by rw [← q3]; exact B2.out.size
                rw [q3]
                clear q3
                generalize (y2.alloc (.cells #[.slice none 0 0, .slice none 0 0] 126)) = y3 at *
                obtain ⟨e0, e1, p0, p1, hfin, hoth⟩ := boxStore f3.out (.slice (some ⟨gR, p, none⟩) S S) (.slice (some ⟨gd, p, none⟩) S S)
                refine wpAnyH_ready (rs := [9]) (by kernel_rfl) (by simp) ?_
                refine AllReadyH.cons rfl (fun K hK => ?_) AllReadyH.nil
                go_simp
                have BF : Hid (Below wr.heap.size wr ((y3.setCell ⟨g3, 0, none⟩ (.slice (some ⟨gR, p, none⟩) S S)).setCell ⟨g3, 1, none⟩ (.slice (some ⟨gd, p, none⟩) S S))) := below_setCell (below_setCell B3.out e3 _) e3 _
                refine hK.out _ _ BF (fun _ => ?_)
                clear hK K
                refine wpAnyH_done (by kernel_rfl) ?_ _
                exact hN g3 _ e3 hfin BF
            · go_simp
              have B4 : Hid (Below wr.heap.size wr (yy.alloc (.cells #[.slice none 0 0, .slice none 0 0] 126))) := bal hB10.out _
              refine hK.out _ _ B4 (fun _ => ?_)
              clear hK K
              try simp only [Act.put, List.setIfInBounds_toArray, List.set_cons_zero, List.set_cons_succ]
              obtain ⟨g4, q4⟩ : ∃ g, yy.heap.size = g := ⟨_, rfl⟩
              have f4 : Hid ((yy.alloc (.cells #[.slice none 0 0, .slice none 0 0] 126)).heap[g4]? = some (.cells #[.slice none 0 0, .slice none 0 0] 126 (0, 0))) := by rw [← q4]; exact World.alloc_heap_new _ _
              have e4 : wr.heap.size ≤ g4 := by rw [← q4]; exact hB10.out.size
              rw [q4]
              clear q4
              generalize (yy.alloc (.cells #[.slice none 0 0, .slice none 0 0] 126)) = y4 at *
              refine wpAnyH_ready (rs := [7]) (by kernel_rfl) (by simp) ?_
              refine AllReadyH.cons rfl (fun K hK => ?_) AllReadyH.nil
              · go_simp
                go_at_call 123
                refine (HBt.out _).mono ?_
                rintro e y5 ⟨rfl, b5⟩
                go_wp2_with fail
                have B5 : Hid (Below wr.heap.size wr y5) := btr B4.out b5.out
                have f5 : Hid (y5.heap[g4]? = some (.cells #[.slice none 0 0, .slice none 0 0] 126 (0, 0))) := (b5.out.block _ (Array.getElem?_eq_some_iff.1 f4.out).1).trans f4.out
                refine hK.out _ _ B5 (fun _ => ?_)
                clear hK K
                try simp only [Act.put, List.setIfInBounds_toArray, List.set_cons_zero, List.set_cons_succ]
                obtain ⟨e0, e1, p0, p1, hfin, hoth⟩ := boxStore f5.out (.slice (some ⟨gR, p, none⟩) S S) (.slice (some ⟨gd, p, none⟩) S S)
                refine wpAnyH_ready (rs := [9]) (by kernel_rfl) (by simp) ?_
                refine AllReadyH.cons rfl (fun K hK => ?_) AllReadyH.nil
                go_simp
                have BF : Hid (Below wr.heap.size wr ((y5.setCell ⟨g4, 0, none⟩ (.slice (some ⟨gR, p, none⟩) S S)).setCell ⟨g4, 1, none⟩ (.slice (some ⟨gd, p, none⟩) S S))) := below_setCell (below_setCell B5.out e4 _) e4 _
                refine hK.out _ _ BF (fun _ => ?_)
                clear hK K
                refine wpAnyH_done (by kernel_rfl) ?_ _
                exact hN g4 _ e4 hfin BF
          · go_simp
            have B6 : Hid (Below wr.heap.size wr (yy.alloc (.cells #[.slice none 0 0, .slice none 0 0] 126))) := bal hB10.out _
            refine hK.out _ _ B6 (fun _ => ?_)
            clear hK K
            try simp only [Act.put, List.setIfInBounds_toArray, List.set_cons_zero, List.set_cons_succ]
            obtain ⟨g6, q6⟩ : ∃ g, yy.heap.size = g := ⟨_, rfl⟩
            have f6 : Hid ((yy.alloc (.cells #[.slice none 0 0, .slice none 0 0] 126)).heap[g6]? = some (.cells #[.slice none 0 0, .slice none 0 0] 126 (0, 0))) := by rw [← q6]; exact World.alloc_heap_new _ _
            have e6 : wr.heap.size ≤ g6 := by rw [← q6]; exact hB10.out.size
            rw [q6]
            clear q6
            generalize (yy.alloc (.cells #[.slice none 0 0, .slice none 0 0] 126)) = y6 at *
            refine wpAnyH_ready (rs := [5]) (by kernel_rfl) (by simp) ?_
            refine AllReadyH.cons rfl (fun K hK => ?_) AllReadyH.nil
            · go_simp
              go_at_call 80
              refine (HSz.out _ B6).mono ?_
              rintro e W' ⟨rfl, rfl⟩
              go_wp2_with fail
              refine hK.out _ _ B6 (fun _ => ?_)
              clear hK K
              try simp only [Act.put, List.setIfInBounds_toArray, List.set_cons_zero, List.set_cons_succ]
              refine takeE 6 (some 42) (.int .i64 (q : Int)) rfl rfl (by kernel_rfl) (by kernel_rfl) (by kernel_rfl) (fun _ _ _ h => h) (by rfl) (by intro W hSw; go_simp) B6 ?_
              try simp only [Act.put, List.setIfInBounds_toArray, List.set_cons_zero, List.set_cons_succ]
              refine wpAnyH_ready (rs := [7]) (by kernel_rfl) (by simp) ?_
              refine AllReadyH.cons rfl (fun K hK => ?_) AllReadyH.nil
              · go_simp
                go_at_call 123
                refine (HBt.out _).mono ?_
                rintro e y8 ⟨rfl, b8⟩
                go_wp2_with fail
                have B8 : Hid (Below wr.heap.size wr y8) := btr B6.out b8.out
                have f8 : Hid (y8.heap[g6]? = some (.cells #[.slice none 0 0, .slice none 0 0] 126 (0, 0))) := (b8.out.block _ (Array.getElem?_eq_some_iff.1 f6.out).1).trans f6.out
                refine hK.out _ _ B8 (fun _ => ?_)
                clear hK K
                try simp only [Act.put, List.setIfInBounds_toArray, List.set_cons_zero, List.set_cons_succ]
                obtain ⟨e0, e1, p0, p1, hfin, hoth⟩ := boxStore f8.out (.slice (some ⟨gR, p, none⟩) S S) (.slice (some ⟨gd, p, none⟩) S S)
                refine wpAnyH_ready (rs := [9]) (by kernel_rfl) (by simp) ?_
                refine AllReadyH.cons rfl (fun K hK => ?_) AllReadyH.nil
                go_simp
                have BF : Hid (Below wr.heap.size wr ((y8.setCell ⟨g6, 0, none⟩ (.slice (some ⟨gR, p, none⟩) S S)).setCell ⟨g6, 1, none⟩ (.slice (some ⟨gd, p, none⟩) S S))) := below_setCell (below_setCell B8.out e6 _) e6 _
                refine hK.out _ _ BF (fun _ => ?_)
                clear hK K
                refine wpAnyH_done (by kernel_rfl) ?_ _
                exact hN g6 _ e6 hfin BF
        intro g9 W5 lt9 h9 hB5
        have hgRw : gR < wr.heap.size := (World.ownsRow.lt hTr.out.oR gR rfl).2
        have hT5 : Hid (TdI w W0 b off c xs.length gR gB gd cd ds W5 (M.tdMid xs ds v (k + 1))) := hTr.out.below hB5.out
        have hgW5 : Hid (W2.grownBy W5 (some gR)) := hg.out.trans (grown_beT hB5.out _)
        clear hg hT hTr hB5 ho2 ck hIr HIr HSz HBt cGr
        refine hK2 _ _ ?_
        clear hK2 K2
        gi_wp2
        have h9R : g9 ≠ gR := by omega
        obtain ⟨s, hs⟩ : ∃ s, M.byOf ds (v + 1) p (M.tdP xs ds v (k + 1)) (M.td xs ds p) = s := ⟨_, rfl⟩
        have hsb := M.by_abs ht.out hok.out Hd.out hlt2
        have hstep := M.tdMid_step ht.out hok.out Hd.out hlt2 (r := s) (by rw [hp]; exact hs)
        rw [hp, hs] at hsb
        rw [hp, hS] at hstep
        have HSt : Hid (∀ W', Hid (Below W5.heap.size W5 W') → Calls Try.prog 125 #[.agg #[.slice (some ⟨gR, p, none⟩) S S, .slice (some ⟨gd, p, none⟩) S S], .agg #[.slice (some ⟨gR, v + 1, none⟩) (p - (v + 1)) (p - (v + 1)), .slice (some ⟨gd, v + 1, none⟩) (p - (v + 1)) (p - (v + 1))]] W' fun e w' => e = .returned (.int .i64 s) ∧ Hid (Below W'.heap.size W' w')) := fun W' hb => by
          have hT6 := hT5.out.below hb.out
          have := steps_td ht.out hok.out Hd.out hlt2 hp hS rfl W' hT6.oR hT6.oD
          rw [hs] at this
          exact this
        have HMv : Hid (∀ W', Hid (Below W5.heap.size W5 W') → Calls Try.prog 124 #[.agg #[.slice (some ⟨gR, p, none⟩) S S, .slice (some ⟨gd, p, none⟩) S S], .int .i64 s] W' fun e w' => (∃ u, e = .returned u) ∧ Hid (Own64 w' W0.heap.size (.slice (some ⟨gR, 0, none⟩) xs.length xs.length) (M.tdMid xs ds v (k + 1 + 1))) ∧ Hid (W'.grownBy w' (some gR))) := fun W' hb => by
          have hT6 := hT5.out.below hb.out
          have := move gR p xs.length xs.length S S (.slice (some ⟨gd, p, none⟩) S S) (M.tdMid xs ds v (k + 1)) s W0.heap.size W' (by omega) (by omega) hT6.len (by omega) (by omega) (fun x hx => by have := M.tdMid_abs ht.out hok.out Hd.out (by omega) hx; omega) hT6.oR
          rw [hstep] at this
          exact this
        have hlm : Hid ((M.tdMid xs ds v (k + 1 + 1)).length = xs.length) := M.tdMid_len ht.out hok.out Hd.out (by omega)
        have hB11 : Hid (Below W5.heap.size W5 W5.drew) := (Below.refl _ _).drew
        have hG11 : Hid (W5.grownBy W5.drew (some gR)) := grown_beT hB11.out _
        have hBW5 : gB ≠ gR := nRX.symm
        clear hstep hs hsb
        refine region_round (S := fun w' => Hid (W5.grownBy w' (some gR))) hmix (noDefer_of (by kernel_rfl)) (fun ⟨_, _, h⟩ => h) ?_
        generalize W5.drew = yy at hB11 hG11 ⊢
        refine takeE 0 (some 44) (.agg #[.slice (some ⟨gR, p, none⟩) S S, .slice (some ⟨gd, p, none⟩) S S]) rfl rfl (by kernel_rfl) (by kernel_rfl) (by kernel_rfl) (fun _ _ _ h => h) (by rfl) (by intro W hSw; obtain ⟨k1, k2⟩ := box2 h9.out hSw.out h9R; go_simp) hG11 ?_
        try simp only [Act.put, List.setIfInBounds_toArray, List.set_cons_zero, List.set_cons_succ]
        refine takeE 1 (some 45) (.agg #[.slice (some ⟨gR, p, none⟩) S S, .slice (some ⟨gd, p, none⟩) S S]) rfl rfl (by kernel_rfl) (by kernel_rfl) (by kernel_rfl) (fun _ _ _ h => h) (by rfl) (by intro W hSw; obtain ⟨k1, k2⟩ := box2 h9.out hSw.out h9R; go_simp) hG11 ?_
        try simp only [Act.put, List.setIfInBounds_toArray, List.set_cons_zero, List.set_cons_succ]
        refine takeE 2 (some 46) (.agg #[.slice (some ⟨gR, 0, none⟩) xs.length xs.length, .slice (some ⟨gd, 0, none⟩) xs.length cd]) rfl rfl (by kernel_rfl) (by kernel_rfl) (by kernel_rfl) (fun _ _ _ h => h) (by rfl) (by intro W hSw; obtain ⟨k1, k2⟩ := box2 hT5.out.bx hSw.out hBR; go_simp) hG11 ?_
        try simp only [Act.put, List.setIfInBounds_toArray, List.set_cons_zero, List.set_cons_succ]
        refine takeE 3 (some 47) (.int .i64 (M.kidAt xs v 0 : Int)) rfl rfl (by kernel_rfl) (by kernel_rfl) (by kernel_rfl) (fun _ _ _ h => h) (by rfl) (by intro W hSw; go_simp) hG11 ?_
        try simp only [Act.put, List.setIfInBounds_toArray, List.set_cons_zero, List.set_cons_succ]
        refine takeE 4 (some 48) (.int .i64 (p : Int)) rfl rfl (by kernel_rfl) (by kernel_rfl) (by kernel_rfl) (fun _ _ _ h => h) (by rfl) (by intro W hSw; go_simp) hG11 ?_
        try simp only [Act.put, List.setIfInBounds_toArray, List.set_cons_zero, List.set_cons_succ]
        refine wpAnyH_ready (rs := [5]) (by kernel_rfl) (by simp) ?_
        refine AllReadyH.cons rfl (fun K hK => ?_) AllReadyH.nil
        go_simp
        go_at_call 123
        refine (HBf.out _).mono ?_
        rintro e y1 ⟨rfl, b1⟩
        go_wp2_with fail
        have B1 : Hid (Below W5.heap.size W5 y1) := btr hB11.out b1.out
        have G1 : Hid (W5.grownBy y1 (some gR)) := grown_beT B1.out _
        refine hK.out _ _ G1 (fun _ => ?_)
        clear hK K
        try simp only [Act.put, List.setIfInBounds_toArray, List.set_cons_zero, List.set_cons_succ]
        refine wpAnyH_ready (rs := [6]) (by kernel_rfl) (by simp) ?_
        refine AllReadyH.cons rfl (fun K hK => ?_) AllReadyH.nil
        go_simp
        go_at_call 125
        refine (HSt.out _ B1).mono ?_
        rintro e y2 ⟨rfl, b2⟩
        go_wp2_with fail
        have B2 : Hid (Below W5.heap.size W5 y2) := btr B1.out b2.out
        have G2 : Hid (W5.grownBy y2 (some gR)) := grown_beT B2.out _
        refine hK.out _ _ G2 (fun _ => ?_)
        clear hK K
        try simp only [Act.put, List.setIfInBounds_toArray, List.set_cons_zero, List.set_cons_succ]
        refine wpAnyH_ready (rs := [7]) (by kernel_rfl) (by simp) ?_
        refine AllReadyH.cons rfl (fun K hK => ?_) AllReadyH.nil
        go_simp
        go_at_call 124
        refine (HMv.out _ B2).mono ?_
        rintro e y3 ⟨⟨u, rfl⟩, o3, g3⟩
        go_wp2_with fail
        have G3 : Hid (W5.grownBy y3 (some gR)) := G2.out.trans g3.out
        have T3 : Hid (TdI w W0 b off c xs.length gR gB gd cd ds y3 (M.tdMid xs ds v (k + 1 + 1))) := hT5.out.grown G3.out nRD.symm hBR hs0 o3.out hlm.out
        have G4 : Hid (W2.grownBy y3 (some gR)) := hgW5.out.trans G3.out
        refine hK.out _ _ G3 (fun _ => ?_)
        clear hK K
        try simp only [Act.put, List.setIfInBounds_toArray, List.set_cons_zero, List.set_cons_succ]
        refine wpAnyH_done (by kernel_rfl) ?_ _
        gi_wp2
        go_roundw
        case rel => exact ⟨k + 1, by omega, by go_num, G4, T3⟩
        case measure => simp [intOf]; omega
      · have hkd : k + 1 = d := by omega
        have hkn : ¬ (k : Int) < ((d - 1 : Nat) : Int) := by omega
        have Hd2 : Hid (xs[v]? = some ((k + 1 : Nat) : Int)) := by rw [hkd]; exact Hd.out
        obtain ⟨x1, y1, r1, r2, a1, a2, a3, a4, hset⟩ := M.tdMid_root ht.out hok.out Hd2.out
        have R1 := Lib.hid r1
        have R2 := Lib.hid r2
        have Hset := Lib.hid hset
        clear r1 r2 hset
        have ho2 : Own64 wr W.heap.size (.slice (some ⟨gc, 0, none⟩) d cc) (M.childs xs v d) := Ho.out.kept hg.out (.inr fun e => by injection e with e; have e2 : gc = gR := e; omega)
        have hlm : Hid ((M.tdMid xs ds v (k + 1)).length = xs.length) := hT.out.len
        have hhb := M.half_bounds (n := x1 + y1) (a := -46) (b := 46) (by omega) (by omega)
        obtain ⟨z0, hz0⟩ : ∃ z, (M.tdMid xs ds v (k + 1))[v]? = some z := ⟨_, List.getElem?_eq_getElem (by rw [hlm.out]; omega)⟩
        obtain ⟨cv, fv, _, lv⟩ := own64_cell hT.out.oR hlm.out hz0
        have cB : wr.cell? ⟨gB, 0, none⟩ = some (.slice (some ⟨gR, 0, none⟩) xs.length xs.length) := hT.out.cells.2.1
        have hbd2 : Hid ((M.childs xs v d)[d - 1]? = some (M.kidAt xs v k : Int)) := by rw [show d - 1 = k by omega]; exact M.childs_at xs v (by omega)
        have HA := Lib.hid (columnAbove (some ⟨gR, 0, none⟩) (some ⟨gc, 0, none⟩) (M.tdMid xs ds v (k + 1)) (M.childs xs v d) xs.length xs.length d cc _ _ x1 y1 wr.drew (by omega) h0 (by omega) (ints_of_own64 hT.out.oR) (ints_of_own64 ho2) hlm hcl2 hd1 hbd2 R1 R2 (by omega) (by omega) (by omega) (by omega))
        have hFin : Hid (∀ k', W.grownBy ((wr.drewN k').setCell ⟨gR, v, none⟩ (.int .i64 (M.half (x1 + y1)))) (some gR) ∧ TdI w W0 b off c xs.length gR gB gd cd ds ((wr.drewN k').setCell ⟨gR, v, none⟩ (.int .i64 (M.half (x1 + y1)))) (M.tdRow xs ds v)) := fun k' => by
          have hb3 : Below wr.heap.size wr (wr.drewN k') := below_drewN (Below.refl _ _) k'
          have hT3 := hT.out.below hb3
          have hg3 : (wr.drewN k').grownBy ((wr.drewN k').setCell ⟨gR, v, none⟩ (.int .i64 (M.half (x1 + y1)))) (some gR) := grown_set (grown_beT (Below.refl _ _) _) v _
          have ho3 := own64_set hT3.oR hlm.out v (M.half (x1 + y1))
          rw [Hset.out] at ho3
          exact ⟨(((grown_beT HB2.out _).trans hg.out).trans (grown_beT hb3 _)).trans hg3, hT3.grown hg3 nRD.symm nRX.symm hs0 ho3 (M.tdRow_len ht.out hok.out (by omega))⟩
        have hvi : (v : Int) < (xs.length : Int) := by omega
        have hv0 : (0 : Int) ≤ (v : Int) := by omega
        have hmix : Try.prog.follows .mixedOrders = true := by kernel_rfl
        have hne : gR ≠ gB := nRX
        clear hT ho2 hz0 hhb Hset R1 R2 HC HT2 Ho
        generalize M.half (x1 + y1) = Z at *
        gi_wp2
        refine region_round (S := fun w' => w'.cell? ⟨gB, 0, none⟩ = some (.slice (some ⟨gR, 0, none⟩) xs.length xs.length)) hmix (noDefer_of (by kernel_rfl)) (fun ⟨_, _, h⟩ => h) ?_
        have hH0 : wr.drew.cell? ⟨gB, 0, none⟩ = some (.slice (some ⟨gR, 0, none⟩) xs.length xs.length) := cB
        refine takeE 0 (some 53) (.pointer (some ⟨gB, 0, none⟩)) rfl rfl (by kernel_rfl) (by kernel_rfl) (by kernel_rfl) (fun _ _ _ h => h) (by rfl) (by intro W hSw; (try dsimp only at hSw); go_simp) (by assumption) ?_
        try simp only [Act.put, List.setIfInBounds_toArray, List.set_cons_zero, List.set_cons_succ]
        refine takeE 1 (some 54) (.slice (some ⟨gR, 0, none⟩) xs.length xs.length) rfl rfl (by kernel_rfl) (by kernel_rfl) (by kernel_rfl) (fun _ _ _ h => h) (by rfl) (by intro W hSw; (try dsimp only at hSw); go_simp) (by assumption) ?_
        try simp only [Act.put, List.setIfInBounds_toArray, List.set_cons_zero, List.set_cons_succ]
        refine takeE 2 (some 55) (.int .i64 (v : Int)) rfl rfl (by kernel_rfl) (by kernel_rfl) (by kernel_rfl) (fun _ _ _ h => h) (by rfl) (by intro W hSw; (try dsimp only at hSw); go_simp) (by assumption) ?_
        try simp only [Act.put, List.setIfInBounds_toArray, List.set_cons_zero, List.set_cons_succ]
        refine takeE 3 (some 56) (.pointer (some ⟨gB, 0, none⟩)) rfl rfl (by kernel_rfl) (by kernel_rfl) (by kernel_rfl) (fun _ _ _ h => h) (by rfl) (by intro W hSw; (try dsimp only at hSw); go_simp) (by assumption) ?_
        try simp only [Act.put, List.setIfInBounds_toArray, List.set_cons_zero, List.set_cons_succ]
        refine takeE 4 (some 57) (.slice (some ⟨gR, 0, none⟩) xs.length xs.length) rfl rfl (by kernel_rfl) (by kernel_rfl) (by kernel_rfl) (fun _ _ _ h => h) (by rfl) (by intro W hSw; (try dsimp only at hSw); go_simp) (by assumption) ?_
        try simp only [Act.put, List.setIfInBounds_toArray, List.set_cons_zero, List.set_cons_succ]
        refine takeE 5 (some 58) (.slice (some ⟨gc, 0, none⟩) d cc) rfl rfl (by kernel_rfl) (by kernel_rfl) (by kernel_rfl) (fun _ _ _ h => h) (by rfl) (by intro W hSw; (try dsimp only at hSw); go_simp) (by assumption) ?_
        try simp only [Act.put, List.setIfInBounds_toArray, List.set_cons_zero, List.set_cons_succ]
        refine wpAnyH_ready (rs := [6]) (by kernel_rfl) (by simp) ?_
        refine AllReadyH.cons rfl (fun K hK => ?_) AllReadyH.nil
        go_simp
        go_at_call 121
        refine HA.out.mono ?_
        rintro e W3 ⟨rfl, kk, rfl⟩
        go_wp2_with fail
        have hH1 : (wr.drew.drewN kk).cell? ⟨gB, 0, none⟩ = some (.slice (some ⟨gR, 0, none⟩) xs.length xs.length) := cB
        have cv3 : (wr.drew.drewN kk).cell? ⟨gR, v, none⟩ = some (.int .i64 z0) := cv
        have fv3 : (wr.drew.drewN kk).frozen? ⟨gR, v, none⟩ = false := fv
        refine hK.out _ _ hH1 (fun hHeld => ?_)
        clear hK K hHeld
        try simp only [Act.put, List.setIfInBounds_toArray, List.set_cons_zero, List.set_cons_succ]
        refine takeE 7 (some 60) (.pointer (some ⟨gR, v, none⟩)) rfl rfl (by kernel_rfl) (by kernel_rfl) (by kernel_rfl) (fun _ _ _ h => h) (by rfl) (by intro W hSw; (try dsimp only at hSw); go_simp) (by assumption) ?_
        try simp only [Act.put, List.setIfInBounds_toArray, List.set_cons_zero, List.set_cons_succ]
        refine wpAnyH_ready (rs := [8]) (by kernel_rfl) (by simp) ?_
        refine AllReadyH.cons rfl (fun K hK => ?_) AllReadyH.nil
        go_simp
        refine hK.out _ _ ?_ (fun hHeld => ?_)
        · exact (World.cell?_setCell_far _ _ _ _ hne).trans hH1
        clear hK K hHeld
        refine wpAnyH_done (by kernel_rfl) ?_ _
        gi_wp2
        exact hpost.out _ _ (hFin.out (1 + kk)).1 (hFin.out (1 + kk)).2 rfl
  case done =>
    rintro D ys W hD rfl hinv hK
    rw [List.length_range, Nat.sub_self, M.tdRow_end ht.out] at hinv
    have hn0 : Hid ((M.td xs ds 0).length = xs.length) := hinv.len
    have habs : ∀ x ∈ M.td xs ds 0, -46 ≤ x ∧ x ≤ 46 := fun x hx => M.td_abs ht.out hok.out (by omega) hx
    obtain ⟨r, hr⟩ : ∃ r, Hid (M.minTo (M.td xs ds 0) (M.td xs ds 0).length = r) := ⟨_, rfl⟩
    have hrb : -46 ≤ r ∧ r ≤ 46 := by
      obtain ⟨j, hj, hm⟩ := M.minTo_in (xs := M.td xs ds 0) (k := (M.td xs ds 0).length) (by rw [hn0.out]; omega) (Nat.le_refl _)
      rw [hr.out] at hm
      exact habs r (List.mem_of_getElem? hm)
    have hbump : M.bump (M.td xs ds 0) 0 xs.length (-r) = M.tidy xs (M.depths xs) := by
      rw [M.depths_eq ht.out hok.out, M.tidy, hr.out]
      have := M.bump_all (l := M.td xs ds 0) (-r)
      rw [hn0.out] at this
      exact this
    have HT := Lib.hid hinv
    have HMin : Hid (∀ W', Hid (Below W.heap.size W W') → Calls Try.prog 126 #[.slice (some ⟨gR, 0, none⟩) xs.length xs.length] W' fun e w' => e = .returned (.int .i64 r) ∧ W' = w') := fun W' hb => by
      have := slicesMin (some ⟨gR, 0, none⟩) (M.td xs ds 0) xs.length W' (by rw [hn0.out]; omega) (by rw [hn0.out]; omega) (ints_of_own64 (HT.out.below hb.out).oR) r hr
      rw [hn0.out] at this
      exact this
    have HMv : Hid (∀ W', Hid (Below W.heap.size W W') → Calls Try.prog 124 #[.agg #[.slice (some ⟨gR, 0, none⟩) xs.length xs.length, .slice (some ⟨gd, 0, none⟩) xs.length cd], .int .i64 (-r)] W' fun e w' => (∃ u, e = .returned u) ∧ Hid (Own64 w' W0.heap.size (.slice (some ⟨gR, 0, none⟩) xs.length xs.length) (M.tidy xs (M.depths xs))) ∧ Hid (W'.grownBy w' (some gR))) := fun W' hb => by
      have := move gR 0 xs.length xs.length xs.length xs.length (.slice (some ⟨gd, 0, none⟩) xs.length cd) (M.td xs ds 0) (-r) W0.heap.size W' (by omega) (by omega) hn0 (by omega) (by omega) (fun x hx => by have := habs x hx; omega) (HT.out.below hb.out).oR
      rw [hbump] at this
      exact this
    have hwn : IntKind.i64.wrap (-r) = -r := IntWalk.i64_in _ (by omega)
    have HK := Lib.hid hK
    have hBR : gB ≠ gR := nRX.symm
    have hBx := Lib.hid hinv.bx
    have hB11 : Hid (Below W.heap.size W W.drew) := (Below.refl _ _).drew
    have hG0 : Hid (W.grownBy W.drew (some gR)) := grown_beT hB11.out _
    clear habs hbump hinv hK hTV hIV bB
    gi_wp2
    refine wpIn_wide.2 ?_
    refine wp_region_noPanic ?_
    refine wp_region_held_drew (S := fun w' => Hid (W.grownBy w' (some gR))) (by kernel_rfl) hG0 (fun hHeld0 => ?_)
    clear hHeld0
    generalize W.drew = x0 at hG0 hB11 ⊢
    refine takeE 0 (some 61) (.agg #[.slice (some ⟨gR, 0, none⟩) xs.length xs.length, .slice (some ⟨gd, 0, none⟩) xs.length cd]) rfl rfl (by kernel_rfl) (by kernel_rfl) (by kernel_rfl) (fun _ _ _ h => h) (by rfl) (by intro W hSw; obtain ⟨k1, k2⟩ := box2 hBx.out hSw.out hBR; go_simp) hG0 ?_
    try simp only [Act.put, List.setIfInBounds_toArray, List.set_cons_zero, List.set_cons_succ]
    refine takeE 1 (some 62) (.pointer (some ⟨gB, 0, none⟩)) rfl rfl (by kernel_rfl) (by kernel_rfl) (by kernel_rfl) (fun _ _ _ h => h) (by rfl) (by intro W hSw; go_simp) hG0 ?_
    try simp only [Act.put, List.setIfInBounds_toArray, List.set_cons_zero, List.set_cons_succ]
    refine takeE 2 (some 63) (.slice (some ⟨gR, 0, none⟩) xs.length xs.length) rfl rfl (by kernel_rfl) (by kernel_rfl) (by kernel_rfl) (fun _ _ _ h => h) (by rfl) (by intro W hSw; obtain ⟨k1, k2⟩ := box2 hBx.out hSw.out hBR; go_simp) hG0 ?_
    try simp only [Act.put, List.setIfInBounds_toArray, List.set_cons_zero, List.set_cons_succ]
    refine wpAnyH_ready (rs := [3]) (by kernel_rfl) (by simp) ?_
    refine AllReadyH.cons rfl (fun K hK => ?_) AllReadyH.nil
    go_simp
    go_at_call 126
    refine (HMin.out _ hB11).mono ?_
    rintro e W' ⟨rfl, rfl⟩
    go_wp2_with fail
    refine hK.out _ _ hG0 (fun _ => ?_)
    clear hK K
    try simp only [Act.put, List.setIfInBounds_toArray, List.set_cons_zero, List.set_cons_succ]
    refine takeE 4 (some 65) (.int .i64 (-r)) rfl rfl (by kernel_rfl) (by kernel_rfl) (by kernel_rfl) (fun _ _ _ h => h) (by rfl) (by intro W hSw; go_simp) hG0 ?_
    try simp only [Act.put, List.setIfInBounds_toArray, List.set_cons_zero, List.set_cons_succ]
    refine wpAnyH_ready (rs := [5]) (by kernel_rfl) (by simp) ?_
    refine AllReadyH.cons rfl (fun K hK => ?_) AllReadyH.nil
    go_simp
    go_at_call 124
    refine (HMv.out _ hB11).mono ?_
    rintro e y3 ⟨⟨u, rfl⟩, o3, g3⟩
    go_wp2_with fail
    have G3 : Hid (W.grownBy y3 (some gR)) := hG0.out.trans g3.out
    refine hK.out _ _ G3 (fun _ => ?_)
    clear hK K
    try simp only [Act.put, List.setIfInBounds_toArray, List.set_cons_zero, List.set_cons_succ]
    refine wpAnyH_done (by kernel_rfl) ?_ _
    refine NoPanic.normal ?_
    have T3 : Hid (Below W0.heap.size W0 y3) := HT.out.be.grown G3.out HT.out.be.size (fun k e => by injection e with e; omega)
    have hK3 : Hid (y3.heap[D]? = some (.deferred (some []))) := (G3.out.block D (Array.getElem?_eq_some_iff.1 HK.out).1 (fun e => by injection e with e; omega)).trans HK.out
    obtain ⟨cy, _⟩ := box2 hBx.out G3.out hBR
    gi_wp2
    refine ⟨by simp, .inl ⟨_, _, rfl, run_takeDeferred hK3.out, ?_⟩⟩
    exact ⟨_, results_tmp rfl _ _ _, _, _, rfl, own_mono (ownsRow_putObj o3.out _ hK3.out rfl) (by omega), (hB0.out.trans (T3.out.mono (by omega))).trans (belowK_b (w := w) (Nat.le_refl _) y3 D _ _ (by omega) hK3.out rfl rfl)⟩
  case stop =>
    rintro D cc pre W _ _ h _
    exact h.elim
end Go.Proofs.Ytamnilpmdccgoaa
