/- InnerOrder, the program's and the model's. -/
import Derived.Test.YtkeahaoeiiigeaaDoorVisitI
import Derived.Test.YtkeahaoeiiigeaaDoorSpecIn
namespace Go.Proofs.YtkeahaoeiiigeaaDoor
open Go.RowKit

noncomputable def F_InnerOrder (s : ByteArray) : List Int × Int := if okB s then ((treeOf s).inner 0, 0) else ([], 1)
theorem F_InnerOrder_len (s : ByteArray) : (F_InnerOrder s).1.length ≤ 1000 := by
  rw [F_InnerOrder]
  cases ho : okB s
  · simp
  · obtain ⟨t, rfl, ht⟩ := okB_inv ho
    rw [treeOf_str]
    simp only [if_true, t.inner_len]
    omega

set_option maxRecDepth 100000 in
set_option maxHeartbeats 2000000 in
theorem impl_InnerOrder : GivesL1 25 F_InnerOrder := by
  intro p s w hs hc
  have hC := Lib.hid (codeB1 p s w hc)
  have HC := Lib.hid hc
  cases ho : okB s
  · rw [ho] at hC
    have hF : F_InnerOrder s = ([], 1) := by rw [F_InnerOrder, ho]; rfl
    rw [hF]
    clear hF ho hc
    go_enter Tryd.func25, Tryd.ntmps25
    go_wp2_with (go_at_call 47; refine hC.out.mono ?_; rintro e w' ⟨rfl, hb⟩)
    go_ret2
    exact ⟨none, 0, rfl, own64_nil _ _, hb.out⟩
  · obtain ⟨t, rfl, ht⟩ := okB_inv ho
    rw [ho] at hC
    have hF : F_InnerOrder t.str = (t.inner 0, 0) := by rw [F_InnerOrder, ho, treeOf_str]; rfl
    rw [hF]
    have hw0 : 0 < w.heap.size := World.block_lt_of_cell? _ _ hc
    have hM := fun b W h1 h2 h3 => Lib.hid (visitInner p t.n t 0 b [] W (Nat.le_refl _) (by omega) (by omega) (by simp; omega) h1 h2 h3)
    simp only [List.nil_append] at hM
    have hmf : ∀ (fn : Fn) (first cap : Array Value) (w : World), (Instr.makeFunc fn first cap).run Tryd.prog w = .ok (.func fn first cap) w := fun _ _ _ _ => rfl
    clear hF ho hc
    generalize t.inner 0 = L at *
    generalize t.str = S at *
    go_enter Tryd.func25, Tryd.ntmps25
    go_wp2_with (first | (go_at_call 47; refine hC.out.mono ?_; rintro e w1 ⟨rfl, hb1⟩) | (go_at_call 57; refine (hM w1.heap.size _ (cell_up (bal hb1.out _) HC.out) (by have := hb1.out.size; omega) (Col.new w1)).out.mono ?_; rintro e w2 ⟨rfl, hc2, ha2⟩; obtain ⟨A, n, c, hx, ho⟩ := hc2.out; have cx := hx.cell))
    have hn := own64_len ho
    subst hn
    go_ret2
    exact ⟨A, c, rfl, own_mono ho (by have := hb1.out.size; omega), (bal hb1.out (.cells #[.slice none 0 0] 29)).trans (ha2.out.1.mono hb1.out.size)⟩

set_option maxRecDepth 100000 in
set_option maxHeartbeats 2000000 in
theorem spec_InnerOrder : GivesL1 24 F_InnerOrder := by
  intro p s w hs _
  have hC := Lib.hid (l03Is s w hs)
  cases ho : okB s
  · rw [ho] at hC
    have hF : F_InnerOrder s = ([], 1) := by rw [F_InnerOrder, ho]; rfl
    rw [hF]
    clear hF ho
    go_enter Tryd.func24, Tryd.ntmps24
    go_wp2_with (go_at_call 46; refine hC.out.mono ?_; rintro e w' ⟨rfl, hw⟩; subst hw)
    go_ret2
    exact ⟨none, 0, rfl, own64_nil _ _, b0 _⟩
  · obtain ⟨t, rfl, ht⟩ := okB_inv ho
    rw [ho] at hC
    have hF : F_InnerOrder t.str = (t.inner 0, 0) := by rw [F_InnerOrder, ho, treeOf_str]; rfl
    rw [hF]
    have hM := fun W => Lib.hid (l03Inner t.n t 0 W (Nat.le_refl _) (by omega) (by omega))
    clear hF ho
    generalize t.inner 0 = L at *
    generalize t.str = S at *
    go_enter Tryd.func24, Tryd.ntmps24
    go_wp2_with (first | (go_at_call 46; refine hC.out.mono ?_; rintro e w' ⟨rfl, hw⟩; subst hw) | (go_at_call 56; refine (hM _).out.mono ?_; rintro e w2 ⟨A, n, c, rfl, ho, hb2⟩))
    have hn := own64_len ho.out
    subst hn
    go_ret2
    exact ⟨A, c, rfl, ho.out, hb2.out⟩
end Go.Proofs.YtkeahaoeiiigeaaDoor
