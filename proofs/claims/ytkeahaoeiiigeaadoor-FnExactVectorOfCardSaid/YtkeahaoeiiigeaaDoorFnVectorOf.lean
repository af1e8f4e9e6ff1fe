/- VectorOf, the program's and the model's. -/
import Derived.Test.YtkeahaoeiiigeaaDoorVisitV
import Derived.Test.YtkeahaoeiiigeaaDoorSpecIn
namespace Go.Proofs.YtkeahaoeiiigeaaDoor
open Go.RowKit

noncomputable def F_VectorOf (s : ByteArray) : List Int × Int := if okB s then ((treeOf s).vec, 0) else ([], 1)
theorem F_VectorOf_len (s : ByteArray) : (F_VectorOf s).1.length ≤ 1000 := by
  rw [F_VectorOf]
  cases ho : okB s
  · simp
  · obtain ⟨t, rfl, ht⟩ := okB_inv ho
    rw [treeOf_str]
    simp only [if_true, t.vec_len]
    omega

set_option maxRecDepth 100000 in
set_option maxHeartbeats 2000000 in
theorem impl_VectorOf : GivesL1 34 F_VectorOf := by
  intro p s w hs hc
  have hC := Lib.hid (codeB1 p s w hc)
  have HC := Lib.hid hc
  cases ho : okB s
  · rw [ho] at hC
    have hF : F_VectorOf s = ([], 1) := by rw [F_VectorOf, ho]; rfl
    rw [hF]
    clear hF ho hc
    go_enter Tryd.func34, Tryd.ntmps34
    go_wp2_with (go_at_call 47; refine hC.out.mono ?_; rintro e w' ⟨rfl, hb⟩)
    go_ret2
    exact ⟨none, 0, rfl, own64_nil _ _, hb.out⟩
  · obtain ⟨t, rfl, ht⟩ := okB_inv ho
    rw [ho] at hC
    have hF : F_VectorOf t.str = (t.vec, 0) := by rw [F_VectorOf, ho, treeOf_str]; rfl
    rw [hF]
    have hM := fun W h => Lib.hid (vectorOf p t W (by omega) h)
    clear hF ho hc
    generalize t.vec = L at *
    generalize t.str = S at *
    go_enter Tryd.func34, Tryd.ntmps34
    go_wp2_with (first | (go_at_call 47; refine hC.out.mono ?_; rintro e w1 ⟨rfl, hb1⟩) | (go_at_call 65; refine (hM _ (cell_up hb1.out HC.out)).out.mono ?_; rintro e w2 ⟨A, c, rfl, ho, hb2⟩))
    go_ret2
    exact ⟨A, c, rfl, own_mono ho.out hb1.out.size, btr hb1.out hb2.out⟩

set_option maxRecDepth 100000 in
set_option maxHeartbeats 2000000 in
theorem spec_VectorOf : GivesL1 33 F_VectorOf := by
  intro p s w hs _
  have hC := Lib.hid (l03Is s w hs)
  cases ho : okB s
  · rw [ho] at hC
    have hF : F_VectorOf s = ([], 1) := by rw [F_VectorOf, ho]; rfl
    rw [hF]
    clear hF ho
    go_enter Tryd.func33, Tryd.ntmps33
    go_wp2_with (go_at_call 46; refine hC.out.mono ?_; rintro e w' ⟨rfl, hw⟩; subst hw)
    go_ret2
    exact ⟨none, 0, rfl, own64_nil _ _, b0 _⟩
  · obtain ⟨t, rfl, ht⟩ := okB_inv ho
    rw [ho] at hC
    have hF : F_VectorOf t.str = (t.vec, 0) := by rw [F_VectorOf, ho, treeOf_str]; rfl
    rw [hF]
    have hM := fun W => Lib.hid (l03Vector t.n t W (Nat.le_refl _) (by omega))
    clear hF ho
    generalize t.vec = L at *
    generalize t.str = S at *
    go_enter Tryd.func33, Tryd.ntmps33
    go_wp2_with (first | (go_at_call 46; refine hC.out.mono ?_; rintro e w' ⟨rfl, hw⟩; subst hw) | (go_at_call 64; refine (hM _).out.mono ?_; rintro e w2 ⟨A, n, c, rfl, ho, hb2⟩))
    have hn := own64_len ho.out
    subst hn
    go_ret2
    exact ⟨A, c, rfl, ho.out, hb2.out⟩
end Go.Proofs.YtkeahaoeiiigeaaDoor
