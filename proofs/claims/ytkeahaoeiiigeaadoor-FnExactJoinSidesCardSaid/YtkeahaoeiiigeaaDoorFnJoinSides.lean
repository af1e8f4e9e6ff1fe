/- JoinSides, the program's and the model's. -/
import Derived.Test.YtkeahaoeiiigeaaDoorSides
namespace Go.Proofs.YtkeahaoeiiigeaaDoor
open Go.RowKit

noncomputable def F_JoinSides (s u : ByteArray) : ByteArray × Int := if okB s && okB u then (if (treeOf s).n + (treeOf u).n + 1 ≤ 23 then ((M.Bin.node (treeOf s) (treeOf u)).str, 0) else (⟨#[]⟩, 3)) else (⟨#[]⟩, 1)

set_option maxRecDepth 100000 in
set_option maxHeartbeats 2000000 in
theorem impl_JoinSides : GivesS2 21 F_JoinSides := by
  intro p s u w hs hu hc
  have hC := Lib.hid (codeB2 p s u w hc)
  cases ho : okB s && okB u
  · rw [ho] at hC
    have hF : F_JoinSides s u = (⟨#[]⟩, 1) := by rw [F_JoinSides, ho]; rfl
    rw [hF]
    clear hF ho hc
    go_enter Tryd.func21, Tryd.ntmps21
    go_wp2_with (go_at_call 47; refine hC.out.mono ?_; rintro e w' ⟨rfl, hb⟩)
    go_ret2
    exact ⟨rfl, hb⟩
  · have ho' := ho
    rw [Bool.and_eq_true] at ho'
    obtain ⟨t, rfl, ht⟩ := okB_inv ho'.1
    obtain ⟨v, rfl, hv⟩ := okB_inv ho'.2
    rw [ho] at hC
    have hT := fun W => Lib.hid (nodesIn t W (by omega))
    have hV := fun W => Lib.hid (nodesIn v W (by omega))
    have hzt := str_size t
    have hzv := str_size v
    have hX := fun W => Lib.hid (partText_in t.str v.str W (by omega) (by omega))
    rw [partText_node] at hX
    by_cases h23 : t.n + v.n + 1 ≤ 23
    · have hF : F_JoinSides t.str v.str = ((M.Bin.node t v).str, 0) := by rw [F_JoinSides, ho, treeOf_str, treeOf_str]; simp only [if_true, if_pos h23]
      rw [hF]
      have hi : ¬ (23 : Int) < (t.n : Int) + (v.n : Int) + 1 := by omega
      clear hF ho ho' hc hzt hzv h23
      generalize (M.Bin.node t v).str = R at *
      generalize v.str = S2 at *
      generalize t.str = S1 at *
      go_enter Tryd.func21, Tryd.ntmps21
      go_wp2_with (first | (go_at_call 47; refine hC.out.mono ?_; rintro e w1 ⟨rfl, hb1⟩) | (go_at_call_of 52 (Value.string S1); refine (hT _).out.mono ?_; rintro e w' ⟨rfl, hw⟩; subst hw) | (go_at_call 52; refine (hV _).out.mono ?_; rintro e w' ⟨rfl, hw⟩; subst hw) | (go_at_call 53; refine (hX _).out.mono ?_; rintro e w2 ⟨rfl, hb2⟩))
      go_ret2
      exact ⟨rfl, Lib.hid (btr hb1.out hb2.out)⟩
    · have hF : F_JoinSides t.str v.str = (⟨#[]⟩, 3) := by rw [F_JoinSides, ho, treeOf_str, treeOf_str]; simp only [if_true, if_neg h23]
      rw [hF]
      have hi : (23 : Int) < (t.n : Int) + (v.n : Int) + 1 := by omega
      clear hF ho ho' hc hzt hzv h23 hX
      generalize v.str = S2 at *
      generalize t.str = S1 at *
      go_enter Tryd.func21, Tryd.ntmps21
      go_wp2_with (first | (go_at_call 47; refine hC.out.mono ?_; rintro e w1 ⟨rfl, hb1⟩) | (go_at_call_of 52 (Value.string S1); refine (hT _).out.mono ?_; rintro e w' ⟨rfl, hw⟩; subst hw) | (go_at_call 52; refine (hV _).out.mono ?_; rintro e w' ⟨rfl, hw⟩; subst hw))
      go_ret2
      exact ⟨rfl, hb1⟩

set_option maxRecDepth 100000 in
set_option maxHeartbeats 2000000 in
theorem spec_JoinSides : GivesS2 20 F_JoinSides := by
  intro p s u w hs hu _
  have hC1 := Lib.hid (l03Is s w hs)
  have hC2 := Lib.hid (l03Is u w hu)
  cases h1 : okB s
  · rw [h1] at hC1
    have hF : F_JoinSides s u = (⟨#[]⟩, 1) := by rw [F_JoinSides, h1]; rfl
    rw [hF]
    clear hF h1
    go_enter Tryd.func20, Tryd.ntmps20
    go_wp2_with (go_at_call 46; refine hC1.out.mono ?_; rintro e w' ⟨rfl, hw⟩; subst hw)
    go_ret2
    exact ⟨rfl, b0 _⟩
  · rw [h1] at hC1
    cases h2 : okB u
    · rw [h2] at hC2
      have hF : F_JoinSides s u = (⟨#[]⟩, 1) := by rw [F_JoinSides, h1, h2]; rfl
      rw [hF]
      clear hF h1 h2
      go_enter Tryd.func20, Tryd.ntmps20
      go_wp2_with (first | (go_at_call_of 46 (Value.string s); refine hC1.out.mono ?_; rintro e w' ⟨rfl, hw⟩; subst hw) | (go_at_call 46; refine hC2.out.mono ?_; rintro e w' ⟨rfl, hw⟩; subst hw))
      go_ret2
      exact ⟨rfl, b0 _⟩
    · rw [h2] at hC2
      obtain ⟨t, rfl, ht⟩ := okB_inv h1
      obtain ⟨v, rfl, hv⟩ := okB_inv h2
      have hT := Lib.hid (l03N t w (by omega))
      have hV := Lib.hid (l03N v w (by omega))
      have hzt := str_size t
      have hzv := str_size v
      have hR : Hid ((M.Bin.node t v).str = ⟨#[49]⟩ ++ t.str ++ v.str) := by
        show _ = _
        show _ = M.bs [49] ++ M.bs t.txt ++ M.bs v.txt
        rw [M.bs_append, M.bs_append]
        rfl
      by_cases h23 : t.n + v.n + 1 ≤ 23
      · have hF : F_JoinSides t.str v.str = ((M.Bin.node t v).str, 0) := by rw [F_JoinSides, h1, h2, treeOf_str, treeOf_str]; simp only [Bool.and_self, if_true, if_pos h23]
        rw [hF, hR.out]
        have hi : ¬ (23 : Int) ≤ (t.n : Int) + (v.n : Int) := by omega
        have hs1 : ¬ 9223372036854775807 < 1 + t.str.size := by omega
        have hs2 : ¬ 9223372036854775807 < 1 + t.str.size + v.str.size := by omega
        clear hF h1 h2 hzt hzv h23 hR
        generalize v.str = S2 at *
        generalize t.str = S1 at *
        go_enter Tryd.func20, Tryd.ntmps20
        go_wp2_with (first | (go_at_call_of 46 (Value.string S1); refine hC1.out.mono ?_; rintro e w' ⟨rfl, hw⟩; subst hw) | (go_at_call 46; refine hC2.out.mono ?_; rintro e w' ⟨rfl, hw⟩; subst hw) | (go_at_call_of 51 (Value.string S1); refine hT.out.mono ?_; rintro e w' ⟨rfl, hw⟩; subst hw) | (go_at_call 51; refine hV.out.mono ?_; rintro e w' ⟨rfl, hw⟩; subst hw))
        go_ret2
        exact ⟨rfl, b0 _⟩
      · have hF : F_JoinSides t.str v.str = (⟨#[]⟩, 3) := by rw [F_JoinSides, h1, h2, treeOf_str, treeOf_str]; simp only [Bool.and_self, if_true, if_neg h23]
        rw [hF]
        have hi : (23 : Int) ≤ (t.n : Int) + (v.n : Int) := by omega
        clear hF h1 h2 hzt hzv h23 hR
        generalize v.str = S2 at *
        generalize t.str = S1 at *
        go_enter Tryd.func20, Tryd.ntmps20
        go_wp2_with (first | (go_at_call_of 46 (Value.string S1); refine hC1.out.mono ?_; rintro e w' ⟨rfl, hw⟩; subst hw) | (go_at_call 46; refine hC2.out.mono ?_; rintro e w' ⟨rfl, hw⟩; subst hw) | (go_at_call_of 51 (Value.string S1); refine hT.out.mono ?_; rintro e w' ⟨rfl, hw⟩; subst hw) | (go_at_call 51; refine hV.out.mono ?_; rintro e w' ⟨rfl, hw⟩; subst hw))
        go_ret2
        exact ⟨rfl, b0 _⟩
end Go.Proofs.YtkeahaoeiiigeaaDoor
