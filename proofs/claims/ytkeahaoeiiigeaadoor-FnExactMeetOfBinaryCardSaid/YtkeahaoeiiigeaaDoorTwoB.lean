/- Codes of two texts that have to be those of binary trees of as many nodes: codeOfTwo, l03Both. -/
import Derived.Test.YtkeahaoeiiigeaaDoorSides
namespace Go.Proofs.YtkeahaoeiiigeaaDoor
open Go.RowKit

def codeTwo (s u : ByteArray) : Int := if okB s && okB u then (if s.size = u.size then 0 else 2) else 1
theorem codeTwo_bad {s u : ByteArray} (h : (okB s && okB u) = false) : codeTwo s u = 1 := by rw [codeTwo, h]; rfl
theorem codeTwo_ne {t v : M.Bin} (h : (okB t.str && okB v.str) = true) (hn : t.n ≠ v.n) : codeTwo t.str v.str = 2 := by
  rw [codeTwo, h, if_pos rfl, if_neg (by rw [str_size, str_size]; omega)]
theorem codeTwo_eq {t v : M.Bin} (h : (okB t.str && okB v.str) = true) (hn : t.n = v.n) : codeTwo t.str v.str = 0 := by
  rw [codeTwo, h, if_pos rfl, if_pos (by rw [str_size, str_size]; omega)]

set_option maxRecDepth 100000 in
theorem codeOfTwo (p : Addr) (s u : ByteArray) (w : World) (hc : w.cell? ⟨0, 0, none⟩ = some (errV p)) : Calls Tryd.prog 75 #[.string s, .string u] w fun e w' => e = .returned (.int .i64 (codeTwo s u)) ∧ Hid (Below w.heap.size w w') := by
  have hC := Lib.hid (codeB2 p s u w hc)
  clear hc
  cases ho : okB s && okB u
  · rw [ho] at hC
    rw [codeTwo_bad ho]
    clear ho
    go_enter Tryd.func75, Tryd.ntmps75
    go_wp2_with (go_at_call 47; refine hC.out.mono ?_; rintro e w' ⟨rfl, hb⟩)
    go_ret
    exact ⟨rfl, hb⟩
  · have ho' := ho
    rw [Bool.and_eq_true] at ho'
    obtain ⟨t, rfl, ht⟩ := okB_inv ho'.1
    obtain ⟨v, rfl, hv⟩ := okB_inv ho'.2
    rw [ho] at hC
    have hT := fun W => Lib.hid (nodesIn t W (by omega))
    have hV := fun W => Lib.hid (nodesIn v W (by omega))
    by_cases hn : t.n = v.n
    · rw [codeTwo_eq ho hn]
      rw [hn] at hT
      clear ho ho' hn ht
      generalize v.str = S2 at *
      generalize t.str = S1 at *
      go_enter Tryd.func75, Tryd.ntmps75
      go_wp2_with (first | (go_at_call 47; refine hC.out.mono ?_; rintro e w1 ⟨rfl, hb1⟩) | (go_at_call_of 52 (Value.string S1); refine (hT _).out.mono ?_; rintro e w' ⟨rfl, hw⟩; subst hw) | (go_at_call 52; refine (hV _).out.mono ?_; rintro e w' ⟨rfl, hw⟩; subst hw))
      go_ret
      exact ⟨rfl, hb1⟩
    · rw [codeTwo_ne ho hn]
      have hi : ((t.n : Int) != (v.n : Int)) = true := bne_iff_ne.2 (by omega)
      clear ho ho' hn
      generalize v.str = S2 at *
      generalize t.str = S1 at *
      go_enter Tryd.func75, Tryd.ntmps75
      go_wp2_with (first | (go_at_call 47; refine hC.out.mono ?_; rintro e w1 ⟨rfl, hb1⟩) | (go_at_call_of 52 (Value.string S1); refine (hT _).out.mono ?_; rintro e w' ⟨rfl, hw⟩; subst hw) | (go_at_call 52; refine (hV _).out.mono ?_; rintro e w' ⟨rfl, hw⟩; subst hw))
      go_ret
      exact ⟨rfl, hb1⟩

set_option maxRecDepth 100000 in
theorem l03Both (s u : ByteArray) (w : World) (hs : s.size ≤ 1048576) (hu : u.size ≤ 1048576) : Calls Tryd.prog 74 #[.string s, .string u] w fun e w' => e = .returned (.int .i64 (codeTwo s u)) ∧ w' = w := by
  have hC1 := Lib.hid (l03Is s w hs)
  have hC2 := Lib.hid (l03Is u w hu)
  cases h1 : okB s
  · rw [h1] at hC1
    rw [codeTwo_bad (by rw [h1]; rfl)]
    clear h1
    go_enter Tryd.func74, Tryd.ntmps74
    go_wp2_with (go_at_call 46; refine hC1.out.mono ?_; rintro e w' ⟨rfl, hw⟩; subst hw)
    go_ret
    exact ⟨rfl, rfl⟩
  · rw [h1] at hC1
    cases h2 : okB u
    · rw [h2] at hC2
      rw [codeTwo_bad (by rw [h1, h2]; rfl)]
      clear h1 h2
      go_enter Tryd.func74, Tryd.ntmps74
      go_wp2_with (first | (go_at_call_of 46 (Value.string s); refine hC1.out.mono ?_; rintro e w' ⟨rfl, hw⟩; subst hw) | (go_at_call 46; refine hC2.out.mono ?_; rintro e w' ⟨rfl, hw⟩; subst hw))
      go_ret
      exact ⟨rfl, rfl⟩
    · rw [h2] at hC2
      by_cases hn : s.size = u.size
      · have hk : codeTwo s u = 0 := by rw [codeTwo, h1, h2]; simp [hn]
        rw [hk]
        have hi : ((s.size : Int) != (u.size : Int)) = false := by rw [hn]; simp
        clear h1 h2 hk hn
        go_enter Tryd.func74, Tryd.ntmps74
        go_wp2_with (first | (go_at_call_of 46 (Value.string s); refine hC1.out.mono ?_; rintro e w' ⟨rfl, hw⟩; subst hw) | (go_at_call 46; refine hC2.out.mono ?_; rintro e w' ⟨rfl, hw⟩; subst hw))
        go_ret
        exact ⟨rfl, rfl⟩
      · have hk : codeTwo s u = 2 := by rw [codeTwo, h1, h2]; simp [hn]
        rw [hk]
        have hi : ((s.size : Int) != (u.size : Int)) = true := bne_iff_ne.2 (by omega)
        clear h1 h2 hk hn
        go_enter Tryd.func74, Tryd.ntmps74
        go_wp2_with (first | (go_at_call_of 46 (Value.string s); refine hC1.out.mono ?_; rintro e w' ⟨rfl, hw⟩; subst hw) | (go_at_call 46; refine hC2.out.mono ?_; rintro e w' ⟨rfl, hw⟩; subst hw))
        go_ret
        exact ⟨rfl, rfl⟩
end Go.Proofs.YtkeahaoeiiigeaaDoor
