/- IsAtMost, the program's and the model's. -/
import Derived.Test.YtkeahaoeiiigeaaDoorTwoB
import Derived.Test.YtkeahaoeiiigeaaDoorVisitV
import Derived.Test.YtkeahaoeiiigeaaDoorSpecIn
namespace Go.Proofs.YtkeahaoeiiigeaaDoor
open Go.RowKit

def atMost (a b : List Int) (k : Nat) : Bool := (List.range k).all fun i => decide (a[i]?.getD 0 ≤ b[i]?.getD 0)
theorem atMost_step {a b : List Int} {k : Nat} {x y : Int} (h : atMost a b k = true) (ha : a[k]? = some x) (hb : b[k]? = some y) (hxy : x ≤ y) : atMost a b (k + 1) = true := by
  rw [atMost] at h ⊢
  rw [List.range_succ, List.all_append, h]
  simp [ha, hb, hxy]
theorem atMost_stop {a b : List Int} {k n : Nat} {x y : Int} (hk : k < n) (ha : a[k]? = some x) (hb : b[k]? = some y) (hxy : ¬ x ≤ y) : atMost a b n = false := by
  rw [atMost]
  exact List.all_eq_false.2 ⟨k, List.mem_range.2 hk, by simp [ha, hb, hxy]⟩
noncomputable def F_IsAtMost (s u : ByteArray) : Bool × Int := if codeTwo s u = 0 then (atMost (treeOf s).vec (treeOf u).vec (treeOf s).n, 0) else (false, codeTwo s u)

theorem own_at {w : World} {B n c k : Nat} {A : Option Addr} {zs : List Int} {x : Int} (h : Own64 w B (.slice A n c) zs) (hx : zs[k]? = some x) : ∃ g, A = some ⟨g, 0, none⟩ ∧ w.cell? ⟨g, k, none⟩ = some (.int .i64 x) ∧ g < w.heap.size := by
  have hn := own64_len h
  have hk := (List.getElem?_eq_some_iff.1 hx).1
  rcases h.2 with ⟨h1, h2⟩ | ⟨g, cap, cur, hv, _⟩
  · injection h1 with e1 e2 e3; omega
  · injection hv with e1
    subst e1
    have := own64_cell h hn.symm hx
    exact ⟨g, rfl, this.1, this.2.2.2⟩
theorem codeTwo_zero {s u : ByteArray} (h : codeTwo s u = 0) : ∃ t v : M.Bin, s = t.str ∧ u = v.str ∧ t.n ≤ 23 ∧ v.n = t.n := by
  rw [codeTwo] at h
  cases ho : okB s && okB u
  · rw [ho] at h; simp at h
  · rw [ho, if_pos rfl] at h
    have ho' := ho
    rw [Bool.and_eq_true] at ho'
    obtain ⟨t, rfl, ht⟩ := okB_inv ho'.1
    obtain ⟨v, rfl, hv⟩ := okB_inv ho'.2
    refine ⟨t, v, rfl, rfl, ht, ?_⟩
    by_cases hz : t.str.size = v.str.size
    · rw [str_size, str_size] at hz; omega
    · rw [if_neg hz] at h; simp at h

set_option maxRecDepth 100000 in
set_option maxHeartbeats 2000000 in
theorem impl_IsAtMost : GivesB2 39 F_IsAtMost := by
  intro p s u w hs hu hc
  have hC := Lib.hid (codeOfTwo p s u w hc)
  have HC := Lib.hid hc
  by_cases h0 : codeTwo s u = 0
  · rw [h0] at hC
    obtain ⟨t, v, rfl, rfl, ht, hv⟩ := codeTwo_zero h0
    have hF : F_IsAtMost t.str v.str = (atMost t.vec v.vec t.n, 0) := by rw [F_IsAtMost, if_pos h0, treeOf_str, treeOf_str]
    rw [hF]
    have hT := fun W h => Lib.hid (vectorOf p t W (by omega) h)
    have hV := fun W h => Lib.hid (vectorOf p v W (by omega) h)
    have lt := Lib.hid t.vec_len
    have lv : Hid (v.vec.length = t.n) := v.vec_len.trans hv
    clear hF h0 hc hv
    generalize v.str = S2 at *
    generalize t.str = S1 at *
    generalize t.vec = T at *
    generalize v.vec = V at *
    generalize t.n = N at *
    rw [lv.out] at hV
    rw [lt.out] at hT
    go_enter Tryd.func39, Tryd.ntmps39
    go_wp2_with (first | (go_at_call 75; refine hC.out.mono ?_; rintro e w1 ⟨rfl, hb1⟩) | (go_at_call_of 65 (Value.string S2); refine (hV _ (cell_up hb1.out HC.out)).out.mono ?_; rintro e w2 ⟨A2, c2, rfl, ho2, hb2⟩) | (go_at_call 65; refine (hT _ (cell_up hb2.out (cell_up hb1.out HC.out))).out.mono ?_; rintro e w3 ⟨A3, c3, rfl, ho3, hb3⟩))
    have ho2' := Lib.hid (own_be ho2.out hb3.out)
    have hB := Lib.hid (btr hb1.out (btr hb2.out hb3.out))
    clear hT hV HC hC hb1 hb2 hb3 ho2
    go_loopw [21] (fun qi wr => ∃ (k : Nat), k ≤ N ∧ qi = .int .i64 (k : Int) ∧ wr = w3 ∧ Hid (atMost T V k = true)) (fun qi _ => N - (intOf qi).toNat)
    case atStart => exact ⟨0, Nat.zero_le _, rfl, rfl, by simp [Hid, atMost]⟩
    case round =>
      obtain ⟨k, hk, rfl, rfl, ha⟩ := hrel
      by_cases hlt : k < N
      · have hki : (k : Int) < (N : Int) := by omega
        have hx : Hid (T[k]? = some (T[k]'(by have := lt.out; omega))) := List.getElem?_eq_getElem _
        have hy : Hid (V[k]? = some (V[k]'(by have := lv.out; omega))) := List.getElem?_eq_getElem _
        generalize T[k]'(by have := lt.out; omega) = x at hx
        generalize V[k]'(by have := lv.out; omega) = y at hy
        obtain ⟨g3, rfl, k3, _⟩ := own_at ho3.out hx.out
        obtain ⟨g2, rfl, k2, _⟩ := own_at ho2'.out hy.out
        by_cases hxy : x ≤ y
        · have hxi : ¬ y < x := by omega
          have hN := Lib.hid (atMost_step ha.out hx.out hy.out hxy)
          go_wp2
          go_roundw
          case rel => exact ⟨k + 1, by omega, by go_num, trivial, hN⟩
          case measure => simp [intOf]; omega
        · have hxi : y < x := by omega
          have hN := Lib.hid (atMost_stop hlt hx.out hy.out hxy)
          go_wp2
          go_ret2
          rw [hN.out]
          exact ⟨rfl, hB⟩
      · obtain rfl : k = N := by omega
        go_wp2
        go_ret2
        rw [ha.out]
        exact ⟨rfl, hB⟩
  · have hF : F_IsAtMost s u = (false, codeTwo s u) := by rw [F_IsAtMost, if_neg h0]
    rw [hF]
    have hne : (codeTwo s u != 0) = true := bne_iff_ne.2 h0
    clear hF h0 hc HC
    generalize codeTwo s u = z at *
    go_enter Tryd.func39, Tryd.ntmps39
    go_wp2_with (go_at_call 75; refine hC.out.mono ?_; rintro e w1 ⟨rfl, hb1⟩)
    go_ret2
    exact ⟨rfl, hb1⟩

set_option maxRecDepth 100000 in
set_option maxHeartbeats 2000000 in
theorem spec_IsAtMost : GivesB2 38 F_IsAtMost := by
  intro p s u w hs hu _
  have hC := Lib.hid (l03Both s u w hs hu)
  by_cases h0 : codeTwo s u = 0
  · rw [h0] at hC
    obtain ⟨t, v, rfl, rfl, ht, hv⟩ := codeTwo_zero h0
    have hF : F_IsAtMost t.str v.str = (atMost t.vec v.vec t.n, 0) := by rw [F_IsAtMost, if_pos h0, treeOf_str, treeOf_str]
    rw [hF]
    have hT := fun W => Lib.hid (l03Vector t.n t W (Nat.le_refl _) (by omega))
    have hV := fun W => Lib.hid (l03Vector v.n v W (Nat.le_refl _) (by omega))
    have lt := Lib.hid t.vec_len
    have lv : Hid (v.vec.length = t.n) := v.vec_len.trans hv
    clear hF h0 hv
    generalize v.str = S2 at *
    generalize t.str = S1 at *
    generalize t.vec = T at *
    generalize v.vec = V at *
    generalize t.n = N at *
    go_enter Tryd.func38, Tryd.ntmps38
    go_wp2_with (first | (go_at_call 74; refine hC.out.mono ?_; rintro e w' ⟨rfl, hw⟩; subst hw) | (go_at_call_of 64 (Value.string S1); refine (hT _).out.mono ?_; rintro e w2 ⟨A2, n2, c2, rfl, ho2, hb2⟩; have hn2 := (own64_len ho2.out).trans lt.out; subst hn2) | (go_at_call 64; refine (hV _).out.mono ?_; rintro e w3 ⟨A3, n3, c3, rfl, ho3, hb3⟩))
    have ho2' := Lib.hid (own_be ho2.out hb3.out)
    have hB := Lib.hid (btr hb2.out hb3.out)
    have hn3 := Lib.hid ((own64_len ho3.out).trans lv.out)
    have hn3' : Hid (n2 = n3) := hn3.out.symm
    clear hT hV hC hb2 hb3 ho2
    go_loopw [9] (fun qi wr => ∃ (k : Nat), k ≤ n2 ∧ qi = .int .i64 (k : Int) ∧ Hid (Below w3.heap.size w3 wr) ∧ Hid (atMost T V k = true)) (fun qi _ => n2 - (intOf qi).toNat)
    case atStart => exact ⟨0, Nat.zero_le _, rfl, Lib.hid (b0 _), by simp [Hid, atMost]⟩
    case round =>
      obtain ⟨k, hk, rfl, hbr, ha⟩ := hrel
      by_cases hlt : k < n2
      · have hki : (k : Int) < (n2 : Int) := by omega
        have hkj : (k : Int) < (n3 : Int) := by have := hn3'.out; omega
        have hk0 : (0 : Int) ≤ (k : Int) := by omega
        have hx : Hid (T[k]? = some (T[k]'(by have := lt.out; omega))) := List.getElem?_eq_getElem _
        have hy : Hid (V[k]? = some (V[k]'(by have := lv.out; omega))) := List.getElem?_eq_getElem _
        generalize T[k]'(by have := lt.out; omega) = x at hx
        generalize V[k]'(by have := lv.out; omega) = y at hy
        obtain ⟨g2, rfl, k2, l2⟩ := own_at ho2'.out hx.out
        obtain ⟨g3, rfl, k3, l3⟩ := own_at ho3.out hy.out
        have k2r : wr.cell? ⟨g2, k, none⟩ = some (.int .i64 x) := (hbr.out.cell (p := ⟨g2, k, none⟩) l2).trans k2
        have k3r : wr.cell? ⟨g3, k, none⟩ = some (.int .i64 y) := (hbr.out.cell (p := ⟨g3, k, none⟩) l3).trans k3
        have hbd : Hid (Below w3.heap.size w3 wr.drew) := hbr.out.drew
        by_cases hxy : x ≤ y
        · have hxi : ¬ y < x := by omega
          have hN := Lib.hid (atMost_step ha.out hx.out hy.out hxy)
          go_wp2
          go_region
          go_wp2
          go_roundw
          case rel => exact ⟨k + 1, by omega, by go_num, hbd, hN⟩
          case measure => simp [intOf]; omega
        · have hxi : y < x := by omega
          have hN := Lib.hid (atMost_stop hlt hx.out hy.out hxy)
          go_wp2
          go_region
          go_wp2
          go_ret2
          rw [hN.out]
          exact ⟨rfl, Lib.hid (btr hB.out hbd.out)⟩
      · obtain rfl : k = n2 := by omega
        go_wp2
        go_ret2
        rw [ha.out]
        exact ⟨rfl, Lib.hid (btr hB.out hbr.out)⟩
  · have hF : F_IsAtMost s u = (false, codeTwo s u) := by rw [F_IsAtMost, if_neg h0]
    rw [hF]
    have hne : (codeTwo s u != 0) = true := bne_iff_ne.2 h0
    clear hF h0
    generalize codeTwo s u = z at *
    go_enter Tryd.func38, Tryd.ntmps38
    go_wp2_with (go_at_call 74; refine hC.out.mono ?_; rintro e w' ⟨rfl, hw⟩; subst hw)
    go_ret2
    exact ⟨rfl, b0 _⟩
end Go.Proofs.YtkeahaoeiiigeaaDoor
