/- Trees inside others by lists of nodes, the program's: placeAbove, canFollow, isAscendingBelow. -/
import Derived.Test.YtgcabcmnhdaepaaStk
import Derived.Test.YtgcabcmnhdaepaaFnIsBelow
import Derived.Test.YtgcabcmnhdaepaaFirst
import Derived.Test.YtgcabcmnhdaepaaParentsIn
import Derived.Deep.QuietTactic
import Derived.BigQuiet
namespace Go.Proofs.Ytgcabcmnhdaepaa
open Go.RowKit

/-- the nodes of a list, as a function of places -/
def nodeF (vs : List Int) (i : Nat) : Nat := (vs[i]?.getD 0).toNat
theorem nodeF_at {vs : List Int} {i : Nat} {x : Int} (h : vs[i]? = some x) : nodeF vs i = x.toNat := by rw [nodeF, h]; rfl
theorem M.below_bel (xs : List Int) (v u : Nat) : M.below xs (v : Int) (u : Int) = M.bel xs v u := by
  rw [M.below, M.bel, M.fin, Int.toNat_natCast]
  congr 1
  · exact decide_eq_decide.2 (by omega)
  · exact decide_eq_decide.2 (by omega)

namespace M
/-- are the first k numbers of a list nodes below n that ascend -/
def goodAt (vs : List Int) (n : Int) (j : Nat) : Bool := decide (0 ≤ vs[j]?.getD 0) && decide (vs[j]?.getD 0 < n) && (j == 0 || decide (vs[j - 1]?.getD 0 < vs[j]?.getD 0))
def goodTo (vs : List Int) (n : Int) (k : Nat) : Bool := (List.range k).all (goodAt vs n)
theorem goodTo_succ (vs : List Int) (n : Int) (k : Nat) : goodTo vs n (k + 1) = (goodTo vs n k && goodAt vs n k) := by
  rw [goodTo, goodTo, List.range_succ, List.all_append]; simp
theorem goodTo_each {vs : List Int} {n : Int} {k : Nat} (h : goodTo vs n k = true) : ∀ j, j < k → goodAt vs n j = true := fun j hj => List.all_eq_true.1 h j (List.mem_range.2 hj)
theorem goodTo_no {vs : List Int} {n : Int} {k m : Nat} (hk : k < m) (h : goodAt vs n k = false) : goodTo vs n m = false := by
  cases hg : goodTo vs n m
  · rfl
  · rw [goodTo_each hg k hk] at h; cases h
def leastOf (vs : List Int) (k : Nat) : Int := if k = 0 then 0 else vs[k - 1]?.getD 0 + 1
theorem goodAt_iff {vs : List Int} {n : Int} {j : Nat} : goodAt vs n j = true ↔ 0 ≤ vs[j]?.getD 0 ∧ vs[j]?.getD 0 < n ∧ (j = 0 ∨ vs[j - 1]?.getD 0 < vs[j]?.getD 0) := by
  simp only [goodAt, Bool.and_eq_true, decide_eq_true_eq, Bool.or_eq_true, beq_iff_eq, and_assoc]
theorem goodAt_least {vs : List Int} {n x : Int} {k : Nat} (hg : goodTo vs n k = true) (hx : vs[k]? = some x) : (decide (leastOf vs k ≤ x) && decide (x ≤ n - 1)) = goodAt vs n k := by
  have e : vs[k]?.getD 0 = x := by rw [hx]; rfl
  rw [Bool.eq_iff_iff, goodAt_iff, e, leastOf]
  simp only [Bool.and_eq_true, decide_eq_true_eq]
  by_cases h0 : k = 0
  · rw [if_pos h0]; omega
  · rw [if_neg h0]
    have := goodAt_iff.1 (goodTo_each hg (k - 1) (by omega))
    omega
theorem goodTo_range {vs : List Int} {n : Int} (hg : goodTo vs n vs.length = true) : (∀ x ∈ vs, 0 ≤ x ∧ x < n) := fun x hx => by
  obtain ⟨j, hj⟩ := List.getElem?_of_mem hx
  have := goodAt_iff.1 (goodTo_each hg j (List.getElem?_eq_some_iff.1 hj).1)
  rw [hj] at this
  exact ⟨this.1, this.2.1⟩
end M
theorem node_asc {vs : List Int} {n : Int} (hg : M.goodTo vs n vs.length = true) : ∀ i j, i < j → j < vs.length → nodeF vs i < nodeF vs j := by
  intro i j
  induction j with
  | zero => intro h; omega
  | succ j ih =>
    intro h hj
    have h1 := M.goodAt_iff.1 (M.goodTo_each hg (j + 1) hj)
    have h2 := M.goodAt_iff.1 (M.goodTo_each hg j (by omega))
    simp only [Nat.add_sub_cancel] at h1
    have h3 : nodeF vs j < nodeF vs (j + 1) := by unfold nodeF; omega
    rcases Nat.lt_or_ge i j with h4 | h4
    · exact Nat.lt_trans (ih h4 (by omega)) h3
    · have : i = j := by omega
      rw [this]; exact h3

set_option maxHeartbeats 2000000 in
set_option maxRecDepth 100000 in
theorem isAscendingBelow (An : Option Addr) (vs : List Int) (n cn m : Nat) (w : World) (hn : Hid (vs.length = n)) (hn' : n ≤ 1048576) (hm : m ≤ 1048576) (hv : Hid (Ints w w.heap.size An vs)) :
    Calls Try.prog 116 #[.slice An n cn, .int .i64 (m : Int)] w fun e w' => e = .returned (.bool (M.goodTo vs m n)) ∧ w = w' := by
  obtain ⟨R, hR⟩ : ∃ R, Hid (M.goodTo vs m n = R) := ⟨_, rfl⟩
  rw [hR.out]
  have w1 : IntKind.i64.wrap ((m : Int) - 1) = (m : Int) - 1 := IntWalk.i64_in _ (by omega)
  go_enter Try.func116, Try.ntmps116
  go_wp2
  go_loopw [5, 10] (fun ql qi wr => ∃ (k : Nat) (y : Int), k ≤ n ∧ qi = .int .i64 (k : Int) ∧ ql = .int .i64 y ∧ 0 ≤ y ∧ y ≤ 1048577 ∧ wr = w ∧ Hid (M.goodTo vs m k = true) ∧ Hid (M.leastOf vs k = y)) (fun _ qi _ => n - (intOf qi).toNat)
  case atStart => exact ⟨0, 0, Nat.zero_le _, rfl, rfl, by omega, by omega, rfl, rfl, rfl⟩
  case round =>
    obtain ⟨k, y, hk, rfl, rfl, hy0, hy1, rfl, hg, hl⟩ := hrel
    by_cases hlt : k < n
    · have hki : (k : Int) < (n : Int) := by omega
      have hk0 : (0 : Int) ≤ (k : Int) := by omega
      have hkz : k < vs.length := by rw [hn.out]; exact hlt
      have hat : vs[k]? = some vs[k] := List.getElem?_eq_getElem hkz
      generalize vs[k] = x at hat
      obtain ⟨b, off, rfl, hbl, hc⟩ := hv.out (by omega)
      have hcell := hc k x hat
      have hgl := M.goodAt_least hg.out hat
      rw [hl.out] at hgl
      have hge : vs[k]?.getD 0 = x := by rw [hat]; rfl
      cases hb : M.goodAt vs m k
      · have hI := fun W => Lib.hid (withinAny x y ((m : Int) - 1) W false (Lib.hid (hgl.trans hb)))
        have hR1 : R = false := by rw [← hR.out]; exact M.goodTo_no hlt hb
        clear hgl hge hb hat hc hv hg hl
        go_wp2_with (go_at_call 81; refine (hI _).out.mono ?_; rintro e w' ⟨rfl, rfl⟩)
        go_ret
        exact ⟨by rw [hR1]; rfl, rfl⟩
      · have hI := fun W => Lib.hid (withinAny x y ((m : Int) - 1) W true (Lib.hid (hgl.trans hb)))
        have hx := M.goodAt_iff.1 hb
        rw [hge] at hx
        have hg2 : Hid (M.goodTo vs m (k + 1) = true) := by show _ = _; rw [M.goodTo_succ, hg.out, hb]; rfl
        have hl2 : Hid (M.leastOf vs (k + 1) = x + 1) := by show _ = _; rw [M.leastOf, if_neg (by omega), Nat.add_sub_cancel, hat]; rfl
        have hx0 := hx.1
        have hx1 := hx.2.1
        clear hgl hge hb hat hc hv hg hl hx
        go_wp2_with (go_at_call 81; refine (hI _).out.mono ?_; rintro e w' ⟨rfl, rfl⟩)
        go_roundw
        case rel => exact ⟨k + 1, x + 1, by omega, by go_num, by go_num, by omega, by omega, trivial, hg2, hl2⟩
        case measure => simp [intOf]; omega
    · obtain rfl : k = n := by omega
      have hR1 : R = true := by rw [← hR.out]; exact hg.out
      clear hv
      go_wp2
      go_ret
      exact ⟨by rw [hR1]; rfl, rfl⟩
end Go.Proofs.Ytgcabcmnhdaepaa
