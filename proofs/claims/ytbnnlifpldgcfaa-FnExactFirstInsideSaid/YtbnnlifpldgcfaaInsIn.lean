/- Trees inside others by lists of nodes, the program's: placeAbove, canFollow, isAscendingBelow. -/
import Derived.Test.YtbnnlifpldgcfaaStk
import Derived.Test.YtbnnlifpldgcfaaFnIsBelow
import Derived.Test.YtbnnlifpldgcfaaFirst
import Derived.Test.YtbnnlifpldgcfaaParentsIn
import Derived.Deep.QuietTactic
import Derived.BigQuiet
namespace Go.Proofs.Ytbnnlifpldgcfaa
open Go.RowKit

/-- the nodes of a list, as a function of places -/
def nodeF (vs : List Int) (i : Nat) : Nat := (vs[i]?.getD 0).toNat
theorem nodeF_at {vs : List Int} {i : Nat} {x : Int} (h : vs[i]? = some x) : nodeF vs i = x.toNat := by rw [nodeF, h]; rfl
theorem M.below_bel (xs : List Int) (v u : Nat) : M.below xs (v : Int) (u : Int) = M.bel xs v u := by
  rw [M.below, M.bel, M.fin, Int.toNat_natCast]
  congr 1
  · exact decide_eq_decide.2 (by omega)
  · exact decide_eq_decide.2 (by omega)

set_option maxHeartbeats 2000000 in
set_option maxRecDepth 100000 in
theorem placeAbove (A An : Option Addr) (us vs : List Int) (c n cn v : Nat) (w : World) (hu : Hid (M.isTree us = true)) (hcl : us.length ≤ c) (hcu : c ≤ 1000000000000) (hn : Hid (vs.length = n)) (hn24 : n ≤ 24) (hvs : Hid (∀ x ∈ vs, 0 ≤ x ∧ x < (us.length : Int))) (h : Hid (Ints w w.heap.size A us)) (hv : Hid (Ints w w.heap.size An vs)) :
    Calls Try.prog 105 #[.slice A us.length c, .slice An n cn, .int .i64 (v : Int)] w fun e w' => e = .returned (.int .i64 (M.pl us (nodeF vs) v n)) ∧ w = w' := by
  have hx24 := (M.tree_len hu.out).2
  have hI := Lib.hid (fun (k : Nat) (x : Int) (hk : vs[k]? = some x) (b : Bool) (hb : Hid (M.below us (v : Int) x = b)) => by
    have h1 := hvs.out x (List.mem_of_getElem? hk)
    exact isIn A us c (v : Int) x w hx24 hcl (by omega) h1.1 (by omega) (Lib.hid (M.tree_ok hu.out (by omega))) h.out b hb)
  obtain ⟨R, hR⟩ : ∃ R, Hid (M.pl us (nodeF vs) v n = R) := ⟨_, rfl⟩
  rw [hR.out]
  have hrng : Hid (∀ k, -1 ≤ M.pl us (nodeF vs) v k ∧ M.pl us (nodeF vs) v k < k) := fun k => by
    rcases M.pl_cases us (nodeF vs) v k with ⟨h1, _⟩ | ⟨a, h1, h2, _⟩
    · rw [h1]; omega
    · rw [h2]; omega
  have w1 : IntKind.i64.wrap ((n : Int) - 1) = (n : Int) - 1 := IntWalk.i64_in _ (by omega)
  go_enter Try.func105, Try.ntmps105
  go_wp2
  go_loopw [7] (fun qi wr => ∃ (k : Nat), k ≤ n ∧ qi = .int .i64 ((k : Int) - 1) ∧ wr = w ∧ Hid (M.pl us (nodeF vs) v k = R)) (fun qi _ => (intOf qi + 1).toNat)
  case atStart => exact ⟨n, Nat.le_refl _, rfl, rfl, hR⟩
  case round =>
    obtain ⟨k, hk, rfl, rfl, hP⟩ := hrel
    cases k with
    | zero =>
      have hR1 : R = -1 := hP.out.symm
      clear hI hrng
      go_wp2
      go_ret
      exact ⟨by rw [hR1]; rfl, rfl⟩
    | succ k =>
      have hkz : k < vs.length := by rw [hn.out]; omega
      have hat : vs[k]? = some vs[k] := List.getElem?_eq_getElem hkz
      have h1 := hvs.out _ (List.mem_of_getElem? hat)
      have hIk := hI.out k _ hat
      generalize vs[k] = x at hat h1 hIk
      obtain ⟨b, off, rfl, hbl, hc⟩ := hv.out (by omega)
      have hcl := hc k x hat
      have e1 : ((k + 1 : Nat) : Int) - 1 = (k : Int) := by omega
      have hk0 : (0 : Int) ≤ (k : Int) := by omega
      have hkn : (k : Int) < (n : Int) := by omega
      have w2 : IntKind.i64.wrap ((k : Int) - 1) = (k : Int) - 1 := IntWalk.i64_in _ (by omega)
      have hbb : M.below us (v : Int) x = M.bel us v (nodeF vs k) := by
        rw [nodeF_at hat, ← M.below_bel]; congr 1; omega
      rw [e1]
      clear hI hv hc
      cases hb : M.bel us v (nodeF vs k)
      · have hIb := Lib.hid (hIk false (Lib.hid (hbb.trans hb)))
        have hP2 : Hid (M.pl us (nodeF vs) v k = R) := by
          show _ = _
          rw [← hP.out, M.pl_miss hb]
        clear hIk hbb hb hP hat
        go_wp2_with (go_at_call 106; refine hIb.out.mono ?_; rintro e w' ⟨rfl, rfl⟩)
        go_roundw
        case rel => exact ⟨k, by omega, rfl, trivial, hP2⟩
        case measure => simp [intOf]
      · have hIb := Lib.hid (hIk true (Lib.hid (hbb.trans hb)))
        have hR1 : R = (k : Int) := by rw [← hP.out, M.pl_hit hb]
        clear hIk hbb hb hP hat
        go_wp2_with (go_at_call 106; refine hIb.out.mono ?_; rintro e w' ⟨rfl, rfl⟩)
        go_ret
        exact ⟨by rw [hR1]; rfl, rfl⟩

set_option maxHeartbeats 2000000 in
set_option maxRecDepth 100000 in
theorem canFollow (A An Ap : Option Addr) (us vs ps : List Int) (c n cn m cp v : Nat) (w : World) (hu : Hid (M.isTree us = true)) (hcl : us.length ≤ c) (hcu : c ≤ 1000000000000) (hn : Hid (vs.length = n)) (hn24 : n ≤ 24) (hvs : Hid (∀ x ∈ vs, 0 ≤ x ∧ x < (us.length : Int))) (h : Hid (Ints w w.heap.size A us)) (hv : Hid (Ints w w.heap.size An vs))
    (hp : Hid (ps.length = m)) (hI : Hid (Ints w w.heap.size Ap ps)) (hnm : n < m) :
    Calls Try.prog 98 #[.slice Ap m cp, .slice A us.length c, .slice An n cn, .int .i64 (v : Int)] w fun e w' => e = .returned (.bool (M.pl us (nodeF vs) v n == ps[n]?.getD 0)) ∧ ∃ q, w' = w.drewN q := by
  have hPl : Hid (∀ q, Calls Try.prog 105 #[.slice A us.length c, .slice An n cn, .int .i64 (v : Int)] (w.drewN q) fun e w' => e = .returned (.int .i64 (M.pl us (nodeF vs) v n)) ∧ w' = w.drewN q) := fun q => (placeAbove A An us vs c n cn v (w.drewN q) hu hcl hcu hn hn24 hvs (Lib.hid h.out) (Lib.hid hv.out)).mono fun e w' ⟨h1, h2⟩ => ⟨h1, h2.symm⟩
  have hkz : n < ps.length := by rw [hp.out]; exact hnm
  have hat : ps[n]? = some ps[n] := List.getElem?_eq_getElem hkz
  generalize ps[n] = y at hat
  obtain ⟨b, off, rfl, hbl, hc⟩ := hI.out (by omega)
  have hcell := hc n y hat
  have hni : (n : Int) < (m : Int) := by omega
  have hd : decide ((n : Int) < (m : Int)) = true := decide_eq_true hni
  have hn0 : (0 : Int) ≤ (n : Int) := by omega
  rw [hat]
  show Calls _ _ _ _ fun e w' => e = .returned (.bool (M.pl us (nodeF vs) v n == y)) ∧ ∃ q, w' = w.drewN q
  generalize M.pl us (nodeF vs) v n = R at *
  clear hI hc h hv hvs hat
  go_enter Try.func98, Try.ntmps98
  go_wp2_with fail
  go_quiet (first | (go_at_call 105; exact Calls.quiet_of_same (hPl.out _)))
  go_wp2_with fail
  go_ret
  exact ⟨rfl, nq, rfl⟩

namespace M
/-- are the first k numbers of a list nodes below n that ascend -/
def goodAt (vs : List Int) (n : Int) (j : Nat) : Bool := decide (0 ≤ vs[j]?.getD 0) && decide (vs[j]?.getD 0 < n) && (j == 0 || decide (vs[j - 1]?.getD 0 < vs[j]?.getD 0))
def goodTo (vs : List Int) (n : Int) (k : Nat) : Bool := (List.range k).all (goodAt vs n)
theorem goodTo_succ (vs : List Int) (n : Int) (k : Nat) : goodTo vs n (k + 1) = (goodTo vs n k && goodAt vs n k) := by
  rw [goodTo, goodTo, List.range_succ, List.all_append]; simp
theorem goodTo_each {vs : List Int} {n : Int} {k : Nat} (h : goodTo vs n k = true) : ∀ j, j < k → goodAt vs n j = true := fun j hj => List.all_eq_true.1 h j (List.mem_range.2 hj)
theorem goodTo_no {vs : List Int} {n : Int} {k m : Nat} (hk : k < m) (h : goodAt vs n k = false) : goodTo vs n m = false := by
  cases hg : goodTo vs n m
  · rfl
  · rw [goodTo_each hg k hk] at h; cases h
def leastOf (vs : List Int) (k : Nat) : Int := if k = 0 then 0 else vs[k - 1]?.getD 0 + 1
theorem goodAt_iff {vs : List Int} {n : Int} {j : Nat} : goodAt vs n j = true ↔ 0 ≤ vs[j]?.getD 0 ∧ vs[j]?.getD 0 < n ∧ (j = 0 ∨ vs[j - 1]?.getD 0 < vs[j]?.getD 0) := by
  simp only [goodAt, Bool.and_eq_true, decide_eq_true_eq, Bool.or_eq_true, beq_iff_eq, and_assoc]
theorem goodAt_least {vs : List Int} {n x : Int} {k : Nat} (hg : goodTo vs n k = true) (hx : vs[k]? = some x) : (decide (leastOf vs k ≤ x) && decide (x ≤ n - 1)) = goodAt vs n k := by
  have e : vs[k]?.getD 0 = x := by rw [hx]; rfl
  rw [Bool.eq_iff_iff, goodAt_iff, e, leastOf]
  simp only [Bool.and_eq_true, decide_eq_true_eq]
  by_cases h0 : k = 0
  · rw [if_pos h0]; omega
  · rw [if_neg h0]
    have := goodAt_iff.1 (goodTo_each hg (k - 1) (by omega))
    omega
theorem goodTo_range {vs : List Int} {n : Int} (hg : goodTo vs n vs.length = true) : (∀ x ∈ vs, 0 ≤ x ∧ x < n) := fun x hx => by
  obtain ⟨j, hj⟩ := List.getElem?_of_mem hx
  have := goodAt_iff.1 (goodTo_each hg j (List.getElem?_eq_some_iff.1 hj).1)
  rw [hj] at this
  exact ⟨this.1, this.2.1⟩
end M
theorem node_asc {vs : List Int} {n : Int} (hg : M.goodTo vs n vs.length = true) : ∀ i j, i < j → j < vs.length → nodeF vs i < nodeF vs j := by
  intro i j
  induction j with
  | zero => intro h; omega
  | succ j ih =>
    intro h hj
    have h1 := M.goodAt_iff.1 (M.goodTo_each hg (j + 1) hj)
    have h2 := M.goodAt_iff.1 (M.goodTo_each hg j (by omega))
    simp only [Nat.add_sub_cancel] at h1
    have h3 : nodeF vs j < nodeF vs (j + 1) := by unfold nodeF; omega
    rcases Nat.lt_or_ge i j with h4 | h4
    · exact Nat.lt_trans (ih h4 (by omega)) h3
    · have : i = j := by omega
      rw [this]; exact h3

end Go.Proofs.Ytbnnlifpldgcfaa
