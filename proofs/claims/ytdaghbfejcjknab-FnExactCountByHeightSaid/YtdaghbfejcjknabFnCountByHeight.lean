/- CountByHeight, the program's and the model's: the number of trees by their height, or a code. -/
import Derived.Test.YtdaghbfejcjknabWithin
import Derived.Test.YtdaghbfejcjknabLow
import Derived.Test.YtdaghbfejcjknabNumbers
import Derived.Deep.RegionHeld3
namespace Go.Proofs.Ytdaghbfejcjknab
open Go.RowKit

def F_CountByHeight (n k : Int) : Int × Int := if (1 ≤ n ∧ n ≤ 30) ∧ 0 ≤ k ∧ k ≤ n then ((M.TrN (k.toNat + 1) n.toNat : Int) - (M.TrN k.toNat n.toNat : Int), 0) else (0, 2)
theorem TrN_small {h n : Nat} (hn : n ≤ 30) : M.TrN h n ≤ 10000000000000000 := by
  rw [M.TrN]
  split
  · omega
  · exact M.Fo_small (by omega)

set_option maxHeartbeats 1000000 in
/-- treesWithin at one node or more, at whatever height from -1 on -/
theorem treesAt (b m levels : Nat) (W : World) (hm : m + 1 ≤ 30) (hl : levels ≤ 31) (hM : Hid (Memo Fk W b)) :
    Calls Try.prog 73 #[.map (some b), .int .i64 ((m : Int) + 1), .int .i64 ((levels : Int) - 1)] W fun e W' => e = .returned (.int .i64 (M.TrN levels (m + 1) : Int)) ∧ Hid (Memo Fk W' b) ∧ Hid (W.grownBy W' (some b)) := by
  cases levels with
  | zero =>
    have := treesWithin_neg b (m + 1) W hM
    have e1 : ((m + 1 : Nat) : Int) = (m : Int) + 1 := by omega
    rw [e1] at this
    exact this
  | succ j =>
    have e : ((j + 1 : Nat) : Int) - 1 = (j : Int) := by omega
    have e2 : M.TrN (j + 1) (m + 1) = M.Fo j m := by simp [M.TrN]
    rw [e, e2]
    exact treesWithin_at b m j (j : Int) ((j : Int) - 1) W (by omega) (by omega) rfl (withinAt b j (by omega) m (by omega)) hM

set_option maxHeartbeats 1000000 in
set_option maxRecDepth 100000 in
theorem impl_CountByHeight : GivesNumN2 40 F_CountByHeight := by
  intro n k w _ _ _ _
  obtain ⟨b, hb⟩ : ∃ b, Hid (((decide ((1 : Int) ≤ n) && decide (n ≤ 30)) && (decide (0 ≤ k) && decide (k ≤ n))) = b) := ⟨_, rfl⟩
  cases b
  · have hF : F_CountByHeight n k = (0, 2) := if_neg (fun h => by have := counted_iff.2 h; rw [hb.out] at this; cases this)
    rw [hF]
    clear hF
    go_enter Try.func40, Try.ntmps40
    go_wp2_with (go_at_call 70; refine (countedAny _ _ _ _ hb).mono ?_; rintro e w' ⟨rfl, rfl⟩)
    go_ret2
    exact ⟨rfl, b0 _⟩
  · have h12 := counted_iff.1 hb.out
    obtain ⟨m, hm0⟩ := Int.eq_ofNat_of_zero_le (show 0 ≤ n - 1 by omega)
    obtain rfl : n = (m : Int) + 1 := by omega
    clear hm0
    obtain ⟨t, rfl⟩ := Int.eq_ofNat_of_zero_le (show 0 ≤ k by omega)
    have hF : F_CountByHeight ((m : Int) + 1) t = ((M.TrN (t + 1) (m + 1) : Int) - (M.TrN t (m + 1) : Int), 0) := by
      have e1 : ((m : Int) + 1).toNat = m + 1 := by omega
      rw [F_CountByHeight, if_pos h12, e1, Int.toNat_natCast]
    have hm : m ≤ 29 := by omega
    have ht : t ≤ 30 := by omega
    have hc1 := treesAt w.heap.size m (t + 1) (w.alloc (.map #[] 0)) (by omega) (by omega) (Memo.new Fk w)
    have ec : ((t + 1 : Nat) : Int) - 1 = (t : Int) := by omega
    rw [ec] at hc1
    have hc2 : ∀ W, Hid (Memo Fk W w.heap.size) → Calls Try.prog 73 #[.map (some w.heap.size), .int .i64 ((m : Int) + 1), .int .i64 ((t : Int) - 1)] W fun e W' => e = .returned (.int .i64 (M.TrN t (m + 1) : Int)) ∧ Hid (Memo Fk W' w.heap.size) ∧ Hid (W.grownBy W' (some w.heap.size)) := fun W hM => treesAt w.heap.size m t W (by omega) (by omega) hM
    have hs1 := TrN_small (h := t + 1) (n := m + 1) (by omega)
    have hs2 := TrN_small (h := t) (n := m + 1) (by omega)
    rw [hF]
    generalize M.TrN (t + 1) (m + 1) = x1 at *
    generalize M.TrN t (m + 1) = x2 at *
    have HC1 := Lib.hid hc1
    have HC2 := Lib.hid hc2
    have hmm := @run_makeMap Try.prog
    clear hF h12 hc1 hc2 ec
    go_enter Try.func40, Try.ntmps40
    go_wp2_with (go_at_call 70; refine (countedAny _ _ _ _ hb).mono ?_; rintro e w' ⟨rfl, rfl⟩)
    refine HC1.out.mono ?_
    rintro e w2 ⟨rfl, hM, hg⟩
    have hB : Hid (Below w.heap.size w w2) := (bal (b0 w) (.map #[] 0)).grown hg.out (by simp) (fun k e => by injection e with e; omega)
    clear hmm HC1
    go_wp2_with fail
    refine (HC2.out _ hM).mono ?_
    rintro e w3 ⟨rfl, hM3, hg3⟩
    have hB3 : Hid (Below w.heap.size w w3) := hB.out.grown hg3.out hB.out.size (fun k e => by injection e with e; omega)
    clear HC2
    go_wp2
    go_ret2
    exact ⟨rfl, hB3.out⟩

set_option maxHeartbeats 2000000 in
set_option maxRecDepth 100000 in
theorem spec_CountByHeight : GivesNumN2 39 F_CountByHeight := by
  intro n k w _ _ _ _
  obtain ⟨b, hb⟩ : ∃ b, Hid (((decide ((1 : Int) ≤ n) && decide (n ≤ 30)) && (decide (0 ≤ k) && decide (k ≤ n))) = b) := ⟨_, rfl⟩
  cases b
  · have hF : F_CountByHeight n k = (0, 2) := if_neg (fun h => by have := counted_iff.2 h; rw [hb.out] at this; cases this)
    rw [hF]
    clear hF
    go_enter Try.func39, Try.ntmps39
    go_wp2_with (go_at_call 68; refine (l02Numbers _ _ _ _ hb).mono ?_; rintro e w' ⟨rfl, rfl⟩)
    go_ret2
    exact ⟨rfl, b0 _⟩
  · have h12 := counted_iff.1 hb.out
    obtain ⟨n, rfl⟩ := Int.eq_ofNat_of_zero_le (show 0 ≤ n by omega)
    obtain ⟨t, rfl⟩ := Int.eq_ofNat_of_zero_le (show 0 ≤ k by omega)
    have hF : F_CountByHeight n t = ((M.TrN (t + 1) n : Int) - (M.TrN t n : Int), 0) := by rw [F_CountByHeight, if_pos h12]; rfl
    have hn1 : 1 ≤ n := by omega
    have hn : n ≤ 30 := by omega
    have ht : t ≤ n := by omega
    have hs1 := TrN_small (h := t + 1) hn
    have hs2 := TrN_small (h := t) hn
    have ec : ((t + 1 : Nat) : Int) - 1 = (t : Int) := by omega
    have low : ∀ levels : Nat, levels ≤ 31 → ∀ W, Calls Try.prog 72 #[.int .i64 (n : Int), .int .i64 ((levels : Int) - 1)] W fun e w' => ∃ g c', e = .returned (.slice (some ⟨g, 0, none⟩) (n + 1) c') ∧ w'.cell? ⟨g, n, none⟩ = some (.int .i64 (M.TrN levels n : Int)) ∧ g < w'.heap.size ∧ Hid (Below W.heap.size W w') := fun levels hl W => by
      refine (lowAt n hn levels hl W).mono ?_
      rintro e w' ⟨A', c', rfl, ho, hbw⟩
      obtain ⟨g, rfl⟩ := own64_shape ho.out (by omega)
      have hcl := own64_cell ho.out (M.partRow_len _ _ _) (M.partRow_at (f := M.TrN levels) (N := n + 1) (m := n + 1) (i := n) (by omega) (by omega))
      exact ⟨g, c', rfl, hcl.1, hcl.2.2.2, hbw⟩
    have hc1 := low (t + 1) (by omega)
    have hc2 := low t (by omega)
    rw [ec] at hc1
    rw [hF]
    generalize M.TrN (t + 1) n = x1 at *
    generalize M.TrN t n = x2 at *
    have HC1 := Lib.hid hc1
    have HC2 := Lib.hid hc2
    have hw1 : IntKind.i64.wrap ((t : Int) - 1) = (t : Int) - 1 := IntWalk.i64_in _ (by omega)
    have hw2 : IntKind.i64.wrap ((x1 : Int) - (x2 : Int)) = (x1 : Int) - (x2 : Int) := IntWalk.i64_in _ (by omega)
    have hi1 : (0 : Int) ≤ (n : Int) := by omega
    have hi2 : (n : Int) < (n : Int) + 1 := by omega
    clear hF h12 hc1 hc2 ec low
    go_enter Try.func39, Try.ntmps39
    go_wp2_with (go_at_call 68; refine (l02Numbers _ _ _ _ hb).mono ?_; rintro e w' ⟨rfl, rfl⟩)
    go_region_with (first | (go_at_call_of 72 (Value.int IntKind.i64 (t : Int)); (with_reducible refine (HC1.out _).mono ?_); rintro e w7 ⟨g7, c7, rfl, k7, hg7, hb7⟩) | (go_at_call 72; (with_reducible refine (HC2.out _).mono ?_); rintro e w8 ⟨g8, c8, rfl, k8, hg8, hb8⟩; have k7' := (hb8.out.cell (p := ⟨g7, n, none⟩) hg7).trans k7))
    all_goals (go_wp2)
    all_goals (go_ret2)
    all_goals exact ⟨rfl, below_of_drew (hb7.out.trans (hb8.out.mono hb7.out.size))⟩
end Go.Proofs.Ytdaghbfejcjknab
