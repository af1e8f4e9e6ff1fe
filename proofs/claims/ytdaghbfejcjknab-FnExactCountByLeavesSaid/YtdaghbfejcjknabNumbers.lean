/- tests of two numbers: of nodes and of something else. -/
import Derived.Test.YtdaghbfejcjknabFirst
namespace Go.Proofs.Ytdaghbfejcjknab
open Go.RowKit

theorem countedAny (n k : Int) (w : World) (b : Bool) (hb : Hid (((decide (1 ≤ n) && decide (n ≤ 30)) && (decide (0 ≤ k) && decide (k ≤ n))) = b)) :
    Calls Try.prog 70 #[.int .i64 n, .int .i64 k] w fun e w' => e = .returned (.bool b) ∧ w = w' := by
  obtain ⟨b1, hb1⟩ : ∃ b1, Hid ((decide (1 ≤ n) && decide (n ≤ 30)) = b1) := ⟨_, rfl⟩
  obtain ⟨b2, hb2⟩ : ∃ b2, Hid ((decide (0 ≤ k) && decide (k ≤ n)) = b2) := ⟨_, rfl⟩
  have hb' : b = (b1 && b2) := by rw [← hb.out, hb1.out, hb2.out]
  clear hb
  subst hb'
  cases b1
  · go_enter Try.func70, Try.ntmps70
    go_wp2_with (go_at_call 54; refine (withinAny _ _ _ _ _ hb1).mono ?_; rintro e w' ⟨rfl, rfl⟩)
    go_ret
    exact ⟨rfl, rfl⟩
  · go_enter Try.func70, Try.ntmps70
    go_wp2_with fail
    refine (withinAny _ _ _ _ _ hb1).mono ?_
    rintro e w' ⟨rfl, rfl⟩
    go_wp2_with fail
    refine (withinAny _ _ _ _ _ hb2).mono ?_
    rintro e w' ⟨rfl, rfl⟩
    go_wp2
    go_ret
    exact ⟨rfl, rfl⟩

theorem l02Numbers (n k : Int) (w : World) (b : Bool) (hb : Hid (((decide (1 ≤ n) && decide (n ≤ 30)) && (decide (0 ≤ k) && decide (k ≤ n))) = b)) :
    Calls Try.prog 68 #[.int .i64 n, .int .i64 k] w fun e w' => e = .returned (.bool b) ∧ w = w' := by
  obtain ⟨b1, hb1⟩ : ∃ b1, Hid ((decide (1 ≤ n) && decide (n ≤ 30)) = b1) := ⟨_, rfl⟩
  obtain ⟨b2, hb2⟩ : ∃ b2, Hid ((decide (0 ≤ k) && decide (k ≤ n)) = b2) := ⟨_, rfl⟩
  have hb' : b = (b1 && b2) := by rw [← hb.out, hb1.out, hb2.out]
  clear hb
  subst hb'
  cases b1
  · go_enter Try.func68, Try.ntmps68
    go_wp2_with (go_at_call 66; refine (inAny _ _ _ _ _ hb1).mono ?_; rintro e w' ⟨rfl, rfl⟩)
    go_ret
    exact ⟨rfl, rfl⟩
  · go_enter Try.func68, Try.ntmps68
    go_wp2_with fail
    refine (inAny _ _ _ _ _ hb1).mono ?_
    rintro e w' ⟨rfl, rfl⟩
    go_wp2_with fail
    refine (inAny _ _ _ _ _ hb2).mono ?_
    rintro e w' ⟨rfl, rfl⟩
    go_wp2
    go_ret
    exact ⟨rfl, rfl⟩
/-- what 'counted' says -/
theorem counted_iff {n k : Int} : ((decide (1 ≤ n) && decide (n ≤ 30)) && (decide (0 ≤ k) && decide (k ≤ n))) = true ↔ (1 ≤ n ∧ n ≤ 30) ∧ 0 ≤ k ∧ k ≤ n := by simp
end Go.Proofs.Ytdaghbfejcjknab
