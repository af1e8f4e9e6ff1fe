/- RuleText, the program's and the model's. -/
import Derived.Test.YtbdmmeoelagdcaaRuleSp
namespace Go.Proofs.Ytbdmmeoelagdcaa
open Go.RowKit

def F_RuleText (l r : ByteArray) : ByteArray × Int := if M.isRule l.data.toList r.data.toList then (l ++ ⟨#[62]⟩ ++ r, 0) else (⟨#[]⟩, 6)
/-- a rule to a text and a code -/
def GivesRT (f : Nat) (F : ByteArray → ByteArray → ByteArray × Int) : Prop :=
  ∀ (l r : ByteArray) (w : World), l.size ≤ 1048576 → r.size ≤ 1048576 → Calls Try.prog f #[.agg #[.string l, .string r]] w fun e w' => e = .returned (.tuple #[.string (F l r).1, .int .i64 (F l r).2]) ∧ Below w.heap.size w w'

set_option maxHeartbeats 2000000 in
theorem impl_RuleText : GivesRT 54 F_RuleText := by
  intro l r w hl hr
  obtain ⟨d0, d1⟩ := rule_cells w l r
  obtain ⟨W, hW⟩ : ∃ W, W = w.alloc (.cells #[.string l, .string r] 62) := ⟨_, rfl⟩
  rw [← hW] at d0 d1
  have hB0 : Hid (Below w.heap.size w W) := by rw [hW]; exact bal (b0 w) _
  have HI := Lib.hid (impl_IsRule l r W hl hr)
  have hz : ¬ 9223372036854775807 < l.size + 1 := by omega
  have hz2 : ¬ 9223372036854775807 < l.size + 1 + r.size := by omega
  rw [F_RuleText]
  cases hq : M.isRule l.data.toList r.data.toList
  · simp only [F_IsRule] at HI
    rw [hq] at HI
    clear hq
    simp only [Bool.false_eq_true, if_false]
    go_enter Try.func54, Try.ntmps54
    go_wp2_with fail
    rw [← hW]
    refine HI.out.mono ?_
    rintro e w1 ⟨rfl, hb⟩
    have hB := Lib.hid (btr hB0.out hb)
    go_wp2
    go_ret2
    exact ⟨rfl, hB.out⟩
  · simp only [F_IsRule] at HI
    rw [hq] at HI
    clear hq
    simp only [if_true]
    go_enter Try.func54, Try.ntmps54
    go_wp2_with fail
    rw [← hW]
    refine HI.out.mono ?_
    rintro e w1 ⟨rfl, hb⟩
    have hB := Lib.hid (btr hB0.out hb)
    have c0 := cellR_be d0 hb
    have c1 := cellR_be d1 hb
    clear hb HI hW
    go_wp2
    go_ret2
    exact ⟨rfl, hB.out⟩

set_option maxHeartbeats 2000000 in
theorem spec_RuleText : GivesRT 53 F_RuleText := by
  intro l r w hl hr
  obtain ⟨d0, d1⟩ := rule_cells w l r
  obtain ⟨W, hW⟩ : ∃ W, W = w.alloc (.cells #[.string l, .string r] 62) := ⟨_, rfl⟩
  rw [← hW] at d0 d1
  have hB0 : Hid (Below w.heap.size w W) := by rw [hW]; exact bal (b0 w) _
  have HI := Lib.hid (l10Is l r W hl hr)
  have hz : ¬ 9223372036854775807 < l.size + 1 := by omega
  have hz2 : ¬ 9223372036854775807 < l.size + 1 + r.size := by omega
  rw [F_RuleText]
  cases hq : M.isRule l.data.toList r.data.toList
  · rw [hq] at HI
    clear hq
    simp only [Bool.false_eq_true, if_false]
    go_enter Try.func53, Try.ntmps53
    go_wp2_with fail
    rw [← hW]
    refine HI.out.mono ?_
    rintro e w1 ⟨rfl, hb⟩
    have hB := Lib.hid (btr hB0.out hb)
    go_wp2
    go_ret2
    exact ⟨rfl, hB.out⟩
  · rw [hq] at HI
    clear hq
    simp only [if_true]
    go_enter Try.func53, Try.ntmps53
    go_wp2_with fail
    rw [← hW]
    refine HI.out.mono ?_
    rintro e w1 ⟨rfl, hb⟩
    have hB := Lib.hid (btr hB0.out hb)
    have c0 := cellR_be d0 hb
    have c1 := cellR_be d1 hb
    clear hb HI hW
    go_wp2
    go_ret2
    exact ⟨rfl, hB.out⟩
end Go.Proofs.Ytbdmmeoelagdcaa
