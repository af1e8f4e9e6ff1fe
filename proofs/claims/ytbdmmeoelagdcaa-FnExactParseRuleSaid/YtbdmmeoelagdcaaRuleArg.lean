/- An argument of type laws.Rule: opened, sized, handed on; rules compared. -/
import Derived.Test.YtbdmmeoelagdcaaOpen
import Derived.Test.YtbdmmeoelagdcaaRuleIn
namespace Go.Proofs.Ytbdmmeoelagdcaa
open Go.RowKit Go.Joins Go.ChangeShapes Go.WideShapes Go.ChangeAt Go.Deep

theorem cellsRule : Try.prog.cellsOf 59 = 2 := by kernel_rfl
set_option maxRecDepth 100000 in
theorem openRule {H : Type} {enc : TypeId × Value → H} {W : World} {base : Nat} {v : Value} {d : DataW H} {p : List MemPlace} (hv : Value.okWide Try.prog W .any base 59 v)
    (h : DataW.Trod enc Try.prog W 0 (fun _ => true) true 59 v d p) : ∃ l r : ByteArray, v = .agg #[.string l, .string r] ∧ l.size ≤ 9223372036854775807 ∧ r.size ≤ 9223372036854775807 ∧ p = [] := by
  obtain ⟨v0, v1, y0, y1, n, rfl, rfl, rfl, h0, h1⟩ := open_agg2 Try.underlying59 (by kernel_rfl) cellsRule hv h
  obtain ⟨l, e0, rfl, w0⟩ := DataW.trod_string Try.underlying9 h0
  obtain ⟨r, e1, rfl, w1⟩ := DataW.trod_string Try.underlying9 h1
  obtain rfl : v0 = .string l := by simpa using e0
  obtain rfl : v1 = .string r := by simpa using e1
  exact ⟨l, r, rfl, w0, w1, rfl⟩

theorem lrule_cells (w : World) (l r : ByteArray) : (w.alloc (.cells #[.string l, .string r] 59)).cell? ⟨w.heap.size, 0, none⟩ = some (.string l) ∧ (w.alloc (.cells #[.string l, .string r] 59)).cell? ⟨w.heap.size, 1, none⟩ = some (.string r) :=
  ⟨by have := World.cell?_alloc_new w #[.string l, .string r] 59 0; rw [this]; rfl, by have := World.cell?_alloc_new w #[.string l, .string r] 59 1; rw [this]; rfl⟩
/-- what is left of a room -/
def M.szR (l r : Nat) (k : Int) : Int := if k - (l : Int) < 0 then -1 else if k - (l : Int) - (r : Int) < 0 then -1 else k - (l : Int) - (r : Int)

set_option maxHeartbeats 1000000 in
theorem szRule (l r : ByteArray) (k : Int) (w : World) (hl : l.size ≤ 9223372036854775807) (hr : r.size ≤ 9223372036854775807) (hk : 0 ≤ k) (hk2 : k ≤ 1048576) (z : Int) (hz : Hid (M.szR l.size r.size k = z)) :
    Calls Try.prog 49 #[.agg #[.string l, .string r], .int .i64 k] w fun e w' => e = .returned (.int .i64 z) ∧ Below w.heap.size w w' := by
  obtain ⟨d0, d1⟩ := lrule_cells w l r
  have hB := Lib.hid (bal (b0 w) (.cells #[.string l, .string r] 59))
  have hz' := hz.out
  rw [M.szR] at hz'
  clear hz
  by_cases h1 : k - (l.size : Int) < 0
  · rw [if_pos h1] at hz'
    subst hz'
    go_enter Try.func49, Try.ntmps49
    go_wp2
    go_ret
    exact ⟨rfl, hB.out⟩
  · rw [if_neg h1] at hz'
    by_cases h2 : k - (l.size : Int) - (r.size : Int) < 0
    · rw [if_pos h2] at hz'
      subst hz'
      go_enter Try.func49, Try.ntmps49
      go_wp2
      go_ret
      exact ⟨rfl, hB.out⟩
    · rw [if_neg h2] at hz'
      have Hz := Lib.hid hz'
      clear hz'
      go_enter Try.func49, Try.ntmps49
      go_wp2
      go_ret
      exact ⟨by rw [← Hz.out]; rfl, hB.out⟩

set_option maxHeartbeats 1000000 in
theorem toRule (l r : ByteArray) (w : World) :
    Calls Try.prog 51 #[.agg #[.string l, .string r]] w fun e w' => e = .returned (.agg #[.string l, .string r]) ∧ Below w.heap.size w w' := by
  obtain ⟨d0, d1⟩ := lrule_cells w l r
  go_enter Try.func51, Try.ntmps51
  go_wp2
  have hB := bal (bal (bal (b0 w) (.cells #[.string l, .string r] 59)) (.cells #[.string l, .string r] 62)) (.cells #[.string l, .string r] 62)
  obtain ⟨q0, q1⟩ := rule_cells (w.alloc (.cells #[.string l, .string r] 59)) l r
  rw [World.size_alloc] at q0 q1
  have r0 := (World.cell?_alloc_lt _ (.cells #[.string l, .string r] 62) ⟨w.heap.size + 1, 0, none⟩ (World.block_lt_of_cell? _ _ q0)).trans q0
  have r1 := (World.cell?_alloc_lt _ (.cells #[.string l, .string r] 62) ⟨w.heap.size + 1, 1, none⟩ (World.block_lt_of_cell? _ _ q1)).trans q1
  refine bodyPost_ret (v := .agg #[.string l, .string r]) ?_ rfl ⟨rfl, hB⟩
  simp [results, Try.results51, go_sem, r0, r1]

set_option maxHeartbeats 1000000 in
theorem eqRule (l r l2 r2 : ByteArray) (w : World) (hl : l = l2) (hr : r = r2) :
    Calls Try.prog 57 #[.agg #[.string l, .string r], .agg #[.string l2, .string r2]] w fun e w' => e = .returned (.bool true) ∧ Below w.heap.size w w' := by
  subst hl
  subst hr
  obtain ⟨d0, d1⟩ := rule_cells w l r
  obtain ⟨e0, e1⟩ := rule_cells (w.alloc (.cells #[.string l, .string r] 62)) l r
  have d2 := (World.cell?_alloc_lt _ (.cells #[.string l, .string r] 62) ⟨w.heap.size, 0, none⟩ (World.block_lt_of_cell? _ _ d0)).trans d0
  have d3 := (World.cell?_alloc_lt _ (.cells #[.string l, .string r] 62) ⟨w.heap.size, 1, none⟩ (World.block_lt_of_cell? _ _ d1)).trans d1
  rw [World.size_alloc] at e0 e1
  have hB := Lib.hid (bal (bal (b0 w) (.cells #[.string l, .string r] 62)) (.cells #[.string l, .string r] 62))
  have f1 : (l.toList != l.toList) = false := by simp
  have f2 : (r.toList != r.toList) = false := by simp
  go_enter Try.func57, Try.ntmps57
  go_wp2
  go_ret
  exact ⟨rfl, hB.out⟩
end Go.Proofs.Ytbdmmeoelagdcaa
