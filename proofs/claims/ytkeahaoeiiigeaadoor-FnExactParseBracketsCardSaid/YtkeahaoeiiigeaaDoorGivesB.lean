/- What functions of texts of binary trees must do, as a function on their arguments says; the program's codeOfBinary at one text and at two. -/
import Derived.Test.YtkeahaoeiiigeaaDoorEndB
namespace Go.Proofs.YtkeahaoeiiigeaaDoor
open Go.RowKit

/-- a text to a bool -/
def GivesB1 (f : Nat) (F : ByteArray → Bool) : Prop := ∀ (p : Addr) (s : ByteArray) (w : World), s.size ≤ 1048576 → w.cell? ⟨0, 0, none⟩ = some (errV p) →
  Calls Tryd.prog f #[.string s] w fun e w' => e = .returned (.bool (F s)) ∧ Hid (Below w.heap.size w w')
/-- a text to a text and a code -/
def GivesS1 (f : Nat) (F : ByteArray → ByteArray × Int) : Prop := ∀ (p : Addr) (s : ByteArray) (w : World), s.size ≤ 1048576 → w.cell? ⟨0, 0, none⟩ = some (errV p) →
  Calls Tryd.prog f #[.string s] w fun e w' => e = .returned (.tuple #[.string (F s).1, .int .i64 (F s).2]) ∧ Hid (Below w.heap.size w w')
/-- a text to two texts and a code -/
def GivesSS1 (f : Nat) (F : ByteArray → ByteArray × ByteArray × Int) : Prop := ∀ (p : Addr) (s : ByteArray) (w : World), s.size ≤ 1048576 → w.cell? ⟨0, 0, none⟩ = some (errV p) →
  Calls Tryd.prog f #[.string s] w fun e w' => e = .returned (.tuple #[.string (F s).1, .string (F s).2.1, .int .i64 (F s).2.2]) ∧ Hid (Below w.heap.size w w')
/-- a text and a number to a text and a code -/
def GivesS1N (f : Nat) (F : ByteArray → Int → ByteArray × Int) : Prop := ∀ (p : Addr) (s : ByteArray) (i : Int) (w : World), s.size ≤ 1048576 → -9223372036854775808 ≤ i → i ≤ 9223372036854775807 → w.cell? ⟨0, 0, none⟩ = some (errV p) →
  Calls Tryd.prog f #[.string s, .int .i64 i] w fun e w' => e = .returned (.tuple #[.string (F s i).1, .int .i64 (F s i).2]) ∧ Hid (Below w.heap.size w w')
/-- two texts to a text and a code -/
def GivesS2 (f : Nat) (F : ByteArray → ByteArray → ByteArray × Int) : Prop := ∀ (p : Addr) (s u : ByteArray) (w : World), s.size ≤ 1048576 → u.size ≤ 1048576 → w.cell? ⟨0, 0, none⟩ = some (errV p) →
  Calls Tryd.prog f #[.string s, .string u] w fun e w' => e = .returned (.tuple #[.string (F s u).1, .int .i64 (F s u).2]) ∧ Hid (Below w.heap.size w w')
/-- two texts to a bool and a code -/
def GivesB2 (f : Nat) (F : ByteArray → ByteArray → Bool × Int) : Prop := ∀ (p : Addr) (s u : ByteArray) (w : World), s.size ≤ 1048576 → u.size ≤ 1048576 → w.cell? ⟨0, 0, none⟩ = some (errV p) →
  Calls Tryd.prog f #[.string s, .string u] w fun e w' => e = .returned (.tuple #[.bool (F s u).1, .int .i64 (F s u).2]) ∧ Hid (Below w.heap.size w w')
/-- a text to a list and a code -/
def GivesL1 (f : Nat) (F : ByteArray → List Int × Int) : Prop := ∀ (p : Addr) (s : ByteArray) (w : World), s.size ≤ 1048576 → w.cell? ⟨0, 0, none⟩ = some (errV p) →
  Calls Tryd.prog f #[.string s] w fun e w' => ∃ A' c', e = .returned (.tuple #[.slice A' (F s).1.length c', .int .i64 (F s).2]) ∧ Own64 w' w.heap.size (.slice A' (F s).1.length c') (F s).1 ∧ Below w.heap.size w w'

theorem codeB1 (p : Addr) (s : ByteArray) (w : World) (hc : w.cell? ⟨0, 0, none⟩ = some (errV p)) :
    Calls Tryd.prog 47 #[.slice (some ⟨w.heap.size, 0, none⟩) 1 1] (w.alloc (.cells #[.string s] 9)) fun e w' => e = .returned (.int .i64 (if okB s then 0 else 1)) ∧ Hid (Below w.heap.size w w') := by
  have hb := bal (b0 w) (.cells #[.string s] 9)
  refine (codeOfBinary p w.heap.size 1 [s] _ rfl (by omega) (fun k t h => ?_) (cell_up hb hc)).mono fun e w' ⟨he, hb'⟩ => ⟨by rw [he]; simp, btr hb hb'.out⟩
  cases k with
  | zero => simp only [List.getElem?_cons_zero, Option.some.injEq] at h; subst h; simp
  | succ k => simp at h
theorem codeB2 (p : Addr) (s u : ByteArray) (w : World) (hc : w.cell? ⟨0, 0, none⟩ = some (errV p)) :
    Calls Tryd.prog 47 #[.slice (some ⟨w.heap.size, 0, none⟩) 2 2] (w.alloc (.cells #[.string s, .string u] 9)) fun e w' => e = .returned (.int .i64 (if okB s && okB u then 0 else 1)) ∧ Hid (Below w.heap.size w w') := by
  have hb := bal (b0 w) (.cells #[.string s, .string u] 9)
  refine (codeOfBinary p w.heap.size 2 [s, u] _ rfl (by omega) (fun k t h => ?_) (cell_up hb hc)).mono fun e w' ⟨he, hb'⟩ => ⟨by rw [he]; simp, btr hb hb'.out⟩
  cases k with
  | zero => simp only [List.getElem?_cons_zero, Option.some.injEq] at h; subst h; simp
  | succ k =>
    cases k with
    | zero => simp only [List.getElem?_cons_succ, List.getElem?_cons_zero, Option.some.injEq] at h; subst h; simp
    | succ k => simp at h
end Go.Proofs.YtkeahaoeiiigeaaDoor
