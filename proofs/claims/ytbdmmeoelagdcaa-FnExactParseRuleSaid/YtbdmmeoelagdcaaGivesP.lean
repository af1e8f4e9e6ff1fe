/- What functions of patterns must do, as F says. -/
import Derived.Test.YtbdmmeoelagdcaaBase
namespace Go.Proofs.Ytbdmmeoelagdcaa
open Go.RowKit

/-- a text to a bool -/
def GivesP1 (f : Nat) (F : ByteArray → Bool) : Prop :=
  ∀ (s : ByteArray) (w : World), s.size ≤ 1048576 → Calls Try.prog f #[.string s] w fun e w' => e = .returned (.bool (F s)) ∧ Hid (Below w.heap.size w w')
/-- two texts to a bool and a code -/
def GivesPB (f : Nat) (F : ByteArray → ByteArray → Bool × Int) : Prop :=
  ∀ (s u : ByteArray) (w : World), s.size ≤ 1048576 → u.size ≤ 1048576 → Calls Try.prog f #[.string s, .string u] w fun e w' => e = .returned (.tuple #[.bool (F s u).1, .int .i64 (F s u).2]) ∧ Hid (Below w.heap.size w w')
/-- two texts to a text and a code -/
def GivesPS (f : Nat) (F : ByteArray → ByteArray → ByteArray × Int) : Prop :=
  ∀ (s u : ByteArray) (w : World), s.size ≤ 1048576 → u.size ≤ 1048576 → Calls Try.prog f #[.string s, .string u] w fun e w' => e = .returned (.tuple #[.string (F s u).1, .int .i64 (F s u).2]) ∧ Hid (Below w.heap.size w w')
end Go.Proofs.Ytbdmmeoelagdcaa
