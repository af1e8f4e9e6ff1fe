/- What functions of a tree and a list of numbers must do, as F says. -/
import Derived.Test.YtgnhmhfianmckaaGives
namespace Go.Proofs.Ytgnhmhfianmckaa
open Go.RowKit

/-- a tree and a list to a list and a code -/
def GivesOL (f : Nat) (F : List Int → List Int → List Int × Int) : Prop :=
  ∀ (A A2 : Option Addr) (xs l : List Int) (c c2 : Nat) (w : World), xs.length ≤ 1048576 → l.length ≤ 1048576 → xs.length ≤ c ∧ c ≤ 1000000000000 → l.length ≤ c2 ∧ c2 ≤ 1000000000000 → Ints w w.heap.size A xs → Ints w w.heap.size A2 l →
    Calls Try.prog f #[.agg #[.slice A xs.length c], .slice A2 l.length c2] w fun e w' => ∃ A' c', e = .returned (.tuple #[.slice A' (F xs l).1.length c', .int .i64 (F xs l).2]) ∧ Own64 w' w.heap.size (.slice A' (F xs l).1.length c') (F xs l).1 ∧ Below w.heap.size w w'
/-- a tree, a list and a number to a list and a code -/
def GivesOL1 (f : Nat) (F : List Int → List Int → Int → List Int × Int) : Prop :=
  ∀ (A A2 : Option Addr) (xs l : List Int) (c c2 : Nat) (v : Int) (w : World), xs.length ≤ 1048576 → l.length ≤ 1048576 → xs.length ≤ c ∧ c ≤ 1000000000000 → l.length ≤ c2 ∧ c2 ≤ 1000000000000 → (-9223372036854775808 ≤ v ∧ v ≤ 9223372036854775807) → Ints w w.heap.size A xs → Ints w w.heap.size A2 l →
    Calls Try.prog f #[.agg #[.slice A xs.length c], .slice A2 l.length c2, .int .i64 v] w fun e w' => ∃ A' c', e = .returned (.tuple #[.slice A' (F xs l v).1.length c', .int .i64 (F xs l v).2]) ∧ Own64 w' w.heap.size (.slice A' (F xs l v).1.length c') (F xs l v).1 ∧ Below w.heap.size w w'
/-- a tree and a list to a bool and a code -/
def GivesOB (f : Nat) (F : List Int → List Int → Bool × Int) : Prop :=
  ∀ (A A2 : Option Addr) (xs l : List Int) (c c2 : Nat) (w : World), xs.length ≤ 1048576 → l.length ≤ 1048576 → xs.length ≤ c ∧ c ≤ 1000000000000 → l.length ≤ c2 ∧ c2 ≤ 1000000000000 → Ints w w.heap.size A xs → Ints w w.heap.size A2 l →
    Calls Try.prog f #[.agg #[.slice A xs.length c], .slice A2 l.length c2] w fun e w' => e = .returned (.tuple #[.bool (F xs l).1, .int .i64 (F xs l).2]) ∧ Below w.heap.size w w'
/-- a tree and a list to a number and a code -/
def GivesON (f : Nat) (F : List Int → List Int → Int × Int) : Prop :=
  ∀ (A A2 : Option Addr) (xs l : List Int) (c c2 : Nat) (w : World), xs.length ≤ 1048576 → l.length ≤ 1048576 → xs.length ≤ c ∧ c ≤ 1000000000000 → l.length ≤ c2 ∧ c2 ≤ 1000000000000 → Ints w w.heap.size A xs → Ints w w.heap.size A2 l →
    Calls Try.prog f #[.agg #[.slice A xs.length c], .slice A2 l.length c2] w fun e w' => e = .returned (.tuple #[.int .i64 (F xs l).1, .int .i64 (F xs l).2]) ∧ Below w.heap.size w w'
end Go.Proofs.Ytgnhmhfianmckaa
