/- What functions of a tree and two numbers must do, as F says; of a list and no tree. -/
import Derived.Test.YtbnnlifpldgcfaaTree
namespace Go.Proofs.Ytbnnlifpldgcfaa
open Go.RowKit

/-- a tree and two numbers to a list and a code -/
def GivesList2 (f : Nat) (F : List Int → Int → Int → List Int × Int) : Prop :=
  ∀ (A : Option Addr) (xs : List Int) (c : Nat) (v u : Int) (w : World), xs.length ≤ 1048576 → xs.length ≤ c ∧ c ≤ 1000000000000 → Ints w w.heap.size A xs →
    Calls Try.prog f #[.agg #[.slice A xs.length c], .int .i64 v, .int .i64 u] w fun e w' => ∃ A' c', e = .returned (.tuple #[.slice A' (F xs v u).1.length c', .int .i64 (F xs v u).2]) ∧
      Own64 w' w.heap.size (.slice A' (F xs v u).1.length c') (F xs v u).1 ∧ Below w.heap.size w w'
/-- numbers of a list to a tree and a code -/
def GivesTreeI (f : Nat) (F : List Int → List Int × Int) : Prop :=
  ∀ (A : Option Addr) (xs : List Int) (c : Nat) (w : World), xs.length ≤ 1048576 → xs.length ≤ c ∧ c ≤ 1000000000000 → Ints w w.heap.size A xs → (∀ x ∈ xs, -9223372036854775808 ≤ x ∧ x ≤ 9223372036854775807) →
    Calls Try.prog f #[.slice A xs.length c] w fun e w' => ∃ A' c', e = .returned (.tuple #[.agg #[.slice A' (F xs).1.length c'], .int .i64 (F xs).2]) ∧
      Own64 w' w.heap.size (.slice A' (F xs).1.length c') (F xs).1 ∧ Below w.heap.size w w'
end Go.Proofs.Ytbnnlifpldgcfaa
