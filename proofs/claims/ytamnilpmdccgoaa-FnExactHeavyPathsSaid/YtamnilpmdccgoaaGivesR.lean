/- What functions of a tree that hand back rows of rows, or lists of trees, and a code must do, as F says. -/
import Derived.Test.YtamnilpmdccgoaaRwsIn
import Derived.Test.YtamnilpmdccgoaaWoodsIn
import Derived.Test.YtamnilpmdccgoaaGives
namespace Go.Proofs.Ytamnilpmdccgoaa
open Go.RowKit

/-- a tree to rows of rows and a code -/
def GivesRows (f : Nat) (F : List Int → List (List Int) × Int) : Prop :=
  ∀ (A : Option Addr) (xs : List Int) (c : Nat) (w : World), xs.length ≤ 1048576 → xs.length ≤ c ∧ c ≤ 1000000000000 → Ints w w.heap.size A xs →
    Calls Try.prog f #[.agg #[.slice A xs.length c]] w fun e w' => ∃ A' c' hs, e = .returned (.tuple #[.slice A' (F xs).1.length c', .int .i64 (F xs).2]) ∧ Rws w' w.heap.size (.slice A' (F xs).1.length c') hs (F xs).1 ∧ Below w.heap.size w w'
/-- a tree to a list of trees and a code -/
def GivesTrees (f : Nat) (F : List Int → List (List Int) × Int) : Prop :=
  ∀ (A : Option Addr) (xs : List Int) (c : Nat) (w : World), xs.length ≤ 1048576 → xs.length ≤ c ∧ c ≤ 1000000000000 → Ints w w.heap.size A xs →
    Calls Try.prog f #[.agg #[.slice A xs.length c]] w fun e w' => ∃ A' c' hs, e = .returned (.tuple #[.slice A' (F xs).1.length c', .int .i64 (F xs).2]) ∧ Woods w' w.heap.size (.slice A' (F xs).1.length c') hs (F xs).1 ∧ Below w.heap.size w w'
end Go.Proofs.Ytamnilpmdccgoaa
