/- What functions of a tree and one number must do, as F says: to a number and a code, to two numbers and a code. -/
import Derived.Test.YtamnilpmdccgoaaGives
namespace Go.Proofs.Ytamnilpmdccgoaa
open Go.RowKit

/-- a tree and a number to a number and a code -/
def GivesNum1 (f : Nat) (F : List Int → Int → Int × Int) : Prop :=
  ∀ (A : Option Addr) (xs : List Int) (c : Nat) (v : Int) (w : World), xs.length ≤ 1048576 → xs.length ≤ c ∧ c ≤ 1000000000000 → Ints w w.heap.size A xs →
    Calls Try.prog f #[.agg #[.slice A xs.length c], .int .i64 v] w fun e w' => e = .returned (.tuple #[.int .i64 (F xs v).1, .int .i64 (F xs v).2]) ∧ Below w.heap.size w w'
/-- a tree and a number to two numbers and a code -/
def GivesPair1 (f : Nat) (F : List Int → Int → Int × Int × Int) : Prop :=
  ∀ (A : Option Addr) (xs : List Int) (c : Nat) (v : Int) (w : World), xs.length ≤ 1048576 → xs.length ≤ c ∧ c ≤ 1000000000000 → Ints w w.heap.size A xs →
    Calls Try.prog f #[.agg #[.slice A xs.length c], .int .i64 v] w fun e w' => e = .returned (.tuple #[.int .i64 (F xs v).1, .int .i64 (F xs v).2.1, .int .i64 (F xs v).2.2]) ∧ Below w.heap.size w w'
end Go.Proofs.Ytamnilpmdccgoaa
