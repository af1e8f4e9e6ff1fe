/- IsBelow, the program's and the model's: is a node in the subtree of another one. -/
import Derived.Test.YtcipafjibkclcaaNodes
namespace Go.Proofs.Ytcipafjibkclcaa
open Go.RowKit

/-- what a function of a tree and two numbers that hands back a bool and a code must do, as F says -/
def GivesBool2 (f : Nat) (F : List Int → Int → Int → Bool × Int) : Prop :=
  ∀ (A : Option Addr) (xs : List Int) (c : Nat) (v u : Int) (w : World), xs.length ≤ 1048576 → xs.length ≤ c ∧ c ≤ 1000000000000 → Ints w w.heap.size A xs →
    Calls Try.prog f #[.agg #[.slice A xs.length c], .int .i64 v, .int .i64 u] w fun e w' => e = .returned (.tuple #[.bool (F xs v u).1, .int .i64 (F xs v u).2]) ∧ Below w.heap.size w w'

end Go.Proofs.Ytcipafjibkclcaa
