/- The walks of IsTree, the program's and the model's: both return the same Bool of the list of degrees. -/
import Derived.Test.YtkeahaoeiiigeaaDoorTree
import Derived.Test.YtkeahaoeiiigeaaDoorMath
namespace Go.Proofs.YtkeahaoeiiigeaaDoor
open Go.RowKit

theorem inAny (n lo hi : Int) (w : World) (b : Bool) (hb : Hid ((decide (lo ≤ n) && decide (n ≤ hi)) = b)) :
    Calls Tryd.prog 66 #[.int .i64 n, .int .i64 lo, .int .i64 hi] w fun e w' => e = .returned (.bool b) ∧ w = w' := by
  by_cases h : lo ≤ n
  · have hb' : b = decide (n ≤ hi) := by rw [← hb.out]; simp [h]
    clear hb
    subst hb'
    go_enter Tryd.func66, Tryd.ntmps66
    go_wp2
    go_ret
    exact ⟨rfl, rfl⟩
  · have hb' : b = false := by rw [← hb.out]; simp; intro h'; exact absurd h' h
    clear hb
    subst hb'
    have hd : decide (lo ≤ n) = false := decide_eq_false h
    go_enter Tryd.func66, Tryd.ntmps66
    go_wp2
    go_ret
    exact ⟨rfl, rfl⟩

end Go.Proofs.YtkeahaoeiiigeaaDoor
