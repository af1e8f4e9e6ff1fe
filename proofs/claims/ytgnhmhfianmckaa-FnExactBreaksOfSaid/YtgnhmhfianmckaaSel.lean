/- The places below k for which something holds, ascending: mathematics. -/
import Derived.Test.YtgnhmhfianmckaaFreeIn
namespace Go.Proofs.Ytgnhmhfianmckaa
namespace M
def selTo (f : Nat → Bool) (k : Nat) : List Int := ((List.range k).filter f).map fun v : Nat => (v : Int)
theorem selTo_zero (f : Nat → Bool) : selTo f 0 = [] := rfl
theorem selTo_hit {f : Nat → Bool} {k : Nat} (h : f k = true) : selTo f (k + 1) = selTo f k ++ [(k : Int)] := by simp [selTo, List.range_succ, h]
theorem selTo_miss {f : Nat → Bool} {k : Nat} (h : f k = false) : selTo f (k + 1) = selTo f k := by simp [selTo, List.range_succ, h]
theorem selTo_len (f : Nat → Bool) (k : Nat) : (selTo f k).length ≤ k := by
  rw [selTo, List.length_map]
  exact Nat.le_trans (List.length_filter_le _ _) (by simp)
end M
end Go.Proofs.Ytgnhmhfianmckaa
