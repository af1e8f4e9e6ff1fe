/- slices.Max over numbers of at least 0. -/
import Derived.Test.YtbdmmeoelagdcaaBase

namespace Go.Proofs.Ytbdmmeoelagdcaa
open Go.RowKit

namespace M
/-- the greatest of the first k numbers, and of 0 -/
def maxTo (xs : List Int) : Nat → Int
  | 0 => 0
  | k + 1 => if maxTo xs k ≤ xs[k]?.getD 0 then xs[k]?.getD 0 else maxTo xs k
theorem maxTo_hit {xs : List Int} {k : Nat} {x : Int} (h : xs[k]? = some x) (hx : maxTo xs k ≤ x) : maxTo xs (k + 1) = x := by simp [maxTo, h, hx]
theorem maxTo_miss {xs : List Int} {k : Nat} {x : Int} (h : xs[k]? = some x) (hx : x < maxTo xs k) : maxTo xs (k + 1) = maxTo xs k := by
  rw [maxTo, h, if_neg (by simp; omega)]
theorem maxTo_step {xs : List Int} {k : Nat} {x y : Int} (h : xs[k]? = some x) (hy : maxTo xs k = y) : maxTo xs (k + 1) = if y < x then x else y := by
  simp only [maxTo, h, Option.getD_some, hy]
  split <;> split <;> omega
theorem maxTo_pos (xs : List Int) : ∀ k, 0 ≤ maxTo xs k := by
  intro k
  induction k with
  | zero => exact Int.le_refl _
  | succ k ih => simp only [maxTo]; split <;> omega
theorem maxTo_le {xs : List Int} {b : Int} (hb : 0 ≤ b) (h : ∀ x ∈ xs, x ≤ b) : ∀ k, maxTo xs k ≤ b := by
  intro k
  induction k with
  | zero => exact hb
  | succ k ih =>
    simp only [maxTo]
    split
    · rcases hx : xs[k]? with _ | x
      · simpa using hb
      · simpa using h x (List.mem_of_getElem? hx)
    · exact ih
theorem maxTo_ge {xs : List Int} {j : Nat} {x : Int} (h : xs[j]? = some x) : ∀ k, j < k → x ≤ maxTo xs k := by
  intro k
  induction k with
  | zero => intro h; omega
  | succ k ih =>
    intro hj
    rcases Nat.lt_or_ge j k with h1 | h1
    · have := ih h1
      simp only [maxTo]
      split <;> omega
    · obtain rfl : j = k := by omega
      simp only [maxTo, h, Option.getD_some]
      split <;> omega
end M

end Go.Proofs.Ytbdmmeoelagdcaa
