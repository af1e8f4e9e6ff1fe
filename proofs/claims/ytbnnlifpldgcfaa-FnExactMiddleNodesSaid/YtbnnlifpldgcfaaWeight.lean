/- Weights of nodes, their mathematics: the greatest part that is left. No program is named here. -/
import Derived.Test.YtbnnlifpldgcfaaLeast
namespace Go.Proofs.Ytbnnlifpldgcfaa
namespace M
def weightTo (xs : List Int) (v : Nat) : Nat → Int
  | 0 => (xs.length : Int) - (span 1 (xs.drop v) : Int)
  | k + 1 => if weightTo xs v k < (span 1 (xs.drop (kidAt xs v k)) : Int) then (span 1 (xs.drop (kidAt xs v k)) : Int) else weightTo xs v k
theorem weightTo_step {xs : List Int} {v k S : Nat} (hS : span 1 (xs.drop (kidAt xs v k)) = S) : weightTo xs v (k + 1) = if weightTo xs v k < (S : Int) then (S : Int) else weightTo xs v k := by
  rw [weightTo, hS]
theorem weightTo_max {xs : List Int} {v k S : Nat} (hS : span 1 (xs.drop (kidAt xs v k)) = S) : weightTo xs v (k + 1) = max (weightTo xs v k) (S : Int) := by
  rw [weightTo_step hS]
  split <;> omega
theorem weightTo_le {xs : List Int} {v : Nat} (hl : xs.length ≤ 24) (hv : v ≤ xs.length) : ∀ k, 0 ≤ weightTo xs v k ∧ weightTo xs v k ≤ 24 := by
  intro k
  induction k with
  | zero =>
    have h1 := span_le (xs.drop v) 1
    rw [List.length_drop] at h1
    simp only [weightTo]; omega
  | succ k ih =>
    have h1 := span_le (xs.drop (kidAt xs v k)) 1
    rw [List.length_drop] at h1
    simp only [weightTo]
    split <;> omega
def weight (xs : List Int) (v : Nat) : Int := weightTo xs v (xs[v]?.getD 0).toNat
theorem weight_at {xs : List Int} {v d : Nat} (h : xs[v]? = some (d : Int)) : weight xs v = weightTo xs v d := by rw [weight, h]; rfl
def weights (xs : List Int) : List Int := rowOf xs.length (weight xs)
theorem weights_len (xs : List Int) : (weights xs).length = xs.length := rowOf_len _ _
/-- the weights while they are made -/
def weightRow (xs : List Int) (k : Nat) : List Int := rowOf xs.length fun i => if i < k then weight xs i else 0
theorem weightRow_len (xs : List Int) (k : Nat) : (weightRow xs k).length = xs.length := rowOf_len _ _
theorem weightRow_zero (xs : List Int) : weightRow xs 0 = List.replicate xs.length 0 := by
  rw [← rowOf_zero]
  exact rowOf_congr fun i _ => if_neg (by omega)
theorem weightRow_at (xs : List Int) {k : Nat} (h : k < xs.length) : (weightRow xs k)[k]? = some 0 := by rw [weightRow, rowOf_at _ h, if_neg (by omega)]
theorem weightRow_step {xs : List Int} {k : Nat} : (weightRow xs k).set k (weight xs k) = weightRow xs (k + 1) := by
  rw [weightRow, rowOf_set]
  refine rowOf_congr fun i _ => ?_
  by_cases h1 : i = k
  · subst h1; rw [if_pos rfl, if_pos (by omega)]
  · rw [if_neg h1]
    by_cases h2 : i < k
    · rw [if_pos h2, if_pos (by omega)]
    · rw [if_neg h2, if_neg (by omega)]
theorem weightRow_end {xs : List Int} : weightRow xs xs.length = weights xs := rowOf_congr fun i hi => by rw [if_pos hi]
end M
end Go.Proofs.Ytbnnlifpldgcfaa
