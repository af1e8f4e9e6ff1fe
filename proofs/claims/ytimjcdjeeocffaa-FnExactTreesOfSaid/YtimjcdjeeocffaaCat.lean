/- Numbers of lists of trees by nodes and trees: the recursion, and bounds. No program is named here. -/
namespace Go.Proofs.Ytimjcdjeeocffaa.M
def sumTo (f : Nat → Nat) : Nat → Nat
  | 0 => 0
  | k + 1 => sumTo f k + f k
theorem sumTo_congr {f g : Nat → Nat} : ∀ {k : Nat}, (∀ i, i < k → f i = g i) → sumTo f k = sumTo g k := by
  intro k
  induction k with
  | zero => intro _; rfl
  | succ k ih => intro h; simp only [sumTo]; rw [ih fun i hi => h i (by omega), h k (by omega)]
theorem sumTo_le {f : Nat → Nat} {j : Nat} : ∀ {k : Nat}, j ≤ k → sumTo f j ≤ sumTo f k := by
  intro k
  induction k with
  | zero => intro h; obtain rfl : j = 0 := by omega
            exact Nat.le_refl _
  | succ k ih =>
    intro h
    rcases Nat.lt_or_ge j (k + 1) with h1 | h1
    · have := ih (by omega); simp only [sumTo]; omega
    · obtain rfl : j = k + 1 := by omega
      exact Nat.le_refl _
/-- the number of lists of t trees that have n nodes together -/
def L : Nat → Nat → Nat
  | 0, t => if t = 0 then 1 else 0
  | n + 1, t => if t = 0 ∨ n + 1 < t then 0 else sumTo (fun d => L n (t - 1 + d)) (n + 1 - t + 1)
theorem L_base {n t : Nat} (h : n < t ∨ t = 0) : L n t = if n = t then 1 else 0 := by
  cases n with
  | zero => simp only [L]; by_cases h0 : t = 0 <;> simp [h0]; omega
  | succ n => rw [L, if_pos (by omega), if_neg (by omega)]
theorem L_rec {n t : Nat} (h : t ≤ n) (h0 : 0 < t) : L n t = sumTo (fun d => L (n - 1) (t - 1 + d)) (n - t + 1) := by
  cases n with
  | zero => omega
  | succ n => rw [L, if_neg (by omega)]; rfl
theorem pow_split {K j : Nat} (h : j < K) : 2 ^ (K - j) = 2 ^ (K - 1 - j) + 2 ^ (K - 1 - j) := by
  have : K - j = (K - 1 - j) + 1 := by omega
  rw [this, Nat.pow_succ]; omega
theorem sum_pow {f : Nat → Nat} {K : Nat} : ∀ j, j ≤ K → (∀ d, d < j → f d ≤ 2 ^ (K - 1 - d)) → sumTo f j + 2 ^ (K - j) ≤ 2 ^ K := by
  intro j
  induction j with
  | zero => intro _ _; simp [sumTo]
  | succ j ih =>
    intro hj hf
    have h1 := ih (by omega) fun d hd => hf d (by omega)
    have h2 := hf j (by omega)
    have h3 := pow_split (K := K) (j := j) (by omega)
    have h4 : K - (j + 1) = K - 1 - j := by omega
    simp only [sumTo]
    rw [h4]
    omega
theorem L_le : ∀ (n t : Nat), t ≤ n → L n t ≤ 2 ^ (2 * n - t) := by
  intro n
  induction n with
  | zero => intro t ht; obtain rfl : t = 0 := by omega
            simp [L]
  | succ n ih =>
    intro t ht
    rcases Nat.eq_zero_or_pos t with h0 | h0
    · subst h0
      rw [L_base (.inr rfl), if_neg (by omega)]
      exact Nat.zero_le _
    · rw [L_rec ht h0]
      have := sum_pow (f := fun d => L n (t - 1 + d)) (K := 2 * (n + 1) - t) (n + 1 - t + 1) (by omega) (fun d hd => by
        have h1 := ih (t - 1 + d) (by omega)
        have h2 : 2 * n - (t - 1 + d) = 2 * (n + 1) - t - 1 - d := by omega
        rw [h2] at h1
        exact h1)
      exact Nat.le_trans (Nat.le_add_right _ _) this
/-- within 30 nodes everything fits -/
theorem L_small {n t : Nat} (hn : n ≤ 30) : L n t ≤ 1152921504606846976 := by
  rcases Nat.lt_or_ge n t with h | h
  · rw [L_base (.inl h)]; split <;> omega
  · have h1 := L_le n t h
    have h2 : 2 ^ (2 * n - t) ≤ 2 ^ 60 := Nat.pow_le_pow_right (by omega) (by omega)
    have h3 : (2 : Nat) ^ 60 = 1152921504606846976 := by decide
    omega
theorem Lsum_small {n t j : Nat} (hn : n ≤ 30) (ht : t ≤ n) (h0 : 0 < t) (hj : j ≤ n - t + 1) : sumTo (fun d => L (n - 1) (t - 1 + d)) j ≤ 1152921504606846976 := by
  have h1 := sumTo_le (f := fun d => L (n - 1) (t - 1 + d)) hj
  have h2 := L_small (n := n) (t := t) hn
  rw [L_rec ht h0] at h2
  omega
end Go.Proofs.Ytimjcdjeeocffaa.M
