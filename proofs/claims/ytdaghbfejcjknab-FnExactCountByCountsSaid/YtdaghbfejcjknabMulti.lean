/- Orders of told numbers: by factorials and by choices. No program is named here. -/
import Derived.Test.YtdaghbfejcjknabNar
namespace Go.Proofs.Ytdaghbfejcjknab.M
/-- the sum of the first k numbers; the sum of each times its place -/
def sumI (xs : List Int) : Nat → Int
  | 0 => 0
  | k + 1 => sumI xs k + xs[k]?.getD 0
def kidI (xs : List Int) : Nat → Int
  | 0 => 0
  | k + 1 => kidI xs k + (k : Int) * xs[k]?.getD 0
/-- the first k numbers are not negative, and no sum is over 20 -/
def okTo (xs : List Int) : Nat → Bool
  | 0 => true
  | k + 1 => okTo xs k && (decide (0 ≤ xs[k]?.getD 0) && decide (sumI xs (k + 1) ≤ 20))
theorem sumI_at {xs : List Int} {k : Nat} {x : Int} (h : xs[k]? = some x) : sumI xs (k + 1) = sumI xs k + x := by simp [sumI, h]
theorem kidI_at {xs : List Int} {k : Nat} {x : Int} (h : xs[k]? = some x) : kidI xs (k + 1) = kidI xs k + (k : Int) * x := by simp [kidI, h]
theorem okTo_at {xs : List Int} {k : Nat} {x : Int} (h : xs[k]? = some x) : okTo xs (k + 1) = (okTo xs k && (decide (0 ≤ x) && decide (x ≤ 20 - sumI xs k))) := by
  simp only [okTo, sumI, h, Option.getD_some]
  congr 2
  rw [decide_eq_decide]
  omega
theorem okTo_mono {xs : List Int} {j : Nat} : ∀ {k : Nat}, j ≤ k → okTo xs k = true → okTo xs j = true := by
  intro k
  induction k with
  | zero => intro h hk; obtain rfl : j = 0 := by omega
            exact hk
  | succ k ih =>
    intro h hk
    rcases Nat.lt_or_ge j (k + 1) with h1 | h1
    · simp only [okTo, Bool.and_eq_true] at hk
      exact ih (by omega) hk.1
    · obtain rfl : j = k + 1 := by omega
      exact hk
theorem okTo_sum {xs : List Int} : ∀ {k : Nat}, okTo xs k = true → 0 ≤ sumI xs k ∧ sumI xs k ≤ 20 := by
  intro k
  induction k with
  | zero => intro _; simp [sumI]
  | succ k ih =>
    intro h
    simp only [okTo, Bool.and_eq_true, decide_eq_true_eq] at h
    have := ih h.1
    have h1 := h.2.1
    have h2 := h.2.2
    simp only [sumI] at h2 ⊢
    omega
theorem okTo_of {xs : List Int} : ∀ {k : Nat}, (∀ i, i < k → 0 ≤ xs[i]?.getD 0) → sumI xs k ≤ 20 → okTo xs k = true := by
  intro k
  induction k with
  | zero => intro _ _; rfl
  | succ k ih =>
    intro h hs
    have h0 := h k (by omega)
    simp only [okTo, Bool.and_eq_true, decide_eq_true_eq]
    refine ⟨ih (fun i hi => h i (by omega)) ?_, h0, hs⟩
    simp only [sumI] at hs
    omega
theorem okTo_item {xs : List Int} {k i : Nat} {x : Int} (h : okTo xs k = true) (hi : i < k) (hx : xs[i]? = some x) : 0 ≤ x ∧ x ≤ 20 := by
  have h1 := okTo_mono (j := i + 1) (by omega) h
  have h2 := okTo_sum (okTo_mono (j := i) (by omega) h)
  rw [okTo_at hx] at h1
  simp only [Bool.and_eq_true, decide_eq_true_eq] at h1
  omega
def fact : Nat → Nat
  | 0 => 1
  | n + 1 => fact n * (n + 1)
theorem fact_pos : ∀ n, 0 < fact n := by
  intro n
  induction n with
  | zero => decide
  | succ n ih => exact Nat.mul_pos ih (Nat.succ_pos _)
theorem fact_small {n : Nat} (h : n ≤ 20) : fact n ≤ 2432902008176640000 := by
  have : ((List.range 21).all fun n => decide (fact n ≤ 2432902008176640000)) = true := by decide +kernel
  have h1 := List.all_eq_true.1 this n (List.mem_range.2 (by omega))
  simpa using h1
theorem fact_ch {n k : Nat} (hn : n ≤ 20) (hk : k ≤ n) : fact n = ch n (k : Int) * fact (n - k) * fact k := by
  have : ((List.range 21).all fun n => (List.range (n + 1)).all fun k => fact n == ch n (k : Int) * fact (n - k) * fact k) = true := by decide +kernel
  have h1 := List.all_eq_true.1 this n (List.mem_range.2 (by omega))
  have h2 := List.all_eq_true.1 h1 k (List.mem_range.2 (by omega))
  simpa using h2
/-- the numbers as such -/
def cN (xs : List Int) (k : Nat) : Nat := (xs[k]?.getD 0).toNat
def leftTo (xs : List Int) (n : Nat) : Nat → Nat
  | 0 => n
  | k + 1 => leftTo xs n k - cN xs k
def ordTo (xs : List Int) (n : Nat) : Nat → Nat
  | 0 => fact n
  | k + 1 => ordTo xs n k / fact (cN xs k)
def outTo (xs : List Int) (n : Nat) : Nat → Nat
  | 0 => 1
  | k + 1 => outTo xs n k * ch (leftTo xs n k) (cN xs k : Int)
theorem left_sum {xs : List Int} {n m : Nat} (hm : okTo xs m = true) (hn : sumI xs m = (n : Int)) : ∀ k, k ≤ m → (leftTo xs n k : Int) = (n : Int) - sumI xs k ∧ sumI xs k ≤ n := by
  intro k
  have mono : ∀ j, ∀ i, i ≤ j → j ≤ m → sumI xs i ≤ sumI xs j := by
    intro j
    induction j with
    | zero => intro i hi _; obtain rfl : i = 0 := by omega
              exact Int.le_refl _
    | succ j ih =>
      intro i hi hj
      have h1 := okTo_mono (j := j + 1) hj hm
      simp only [okTo, Bool.and_eq_true, decide_eq_true_eq] at h1
      rcases Nat.lt_or_ge i (j + 1) with h2 | h2
      · have := ih i (by omega) (by omega)
        simp only [sumI]
        have := h1.2.1
        omega
      · obtain rfl : i = j + 1 := by omega
        exact Int.le_refl _
  induction k with
  | zero => intro _; have := mono m 0 (by omega) (Nat.le_refl _); simp only [sumI] at this ⊢; simp only [leftTo]; omega
  | succ k ih =>
    intro hk
    obtain ⟨h1, h2⟩ := ih (by omega)
    have h3 := okTo_mono (j := k + 1) hk hm
    simp only [okTo, Bool.and_eq_true, decide_eq_true_eq] at h3
    have h4 := mono m (k + 1) hk (Nat.le_refl _)
    have h5 := h3.2.1
    simp only [leftTo, cN, sumI] at h4 ⊢
    omega
theorem ord_out {xs : List Int} {n m : Nat} (hm : okTo xs m = true) (hn : sumI xs m = (n : Int)) : ∀ k, k ≤ m → ordTo xs n k = outTo xs n k * fact (leftTo xs n k) := by
  have hn20 : n ≤ 20 := by have := okTo_sum hm; omega
  intro k
  induction k with
  | zero => intro _; simp [ordTo, outTo, leftTo]
  | succ k ih =>
    intro hk
    have h1 := left_sum hm hn k (by omega)
    have h2 := left_sum hm hn (k + 1) hk
    have h3 := okTo_mono (j := k + 1) hk hm
    simp only [okTo, Bool.and_eq_true, decide_eq_true_eq] at h3
    have hc : cN xs k ≤ leftTo xs n k := by
      have h5 := h3.2.1
      have h6 := h2.2
      simp only [sumI] at h6
      simp only [cN]
      omega
    have hl : leftTo xs n k ≤ 20 := by
      have h6 := okTo_sum (okTo_mono (j := k) (by omega) hm)
      omega
    rw [ordTo, ih (by omega), fact_ch hl hc]
    simp only [outTo, leftTo]
    rw [show outTo xs n k * (ch (leftTo xs n k) (cN xs k : Int) * fact (leftTo xs n k - cN xs k) * fact (cN xs k)) = outTo xs n k * ch (leftTo xs n k) (cN xs k : Int) * fact (leftTo xs n k - cN xs k) * fact (cN xs k) by
      simp only [Nat.mul_assoc]]
    rw [Nat.mul_div_cancel _ (fact_pos _)]
theorem ord_small {xs : List Int} {n : Nat} (hn : n ≤ 20) : ∀ k, ordTo xs n k ≤ 2432902008176640000 := by
  intro k
  induction k with
  | zero => exact fact_small hn
  | succ k ih => exact Nat.le_trans (Nat.div_le_self _ _) ih
theorem out_small {xs : List Int} {n m : Nat} (hm : okTo xs m = true) (hn : sumI xs m = (n : Int)) {k : Nat} (hk : k ≤ m) : outTo xs n k ≤ 2432902008176640000 := by
  have h1 := ord_out hm hn k hk
  have h2 := ord_small (xs := xs) (n := n) (by have := okTo_sum hm; omega) k
  have h3 := fact_pos (leftTo xs n k)
  rw [h1] at h2
  exact Nat.le_trans (Nat.le_mul_of_pos_right _ h3) h2
theorem out_end {xs : List Int} {n m : Nat} (hm : okTo xs m = true) (hn : sumI xs m = (n : Int)) : ordTo xs n m = outTo xs n m := by
  have h1 := left_sum hm hn m (Nat.le_refl _)
  rw [ord_out hm hn m (Nat.le_refl _), show leftTo xs n m = 0 by omega]
  simp [fact]
end Go.Proofs.Ytdaghbfejcjknab.M
