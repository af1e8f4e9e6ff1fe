/- Numbers of lists of trees of at most a height, by nodes. No program is named here. -/
import Derived.Test.YtdaghbfejcjknabTab
namespace Go.Proofs.Ytdaghbfejcjknab.M
/-- a first tree, of which 'less' tells the number by its nodes less one, and a list -/
def convL (less : Nat → Nat) : Nat → List Nat
  | 0 => [1]
  | n + 1 => convL less n ++ [sumTo (fun x => less x * (convL less n).getD (n - x) 0) (n + 1)]
def conv (less : Nat → Nat) (n : Nat) : Nat := (convL less n).getD n 0
theorem convL_len (less : Nat → Nat) : ∀ n, (convL less n).length = n + 1 := by
  intro n
  induction n with
  | zero => rfl
  | succ n ih => simp [convL, ih]
theorem convL_at (less : Nat → Nat) {i : Nat} : ∀ n, i ≤ n → (convL less n).getD i 0 = conv less i := by
  intro n
  induction n with
  | zero => intro h; obtain rfl : i = 0 := by omega
            rfl
  | succ n ih =>
    intro h
    rcases Nat.lt_or_ge i (n + 1) with h1 | h1
    · rw [← ih (by omega), convL]
      simp only [List.getD_eq_getElem?_getD]
      rw [List.getElem?_append_left (by rw [convL_len]; omega)]
    · obtain rfl : i = n + 1 := by omega
      rfl
theorem conv_zero (less : Nat → Nat) : conv less 0 = 1 := rfl
theorem conv_succ (less : Nat → Nat) (n : Nat) : conv less (n + 1) = sumTo (fun x => less x * conv less (n - x)) (n + 1) := by
  have h1 : conv less (n + 1) = sumTo (fun x => less x * (convL less n).getD (n - x) 0) (n + 1) := by
    simp only [conv, convL, List.getD_eq_getElem?_getD]
    rw [List.getElem?_append_right (by rw [convL_len]; omega), convL_len]
    simp
  rw [h1]
  exact sumTo_congr fun x hx => by rw [convL_at less n (by omega)]
/-- lists of trees of less than h levels -/
def Fo : Nat → Nat → Nat
  | 0, n => if n = 0 then 1 else 0
  | h + 1, n => conv (Fo h) n
theorem Fo_none (h : Nat) : Fo h 0 = 1 := by cases h <;> rfl
theorem Fo_zero {n : Nat} (hn : 0 < n) : Fo 0 n = 0 := if_neg (by omega)
theorem Fo_succ (h n : Nat) : Fo (h + 1) (n + 1) = sumTo (fun x => Fo h x * Fo (h + 1) (n - x)) (n + 1) := conv_succ _ n
theorem sumTo_mono {f g : Nat → Nat} : ∀ {k : Nat}, (∀ i, i < k → f i ≤ g i) → sumTo f k ≤ sumTo g k := by
  intro k
  induction k with
  | zero => intro _; exact Nat.le_refl _
  | succ k ih => intro h; simp only [sumTo]; have := ih fun i hi => h i (by omega); have := h k (by omega); omega
theorem Fo_cat : ∀ (h n : Nat), n ≤ 30 → Fo h n ≤ L (n + 1) 1 := by
  have base : ∀ n, n ≤ 30 → 1 ≤ L (n + 1) 1 := fun n hn => by
    have : ((List.range 31).all fun n => decide (1 ≤ entL (n + 1) 1)) = true := by decide +kernel
    have h1 := List.all_eq_true.1 this n (List.mem_range.2 (by omega))
    rw [← entL_eq (n + 1) (by omega) 1 (by omega)]
    simpa using h1
  intro h
  induction h with
  | zero => intro n hn; have := base n hn; simp only [Fo]; split <;> omega
  | succ h ih =>
    intro n
    induction n using Nat.strongRecOn with
    | _ n ihn =>
      intro hn
      cases n with
      | zero => rw [Fo_none]; exact base 0 hn
      | succ n =>
        rw [Fo_succ, L_cat (m := n + 1 + 1) (by omega) (by omega)]
        refine sumTo_mono fun x hx => ?_
        have h1 := ih x (by omega)
        have h2 := ihn (n - x) (by omega) (by omega)
        have e : n + 1 + 1 - 1 - x = n - x + 1 := by omega
        rw [e]
        exact Nat.mul_le_mul h1 h2
theorem Fo_small {h n : Nat} (hn : n ≤ 30) : Fo h n ≤ 10000000000000000 := Nat.le_trans (Fo_cat h n hn) (cat_small hn)
theorem Fosum_small {h n j : Nat} (hn : n + 1 ≤ 30) (hj : j ≤ n + 1) : sumTo (fun x => Fo h x * Fo (h + 1) (n - x)) j ≤ 10000000000000000 := by
  have h1 := sumTo_le (f := fun x => Fo h x * Fo (h + 1) (n - x)) hj
  have h2 := Fo_small (h := h + 1) (n := n + 1) hn
  rw [Fo_succ] at h2
  omega
/-- trees of m nodes with less than h levels -/
def TrN (h m : Nat) : Nat := if h = 0 ∨ m = 0 then 0 else Fo (h - 1) (m - 1)
end Go.Proofs.Ytdaghbfejcjknab.M
