/- CountsOfTree, the program's and the model's: how many nodes have so many children, or a code. -/
import Derived.Test.YtbnnlifpldgcfaaMax
import Derived.Test.YtbnnlifpldgcfaaPush
namespace Go.Proofs.Ytbnnlifpldgcfaa
open Go.RowKit

namespace M
/-- how many of the first k numbers are j -/
def countTo (xs : List Int) : Nat → Nat → Nat
  | 0, _ => 0
  | k + 1, j => countTo xs k j + (if xs[k]? = some (j : Int) then 1 else 0)
def rowN (xs : List Int) (N k : Nat) : List Int := (List.range N).map fun j => (countTo xs k j : Int)
theorem rowN_len (xs : List Int) (N k : Nat) : (rowN xs N k).length = N := by simp [rowN]
theorem countTo_le (xs : List Int) (j : Nat) : ∀ k, countTo xs k j ≤ k := by
  intro k
  induction k with
  | zero => exact Nat.le_refl _
  | succ k ih => simp only [countTo]; split <;> omega
theorem rowN_zero (xs : List Int) (N : Nat) : rowN xs N 0 = List.replicate N 0 := by
  apply List.ext_getElem?
  intro j
  simp only [rowN, List.getElem?_map, List.getElem?_replicate, countTo]
  by_cases hj : j < N
  · rw [List.getElem?_range hj, if_pos hj]; rfl
  · rw [List.getElem?_eq_none (by simp; omega), if_neg hj]; rfl
theorem rowN_at (xs : List Int) {N k j : Nat} (h : j < N) : (rowN xs N k)[j]? = some (countTo xs k j : Int) := by simp [rowN, h]
theorem rowN_step {xs : List Int} {N k d : Nat} (h : xs[k]? = some (d : Int)) : (rowN xs N k).set d ((countTo xs k d : Int) + 1) = rowN xs N (k + 1) := by
  apply List.ext_getElem?
  intro j
  by_cases hj : j < N
  · rw [rowN_at xs hj]
    by_cases hjd : d = j
    · subst hjd
      rw [List.getElem?_set_self (by rw [rowN_len]; exact hj)]
      simp only [countTo, h, if_true]
      rfl
    · rw [List.getElem?_set_ne hjd, rowN_at xs hj]
      have : countTo xs (k + 1) j = countTo xs k j := by
        simp only [countTo, h]
        rw [if_neg (by intro e; injection e with e; omega)]
        rfl
      rw [this]
  · rw [List.getElem?_eq_none (by simp [rowN_len]; omega), List.getElem?_eq_none (by rw [rowN_len]; omega)]
def width (xs : List Int) : Nat → Nat
  | 0 => 0
  | k + 1 => max (width xs k) ((xs[k]?.getD 0).toNat + 1)
theorem width_at {xs : List Int} {k d : Nat} (h : xs[k]? = some (d : Int)) : width xs (k + 1) = max (width xs k) (d + 1) := by simp [width, h]
theorem countTo_out {xs : List Int} : ∀ {k j : Nat}, width xs k ≤ j → countTo xs k j = 0 := by
  intro k
  induction k with
  | zero => intro j _; rfl
  | succ k ih =>
    intro j h
    simp only [width] at h
    simp only [countTo]
    rw [ih (by omega), if_neg (by intro e; rw [e] at h; simp at h; omega)]
theorem rowN_grow {xs : List Int} {N k : Nat} (h : width xs k ≤ N) : rowN xs N k ++ [0] = rowN xs (N + 1) k := by
  simp only [rowN, List.range_succ, List.map_append, List.map_cons, List.map_nil, countTo_out h]
  rfl
theorem width_max {xs : List Int} (h0 : ∀ x ∈ xs, 0 ≤ x) : ∀ k, 1 ≤ k → k ≤ xs.length → width xs k = (maxTo xs k).toNat + 1 := by
  intro k
  induction k with
  | zero => intro h; omega
  | succ k ih =>
    intro _ hk
    obtain ⟨x, hx⟩ : ∃ x, xs[k]? = some x := ⟨_, List.getElem?_eq_getElem (by omega)⟩
    have hx0 := h0 _ (List.mem_of_getElem? hx)
    have hs := maxTo_step hx rfl
    have hp := maxTo_pos xs k
    have hw : width xs k = (if k = 0 then 0 else (maxTo xs k).toNat + 1) := by
      rcases Nat.eq_zero_or_pos k with h1 | h1
      · subst h1; rfl
      · rw [ih h1 (by omega), if_neg (by omega)]
    have hm : k = 0 → maxTo xs k = 0 := fun e => by subst e; rfl
    rw [hs]
    simp only [width, hx, Option.getD_some]
    rw [hw]
    by_cases h1 : k = 0
    · rw [if_pos h1, hm h1]
      by_cases h2 : 0 < x
      · rw [if_pos h2]; omega
      · rw [if_neg h2]; omega
    · rw [if_neg h1]
      by_cases h2 : maxTo xs k < x
      · rw [if_pos h2]; omega
      · rw [if_neg h2]; omega
def counts (xs : List Int) : List Int := rowN xs (width xs xs.length) xs.length
end M

theorem own64_shape {w : World} {B n c : Nat} {A : Option Addr} {zs : List Int} (h : Own64 w B (.slice A n c) zs) (hn : 0 < n) : ∃ g, A = some ⟨g, 0, none⟩ := by
  rcases h.2 with ⟨h0, _⟩ | ⟨g, cap, cur, hv, _⟩
  · injection h0 with _ e _; omega
  · injection hv with e1; exact ⟨g, e1⟩

def F_CountsOfTree (xs : List Int) : List Int × Int := M.cond xs (M.counts xs)
theorem width_le {xs : List Int} (ht : M.isTree xs = true) : M.width xs xs.length ≤ 25 := by
  have h0 : ∀ x ∈ xs, (0 : Int) ≤ x := fun x hx => by obtain ⟨i, hi⟩ := List.getElem?_of_mem hx; exact (M.tree_deg ht hi).1
  have h1 : ∀ x ∈ xs, x ≤ (24 : Int) := fun x hx => by obtain ⟨i, hi⟩ := List.getElem?_of_mem hx; exact (M.tree_deg ht hi).2
  have hl := M.tree_len ht
  rw [M.width_max h0 _ hl.1 (Nat.le_refl _)]
  have := M.maxTo_le (by omega) h1 xs.length
  omega
theorem F_CountsOfTree_len (xs : List Int) : (F_CountsOfTree xs).1.length ≤ 1048576 := by
  cases ht : M.isTree xs
  · rw [F_CountsOfTree, M.cond_no ht]; simp
  · rw [F_CountsOfTree, M.cond_yes ht]
    show (M.rowN _ _ _).length ≤ _
    rw [M.rowN_len]
    have := width_le ht
    omega

end Go.Proofs.Ytbnnlifpldgcfaa
