/- Leaf distance: the mathematics of forests in postorder whose last tree is left out as a whole. -/
import Derived.Test.YtgcabcmnhdaepaaMost
namespace Go.Proofs.Ytgcabcmnhdaepaa

namespace M
/-- the greatest number of pairs of the nodes a .. b - 1 and c .. d - 1 in postorder if leaves alone are taken out -/
def mostL (s z : Nat → Nat) (a b c d : Nat) : Nat :=
  if _h : b ≤ a ∨ d ≤ c then 0
  else
    max (1 + mostL s z (max a (b - max 1 (s (b - 1)))) (b - 1) (max c (d - max 1 (z (d - 1)))) (d - 1) + mostL s z a (max a (b - max 1 (s (b - 1)))) c (max c (d - max 1 (z (d - 1)))))
      (max (mostL s z a (max a (b - max 1 (s (b - 1)))) c d) (mostL s z a b c (max c (d - max 1 (z (d - 1))))))
termination_by (b - a) + (d - c)
decreasing_by all_goals omega
theorem mostL_zero {s z : Nat → Nat} {a b c d : Nat} (h : b ≤ a ∨ d ≤ c) : mostL s z a b c d = 0 := by rw [mostL, dif_pos h]
theorem mostL_step {s z : Nat → Nat} {a b c d p q : Nat} (h1 : a < b) (h2 : c < d) (hp : p = max a (b - max 1 (s (b - 1)))) (hq : q = max c (d - max 1 (z (d - 1)))) :
    mostL s z a b c d = max (1 + mostL s z p (b - 1) q (d - 1) + mostL s z a p c q) (max (mostL s z a p c d) (mostL s z a b c q)) := by
  rw [mostL, dif_neg (by omega), ← hp, ← hq]
theorem mostL_le {s z : Nat → Nat} : ∀ (n a b c d : Nat), (b - a) + (d - c) ≤ n → mostL s z a b c d ≤ b - a ∧ mostL s z a b c d ≤ d - c := by
  intro n
  induction n with
  | zero => intro a b c d h; rw [mostL_zero (by omega)]; omega
  | succ n ih =>
    intro a b c d h
    by_cases h0 : b ≤ a ∨ d ≤ c
    · rw [mostL_zero h0]; omega
    · obtain ⟨p, hp⟩ : ∃ p, p = max a (b - max 1 (s (b - 1))) := ⟨_, rfl⟩
      obtain ⟨q, hq⟩ : ∃ q, q = max c (d - max 1 (z (d - 1))) := ⟨_, rfl⟩
      rw [mostL_step (by omega) (by omega) hp hq]
      have h1 := ih p (b - 1) q (d - 1) (by omega)
      have h2 := ih a p c q (by omega)
      have h3 := ih a p c d (by omega)
      have h4 := ih a b c q (by omega)
      omega
theorem mostL_bd (s z : Nat → Nat) (a b c d : Nat) : mostL s z a b c d ≤ b - a ∧ mostL s z a b c d ≤ d - c := mostL_le _ a b c d (Nat.le_refl _)
/-- the number at other places of the same sizes -/
theorem mostL_shift {s z s' z' : Nat → Nat} (o o' : Nat) : ∀ (n a b c d : Nat), (b - a) + (d - c) ≤ n → (∀ j, a ≤ j → j < b → s (j + o) = s' j) → (∀ j, c ≤ j → j < d → z (j + o') = z' j) → mostL s z (a + o) (b + o) (c + o') (d + o') = mostL s' z' a b c d := by
  intro n
  induction n with
  | zero => intro a b c d h _ _; rw [mostL_zero (by omega), mostL_zero (by omega)]
  | succ n ih =>
    intro a b c d h hs hz
    by_cases h0 : b ≤ a ∨ d ≤ c
    · rw [mostL_zero (by omega), mostL_zero (by omega)]
    · obtain ⟨p, hp⟩ : ∃ p, p = max a (b - max 1 (s' (b - 1))) := ⟨_, rfl⟩
      obtain ⟨q, hq⟩ : ∃ q, q = max c (d - max 1 (z' (d - 1))) := ⟨_, rfl⟩
      have e1 := hs (b - 1) (by omega) (by omega)
      have e2 := hz (d - 1) (by omega) (by omega)
      rw [show b - 1 + o = b + o - 1 by omega] at e1
      rw [show d - 1 + o' = d + o' - 1 by omega] at e2
      rw [mostL_step (s := s') (z := z') (by omega) (by omega) hp hq, mostL_step (s := s) (z := z) (p := p + o) (q := q + o') (by omega) (by omega) (by rw [e1]; omega) (by rw [e2]; omega)]
      rw [show b + o - 1 = b - 1 + o by omega, show d + o' - 1 = d - 1 + o' by omega]
      rw [ih p (b - 1) q (d - 1) (by omega) (fun j h1 h2 => hs j (by omega) (by omega)) (fun j h1 h2 => hz j (by omega) (by omega)),
        ih a p c q (by omega) (fun j h1 h2 => hs j (by omega) (by omega)) (fun j h1 h2 => hz j (by omega) (by omega)),
        ih a p c d (by omega) (fun j h1 h2 => hs j (by omega) (by omega)) (fun j h1 h2 => hz j (by omega) (by omega)),
        ih a b c q (by omega) (fun j h1 h2 => hs j (by omega) (by omega)) (fun j h1 h2 => hz j (by omega) (by omega))]
/-- of two trees the roots are a pair -/
theorem mostL_roots {s z : Nat → Nat} {n m : Nat} (hn : 0 < n) (hm : 0 < m) (h1 : s (n - 1) = n) (h2 : z (m - 1) = m) : mostL s z 0 n 0 m = 1 + mostL s z 0 (n - 1) 0 (m - 1) := by
  rw [mostL_step (p := 0) (q := 0) hn hm (by omega) (by omega), mostL_zero (s := s) (z := z) (a := 0) (b := 0) (c := 0) (d := 0) (by omega), mostL_zero (s := s) (z := z) (a := 0) (b := 0) (c := 0) (d := m) (by omega), mostL_zero (s := s) (z := z) (a := 0) (b := n) (c := 0) (d := 0) (by omega)]
  omega
end M
end Go.Proofs.Ytgcabcmnhdaepaa
