/- Mirrored trees: the mathematics. No program is named here. -/
import Derived.Test.YtgojmhcddcenaaaTextBack
namespace Go.Proofs.Ytgojmhcddcenaaa.M
/-- the mirrored tree, f levels deep at most -/
def mirL : Nat → List Int → List Int
  | 0, _ => []
  | f + 1, xs => (xs[0]?.getD 0) :: (List.range (xs[0]?.getD 0).toNat).flatMap fun j => mirL f (sub xs (kidAt xs 0 ((xs[0]?.getD 0).toNat - 1 - j)))
/-- what has come when k children, from the last one on, have been taken -/
def mirK (f : Nat) (xs : List Int) (d k : Nat) : List Int := (d : Int) :: (List.range k).flatMap fun j => mirL f (sub xs (kidAt xs 0 (d - 1 - j)))
theorem mirK_zero (f : Nat) (xs : List Int) (d : Nat) : mirK f xs d 0 = [(d : Int)] := rfl
theorem mirK_succ (f : Nat) (xs : List Int) (d k : Nat) : mirK f xs d (k + 1) = mirK f xs d k ++ mirL f (sub xs (kidAt xs 0 (d - 1 - k))) := by simp [mirK, List.range_succ]
theorem mirL_at {f : Nat} {xs : List Int} {d : Nat} (h : xs[0]? = some (d : Int)) : mirL (f + 1) xs = mirK f xs d d := by rw [mirL, h]; rfl
theorem mirK_len {f : Nat} {xs : List Int} (ih : ∀ ys, isTree ys = true → ys.length ≤ f → (mirL f ys).length = ys.length) (ht : isTree xs = true) (hf : xs.length ≤ f + 1) {d : Nat} (hd : xs[0]? = some (d : Int)) : ∀ k, k ≤ d → (mirK f xs d k).length + kidAt xs 0 (d - k) = xs.length + 1 := by
  intro k
  induction k with
  | zero => intro _; rw [mirK_zero, Nat.sub_zero, kids_all ht hd]; simp; omega
  | succ k ihk =>
    intro hk
    have h1 := sub_short ht hd (i := d - 1 - k) (by omega)
    have h2 := kid_lt ht hd (i := d - 1 - k) (by omega)
    have h3 := ihk (by omega)
    rw [mirK_succ, List.length_append, ih _ (sub_tree ht h2) (by omega), sub_length]
    have e : kidAt xs 0 (d - k) = kidAt xs 0 (d - 1 - k) + span 1 (xs.drop (kidAt xs 0 (d - 1 - k))) := by
      rw [show d - k = (d - 1 - k) + 1 by omega, kidAt]
    rw [show d - (k + 1) = d - 1 - k by omega]
    omega
theorem mirL_len : ∀ (f : Nat) (xs : List Int), isTree xs = true → xs.length ≤ f → (mirL f xs).length = xs.length := by
  intro f
  induction f with
  | zero => intro xs ht h; have := (tree_len ht).1; omega
  | succ f ih =>
    intro xs ht hf
    have hl := tree_len ht
    obtain ⟨d, hd, _⟩ := tree_degN ht (v := 0) (by omega)
    have := mirK_len ih ht hf hd d (Nat.le_refl _)
    rw [Nat.sub_self, kidAt] at this
    rw [mirL_at hd]
    omega
theorem mirK_le {f : Nat} {xs : List Int} (ht : isTree xs = true) (hf : xs.length ≤ f + 1) {d : Nat} (hd : xs[0]? = some (d : Int)) {k : Nat} (hk : k ≤ d) : (mirK f xs d k).length ≤ 24 := by
  have h1 := mirK_len (fun ys => mirL_len f ys) ht hf hd k hk
  have h2 := tree_len ht
  have h3 : 1 ≤ kidAt xs 0 (d - k) := (kid_due ht hd (d - k) (by omega)).2.2
  omega
/-- more levels than nodes change nothing -/
theorem mirL_fuel : ∀ (f g : Nat) (xs : List Int), isTree xs = true → xs.length ≤ f → xs.length ≤ g → mirL f xs = mirL g xs := by
  intro f
  induction f with
  | zero => intro g xs ht h _; have := (tree_len ht).1; omega
  | succ f ih =>
    intro g xs ht hf hg
    have hl := tree_len ht
    obtain ⟨d, hd, _⟩ := tree_degN ht (v := 0) (by omega)
    obtain ⟨g, rfl⟩ : ∃ g', g = g' + 1 := ⟨g - 1, by omega⟩
    have hK : ∀ k, k ≤ d → mirK f xs d k = mirK g xs d k := by
      intro k
      induction k with
      | zero => intro _; rfl
      | succ k ihk =>
        intro hk
        have h1 := sub_short ht hd (i := d - 1 - k) (by omega)
        have h2 := kid_lt ht hd (i := d - 1 - k) (by omega)
        rw [mirK_succ, mirK_succ, ihk (by omega), ih g _ (sub_tree ht h2) (by omega) (by omega)]
    rw [mirL_at hd, mirL_at hd, hK d (Nat.le_refl _)]
theorem mirL_all {xs : List Int} (ht : isTree xs = true) {d : Nat} (hd : xs[0]? = some (d : Int)) : mirL 24 xs = mirK 24 xs d d := by
  rw [← mirL_at hd]
  exact mirL_fuel 24 25 xs ht (tree_len ht).2 (by have := (tree_len ht).2; omega)
end Go.Proofs.Ytgojmhcddcenaaa.M
