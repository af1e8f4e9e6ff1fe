/- Nodes in common: the mathematics of forests in postorder and of the greatest number of pairs. -/
import Derived.Test.YtgcabcmnhdaepaaPost
namespace Go.Proofs.Ytgcabcmnhdaepaa

namespace M
/-- the greatest number of pairs of the nodes a .. b - 1 and c .. d - 1 in postorder, by the sizes s and z of subtrees -/
def most (s z : Nat → Nat) (a b c d : Nat) : Nat :=
  if h : b ≤ a ∨ d ≤ c then 0
  else
    max (1 + most s z (max a (b - max 1 (s (b - 1)))) (b - 1) (max c (d - max 1 (z (d - 1)))) (d - 1) + most s z a (max a (b - max 1 (s (b - 1)))) c (max c (d - max 1 (z (d - 1)))))
      (max (most s z a (b - 1) c d) (most s z a b c (d - 1)))
termination_by (b - a) + (d - c)
decreasing_by all_goals omega
theorem most_zero {s z : Nat → Nat} {a b c d : Nat} (h : b ≤ a ∨ d ≤ c) : most s z a b c d = 0 := by rw [most, dif_pos h]
theorem most_step {s z : Nat → Nat} {a b c d p q : Nat} (h1 : a < b) (h2 : c < d) (hp : p = max a (b - max 1 (s (b - 1)))) (hq : q = max c (d - max 1 (z (d - 1)))) :
    most s z a b c d = max (1 + most s z p (b - 1) q (d - 1) + most s z a p c q) (max (most s z a (b - 1) c d) (most s z a b c (d - 1))) := by
  rw [most, dif_neg (by omega), ← hp, ← hq]
theorem most_le {s z : Nat → Nat} : ∀ (n a b c d : Nat), (b - a) + (d - c) ≤ n → most s z a b c d ≤ b - a ∧ most s z a b c d ≤ d - c := by
  intro n
  induction n with
  | zero => intro a b c d h; rw [most_zero (by omega)]; omega
  | succ n ih =>
    intro a b c d h
    by_cases h0 : b ≤ a ∨ d ≤ c
    · rw [most_zero h0]; omega
    · obtain ⟨p, hp⟩ : ∃ p, p = max a (b - max 1 (s (b - 1))) := ⟨_, rfl⟩
      obtain ⟨q, hq⟩ : ∃ q, q = max c (d - max 1 (z (d - 1))) := ⟨_, rfl⟩
      rw [most_step (by omega) (by omega) hp hq]
      have h1 := ih p (b - 1) q (d - 1) (by omega)
      have h2 := ih a p c q (by omega)
      have h3 := ih a (b - 1) c d (by omega)
      have h4 := ih a b c (d - 1) (by omega)
      omega
theorem most_bd (s z : Nat → Nat) (a b c d : Nat) : most s z a b c d ≤ b - a ∧ most s z a b c d ≤ d - c := most_le _ a b c d (Nat.le_refl _)

/-- sizes of subtrees in postorder: none greater than what comes before, and nested -/
def GoodF (L : List Nat) : Prop := ∀ i x, L[i]? = some x → 1 ≤ x ∧ x ≤ i + 1 ∧ ∀ j y, L[j]? = some y → j < i → i + 1 ≤ j + x → i + 1 + y ≤ j + 1 + x
theorem goodF_nil : GoodF [] := fun i x h => by simp at h
theorem goodF_append {L1 L2 : List Nat} (h1 : GoodF L1) (h2 : GoodF L2) : GoodF (L1 ++ L2) := by
  intro i x h
  rcases Nat.lt_or_ge i L1.length with hi | hi
  · rw [List.getElem?_append_left hi] at h
    obtain ⟨e1, e2, e3⟩ := h1 i x h
    exact ⟨e1, e2, fun j y hj hji => by rw [List.getElem?_append_left (by omega)] at hj; exact e3 j y hj hji⟩
  · rw [List.getElem?_append_right hi] at h
    obtain ⟨e1, e2, e3⟩ := h2 _ x h
    refine ⟨e1, by omega, fun j y hj hji hx => ?_⟩
    rw [List.getElem?_append_right (by omega)] at hj
    have := e3 _ y hj (by omega) (by omega)
    omega
theorem goodF_root {L : List Nat} (h : GoodF L) : GoodF (L ++ [L.length + 1]) := by
  intro i x hx
  rcases Nat.lt_or_ge i L.length with hi | hi
  · rw [List.getElem?_append_left hi] at hx
    obtain ⟨e1, e2, e3⟩ := h i x hx
    exact ⟨e1, e2, fun j y hj hji => by rw [List.getElem?_append_left (by omega)] at hj; exact e3 j y hj hji⟩
  · have hlt := (List.getElem?_eq_some_iff.1 hx).1
    simp only [List.length_append, List.length_cons, List.length_nil] at hlt
    obtain rfl : i = L.length := by omega
    simp at hx
    subst hx
    refine ⟨by omega, by omega, fun j y hj hji _ => ?_⟩
    rw [List.getElem?_append_left hji] at hj
    have := (h j y hj).2.1
    omega
/-- the size of the subtree of a node -/
def sz (xs : List Int) (v : Int) : Nat := span 1 (xs.drop v.toNat)
def psz (xs : List Int) (l : List Int) : List Nat := l.map (sz xs)
theorem psz_append (xs l m : List Int) : psz xs (l ++ m) = psz xs l ++ psz xs m := by simp [psz]
theorem good_post {xs : List Int} (ht : isTree xs = true) : ∀ f v, v < xs.length → 24 - v ≤ f → GoodF (psz xs (postGo xs f v)) := by
  intro f
  induction f with
  | zero => intro v hv h; have := (tree_len ht).2; omega
  | succ f ih =>
    intro v hv hf
    obtain ⟨d, hd, _⟩ := tree_degN ht hv
    have hlen := postGo_len ht (f + 1) v hv hf
    have hK : ∀ k, k ≤ d → GoodF (psz xs (postK xs f v k)) := by
      intro k
      induction k with
      | zero => intro _; simp [postK, psz, goodF_nil]
      | succ k ihk =>
        intro hk
        have hkl := kid_lt ht hd (i := k) (by omega)
        have hkv := (kid_due ht hd k (by omega)).2.2
        rw [postK_succ, psz_append]
        exact goodF_append (ihk (by omega)) (ih _ hkl (by omega))
    rw [postGo_at hd] at hlen ⊢
    have hg := goodF_root (hK d (Nat.le_refl _))
    rw [psz_append]
    have e : psz xs [(v : Int)] = [(psz xs (postK xs f v d)).length + 1] := by
      simp only [psz, List.map_cons, List.map_nil, List.length_map]
      rw [List.length_append] at hlen
      simp only [List.length_cons, List.length_nil] at hlen
      simp only [sz, Int.toNat_natCast]
      rw [← hlen]
    rw [e]
    exact hg

/-- the nodes in postorder -/
def posts (xs : List Int) : List Int := postGo xs 24 0
theorem posts_len {xs : List Int} (ht : isTree xs = true) : (posts xs).length = xs.length := by
  have h := tree_len ht
  rw [posts, postGo_len ht 24 0 (by omega) (by omega)]
  have := fin_root ht
  simp only [fin] at this
  omega
/-- the size of the subtree of the node at a place of postorder -/
def szAt (xs : List Int) (j : Nat) : Nat := sz xs ((posts xs)[j]?.getD 0)
theorem szAt_at {xs : List Int} {j : Nat} {v : Int} (h : (posts xs)[j]? = some v) : szAt xs j = sz xs v := by simp [szAt, h]
/-- the forest of the places a .. b - 1 has all that is below its nodes -/
def Closed (s : Nat → Nat) (a b : Nat) : Prop := ∀ j, a ≤ j → j < b → 1 ≤ s j ∧ a + s j ≤ j + 1
theorem posts_good {xs : List Int} (ht : isTree xs = true) : ∀ i, i < xs.length → 1 ≤ szAt xs i ∧ szAt xs i ≤ i + 1 ∧ ∀ j, j < i → i + 1 ≤ j + szAt xs i → i + 1 + szAt xs j ≤ j + 1 + szAt xs i := by
  have h := tree_len ht
  have hg := good_post ht 24 0 (by omega) (by omega)
  have hl := posts_len ht
  have hat : ∀ i, i < xs.length → (psz xs (postGo xs 24 0))[i]? = some (szAt xs i) := fun i hi => by
    obtain ⟨x, hx⟩ : ∃ x, (posts xs)[i]? = some x := ⟨_, List.getElem?_eq_getElem (by omega)⟩
    rw [szAt_at hx, psz, List.getElem?_map]
    have hx' : (postGo xs 24 0)[i]? = some x := hx
    rw [hx']
    rfl
  intro i hi
  obtain ⟨e1, e2, e3⟩ := hg i _ (hat i hi)
  exact ⟨e1, e2, fun j hji => e3 j _ (hat j (by omega)) hji⟩
theorem closed_all {xs : List Int} (ht : isTree xs = true) : Closed (szAt xs) 0 xs.length := fun j _ hj => by
  have := posts_good ht j hj
  omega
theorem closed_less {s : Nat → Nat} {a b b' : Nat} (h : Closed s a b) (hb : b' ≤ b) : Closed s a b' := fun j h1 h2 => h j h1 (by omega)
theorem closed_below {xs : List Int} (ht : isTree xs = true) {a b : Nat} (h : Closed (szAt xs) a b) (hab : a < b) (hb : b ≤ xs.length) : Closed (szAt xs) (b - szAt xs (b - 1)) (b - 1) := fun j h1 h2 => by
  have h3 := posts_good ht (b - 1) (by omega)
  have h4 := h j
  have h5 := h (b - 1) (by omega) (by omega)
  have h6 := h3.2.2 j h2 (by omega)
  have h7 := posts_good ht j (by omega)
  omega
/-- the nodes of postorder are different ones, and nodes -/
theorem post_range {xs : List Int} (ht : isTree xs = true) : ∀ f v, v < xs.length → 24 - v ≤ f → ∀ x ∈ postGo xs f v, ∃ u : Nat, x = (u : Int) ∧ v ≤ u ∧ u < fin xs v := by
  intro f
  induction f with
  | zero => intro v hv h; have := (tree_len ht).2; omega
  | succ f ih =>
    intro v hv hf x hx
    obtain ⟨d, hd, _⟩ := tree_degN ht hv
    rw [postGo_at hd] at hx
    rcases List.mem_append.1 hx with hx | hx
    · simp only [postK, List.mem_flatMap, List.mem_range] at hx
      obtain ⟨i, hi, hx⟩ := hx
      have hkl := kid_lt ht hd (i := i) (by omega)
      have hkv := (kid_due ht hd i (by omega)).2.2
      obtain ⟨u, e, h1, h2⟩ := ih _ hkl (by omega) x hx
      have h3 := nest ht hv (q := kidAt xs v i) (by omega) (kid_bounds ht ⟨d, i, hd, hi, rfl⟩).2.1
      exact ⟨u, e, by omega, by omega⟩
    · simp only [List.mem_singleton] at hx
      exact ⟨v, hx, Nat.le_refl _, fin_gt hv⟩
theorem post_nodup {xs : List Int} (ht : isTree xs = true) : ∀ f v, v < xs.length → 24 - v ≤ f → (postGo xs f v).Nodup := by
  intro f
  induction f with
  | zero => intro v hv h; have := (tree_len ht).2; omega
  | succ f ih =>
    intro v hv hf
    obtain ⟨d, hd, _⟩ := tree_degN ht hv
    have hK : ∀ k, k ≤ d → (postK xs f v k).Nodup ∧ ∀ x ∈ postK xs f v k, ∃ u : Nat, x = (u : Int) ∧ v < u ∧ u < kidAt xs v k := by
      intro k
      induction k with
      | zero => intro _; simp [postK]
      | succ k ihk =>
        intro hk
        have hkl := kid_lt ht hd (i := k) (by omega)
        have hkv := (kid_due ht hd k (by omega)).2.2
        obtain ⟨h1, h2⟩ := ihk (by omega)
        have h3 := ih _ hkl (by omega)
        have h4 := post_range ht f _ hkl (by omega)
        have h5 : kidAt xs v (k + 1) = fin xs (kidAt xs v k) := by simp only [kidAt, fin]
        have h6 := fin_gt hkl
        rw [postK_succ]
        refine ⟨List.nodup_append.2 ⟨h1, h3, fun x hx y hy e => ?_⟩, fun x hx => ?_⟩
        · obtain ⟨u, e1, _, e2⟩ := h2 x hx
          obtain ⟨u', e3, e4, _⟩ := h4 y hy
          omega
        · rcases List.mem_append.1 hx with hx | hx
          · obtain ⟨u, e1, e0, e2⟩ := h2 x hx
            exact ⟨u, e1, e0, by rw [h5]; omega⟩
          · obtain ⟨u', e3, e4, e5⟩ := h4 x hx
            exact ⟨u', e3, by omega, by rw [h5]; exact e5⟩
    obtain ⟨h1, h2⟩ := hK d (Nat.le_refl _)
    rw [postGo_at hd]
    refine List.nodup_append.2 ⟨h1, by simp, fun x hx y hy e => ?_⟩
    obtain ⟨u, e1, e0, _⟩ := h2 x hx
    simp only [List.mem_singleton] at hy
    omega
theorem posts_at {xs : List Int} (ht : isTree xs = true) {j : Nat} (hj : j < xs.length) : ∃ u : Nat, (posts xs)[j]? = some (u : Int) ∧ u < xs.length := by
  have h := tree_len ht
  have hl := posts_len ht
  obtain ⟨x, hx⟩ : ∃ x, (posts xs)[j]? = some x := ⟨_, List.getElem?_eq_getElem (by omega)⟩
  obtain ⟨u, e, _, h2⟩ := post_range ht 24 0 (by omega) (by omega) x (List.mem_of_getElem? hx)
  rw [fin_root ht] at h2
  exact ⟨u, by rw [hx, e], h2⟩
/-- the place of a node in postorder -/
def ix (xs : List Int) (u : Nat) : Nat := (posts xs).idxOf (u : Int)
theorem ix_at {xs : List Int} (ht : isTree xs = true) {j u : Nat} (h : (posts xs)[j]? = some (u : Int)) : ix xs u = j := by
  have h0 := tree_len ht
  obtain ⟨hj, e⟩ := List.getElem?_eq_some_iff.1 h
  rw [ix, ← e]
  exact List.Nodup.idxOf_getElem (post_nodup ht 24 0 (by omega) (by omega)) j hj
end M
end Go.Proofs.Ytgcabcmnhdaepaa
