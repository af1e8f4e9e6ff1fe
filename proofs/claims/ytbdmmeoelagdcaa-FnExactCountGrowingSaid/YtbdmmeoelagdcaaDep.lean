/- Depths, their mathematics: what a row of depths must say, that there is one such row at most, and the steps by which both programs make it. -/
import Derived.Test.YtbdmmeoelagdcaaParents
namespace Go.Proofs.Ytbdmmeoelagdcaa.M
/-- ds is the row of depths -/
def DepsOK (xs ds : List Int) : Prop := ds.length = xs.length ∧ ds[0]? = some 0 ∧ ∀ p c, IsKid xs p c → ∃ x, ds[p]? = some x ∧ ds[c]? = some (x + 1)
/-- the children of the nodes below k, and the first j of k's, have theirs -/
def PartD (xs : List Int) (k j : Nat) (ds : List Int) : Prop :=
  ds.length = xs.length ∧ ds[0]? = some 0 ∧ (∀ p c, p < k → IsKid xs p c → ∃ x, ds[p]? = some x ∧ ds[c]? = some (x + 1)) ∧ (∀ i, i < j → ∃ x, ds[k]? = some x ∧ ds[kidAt xs k i]? = some (x + 1))
theorem partD_start {xs : List Int} (ht : isTree xs = true) : PartD xs 0 0 (List.replicate xs.length (0 : Int)) := by
  have := (tree_len ht).1
  refine ⟨by simp, ?_, fun p c h => by omega, fun i h => by omega⟩
  rw [List.getElem?_replicate, if_pos (by omega)]
theorem partD_step {xs ds : List Int} {k j d : Nat} {y : Int} (ht : isTree xs = true) (h : PartD xs k j ds) (hd : xs[k]? = some (d : Int)) (hj : j < d) (hy : ds[k]? = some y) : PartD xs k (j + 1) (ds.set (kidAt xs k j) (y + 1)) := by
  obtain ⟨h1, h2, h3, h4⟩ := h
  have hkid : IsKid xs k (kidAt xs k j) := ⟨d, j, hd, hj, rfl⟩
  have hb := kid_bounds ht hkid
  refine ⟨by simp [h1], ?_, fun p c hp hc => ?_, fun i hi => ?_⟩
  · rw [List.getElem?_set_ne (by omega)]; exact h2
  · have hne : kidAt xs k j ≠ c := fun e => by
      subst e
      have := kid_unique ht hc hkid
      omega
    rw [List.getElem?_set_ne hne, List.getElem?_set_ne (by omega)]
    exact h3 p c hp hc
  · rw [List.getElem?_set_ne (show kidAt xs k j ≠ k by omega)]
    rcases Nat.lt_or_ge i j with h5 | h5
    · have h6 := kid_le (xs := xs) (v := k) (i := i + 1) (j := j) (by omega)
      have h7 := kid_lt ht hd (i := i) (by omega)
      have h8 := span_pos h7
      simp only [kidAt] at h6
      rw [List.getElem?_set_ne (show kidAt xs k j ≠ kidAt xs k i by omega)]
      exact h4 i h5
    · obtain rfl : i = j := by omega
      rw [List.getElem?_set_self (by omega)]
      exact ⟨y, hy, rfl⟩
theorem partD_next {xs ds : List Int} {k d : Nat} (h : PartD xs k d ds) (hd : xs[k]? = some (d : Int)) : PartD xs (k + 1) 0 ds := by
  obtain ⟨h1, h2, h3, h4⟩ := h
  refine ⟨h1, h2, fun p c hp hc => ?_, fun i h => by omega⟩
  rcases Nat.lt_or_ge p k with h5 | h5
  · exact h3 p c h5 hc
  · obtain rfl : p = k := by omega
    obtain ⟨d', i, hd', hi, rfl⟩ := hc
    rw [hd] at hd'
    injection hd' with hd'
    exact h4 i (by omega)
theorem partD_done {xs ds : List Int} (ht : isTree xs = true) (h : PartD xs xs.length 0 ds) : DepsOK xs ds :=
  ⟨h.1, h.2.1, fun p c hc => h.2.2.1 p c (by have := kid_bounds ht hc; omega) hc⟩

/-- the model's loop: the nodes below v have their depths -/
def PartE (xs : List Int) (v : Nat) (ds : List Int) : Prop := ds.length = xs.length ∧ ds[0]? = some 0 ∧ ∀ p c, c < v → IsKid xs p c → ∃ x, ds[p]? = some x ∧ ds[c]? = some (x + 1)
theorem partE_start {xs : List Int} (ht : isTree xs = true) : PartE xs 1 (List.replicate xs.length (0 : Int)) := by
  have := (tree_len ht).1
  refine ⟨by simp, ?_, fun p c h hc => by have := kid_bounds ht hc; omega⟩
  rw [List.getElem?_replicate, if_pos (by omega)]
theorem partE_step {xs ds : List Int} {v p : Nat} {y : Int} (ht : isTree xs = true) (h : PartE xs v ds) (hv0 : 0 < v) (hv : v < xs.length) (hp : IsKid xs p v) (hy : ds[p]? = some y) : PartE xs (v + 1) (ds.set v (y + 1)) := by
  obtain ⟨h1, h2, h3⟩ := h
  refine ⟨by simp [h1], ?_, fun q c hc hq => ?_⟩
  · rw [List.getElem?_set_ne (by omega)]; exact h2
  · have hb := kid_bounds ht hq
    rcases Nat.lt_or_ge c v with h5 | h5
    · rw [List.getElem?_set_ne (by omega), List.getElem?_set_ne (by omega)]
      exact h3 q c h5 hq
    · obtain rfl : c = v := by omega
      obtain rfl := kid_unique ht hq hp
      rw [List.getElem?_set_ne (by omega), List.getElem?_set_self (by omega)]
      exact ⟨y, hy, rfl⟩
theorem partE_done {xs ds : List Int} (ht : isTree xs = true) (h : PartE xs xs.length ds) : DepsOK xs ds :=
  ⟨h.1, h.2.1, fun p c hc => h.2.2 p c (by have := kid_bounds ht hc; omega) hc⟩

theorem depsOK_unique {xs ds es : List Int} (ht : isTree xs = true) (h : DepsOK xs ds) (h' : DepsOK xs es) : ds = es := by
  have key : ∀ (n i : Nat), i < n → i < xs.length → ds[i]? = es[i]? := by
    intro n
    induction n with
    | zero => intro i hi; omega
    | succ n ih =>
      intro i hi hx
      rcases Nat.eq_zero_or_pos i with h0 | h0
      · subst h0; rw [h.2.1, h'.2.1]
      · obtain ⟨p, hp⟩ := kid_has ht h0 hx
        have hb := kid_bounds ht hp
        obtain ⟨x, hx1, hx2⟩ := h.2.2 p i hp
        obtain ⟨y, hy1, hy2⟩ := h'.2.2 p i hp
        have := ih p (by omega) (by omega)
        rw [hx1, hy1] at this
        injection this with this
        rw [hx2, hy2, this]
  refine List.ext_getElem? fun i => ?_
  rcases Nat.lt_or_ge i xs.length with hi | hi
  · exact key (i + 1) i (by omega) hi
  · rw [List.getElem?_eq_none (by rw [h.1]; exact hi), List.getElem?_eq_none (by rw [h'.1]; exact hi)]
/-- a depth is not negative, and not more than the node -/
theorem depsOK_le {xs ds : List Int} (ht : isTree xs = true) (h : DepsOK xs ds) : ∀ (n i : Nat) (x : Int), i < n → ds[i]? = some x → 0 ≤ x ∧ x ≤ i := by
  intro n
  induction n with
  | zero => intro i x hi; omega
  | succ n ih =>
    intro i x hi hx
    have hil := (List.getElem?_eq_some_iff.1 hx).1
    rcases Nat.eq_zero_or_pos i with h0 | h0
    · subst h0
      rw [h.2.1] at hx
      injection hx with hx
      omega
    · obtain ⟨p, hp⟩ := kid_has ht h0 (by rw [← h.1]; exact hil)
      have hb := kid_bounds ht hp
      obtain ⟨y, hy1, hy2⟩ := h.2.2 p i hp
      have := ih p y (by omega) hy1
      rw [hx] at hy2
      injection hy2 with hy2
      omega
open Classical in
noncomputable def depths (xs : List Int) : List Int := if h : ∃ ds, DepsOK xs ds then h.choose else []
theorem depths_eq {xs ds : List Int} (ht : isTree xs = true) (h : DepsOK xs ds) : depths xs = ds := by
  have hx : ∃ ds, DepsOK xs ds := ⟨ds, h⟩
  rw [depths, dif_pos hx]
  exact depsOK_unique ht hx.choose_spec h
theorem depths_len {xs : List Int} : (depths xs).length ≤ xs.length := by
  rw [depths]
  split
  · rename_i h; exact Nat.le_of_eq h.choose_spec.1
  · exact Nat.zero_le _
end Go.Proofs.Ytbdmmeoelagdcaa.M
