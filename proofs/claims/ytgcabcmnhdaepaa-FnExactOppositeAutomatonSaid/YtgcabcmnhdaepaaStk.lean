/- The nodes of a list above the one at hand, as a stack: the mathematics. -/
import Derived.Test.YtgcabcmnhdaepaaInside
namespace Go.Proofs.Ytgcabcmnhdaepaa
namespace M
/-- the places below k whose nodes have the node y in their subtrees -/
def stk (u : List Int) (f : Nat → Nat) (y k : Nat) : List Nat := (List.range k).filter fun j => decide (y < fin u (f j))
theorem stk_zero (u : List Int) (f : Nat → Nat) (y : Nat) : stk u f y 0 = [] := rfl
theorem stk_succ (u : List Int) (f : Nat → Nat) (y k : Nat) : stk u f y (k + 1) = stk u f y k ++ if y < fin u (f k) then [k] else [] := by
  rw [stk, stk, List.range_succ, List.filter_append]
  congr 1
  by_cases h : y < fin u (f k)
  · rw [if_pos h, List.filter_cons_of_pos (by simp [h])]; rfl
  · rw [if_neg h, List.filter_cons_of_neg (by simp [h])]; rfl
theorem stk_len (u : List Int) (f : Nat → Nat) (y k : Nat) : (stk u f y k).length ≤ k := by
  have := List.length_filter_le (fun j => decide (y < fin u (f j))) (List.range k)
  rw [List.length_range] at this
  exact this
theorem stk_last (u : List Int) (f : Nat → Nat) (y : Nat) : ∀ k, (stk u f y k = [] ∧ ∀ j, j < k → fin u (f j) ≤ y) ∨ ∃ j, j < k ∧ y < fin u (f j) ∧ stk u f y k = stk u f y j ++ [j] ∧ ∀ q, j < q → q < k → fin u (f q) ≤ y := by
  intro k
  induction k with
  | zero => exact .inl ⟨rfl, fun j h => by omega⟩
  | succ k ih =>
    rw [stk_succ]
    by_cases h : y < fin u (f k)
    · rw [if_pos h]
      exact .inr ⟨k, by omega, h, rfl, fun q h1 h2 => by omega⟩
    · rw [if_neg h, List.append_nil]
      have one : ∀ j, j = k → fin u (f j) ≤ y := fun j e => by rw [e]; omega
      rcases ih with ⟨h1, h2⟩ | ⟨j, h1, h2, h3, h4⟩
      · exact .inl ⟨h1, fun j hj => if e : j = k then one j e else h2 j (by omega)⟩
      · exact .inr ⟨j, by omega, h2, h3, fun q h5 h6 => if e : q = k then one q e else h4 q h5 (by omega)⟩
/-- what the search for the parent of the i-th node has: the stack below k -/
def StkAt (u : List Int) (f : Nat → Nat) (i : Nat) (st : List Nat) : Prop :=
  ∃ k y, k ≤ i ∧ st = stk u f y k ∧ (∀ q, k ≤ q → q < i → fin u (f q) ≤ f i) ∧ (0 < i → y < f i ∧ ∀ j, j < i → f j ≤ y)
theorem stk_start {u : List Int} {f : Nat → Nat} : StkAt u f 0 [] := ⟨0, 0, Nat.le_refl _, rfl, fun q h1 h2 => by omega, fun h => by omega⟩
theorem stk_round {u : List Int} {f : Nat → Nat} {i : Nat} (hasc : ∀ j q, j < q → q ≤ i + 1 → f j < f q) : StkAt u f (i + 1) (stk u f (f i) (i + 1)) :=
  ⟨i + 1, f i, Nat.le_refl _, rfl, fun q h1 h2 => by omega, fun _ => ⟨hasc i (i + 1) (by omega) (by omega), fun j hj => by
    rcases Nat.lt_or_ge j i with h | h
    · exact Nat.le_of_lt (hasc j i h (by omega))
    · have : j = i := by omega
      rw [this]; exact Nat.le_refl _⟩⟩
theorem stk_pop {u : List Int} {f : Nat → Nat} {i j : Nat} {st : List Nat} (h : StkAt u f i (st ++ [j])) (hj : fin u (f j) ≤ f i) : StkAt u f i st := by
  obtain ⟨k, y, h1, h2, h3, h4⟩ := h
  rcases stk_last u f y k with ⟨e, _⟩ | ⟨q, g1, g2, g3, g4⟩
  · rw [e] at h2; simp at h2
  · rw [g3] at h2
    have := List.append_inj' h2 rfl
    have e1 : j = q := by simpa using this.2
    subst e1
    refine ⟨j, y, by omega, this.1, fun q h5 h6 => ?_, h4⟩
    rcases Nat.eq_or_lt_of_le h5 with e | h7
    · rw [← e]; exact hj
    · rcases Nat.lt_or_ge q k with h8 | h8
      · have := g4 q h7 h8
        have := (h4 (by omega)).1
        omega
      · exact h3 q h8 h6
theorem stk_empty {u : List Int} {f : Nat → Nat} {i : Nat} (h : StkAt u f i []) : pa u f i = -1 := by
  obtain ⟨k, y, h1, h2, h3, h4⟩ := h
  rcases stk_last u f y k with ⟨_, e⟩ | ⟨q, g1, g2, g3, g4⟩
  · refine pl_none fun j hj => ?_
    have hf : fin u (f j) ≤ f i := by
      rcases Nat.lt_or_ge j k with h8 | h8
      · have := e j h8
        have := (h4 (by omega)).1
        omega
      · exact h3 j h8 hj
    cases hb : bel u (f i) (f j)
    · rfl
    · have := (bel_iff.1 hb).2; omega
  · rw [g3] at h2; simp at h2
theorem stk_found {u : List Int} {f : Nat → Nat} {i j : Nat} {st : List Nat} (ht : isTree u = true) (hu : ∀ q, q ≤ i → f q < u.length) (hasc : ∀ j q, j < q → q ≤ i → f j < f q) (h : StkAt u f i (st ++ [j])) (hj : f i < fin u (f j)) :
    j < i ∧ pa u f i = (j : Int) ∧ stk u f (f i) (i + 1) = st ++ [j] ++ [i] := by
  obtain ⟨k, y, h1, h2, h3, h4⟩ := h
  rcases stk_last u f y k with ⟨e, _⟩ | ⟨q, g1, g2, g3, g4⟩
  · rw [e] at h2; simp at h2
  · have h2' := h2
    rw [g3] at h2
    have := List.append_inj' h2 rfl
    have e1 : j = q := by simpa using this.2
    subst e1
    have hji : j < i := by omega
    obtain ⟨y1, y2⟩ := h4 (by omega)
    have hbig : ∀ q, j < q → q < i → fin u (f q) ≤ f i := fun q h7 h6 => by
      rcases Nat.lt_or_ge q k with h8 | h8
      · have := g4 q h7 h8; omega
      · exact h3 q h8 h6
    refine ⟨hji, pl_at hji (bel_iff.2 ⟨Nat.le_of_lt (hasc j i hji (Nat.le_refl _)), hj⟩) (fun q h7 h6 => ?_), ?_⟩
    · cases hb : bel u (f i) (f q)
      · rfl
      · have := (bel_iff.1 hb).2; have := hbig q h7 h6; omega
    · rw [stk_succ, if_pos (fin_gt (hu i (Nat.le_refl _)))]
      congr 1
      rw [h2', g3]
      have hlow : ∀ a, a ≤ j → stk u f (f i) a = stk u f y a := fun a ha => by
        refine List.filter_congr fun b hb => ?_
        have hb := List.mem_range.1 hb
        rw [decide_eq_decide]
        constructor
        · intro h; omega
        · intro h
          have hn := nest ht (hu b (by omega)) (q := f j) (Nat.le_of_lt (hasc b j (by omega) (by omega))) (by have := y2 j hji; omega)
          omega
      have hup : ∀ n, j + n < i → stk u f (f i) (j + 1 + n) = stk u f (f i) (j + 1) := fun n => by
        induction n with
        | zero => intro _; rfl
        | succ n ih =>
          intro hn
          rw [show j + 1 + (n + 1) = (j + 1 + n) + 1 by omega, stk_succ, ih (by omega), if_neg (by have := hbig (j + 1 + n) (by omega) (by omega); omega), List.append_nil]
      have := hup (i - j - 1) (by omega)
      rw [show j + 1 + (i - j - 1) = i by omega] at this
      rw [this, stk_succ, if_pos hj, hlow j (Nat.le_refl _)]
theorem stk_alone {u : List Int} {f : Nat → Nat} (hu : f 0 < u.length) : stk u f (f 0) 1 = [0] := by rw [stk_succ, if_pos (fin_gt hu)]; rfl
theorem stk_lt {u : List Int} {f : Nat → Nat} {i j : Nat} {st : List Nat} (h : StkAt u f i (st ++ [j])) : j < i := by
  obtain ⟨k, y, h1, h2, h3, h4⟩ := h
  have : j ∈ stk u f y k := by rw [← h2]; simp
  have := List.mem_range.1 (List.mem_filter.1 this).1
  omega
theorem stk_most {u : List Int} {f : Nat → Nat} {i : Nat} {st : List Nat} (h : StkAt u f i st) : st.length ≤ i := by
  obtain ⟨k, y, h1, h2, h3, h4⟩ := h
  have := stk_len u f y k
  rw [h2]; omega
end M
end Go.Proofs.Ytgcabcmnhdaepaa
