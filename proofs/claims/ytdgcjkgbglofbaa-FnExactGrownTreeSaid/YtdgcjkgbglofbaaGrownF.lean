/- What GrownTree and its model give; the model's row of places. Mathematics. -/
import Derived.Test.YtdgcjkgbglofbaaGrowMix
namespace Go.Proofs.Ytdgcjkgbglofbaa
namespace M
/-- a list that grows a tree, as a test -/
def growsB (l : List Int) : Bool := (List.range l.length).all fun k => decide (0 ≤ l[k]?.getD 0) && decide (l[k]?.getD 0 ≤ (k : Int))
theorem growsB_iff {l : List Int} : growsB l = true ↔ Grows l := by
  rw [growsB, List.all_eq_true]
  constructor
  · intro h k x hx
    have hk := (List.getElem?_eq_some_iff.1 hx).1
    have := h k (List.mem_range.2 hk)
    rw [hx] at this
    simp only [Option.getD_some, Bool.and_eq_true, decide_eq_true_eq] at this
    exact this
  · intro h k hk
    have hk := List.mem_range.1 hk
    have := h k _ (List.getElem?_eq_getElem hk)
    rw [List.getElem?_eq_getElem hk]
    simp only [Option.getD_some, Bool.and_eq_true, decide_eq_true_eq]
    exact this
theorem growsB_no {l : List Int} {k : Nat} {x : Int} (hx : l[k]? = some x) (h : ¬ (0 ≤ x ∧ x ≤ (k : Int))) : growsB l = false := by
  cases hg : growsB l
  · rfl
  · exact absurd (growsB_iff.1 hg k x hx) h
/-- the model's row behind r nodes -/
def ordR (l : List Int) (r : Nat) : List Int := (List.range (l.length + 1)).map fun j => if pos l j < r then (pos l j : Int) else 0
theorem ordR_len (l : List Int) (r : Nat) : (ordR l r).length = l.length + 1 := by simp [ordR]
theorem ordR_zero (l : List Int) : ordR l 0 = List.replicate (l.length + 1) 0 := by simp [ordR, List.map_const']
theorem ordR_at {l : List Int} {r j : Nat} (h : j ≤ l.length) : (ordR l r)[j]? = some (if pos l j < r then (pos l j : Int) else 0) := by simp [ordR, show j < l.length + 1 by omega]
theorem ordR_end {l : List Int} (h : Grows l) : ordR l (l.length + 1) = posRow l := by
  rw [ordR, posRow]
  apply List.map_congr_left
  intro j hj
  rw [if_pos (pos_lt h (by have := List.mem_range.1 hj; omega))]
theorem W_labels {l : List Int} (h : Grows l) {r : Nat} (hr : r < l.length + 1) : ∃ q : Nat, (W l 0).2[r]? = some (q : Int) ∧ q ≤ l.length ∧ pos l q = r := by
  have hlen := W_count h
  have hx := List.getElem?_eq_getElem (l := (W l 0).2) (show r < (W l 0).2.length by omega)
  have hb := W_ge h 0 (Nat.zero_le _) _ (List.mem_of_getElem? hx)
  obtain ⟨q, hq⟩ := Int.eq_ofNat_of_zero_le (show 0 ≤ (W l 0).2[r]'(by omega) by omega)
  rw [hq] at hx hb
  refine ⟨q, hx, by omega, ?_⟩
  rw [pos, ← hq]
  exact (W_nodup h 0 (Nat.zero_le _)).idxOf_getElem r (by omega)
theorem ordR_step {l : List Int} (h : Grows l) {r q : Nat} (hq : q ≤ l.length) (hp : pos l q = r) : (ordR l r).set q (r : Int) = ordR l (r + 1) := by
  apply List.ext_getElem?
  intro j
  by_cases hj : j ≤ l.length
  · by_cases e : q = j
    · subst e
      rw [List.getElem?_set_self (by rw [ordR_len]; omega), ordR_at hj, hp, if_pos (by omega)]
    · rw [List.getElem?_set_ne e, ordR_at hj, ordR_at hj]
      have hne : pos l j ≠ r := fun e2 => by
        have h1 := List.getElem?_eq_getElem (l := (W l 0).2) (i := pos l j) (by have := pos_lt h hj; have := W_count h; omega)
        have h2 : (W l 0).2[pos l j]? = some (j : Int) := by
          rw [h1]; congr 1; exact List.getElem_idxOf _
        have h3 : (W l 0).2[pos l q]? = some (q : Int) := by
          rw [List.getElem?_eq_getElem (by have := pos_lt h hq; have := W_count h; omega)]; congr 1; exact List.getElem_idxOf _
        rw [e2, ← hp, h3] at h2
        injection h2 with h2
        omega
      by_cases hlt : pos l j < r
      · rw [if_pos hlt, if_pos (by omega)]
      · rw [if_neg hlt, if_neg (by omega)]
  · rw [List.getElem?_eq_none (by rw [List.length_set, ordR_len]; omega), List.getElem?_eq_none (by rw [ordR_len]; omega)]
end M
/-- the tree, its growth and a code -/
def F_GrownTree (l : List Int) : List Int × List Int × Int := if l.length ≤ 23 ∧ M.growsB l = true then ((M.W l 0).1, M.posRow l, 0) else ([], [], 2)
theorem F_GrownTree_yes {l : List Int} (h1 : l.length ≤ 23) (h2 : M.Grows l) : F_GrownTree l = ((M.W l 0).1, M.posRow l, 0) := if_pos ⟨h1, M.growsB_iff.2 h2⟩
theorem F_GrownTree_long {l : List Int} (h1 : ¬ l.length ≤ 23) : F_GrownTree l = ([], [], 2) := if_neg fun h => h1 h.1
theorem F_GrownTree_no {l : List Int} (h1 : M.growsB l = false) : F_GrownTree l = ([], [], 2) := if_neg fun h => by rw [h1] at h; exact absurd h.2 (by simp)
theorem F_GrownTree_len (l : List Int) : (F_GrownTree l).1.length ≤ 1048576 ∧ (F_GrownTree l).2.1.length ≤ 1048576 := by
  by_cases h1 : l.length ≤ 23
  · by_cases h2 : M.growsB l = true
    · have hg := M.growsB_iff.1 h2
      rw [F_GrownTree_yes h1 hg]
      have := M.W_len hg 0 (Nat.zero_le _)
      have := M.W_count hg
      have := M.posRow_len l
      simp only
      omega
    · rw [F_GrownTree_no (by simpa using h2)]; simp
  · rw [F_GrownTree_long h1]; simp
end Go.Proofs.Ytdgcjkgbglofbaa
