/- Trees of depths, their mathematics: which lists are depths in preorder, the degrees by the last node above, and the program's list of the nodes on the way. No program is named here. -/
import Derived.Test.YtbnnlifpldgcfaaLeast
namespace Go.Proofs.Ytbnnlifpldgcfaa
namespace M
/-- the last of the first k places at which d stands -/
def lastAt (l : List Int) (d : Int) : Nat → Option Nat
  | 0 => none
  | k + 1 => if l[k]? = some d then some k else lastAt l d k
theorem lastAt_hit {l : List Int} {d : Int} {k : Nat} (h : l[k]? = some d) : lastAt l d (k + 1) = some k := by rw [lastAt, if_pos h]
theorem lastAt_miss {l : List Int} {d x : Int} {k : Nat} (h : l[k]? = some x) (hx : x ≠ d) : lastAt l d (k + 1) = lastAt l d k := by
  rw [lastAt, if_neg (by rw [h]; intro e; injection e with e; exact hx e)]
theorem lastAt_lt {l : List Int} {d : Int} : ∀ {k w : Nat}, lastAt l d k = some w → w < k ∧ l[w]? = some d := by
  intro k
  induction k with
  | zero => intro w h; cases h
  | succ k ih =>
    intro w h
    rw [lastAt] at h
    split at h
    · rename_i hx; injection h with h; subst h; exact ⟨by omega, hx⟩
    · have := ih h; exact ⟨by omega, this.2⟩
/-- can x stand at place v of a list of depths? -/
def depOk (l : List Int) (v : Nat) (x : Int) : Bool := if v = 0 then x == 0 else decide (1 ≤ x) && decide (x ≤ l[v - 1]?.getD 0 + 1)
def okTo (l : List Int) : Nat → Bool
  | 0 => true
  | k + 1 => okTo l k && depOk l k (l[k]?.getD 0)
theorem okTo_step {l : List Int} {k : Nat} {x : Int} (h : l[k]? = some x) (ho : okTo l k = true) (hx : depOk l k x = true) : okTo l (k + 1) = true := by simp [okTo, ho, h, hx]
theorem okTo_mono {l : List Int} : ∀ {k j : Nat}, j ≤ k → okTo l k = true → okTo l j = true := by
  intro k
  induction k with
  | zero => intro j hj h; obtain rfl : j = 0 := by omega
            exact h
  | succ k ih =>
    intro j hj h
    by_cases e : j = k + 1
    · subst e; exact h
    · simp only [okTo, Bool.and_eq_true] at h
      exact ih (by omega) h.1
theorem okTo_fail {l : List Int} {k : Nat} {x : Int} (h : l[k]? = some x) (hx : depOk l k x = false) : okTo l l.length = false := by
  have hk := (List.getElem?_eq_some_iff.1 h).1
  cases e : okTo l l.length
  · rfl
  · have := okTo_mono (j := k + 1) (by omega) e
    simp [okTo, h, hx] at this
/-- a depth is at least 0 and at most its place -/
theorem okTo_le {l : List Int} : ∀ {k : Nat}, okTo l k = true → ∀ j x, j < k → l[j]? = some x → 0 ≤ x ∧ x ≤ j := by
  intro k
  induction k with
  | zero => intro _ j x hj; omega
  | succ k ih =>
    intro h j x hj hx
    simp only [okTo, Bool.and_eq_true] at h
    have ih := ih h.1
    by_cases e : j < k
    · exact ih j x e hx
    · obtain rfl : j = k := by omega
      have h2 := h.2
      rw [hx] at h2
      simp only [Option.getD_some, depOk] at h2
      split at h2
      · simp at h2; omega
      · simp only [Bool.and_eq_true, decide_eq_true_eq] at h2
        obtain ⟨y, hy⟩ : ∃ y, l[j - 1]? = some y := ⟨_, List.getElem?_eq_getElem (by have := (List.getElem?_eq_some_iff.1 hx).1; omega)⟩
        have := ih (j - 1) y (by omega) hy
        rw [hy] at h2
        simp only [Option.getD_some] at h2
        omega
/-- the degrees behind the first k depths -/
def degTo (l : List Int) (n : Nat) : Nat → List Int
  | 0 => List.replicate n 0
  | k + 1 => match lastAt l (l[k]?.getD 0 - 1) k with
    | none => degTo l n k
    | some w => (degTo l n k).set w ((degTo l n k)[w]?.getD 0 + 1)
theorem degTo_len (l : List Int) (n : Nat) : ∀ k, (degTo l n k).length = n := by
  intro k
  induction k with
  | zero => simp [degTo]
  | succ k ih => rw [degTo]; split <;> simp [ih]
theorem degTo_none {l : List Int} {n k : Nat} {x : Int} (h : l[k]? = some x) (hw : lastAt l (x - 1) k = none) : degTo l n (k + 1) = degTo l n k := by
  rw [degTo, h]
  simp only [Option.getD_some, hw]
theorem degTo_some {l : List Int} {n k w : Nat} {x y : Int} (h : l[k]? = some x) (hw : lastAt l (x - 1) k = some w) (hy : (degTo l n k)[w]? = some y) : degTo l n (k + 1) = (degTo l n k).set w (y + 1) := by
  rw [degTo, h]
  simp only [Option.getD_some, hw, hy]
theorem degTo_le {l : List Int} {n : Nat} : ∀ {k : Nat}, ∀ x ∈ degTo l n k, 0 ≤ x ∧ x ≤ (k : Int) := by
  intro k
  induction k with
  | zero => intro x hx; simp only [degTo] at hx; have := List.eq_of_mem_replicate hx; omega
  | succ k ih =>
    intro x hx
    rw [degTo] at hx
    split at hx
    · have := ih x hx; omega
    · rename_i w _
      rcases List.mem_or_eq_of_mem_set hx with hx | hx
      · have := ih x hx; omega
      · rcases hy : (degTo l n k)[w]? with _ | y
        · rw [hy] at hx; simp at hx; omega
        · rw [hy] at hx
          have := ih y (List.mem_of_getElem? hy)
          simp at hx; omega
/-- the nodes on the way from the root to the last of the first v nodes: at depth d the last node of this depth -/
def WayOk (l : List Int) (v : Nat) (ws : List Int) : Prop :=
  (v = 0 → ws = []) ∧ (0 < v → ∃ x, l[v - 1]? = some x ∧ (ws.length : Int) = x + 1) ∧ ∀ d, d < ws.length → ∃ w : Nat, ws[d]? = some (w : Int) ∧ lastAt l (d : Int) v = some w
theorem wayOk_zero (l : List Int) : WayOk l 0 [] := ⟨fun _ => rfl, fun h => by omega, fun d h => by simp at h⟩
/-- the check of the program, by the length of the way -/
theorem wayOk_ok {l ws : List Int} {v : Nat} {x : Int} (h : WayOk l v ws) : depOk l v x = (decide (min (v : Int) 1 ≤ x) && decide (x ≤ (ws.length : Int))) := by
  rw [depOk]
  by_cases hv : v = 0
  · subst hv
    rw [if_pos rfl, h.1 rfl]
    simp only [List.length_nil]
    rw [Bool.eq_iff_iff]
    simp only [beq_iff_eq, Bool.and_eq_true, decide_eq_true_eq]
    omega
  · obtain ⟨y, h1, h2⟩ := h.2.1 (by omega)
    rw [if_neg hv, h1]
    simp only [Option.getD_some]
    rw [Bool.eq_iff_iff]
    simp only [Bool.and_eq_true, decide_eq_true_eq]
    omega
theorem wayOk_len {l ws : List Int} {v : Nat} (h : WayOk l v ws) (ho : okTo l v = true) : ws.length ≤ v := by
  by_cases hv : v = 0
  · rw [h.1 hv]; simp
  · obtain ⟨y, h1, h2⟩ := h.2.1 (by omega)
    have := okTo_le ho (v - 1) y (by omega) h1
    omega
theorem wayOk_step {l ws : List Int} {v d : Nat} (h : WayOk l v ws) (hx : l[v]? = some (d : Int)) (hd : d ≤ ws.length) : WayOk l (v + 1) (ws.take d ++ [(v : Int)]) := by
  have hlen : (ws.take d ++ [(v : Int)]).length = d + 1 := by simp; omega
  refine ⟨fun e => by omega, fun _ => ⟨d, by simpa using hx, by rw [hlen]; omega⟩, fun e he => ?_⟩
  rw [hlen] at he
  by_cases h1 : e < d
  · obtain ⟨w, w1, w2⟩ := h.2.2 e (by omega)
    refine ⟨w, ?_, ?_⟩
    · rw [List.getElem?_append_left (by simp; omega), List.getElem?_take, if_pos h1]; exact w1
    · rw [lastAt_miss hx (by omega)]; exact w2
  · obtain rfl : e = d := by omega
    refine ⟨v, ?_, lastAt_hit hx⟩
    rw [List.getElem?_append_right (by simp; omega)]
    simp [Nat.min_eq_left hd]
/-- the place of the node above, by the way -/
theorem wayOk_up {l ws : List Int} {v d : Nat} (h : WayOk l v ws) (hd : d ≤ ws.length) (h0 : 0 < d) : ∃ w : Nat, ws[d - 1]? = some (w : Int) ∧ w < v ∧ lastAt l ((d : Int) - 1) v = some w := by
  obtain ⟨w, w1, w2⟩ := h.2.2 (d - 1) (by omega)
  have e : ((d - 1 : Nat) : Int) = (d : Int) - 1 := by omega
  rw [e] at w2
  exact ⟨w, w1, (lastAt_lt w2).1, w2⟩
def ofDepths (l : List Int) : Option (List Int) := if okTo l l.length = true ∧ 0 < l.length then some (degTo l l.length l.length) else none
def treeOfDepths (l : List Int) : List Int × Int := if 24 < l.length then ([], 2) else match ofDepths l with | none => ([], 4) | some ds => (ds, 0)
theorem treeOfDepths_long {l : List Int} (h : 24 < l.length) : treeOfDepths l = ([], 2) := by rw [treeOfDepths, if_pos h]
theorem treeOfDepths_no {l : List Int} (h : ¬ 24 < l.length) (h2 : okTo l l.length = false ∨ l.length = 0) : treeOfDepths l = ([], 4) := by
  rw [treeOfDepths, if_neg h, ofDepths, if_neg]
  rintro ⟨h3, h4⟩
  rcases h2 with h2 | h2
  · rw [h3] at h2; cases h2
  · omega
theorem treeOfDepths_yes {l : List Int} (h : ¬ 24 < l.length) (h2 : okTo l l.length = true) (h3 : 0 < l.length) : treeOfDepths l = (degTo l l.length l.length, 0) := by
  rw [treeOfDepths, if_neg h, ofDepths, if_pos ⟨h2, h3⟩]
theorem treeOfDepths_len (l : List Int) : (treeOfDepths l).1.length ≤ 1048576 := by
  by_cases h : 24 < l.length
  · rw [treeOfDepths_long h]; simp
  · by_cases h2 : okTo l l.length = true ∧ 0 < l.length
    · rw [treeOfDepths_yes h h2.1 h2.2]
      show (degTo _ _ _).length ≤ _
      rw [degTo_len]; omega
    · rw [treeOfDepths_no h]
      · simp
      · by_cases h3 : okTo l l.length = true
        · exact .inr (by have h4 : ¬ 0 < l.length := fun e => h2 ⟨h3, e⟩; omega)
        · exact .inl (by simpa using h3)
end M
end Go.Proofs.Ytbnnlifpldgcfaa
