/- The states of a tree's nodes, node by node from the last one on: the mathematics. No program is named here. -/
import Derived.Test.YtcipafjibkclcaaAutoM
namespace Go.Proofs.Ytcipafjibkclcaa
namespace M
/-- the state of v behind its first i children, if f tells theirs -/
def runTo (Ss : List (List Int)) (st : Int) (f : Nat → Int) (xs : List Int) (v : Nat) : Nat → Int
  | 0 => st
  | i + 1 => stp Ss (runTo Ss st f xs v i) (f (kidAt xs v i))
/-- the states of the last k nodes -/
def stF (Ss : List (List Int)) (st : Int) (xs : List Int) : Nat → Nat → Int
  | 0 => fun _ => 0
  | k + 1 => fun i => if i = xs.length - 1 - k then runTo Ss st (stF Ss st xs k) xs i (xs[i]?.getD 0).toNat else stF Ss st xs k i
/-- in the round of v, behind i children -/
def midF (Ss : List (List Int)) (st : Int) (xs : List Int) (k v i : Nat) : Nat → Int := fun j => if j = v then runTo Ss st (stF Ss st xs k) xs v i else stF Ss st xs k j
def states (Ss : List (List Int)) (st : Int) (xs : List Int) : List Int := rowOf xs.length (stF Ss st xs xs.length)
theorem states_len (Ss : List (List Int)) (st : Int) (xs : List Int) : (states Ss st xs).length = xs.length := rowOf_len _ _
def InRange (m : Nat) (x : Int) : Prop := 0 ≤ x ∧ x < m
theorem runTo_range {st : Int} {Ss : List (List Int)} {gs : List Int} {m : Nat} (h : IsA st Ss gs m) {xs : List Int} (ht : isTree xs = true) {v d : Nat} (hd : xs[v]? = some (d : Int)) {f : Nat → Int} (hf : ∀ u, v < u → u < xs.length → InRange m (f u)) :
    ∀ i, i ≤ d → InRange m (runTo Ss st f xs v i) := by
  intro i
  induction i with
  | zero => intro _; exact ⟨h.st0, h.st1⟩
  | succ i ih =>
    intro hi
    have h1 := ih (by omega)
    have h2 := hf (kidAt xs v i) (kid_due ht hd i (by omega)).2.2 (kid_lt ht hd (by omega))
    exact stp_range h h1.1 h1.2 h2.1 h2.2
theorem stF_range {st : Int} {Ss : List (List Int)} {gs : List Int} {m : Nat} (h : IsA st Ss gs m) {xs : List Int} (ht : isTree xs = true) : ∀ k, k ≤ xs.length → ∀ i, xs.length - k ≤ i → i < xs.length → InRange m (stF Ss st xs k i) := by
  intro k
  induction k with
  | zero => intro _ i h1 h2; omega
  | succ k ih =>
    intro hk i h1 h2
    simp only [stF]
    by_cases hi : i = xs.length - 1 - k
    · rw [if_pos hi]
      obtain ⟨d, hd, _⟩ := tree_degN ht h2
      rw [hd, Option.getD_some, Int.toNat_natCast]
      exact runTo_range h ht hd (fun u h3 h4 => ih (by omega) u (by omega) h4) d (Nat.le_refl _)
    · rw [if_neg hi]
      exact ih (by omega) i (by omega) h2
/-- a round's start: the start state at v -/
theorem mid_zero (Ss : List (List Int)) (st : Int) (xs : List Int) (k v : Nat) : (rowOf xs.length (stF Ss st xs k)).set v st = rowOf xs.length (midF Ss st xs k v 0) := by
  rw [rowOf_set]; rfl
theorem mid_step (Ss : List (List Int)) (st : Int) (xs : List Int) (k v i : Nat) {x : Int} (hx : runTo Ss st (stF Ss st xs k) xs v (i + 1) = x) : (rowOf xs.length (midF Ss st xs k v i)).set v x = rowOf xs.length (midF Ss st xs k v (i + 1)) := by
  rw [rowOf_set]
  refine rowOf_congr fun j _ => ?_
  by_cases hj : j = v
  · simp only [midF, hj, if_true, hx]
  · simp only [midF, hj, if_false]
theorem mid_end {Ss : List (List Int)} {st : Int} {xs : List Int} {k v d : Nat} (hv : k + 1 + v = xs.length) (hd : xs[v]? = some (d : Int)) : rowOf xs.length (midF Ss st xs k v d) = rowOf xs.length (stF Ss st xs (k + 1)) := by
  refine rowOf_congr fun j _ => ?_
  by_cases hj : j = v
  · simp only [midF, stF, hj, if_true]
    rw [if_pos (by omega), hd, Option.getD_some, Int.toNat_natCast]
  · simp only [midF, stF, hj, if_false]
    rw [if_neg (by omega)]
/-- what the round of v reads -/
theorem mid_at {st : Int} {Ss : List (List Int)} {gs : List Int} {m : Nat} (h : IsA st Ss gs m) {xs : List Int} (ht : isTree xs = true) {k v d i : Nat} (hv : k + 1 + v = xs.length) (hd : xs[v]? = some (d : Int)) (hi : i < d) :
    ∃ s c : Nat, (rowOf xs.length (midF Ss st xs k v i))[v]? = some (s : Int) ∧ (rowOf xs.length (midF Ss st xs k v i))[kidAt xs v i]? = some (c : Int) ∧ s < m ∧ c < m ∧ runTo Ss st (stF Ss st xs k) xs v (i + 1) = stp Ss s c := by
  have hk := (kid_due ht hd i (by omega)).2.2
  have hl := kid_lt ht hd (i := i) (by omega)
  have hf : ∀ u, v < u → u < xs.length → InRange m (stF Ss st xs k u) := fun u h3 h4 => stF_range h ht k (by omega) u (by omega) h4
  have h1 := runTo_range h ht hd hf i (by omega)
  have h2 := hf _ hk hl
  obtain ⟨s, hs⟩ := Int.eq_ofNat_of_zero_le h1.1
  obtain ⟨c, hc⟩ := Int.eq_ofNat_of_zero_le h2.1
  have h3 := h1.2
  have h4 := h2.2
  refine ⟨s, c, ?_, ?_, by omega, by omega, ?_⟩
  · rw [rowOf_at _ (by omega), midF, if_pos rfl, hs]
  · rw [rowOf_at _ hl, midF, if_neg (by omega), hc]
  · rw [runTo, hs, hc]
theorem states_at {st : Int} {Ss : List (List Int)} {gs : List Int} {m : Nat} (h : IsA st Ss gs m) {xs : List Int} (ht : isTree xs = true) {v : Nat} (hv : v < xs.length) : ∃ s : Nat, (states Ss st xs)[v]? = some (s : Int) ∧ s < m := by
  have h1 := stF_range h ht xs.length (Nat.le_refl _) v (by omega) hv
  obtain ⟨s, hs⟩ := Int.eq_ofNat_of_zero_le h1.1
  have := h1.2
  exact ⟨s, by rw [states, rowOf_at _ hv, hs], by omega⟩
end M
end Go.Proofs.Ytcipafjibkclcaa
