/- The layers of a graph's nodes, round by round; they stand once no node is left. No program is named here. -/
import Derived.Test.YtcipafjibkclcaaLayTree
import Derived.Test.YtcipafjibkclcaaLeast
namespace Go.Proofs.Ytcipafjibkclcaa
namespace M
/-- what is left after k rounds -/
def lft (n : Nat) (ar : Nat → List Nat) : Nat → Nat → Bool
  | 0, _ => true
  | k + 1, x => lft n ar k x && !(decide (x < n) && decide (cnt ar (lft n ar k) x ≤ 1))
/-- the layers after k rounds: e where a node is left -/
def layV (n : Nat) (ar : Nat → List Nat) (e : Int) : Nat → Nat → Int
  | 0, _ => e
  | k + 1, x => if lft n ar k x = true ∧ lft n ar (k + 1) x = false then (k : Int) else layV n ar e k x
theorem lft_step {n : Nat} {ar : Nat → List Nat} {k : Nat} {l : Nat → Int} {out : List Nat} (h : Round n ar (lft n ar k) l out) : (fun x => lft n ar k x && !decide (x ∈ out)) = lft n ar (k + 1) := by
  funext x
  show _ = (lft n ar k x && !(decide (x < n) && decide (cnt ar (lft n ar k) x ≤ 1)))
  have hm := h.mem x
  cases hr : lft n ar k x with
  | false => rfl
  | true =>
    have hp : decide (x ∈ out) = (decide (x < n) && decide (cnt ar (lft n ar k) x ≤ 1)) := by
      rw [← Bool.decide_and]
      refine decide_eq_decide.2 ?_
      rw [hm, hr]
      simp
    rw [hp]
theorem lft_round {n : Nat} {ar : Nat → List Nat} (G : Graph n ar) {k : Nat} {l l' : Nat → Int} {out inn : List Nat} (h : Round n ar (lft n ar k) l out) (hE : EvInv l (out.flatMap ar) l' inn) (hin : ∀ x ∈ inn, x < n) : Round n ar (lft n ar (k + 1)) l' inn := by
  have := round_step G h hE hin
  rwa [lft_step h] at this
theorem lft_mem {n : Nat} {ar : Nat → List Nat} {k : Nat} {l : Nat → Int} {out : List Nat} (h : Round n ar (lft n ar k) l out) (x : Nat) : x ∈ out ↔ lft n ar k x = true ∧ lft n ar (k + 1) x = false := by
  rw [← lft_step h]
  cases hr : lft n ar k x with
  | false =>
    constructor
    · intro hx; have := ((h.mem x).1 hx).2.1; rw [hr] at this; cases this
    · rintro ⟨e, _⟩; cases e
  | true => simp [hr]
theorem lft_down {n : Nat} {ar : Nat → List Nat} {k x : Nat} (h : lft n ar k x = false) : lft n ar (k + 1) x = false := by
  show (lft n ar k x && _) = false
  rw [h]; rfl
theorem lft_later {n : Nat} {ar : Nat → List Nat} {k x : Nat} (h : lft n ar k x = false) : ∀ j, lft n ar (k + j) x = false
  | 0 => h
  | j + 1 => lft_down (lft_later h j)
theorem layV_hit {n : Nat} {ar : Nat → List Nat} {e : Int} {k x : Nat} (h : lft n ar k x = true ∧ lft n ar (k + 1) x = false) : layV n ar e (k + 1) x = k := by rw [layV, if_pos h]
theorem layV_miss {n : Nat} {ar : Nat → List Nat} {e : Int} {k x : Nat} (h : ¬ (lft n ar k x = true ∧ lft n ar (k + 1) x = false)) : layV n ar e (k + 1) x = layV n ar e k x := by rw [layV, if_neg h]
theorem layV_later {n : Nat} {ar : Nat → List Nat} {e : Int} {k x : Nat} (h : lft n ar k x = false) : ∀ j, layV n ar e (k + j) x = layV n ar e k x
  | 0 => rfl
  | j + 1 => by
    rw [← Nat.add_assoc, layV_miss (fun hh => by rw [lft_later h j] at hh; cases hh.1), layV_later h j]
theorem layV_left {n : Nat} {ar : Nat → List Nat} {e : Int} {x : Nat} : ∀ {k : Nat}, lft n ar k x = true → layV n ar e k x = e := by
  intro k
  induction k with
  | zero => intro _; rfl
  | succ k ih =>
    intro h
    rw [layV_miss (fun hh => by rw [h] at hh; cases hh.2)]
    refine ih ?_
    cases hk : lft n ar k x with
    | true => rfl
    | false => rw [lft_down hk] at h; cases h
theorem layV_gone {n : Nat} {ar : Nat → List Nat} {e e' : Int} {x : Nat} : ∀ {k : Nat}, lft n ar k x = false → layV n ar e k x = layV n ar e' k x ∧ 0 ≤ layV n ar e k x := by
  intro k
  induction k with
  | zero => intro h; cases h
  | succ k ih =>
    intro h
    cases hk : lft n ar k x with
    | true => rw [layV_hit ⟨hk, h⟩, layV_hit ⟨hk, h⟩]; exact ⟨rfl, by omega⟩
    | false =>
      have hn : ¬ (lft n ar k x = true ∧ lft n ar (k + 1) x = false) := fun hh => by rw [hk] at hh; cases hh.1
      rw [layV_miss hn, layV_miss hn]
      exact ih hk
/-- the model's test: a node is left as long as its layer is below 0 -/
theorem layV_neg {n : Nat} {ar : Nat → List Nat} {k x : Nat} : layV n ar (-1) k x < 0 ↔ lft n ar k x = true := by
  cases h : lft n ar k x with
  | true => rw [layV_left h]; simp
  | false => have := (layV_gone (e := -1) (e' := -1) h).2; simp; omega
/-- how many nodes are left after k rounds -/
def rest (n : Nat) (ar : Nat → List Nat) (k : Nat) : Nat := (List.range n).countP (lft n ar k)
theorem rest_zero (n : Nat) (ar : Nat → List Nat) : rest n ar 0 = n := by
  have : (List.range n).countP (lft n ar 0) = (List.range n).length := List.countP_eq_length.2 fun _ _ => rfl
  rw [rest, this, List.length_range]
theorem count_in {n : Nat} : ∀ {S : List Nat}, S.Nodup → (∀ v ∈ S, v < n) → (List.range n).countP (fun x => decide (x ∈ S)) = S.length := by
  intro S
  induction S with
  | nil => intro _ _; simp
  | cons v S ih =>
    intro hS hl
    rw [List.nodup_cons] at hS
    rw [countP_mem_cons hS.1, ih hS.2 (fun x hx => hl x (List.mem_cons_of_mem _ hx)), count_one List.nodup_range, if_pos (List.mem_range.2 (hl v List.mem_cons_self)), List.length_cons]
    omega
theorem rest_step {n : Nat} {ar : Nat → List Nat} {k : Nat} {l : Nat → Int} {out : List Nat} (h : Round n ar (lft n ar k) l out) : rest n ar (k + 1) + out.length = rest n ar k := by
  rw [rest, rest, ← lft_step h, ← count_in h.nodup (fun v hv => ((h.mem v).1 hv).1)]
  exact cnt_less (fun x hx => ((h.mem x).1 hx).2.1) (List.range n)
theorem rest_none {n : Nat} {ar : Nat → List Nat} {k : Nat} (h : rest n ar k = 0) {x : Nat} (hx : x < n) : lft n ar k x = false := by
  have := List.countP_eq_zero.1 h x (List.mem_range.2 hx)
  simpa using this
theorem rest_some {n : Nat} {ar : Nat → List Nat} {k : Nat} (h : 0 < rest n ar k) : ∃ v, v < n ∧ lft n ar k v = true := by
  obtain ⟨v, hv, hr⟩ := List.countP_pos_iff.1 h
  exact ⟨v, List.mem_range.1 hv, hr⟩
/-- the layers of all nodes -/
noncomputable def layers (xs : List Int) : List Int := rowOf xs.length (layV xs.length (arN xs) 0 xs.length)
theorem layers_end {xs : List Int} {e : Int} {k : Nat} (h : rest xs.length (arN xs) k = 0) (hk : k ≤ xs.length) : rowOf xs.length (layV xs.length (arN xs) e k) = layers xs := by
  refine rowOf_congr fun i hi => ?_
  have hf := rest_none h hi
  have h1 := layV_later (e := 0) hf (xs.length - k)
  rw [show k + (xs.length - k) = xs.length by omega] at h1
  rw [h1]
  exact (layV_gone hf).1
end M
end Go.Proofs.Ytcipafjibkclcaa
