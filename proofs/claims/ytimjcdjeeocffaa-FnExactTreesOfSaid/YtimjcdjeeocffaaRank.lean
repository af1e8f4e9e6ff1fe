/- Ranks, their mathematics: the sum over the nodes and over the lesser degrees. No program is named here. -/
import Derived.Test.YtimjcdjeeocffaaMath
import Derived.Test.YtimjcdjeeocffaaTab
namespace Go.Proofs.Ytimjcdjeeocffaa.M
/-- what is due ahead of node v, as a number -/
def dueN (xs : List Int) (v : Nat) : Nat := (due xs v).toNat
/-- the trees of which node v has one of the first k degrees, after the same nodes -/
def inR (xs : List Int) (v k : Nat) : Nat := sumTo (fun d => L (xs.length - v - 1) (dueN xs v - 1 + d)) k
def rankTo (xs : List Int) : Nat → Nat
  | 0 => 0
  | v + 1 => rankTo xs v + inR xs v (xs[v]?.getD 0).toNat
theorem rankTo_at {xs : List Int} {v d : Nat} (h : xs[v]? = some (d : Int)) : rankTo xs (v + 1) = rankTo xs v + inR xs v d := by simp [rankTo, h]
theorem dueN_zero (xs : List Int) : dueN xs 0 = 1 := by simp [dueN, due, bal]
theorem dueN_pos {xs : List Int} (ht : isTree xs = true) {v : Nat} (hv : v < xs.length) : 1 ≤ dueN xs v := by
  have := due_pos ht hv
  simp only [dueN]; omega
theorem dueN_succ {xs : List Int} (ht : isTree xs = true) {v d : Nat} (h : xs[v]? = some (d : Int)) : dueN xs (v + 1) = dueN xs v - 1 + d := by
  have hv := (List.getElem?_eq_some_iff.1 h).1
  have h1 := due_pos ht hv
  have h2 := due_succ h
  simp only [dueN]; omega
theorem due_most {xs : List Int} (ht : isTree xs = true) : ∀ v, v ≤ xs.length → due xs v ≤ 1 + 24 * v := by
  intro v
  induction v with
  | zero => intro _; simp [due, bal]
  | succ v ih =>
    intro hv
    obtain ⟨d, hd, hd2⟩ := tree_degN ht (v := v) (by omega)
    have := due_succ hd
    have := ih (by omega)
    omega
theorem dueN_most {xs : List Int} (ht : isTree xs = true) {v : Nat} (hv : v ≤ xs.length) : dueN xs v ≤ 601 := by
  have := due_most ht v hv
  have := (tree_len ht).2
  simp only [dueN]; omega
theorem bal_low : ∀ (l : List Int), (∀ x ∈ l, 0 ≤ x) → -(l.length : Int) ≤ bal l := by
  intro l
  induction l with
  | nil => intro _; simp [bal]
  | cons x r ih =>
    intro h
    have h1 := h x (by simp)
    have h2 := ih fun y hy => h y (by simp [hy])
    simp only [bal, List.length_cons]
    omega
/-- no more is due than there are nodes left -/
theorem due_left {xs : List Int} (ht : isTree xs = true) {v : Nat} : dueN xs v ≤ xs.length - v := by
  have h1 := due_drop ht v
  have h2 := bal_low (xs.drop v) fun x hx => by
    obtain ⟨i, hi⟩ := List.getElem?_of_mem (List.mem_of_mem_drop hx)
    exact (tree_deg ht hi).1
  rw [List.length_drop] at h2
  simp only [dueN]
  omega
theorem L_mid {n t : Nat} (hn : n ≤ 23) : L n t ≤ 70368744177664 := by
  rcases Nat.lt_or_ge n t with h | h
  · rw [L_base (.inl h)]; split <;> omega
  · have h1 := L_le n t h
    have h2 : 2 ^ (2 * n - t) ≤ 2 ^ 46 := Nat.pow_le_pow_right (by omega) (by omega)
    have h3 : (2 : Nat) ^ 46 = 70368744177664 := by decide
    omega
theorem inR_le {xs : List Int} (hx : xs.length ≤ 24) (v : Nat) : ∀ k, inR xs v k ≤ 70368744177664 * k := by
  intro k
  induction k with
  | zero => exact Nat.le_refl _
  | succ k ih =>
    have := L_mid (n := xs.length - v - 1) (t := dueN xs v - 1 + k) (by omega)
    simp only [inR, sumTo] at ih ⊢
    omega
theorem rankTo_le {xs : List Int} (ht : isTree xs = true) : ∀ v, v ≤ xs.length → rankTo xs v ≤ 70368744177664 * (24 * v) := by
  have hx := (tree_len ht).2
  intro v
  induction v with
  | zero => intro _; exact Nat.le_refl _
  | succ v ih =>
    intro hv
    obtain ⟨d, hd, hd2⟩ := tree_degN ht (v := v) (by omega)
    have h1 := inR_le hx v d
    have h2 := ih (by omega)
    rw [rankTo_at hd]
    omega
end Go.Proofs.Ytimjcdjeeocffaa.M
