/- Trees of ranks, their mathematics: each degree is the greatest that the rank allows. No program is named here. -/
import Derived.Test.YtimjcdjeeocffaaTab
namespace Go.Proofs.Ytimjcdjeeocffaa.M
def digGo (l p : Nat) : Nat → Nat → Nat → Nat × Nat
  | 0, r, d => (d, r)
  | f + 1, r, d => if r < L l (p + d) then (d, r) else digGo l p f (r - L l (p + d)) (d + 1)
/-- o trees of l nodes together, the list of rank r -/
def unrank : Nat → Nat → Nat → List Int
  | 0, _, _ => []
  | l + 1, o, r => ((digGo l (o - 1) 30 r 0).1 : Int) :: unrank l (o - 1 + (digGo l (o - 1) 30 r 0).1) (digGo l (o - 1) 30 r 0).2
theorem unrank_len : ∀ (l o r : Nat), (unrank l o r).length = l := by
  intro l
  induction l with
  | zero => intro o r; rfl
  | succ l ih => intro o r; simp [unrank, ih]
/-- what the search for a degree holds at d -/
def DigAt (l p R d r : Nat) : Prop := digGo l p (30 - d) r d = digGo l p 30 R 0 ∧ sumTo (fun x => L l (p + x)) d + r = R
theorem dig_start (l p R : Nat) : DigAt l p R 0 R := ⟨rfl, by simp [sumTo]⟩
theorem dig_total {l p : Nat} (h : p ≤ l) : L (l + 1) (p + 1) = sumTo (fun x => L l (p + x)) (l - p + 1) := by
  rw [L_rec (by omega) (by omega)]
  have e : l + 1 - (p + 1) + 1 = l - p + 1 := by omega
  rw [e]
  exact sumTo_congr fun x _ => rfl
theorem dig_le {l p R d r : Nat} (hp : p ≤ l) (hR : R < L (l + 1) (p + 1)) (h : DigAt l p R d r) : d ≤ l - p := by
  rcases Nat.lt_or_ge (l - p) d with h1 | h1
  · have h2 := sumTo_le (f := fun x => L l (p + x)) (j := l - p + 1) (k := d) (by omega)
    have h3 := h.2
    rw [dig_total hp] at hR
    omega
  · exact h1
theorem dig_step {l p R d r : Nat} (hd : d < 30) (h : DigAt l p R d r) (hr : L l (p + d) ≤ r) : DigAt l p R (d + 1) (r - L l (p + d)) := by
  obtain ⟨h1, h2⟩ := h
  have e : 30 - d = (30 - (d + 1)) + 1 := by omega
  rw [e, digGo, if_neg (by omega)] at h1
  refine ⟨h1, ?_⟩
  simp only [sumTo]
  omega
theorem dig_stop {l p R d r : Nat} (hd : d < 30) (h : DigAt l p R d r) (hr : r < L l (p + d)) : digGo l p 30 R 0 = (d, r) := by
  obtain ⟨h1, h2⟩ := h
  have e : 30 - d = (30 - (d + 1)) + 1 := by omega
  rw [e, digGo, if_pos hr] at h1
  exact h1.symm
/-- the walk over the nodes: what has come, and the rest -/
def UnAt (n : Nat) (U : List Int) (v o r : Nat) (pre : List Int) : Prop := pre.length = v ∧ pre ++ unrank (n - v) o r = U ∧ r < L (n - v) o
theorem un_start {n r : Nat} (h : r < L n 1) : UnAt n (unrank n 1 r) 0 1 r [] := ⟨rfl, rfl, h⟩
theorem un_open {n v o r : Nat} {U pre : List Int} (h : UnAt n U v o r pre) (hv : v < n) : 1 ≤ o ∧ o ≤ n - v := by
  have h3 := h.2.2
  by_cases h1 : n - v < o ∨ o = 0
  · rw [L_base h1] at h3
    split at h3 <;> omega
  · omega
theorem un_step {n v o r d r' : Nat} {U pre : List Int} (h : UnAt n U v o r pre) (hv : v < n) (hd : digGo (n - v - 1) (o - 1) 30 r 0 = (d, r')) (hr : r' < L (n - v - 1) (o - 1 + d)) : UnAt n U (v + 1) (o - 1 + d) r' (pre ++ [(d : Int)]) := by
  obtain ⟨h1, h2, h3⟩ := h
  have e : n - v = (n - v - 1) + 1 := by omega
  rw [e, unrank, hd] at h2
  have e2 : n - (v + 1) = n - v - 1 := by omega
  refine ⟨by simp [h1], ?_, by rw [e2]; exact hr⟩
  rw [e2, List.append_assoc]
  exact h2
theorem un_end {n o r : Nat} {U pre : List Int} (h : UnAt n U n o r pre) : pre = U := by
  have := h.2.1
  rw [Nat.sub_self, unrank, List.append_nil] at this
  exact this
theorem L_24 {n t : Nat} (hn : n ≤ 24) : L n t ≤ 281474976710656 := by
  rcases Nat.lt_or_ge n t with h | h
  · rw [L_base (.inl h)]; split <;> omega
  · have h1 := L_le n t h
    have h2 : 2 ^ (2 * n - t) ≤ 2 ^ 48 := Nat.pow_le_pow_right (by omega) (by omega)
    have h3 : (2 : Nat) ^ 48 = 281474976710656 := by decide
    omega
/-- the tree of a rank, or nothing -/
def unTree (n r : Nat) : List Int := if r < L n 1 then unrank n 1 r else []
theorem set_mid (pre : List Int) (x y : Int) (post : List Int) : (pre ++ (x :: post)).set pre.length y = pre ++ (y :: post) := by
  simp
theorem at_mid (pre : List Int) (x : Int) (post : List Int) : (pre ++ (x :: post))[pre.length]? = some x := by
  simp
end Go.Proofs.Ytimjcdjeeocffaa.M
