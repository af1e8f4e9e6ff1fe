/- A product divided by another one that divides it, step by step by common divisors: mathematics of the model's count. No conditions. -/
import Derived.Test.YtbdmmeoelagdcaaHook
namespace Go.Proofs.Ytbdmmeoelagdcaa
namespace M
def prodL : List Nat → Nat
  | [] => 1
  | x :: r => x * prodL r
theorem prodL_append (a b : List Nat) : prodL (a ++ b) = prodL a * prodL b := by
  induction a with
  | nil => simp [prodL]
  | cons x r ih => simp only [List.cons_append, prodL, ih, Nat.mul_assoc]
theorem prodL_set : ∀ {l : List Nat} {k x y g : Nat}, l[k]? = some x → y * g = x → prodL (l.set k y) * g = prodL l := by
  intro l
  induction l with
  | nil => intro k x y g h; simp at h
  | cons z r ih =>
    intro k x y g h e
    cases k with
    | zero =>
      simp only [List.getElem?_cons_zero] at h
      injection h with h
      subst h
      simp only [List.set_cons_zero, prodL]
      rw [← e, Nat.mul_assoc, Nat.mul_assoc, Nat.mul_comm (prodL r)]
    | succ k =>
      simp only [List.getElem?_cons_succ] at h
      simp only [List.set_cons_succ, prodL]
      rw [Nat.mul_assoc, ih h e]
theorem dvd_prodL {l : List Nat} {k x : Nat} (h : l[k]? = some x) : x ∣ prodL l := by
  induction l generalizing k with
  | nil => simp at h
  | cons z r ih =>
    cases k with
    | zero =>
      simp only [List.getElem?_cons_zero] at h
      injection h with h
      subst h
      exact Nat.dvd_mul_right _ _
    | succ k =>
      simp only [List.getElem?_cons_succ] at h
      exact Nat.dvd_trans (ih h) (Nat.dvd_mul_left _ _)
theorem coprime_prodL {y : Nat} : ∀ {l : List Nat}, (∀ (k x : Nat), l[k]? = some x → Nat.gcd x y = 1) → Nat.gcd (prodL l) y = 1 := by
  intro l
  induction l with
  | nil => intro _; simp [prodL]
  | cons z r ih =>
    intro h
    have h1 := h 0 z rfl
    have h2 := ih fun k x hx => h (k + 1) x (by simpa using hx)
    simp only [prodL]
    exact Nat.Coprime.mul_left h1 h2
theorem prodL_one : ∀ {l : List Nat}, (∀ (k x : Nat), l[k]? = some x → x = 1) → prodL l = 1 := by
  intro l
  induction l with
  | nil => intro _; rfl
  | cons z r ih => intro h; rw [prodL, h 0 z rfl, ih fun k x hx => h (k + 1) x (by simpa using hx)]

/-- what the steps keep: tops and lows of F and P, divided by the same number -/
def Red (F P : Nat) (T B : List Nat) : Prop := 0 < F ∧ P ∣ F ∧ ∃ D, prodL T * D = F ∧ prodL B * D = P
theorem red_pos {F P : Nat} {T B : List Nat} (h : Red F P T B) {k x : Nat} (hx : T[k]? = some x) : 0 < x := by
  obtain ⟨h0, _, D, h1, _⟩ := h
  rcases Nat.eq_zero_or_pos x with e | e
  · subst e
    have := dvd_prodL hx
    rw [Nat.zero_dvd.1 this] at h1
    simp at h1
    omega
  · exact e
theorem red_lows {F P : Nat} {T B : List Nat} (h : Red F P T B) {k x : Nat} (hx : B[k]? = some x) : 0 < x := by
  obtain ⟨h0, hd, D, _, h2⟩ := h
  rcases Nat.eq_zero_or_pos x with e | e
  · subst e
    have := dvd_prodL hx
    rw [Nat.zero_dvd.1 this] at h2
    simp at h2
    rw [← h2] at hd
    have := Nat.zero_dvd.1 hd
    omega
  · exact e
theorem red_dvd {F P : Nat} {T B : List Nat} (h : Red F P T B) : prodL B ∣ prodL T := by
  obtain ⟨h0, hd, D, h1, h2⟩ := h
  have hD : 0 < D := by
    rcases Nat.eq_zero_or_pos D with e | e
    · subst e; simp at h1; omega
    · exact e
  rw [← h1, ← h2] at hd
  exact Nat.dvd_of_mul_dvd_mul_right hD hd
theorem red_step {F P : Nat} {T B : List Nat} (h : Red F P T B) {k i x y : Nat} (hx : T[k]? = some x) (hy : B[i]? = some y) : Red F P (T.set k (x / Nat.gcd x y)) (B.set i (y / Nat.gcd x y)) := by
  obtain ⟨h0, hd, D, h1, h2⟩ := h
  refine ⟨h0, hd, Nat.gcd x y * D, ?_, ?_⟩
  · rw [← Nat.mul_assoc, prodL_set hx (Nat.div_mul_cancel (Nat.gcd_dvd_left _ _)), h1]
  · rw [← Nat.mul_assoc, prodL_set hy (Nat.div_mul_cancel (Nat.gcd_dvd_right _ _)), h2]
/-- the first k tops have nothing in common with the low at i -/
def Apart (T B : List Nat) (i k : Nat) : Prop := ∀ (j x y : Nat), j < k → T[j]? = some x → B[i]? = some y → Nat.gcd x y = 1
theorem apart_zero (T B : List Nat) (i : Nat) : Apart T B i 0 := fun j x y h => by omega
theorem apart_step {T B : List Nat} {i k x y : Nat} (h : Apart T B i k) (hx : T[k]? = some x) (hy : B[i]? = some y) (hp : 0 < y) : Apart (T.set k (x / Nat.gcd x y)) (B.set i (y / Nat.gcd x y)) i (k + 1) := by
  intro j u v hj hu hv
  have hi : i < B.length := (List.getElem?_eq_some_iff.1 hy).1
  have hk : k < T.length := (List.getElem?_eq_some_iff.1 hx).1
  rw [List.getElem?_set_self hi] at hv
  injection hv with hv
  rcases Nat.lt_or_ge j k with h1 | h1
  · rw [List.getElem?_set_ne (by omega)] at hu
    have h2 := h j u y h1 hu hy
    have h3 : v ∣ y := ⟨Nat.gcd x y, by rw [← hv]; exact (Nat.div_mul_cancel (Nat.gcd_dvd_right _ _)).symm⟩
    exact Nat.Coprime.coprime_dvd_right h3 h2
  · obtain rfl : j = k := by omega
    rw [List.getElem?_set_self hk] at hu
    injection hu with hu
    subst hu; subst hv
    exact Nat.coprime_div_gcd_div_gcd (Nat.gcd_pos_of_pos_right _ hp)
/-- behind a round the low is 1 -/
theorem low_one {F P : Nat} {T B : List Nat} (h : Red F P T B) {i y : Nat} (hy : B[i]? = some y) (ha : Apart T B i T.length) : y = 1 := by
  have h1 : y ∣ prodL T := Nat.dvd_trans (dvd_prodL hy) (red_dvd h)
  have h2 : Nat.gcd (prodL T) y = 1 := coprime_prodL fun k x hx => ha k x y (List.getElem?_eq_some_iff.1 hx).1 hx hy
  have h3 : y ∣ Nat.gcd (prodL T) y := Nat.dvd_gcd h1 (Nat.dvd_refl _)
  rw [h2] at h3
  exact Nat.dvd_one.1 h3
/-- at the end the tops' product is the quotient -/
theorem red_end {F P : Nat} {T B : List Nat} (h : Red F P T B) (h1 : ∀ (i y : Nat), B[i]? = some y → y = 1) : prodL T = F / P ∧ prodL T ≤ F := by
  obtain ⟨h0, hd, D, h2, h3⟩ := h
  rw [prodL_one h1, Nat.one_mul] at h3
  subst h3
  have hD : 0 < D := by
    rcases Nat.eq_zero_or_pos D with e | e
    · subst e; simp at h2; omega
    · exact e
  refine ⟨?_, ?_⟩
  · rw [← h2, Nat.mul_div_cancel _ hD]
  · rw [← h2]; exact Nat.le_mul_of_pos_right _ hD
end M
end Go.Proofs.Ytbdmmeoelagdcaa
