/- Contours: for each depth the outermost column, and the steps between two contours; their mathematics. No program is named here. -/
import Derived.Test.YtamnilpmdccgoaaTidy
namespace Go.Proofs.Ytamnilpmdccgoaa
namespace M
/-- the left contour of the first k nodes: the least column of each depth, 2400 where there is none -/
def LftTo (D P : List Int) (k : Nat) (L : List Int) : Prop := L.length = 24 ∧ ∀ e : Nat, e < 24 → ∃ z, L[e]? = some z ∧ -2400 ≤ z ∧ z ≤ 2400 ∧ (z = 2400 ∨ ∃ a x, a < k ∧ P[a]? = some x ∧ D[a]? = some (e : Int) ∧ z = x) ∧ ∀ a x, a < k → P[a]? = some x → D[a]? = some (e : Int) → z ≤ x
/-- the right one: the greatest column, -2400 where there is none -/
def RgtTo (D P : List Int) (k : Nat) (R : List Int) : Prop := R.length = 24 ∧ ∀ e : Nat, e < 24 → ∃ z, R[e]? = some z ∧ -2400 ≤ z ∧ z ≤ 2400 ∧ (z = -2400 ∨ ∃ a x, a < k ∧ P[a]? = some x ∧ D[a]? = some (e : Int) ∧ z = x) ∧ ∀ a x, a < k → P[a]? = some x → D[a]? = some (e : Int) → x ≤ z
theorem lft_start (D P : List Int) : LftTo D P 0 (List.replicate 24 2400) :=
  ⟨by simp, fun e he => ⟨2400, by rw [List.getElem?_replicate, if_pos he], by omega, by omega, .inl rfl, fun a x h => by omega⟩⟩
theorem rgt_start (D P : List Int) : RgtTo D P 0 (List.replicate 24 (-2400)) :=
  ⟨by simp, fun e he => ⟨-2400, by rw [List.getElem?_replicate, if_pos he], by omega, by omega, .inl rfl, fun a x h => by omega⟩⟩
theorem lft_step {D P L : List Int} {k e : Nat} {x z : Int} (h : LftTo D P k L) (he : e < 24) (hD : D[k]? = some (e : Int)) (hP : P[k]? = some x) (hz : L[e]? = some z) (hx : -2400 ≤ x) (hx' : x ≤ 2400) : LftTo D P (k + 1) (L.set e (min z x)) := by
  obtain ⟨h1, h2⟩ := h
  refine ⟨by simpa using h1, fun e' he' => ?_⟩
  obtain ⟨z', k1, k0, k2, k3, k4⟩ := h2 e' he'
  by_cases hee : e' = e
  · subst hee
    rw [hz] at k1
    injection k1 with k1
    subst k1
    refine ⟨min z x, by rw [List.getElem?_set_self (by omega)], by omega, by omega, ?_, fun a y ha hy hd => ?_⟩
    · by_cases hzx : z ≤ x
      · rcases k3 with k3 | ⟨a, y, ha, hy, hd, hzy⟩
        · left; omega
        · right; exact ⟨a, y, by omega, hy, hd, by omega⟩
      · right; exact ⟨k, x, by omega, hP, hD, by omega⟩
    · rcases Nat.lt_or_ge a k with hak | hak
      · have := k4 a y hak hy hd; omega
      · obtain rfl : a = k := by omega
        rw [hP] at hy
        injection hy with hy
        omega
  · refine ⟨z', by rw [List.getElem?_set_ne (by omega)]; exact k1, k0, k2, ?_, fun a y ha hy hd => ?_⟩
    · rcases k3 with k3 | ⟨a, y, ha, hy, hd, hzy⟩
      · exact .inl k3
      · exact .inr ⟨a, y, by omega, hy, hd, hzy⟩
    · rcases Nat.lt_or_ge a k with hak | hak
      · exact k4 a y hak hy hd
      · obtain rfl : a = k := by omega
        rw [hD] at hd
        injection hd with hd
        omega
theorem rgt_step {D P L : List Int} {k e : Nat} {x z : Int} (h : RgtTo D P k L) (he : e < 24) (hD : D[k]? = some (e : Int)) (hP : P[k]? = some x) (hz : L[e]? = some z) (hx : -2400 ≤ x) (hx' : x ≤ 2400) : RgtTo D P (k + 1) (L.set e (max z x)) := by
  obtain ⟨h1, h2⟩ := h
  refine ⟨by simpa using h1, fun e' he' => ?_⟩
  obtain ⟨z', k1, k0, k2, k3, k4⟩ := h2 e' he'
  by_cases hee : e' = e
  · subst hee
    rw [hz] at k1
    injection k1 with k1
    subst k1
    refine ⟨max z x, by rw [List.getElem?_set_self (by omega)], by omega, by omega, ?_, fun a y ha hy hd => ?_⟩
    · by_cases hzx : x ≤ z
      · rcases k3 with k3 | ⟨a, y, ha, hy, hd, hzy⟩
        · left; omega
        · right; exact ⟨a, y, by omega, hy, hd, by omega⟩
      · right; exact ⟨k, x, by omega, hP, hD, by omega⟩
    · rcases Nat.lt_or_ge a k with hak | hak
      · have := k4 a y hak hy hd; omega
      · obtain rfl : a = k := by omega
        rw [hP] at hy
        injection hy with hy
        omega
  · refine ⟨z', by rw [List.getElem?_set_ne (by omega)]; exact k1, k0, k2, ?_, fun a y ha hy hd => ?_⟩
    · rcases k3 with k3 | ⟨a, y, ha, hy, hd, hzy⟩
      · exact .inl k3
      · exact .inr ⟨a, y, by omega, hy, hd, hzy⟩
    · rcases Nat.lt_or_ge a k with hak | hak
      · exact k4 a y hak hy hd
      · obtain rfl : a = k := by omega
        rw [hD] at hd
        injection hd with hd
        omega
theorem lft_at {D P L : List Int} {k e : Nat} (h : LftTo D P k L) (he : e < 24) : ∃ z, L[e]? = some z ∧ -2400 ≤ z ∧ z ≤ 2400 := by
  obtain ⟨z, h1, h2, h3, _⟩ := h.2 e he
  exact ⟨z, h1, h2, h3⟩
theorem rgt_at {D P L : List Int} {k e : Nat} (h : RgtTo D P k L) (he : e < 24) : ∃ z, L[e]? = some z ∧ -2400 ≤ z ∧ z ≤ 2400 := by
  obtain ⟨z, h1, h2, h3, _⟩ := h.2 e he
  exact ⟨z, h1, h2, h3⟩
/-- the greatest difference of the first e depths -/
def StepTo (L R : List Int) (e : Nat) (s : Int) : Prop := -2400 ≤ s ∧ s ≤ 5000 ∧ (s = -2400 ∨ ∃ e' x y, e' < e ∧ R[e']? = some x ∧ L[e']? = some y ∧ s = x + 2 - y) ∧ ∀ e' x y, e' < e → R[e']? = some x → L[e']? = some y → x + 2 - y ≤ s
theorem step_start (L R : List Int) : StepTo L R 0 (-2400) := ⟨by omega, by omega, .inl rfl, fun e' x y h => by omega⟩
theorem step_next {L R : List Int} {e : Nat} {s x y : Int} (h : StepTo L R e s) (hx : R[e]? = some x) (hy : L[e]? = some y) (hb : x + 2 - y ≤ 5000) : StepTo L R (e + 1) (max s (x + 2 - y)) := by
  obtain ⟨h1, h0, h2, h3⟩ := h
  refine ⟨by omega, by omega, ?_, fun e' x' y' he hx' hy' => ?_⟩
  · by_cases hs : x + 2 - y ≤ s
    · rcases h2 with h2 | ⟨e', x', y', k1, k2, k3, k4⟩
      · left; omega
      · right; exact ⟨e', x', y', by omega, k2, k3, by omega⟩
    · right; exact ⟨e, x, y, by omega, hx, hy, by omega⟩
  · rcases Nat.lt_or_ge e' e with hee | hee
    · have := h3 e' x' y' hee hx' hy'; omega
    · obtain rfl : e' = e := by omega
      rw [hx] at hx'
      rw [hy] at hy'
      injection hx' with hx'
      injection hy' with hy'
      omega
/-- the steps between two contours are the least by which the second drawing is moved -/
theorem steps_by {ds P own D1 D2 L R : List Int} {p q : Nat} {s : Int} (hD1 : D1 = (ds.drop p).take P.length) (hD2 : D2 = (ds.drop q).take own.length) (hd : ∀ (i : Nat) (x : Int), ds[i]? = some x → 0 ≤ x ∧ x < 24) (hL : LftTo D2 own own.length L) (hR : RgtTo D1 P P.length R) (hS : StepTo L R 24 s)
    (bP : ∀ x ∈ P, -46 ≤ x ∧ x ≤ 46) (bO : ∀ x ∈ own, -46 ≤ x ∧ x ≤ 46) (hp : ∃ a b x y, PairAt ds p q P own a b x y) : IsBy ds p q P own s := by
  have g1 : ∀ (a : Nat) (x : Int), P[a]? = some x → D1[a]? = ds[p + a]? := fun a x h => by
    have := (List.getElem?_eq_some_iff.1 h).1
    rw [hD1, List.getElem?_take, if_pos this, List.getElem?_drop]
  have g2 : ∀ (a : Nat) (x : Int), own[a]? = some x → D2[a]? = ds[q + a]? := fun a x h => by
    have := (List.getElem?_eq_some_iff.1 h).1
    rw [hD2, List.getElem?_take, if_pos this, List.getElem?_drop]
  have up : ∀ a b x y, PairAt ds p q P own a b x y → x + 2 - y ≤ s := fun a b x y ⟨h1, h2, e, h3, h4⟩ => by
    obtain ⟨e0, e1⟩ := hd _ _ h3
    obtain ⟨e, rfl⟩ := Int.eq_ofNat_of_zero_le e0
    obtain ⟨z, k1, _, _, _, k5⟩ := hR.2 e (by omega)
    obtain ⟨z', l1, _, _, _, l5⟩ := hL.2 e (by omega)
    have a1 := k5 a x (List.getElem?_eq_some_iff.1 h1).1 h1 (by rw [g1 a x h1]; exact h3)
    have a2 := l5 b y (List.getElem?_eq_some_iff.1 h2).1 h2 (by rw [g2 b y h2]; exact h4)
    have := hS.2.2.2 e z z' (by omega) k1 l1
    omega
  refine ⟨?_, up⟩
  obtain ⟨a, b, x, y, hpa⟩ := hp
  have hs := up a b x y hpa
  have hx := bP x (List.mem_of_getElem? hpa.1)
  have hy := bO y (List.mem_of_getElem? hpa.2.1)
  rcases hS.2.2.1 with h | ⟨e, z, z', he, k1, l1, hsz⟩
  · omega
  · obtain ⟨u, k2, _, _, k3, _⟩ := hR.2 e he
    obtain ⟨u', l2, _, _, l3, _⟩ := hL.2 e he
    rw [k1] at k2
    rw [l1] at l2
    injection k2 with k2
    injection l2 with l2
    subst k2
    subst l2
    rcases k3 with k3 | ⟨a', x', ha', hx', hd', hzx⟩
    · rcases l3 with l3 | ⟨b', y', hb', hy', hd2, hzy⟩
      · omega
      · have := bO y' (List.mem_of_getElem? hy'); omega
    · have h6 := bP x' (List.mem_of_getElem? hx')
      rcases l3 with l3 | ⟨b', y', hb', hy', hd2, hzy⟩
      · omega
      · exact ⟨a', b', x', y', ⟨hx', hy', (e : Int), by rw [← g1 a' x' hx']; exact hd', by rw [← g2 b' y' hy']; exact hd2⟩, by omega⟩
end M
end Go.Proofs.Ytamnilpmdccgoaa
