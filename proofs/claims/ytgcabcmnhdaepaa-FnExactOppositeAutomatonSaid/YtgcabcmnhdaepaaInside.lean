/- Trees inside others by lists of nodes: by parents, and by the tree of the nodes that are left. The mathematics. -/
import Derived.Test.YtgcabcmnhdaepaaParents
namespace Go.Proofs.Ytgcabcmnhdaepaa
namespace M
/-- the place, below k, of the deepest node of a list above x, or -1 -/
def pl (u : List Int) (f : Nat → Nat) (x : Nat) : Nat → Int
  | 0 => -1
  | k + 1 => if bel u x (f k) then (k : Int) else pl u f x k
theorem pl_hit {u : List Int} {f : Nat → Nat} {x k : Nat} (h : bel u x (f k) = true) : pl u f x (k + 1) = k := by rw [pl, if_pos h]
theorem pl_miss {u : List Int} {f : Nat → Nat} {x k : Nat} (h : bel u x (f k) = false) : pl u f x (k + 1) = pl u f x k := by rw [pl, if_neg (by rw [h]; decide)]
theorem pl_skip {u : List Int} {f : Nat → Nat} {x : Nat} : ∀ {i a : Nat}, a ≤ i → (∀ j, a ≤ j → j < i → bel u x (f j) = false) → pl u f x i = pl u f x a := by
  intro i
  induction i with
  | zero => intro a h _; have : a = 0 := by omega
            rw [this]
  | succ i ih =>
    intro a h h2
    by_cases e : a = i + 1
    · rw [e]
    · rw [pl_miss (h2 i (by omega) (by omega))]
      exact ih (by omega) (fun j h3 h4 => h2 j h3 (by omega))
theorem pl_at {u : List Int} {f : Nat → Nat} {x i a : Nat} (h : a < i) (hb : bel u x (f a) = true) (h2 : ∀ j, a < j → j < i → bel u x (f j) = false) : pl u f x i = a := by
  rw [pl_skip (a := a + 1) h (fun j h3 h4 => h2 j (by omega) h4), pl_hit hb]
theorem pl_none {u : List Int} {f : Nat → Nat} {x i : Nat} (h2 : ∀ j, j < i → bel u x (f j) = false) : pl u f x i = -1 := by
  rw [pl_skip (a := 0) (Nat.zero_le _) (fun j _ h4 => h2 j h4)]; rfl
theorem pl_cases (u : List Int) (f : Nat → Nat) (x : Nat) : ∀ i, (pl u f x i = -1 ∧ ∀ j, j < i → bel u x (f j) = false) ∨ ∃ a, a < i ∧ pl u f x i = (a : Int) ∧ bel u x (f a) = true ∧ ∀ j, a < j → j < i → bel u x (f j) = false := by
  intro i
  induction i with
  | zero => exact .inl ⟨rfl, fun j h => by omega⟩
  | succ i ih =>
    cases hb : bel u x (f i)
    · rw [pl_miss hb]
      have one : ∀ j, j = i → bel u x (f j) = false := fun j e => by rw [e]; exact hb
      rcases ih with ⟨h1, h2⟩ | ⟨a, h1, h2, h3, h4⟩
      · exact .inl ⟨h1, fun j h => if e : j = i then one j e else h2 j (by omega)⟩
      · exact .inr ⟨a, by omega, h2, h3, fun j h5 h6 => if e : j = i then one j e else h4 j h5 (by omega)⟩
    · exact .inr ⟨i, by omega, pl_hit hb, hb, fun j h5 h6 => by omega⟩
/-- the parent, as a place, of the i-th node of a list -/
def pa (u : List Int) (f : Nat → Nat) (i : Nat) : Int := pl u f (f i) i
/-- the degrees of the nodes that are left, before the i-th -/
def degs (u : List Int) (f : Nat → Nat) (i : Nat) : List Int := (List.range i).map fun (j : Nat) => (((List.range i).countP (fun q => pa u f q == (j : Int)) : Nat) : Int)
theorem degs_len (u : List Int) (f : Nat → Nat) (i : Nat) : (degs u f i).length = i := by simp [degs]
theorem degs_at {u : List Int} {f : Nat → Nat} {i j : Nat} (h : j < i) : (degs u f i)[j]? = some (((List.range i).countP (fun q => pa u f q == (j : Int)) : Nat) : Int) := by simp [degs, h]
theorem pa_lt (u : List Int) (f : Nat → Nat) (i : Nat) : pa u f i < i := by
  rcases pl_cases u f (f i) i with ⟨h, _⟩ | ⟨a, h1, h2, _⟩
  · rw [pa, h]; omega
  · rw [pa, h2]; omega
theorem cnt_succ (p : Nat → Bool) (i : Nat) : (List.range (i + 1)).countP p = (List.range i).countP p + if p i then 1 else 0 := by
  rw [List.range_succ, List.countP_append, List.countP_singleton]
theorem cnt_none (p : Nat → Bool) (i : Nat) (h : ∀ q, q < i → p q = false) : (List.range i).countP p = 0 := by
  rw [List.countP_eq_zero]
  intro q hq
  rw [h q (List.mem_range.1 hq)]
  decide
/-- a new node has no children -/
theorem degs_new {u : List Int} {f : Nat → Nat} {i : Nat} (h : pa u f i = -1) : degs u f (i + 1) = degs u f i ++ [0] := by
  rw [degs, degs, List.range_succ, List.map_append]
  congr 1
  · refine List.map_congr_left fun j hj => ?_
    have hj := List.mem_range.1 hj
    have e : (pa u f i == (j : Int)) = false := beq_eq_false_iff_ne.2 (by rw [h]; omega)
    rw [← List.range_succ, cnt_succ, e]
    simp
  · rw [← List.range_succ]
    simp only [List.map_cons, List.map_nil]
    rw [cnt_none]
    · rfl
    · intro q hq
      have := pa_lt u f q
      exact beq_eq_false_iff_ne.2 (by omega)
theorem degs_under {u : List Int} {f : Nat → Nat} {i a : Nat} (h : pa u f i = (a : Int)) (ha : a < i) : degs u f (i + 1) = (degs u f i ++ [0]).set a (((degs u f i)[a]?.getD 0) + 1) := by
  apply List.ext_getElem?
  intro j
  rcases Nat.lt_trichotomy j i with hj | hj | hj
  · rw [degs_at (by omega), cnt_succ]
    by_cases e : a = j
    · subst e
      rw [List.getElem?_set_self (by simp [degs_len]; omega), degs_at ha, h]
      simp
    · rw [List.getElem?_set_ne e, List.getElem?_append_left (by rw [degs_len]; exact hj), degs_at hj]
      have e2 : (pa u f i == (j : Int)) = false := beq_eq_false_iff_ne.2 (by rw [h]; omega)
      rw [e2]
      simp
  · subst hj
    rw [degs_at (by omega), List.getElem?_set_ne (by omega), List.getElem?_append_right (by rw [degs_len]; omega), degs_len]
    rw [cnt_none]
    · simp
    · intro q hq
      have := pa_lt u f q
      exact beq_eq_false_iff_ne.2 (by omega)
  · rw [List.getElem?_eq_none (by rw [degs_len]; omega), List.getElem?_eq_none (by simp [degs_len]; omega)]
theorem cnt_one {p q : Nat → Bool} {a : Nat} : ∀ m, a < m → p a = false → (∀ i, q i = (p i || i == a)) → (List.range m).countP q = (List.range m).countP p + 1 := by
  intro m
  induction m with
  | zero => intro h; omega
  | succ m ih =>
    intro h hp hq
    rw [cnt_succ, cnt_succ]
    by_cases e : a = m
    · subst e
      have : (List.range a).countP q = (List.range a).countP p := List.countP_congr fun i hi => by
        have := List.mem_range.1 hi
        rw [hq i]
        have : (i == a) = false := beq_eq_false_iff_ne.2 (by omega)
        rw [this, Bool.or_false]
      rw [this, hq a, hp]
      simp
    · rw [ih (by omega) hp hq, hq m]
      have : (m == a) = false := beq_eq_false_iff_ne.2 (by omega)
      rw [this, Bool.or_false]
      omega
theorem cnt_le (p : Nat → Bool) {i m : Nat} (h : i ≤ m) : (List.range i).countP p ≤ (List.range m).countP p := by
  obtain ⟨k, rfl⟩ := Nat.le.dest h
  induction k with
  | zero => exact Nat.le_refl _
  | succ k ih => rw [show i + (k + 1) = (i + k) + 1 by omega, cnt_succ]; have := ih (by omega); omega
theorem cnt_lt {p : Nat → Bool} {i m : Nat} (h : i < m) (hp : p i = true) : (List.range i).countP p < (List.range m).countP p := by
  have h1 := cnt_le p (show i + 1 ≤ m from h)
  rw [cnt_succ, hp] at h1
  simp at h1
  omega
theorem cnt_stop {p : Nat → Bool} {i m : Nat} (h : i ≤ m) (hp : ∀ q, i ≤ q → q < m → p q = false) : (List.range m).countP p = (List.range i).countP p := by
  obtain ⟨k, rfl⟩ := Nat.le.dest h
  induction k with
  | zero => rfl
  | succ k ih => rw [show i + (k + 1) = (i + k) + 1 by omega, cnt_succ, ih (by omega) (fun q h1 h2 => hp q h1 (by omega)), hp (i + k) (by omega) (by omega)]; simp
theorem kid_lt_kid {xs : List Int} (ht : isTree xs = true) {v d i j : Nat} (hd : xs[v]? = some (d : Int)) (hj : j ≤ d) (h : i < j) : kidAt xs v i < kidAt xs v j := by
  have h1 := kid_lt ht hd (i := i) (by omega)
  have h2 := span_pos h1
  have h3 := kid_le (xs := xs) (v := v) (i := i + 1) (j := j) (by omega)
  simp only [kidAt] at h3
  omega
theorem kids_cnt {xs : List Int} (ht : isTree xs = true) {v d : Nat} (hd : xs[v]? = some (d : Int)) : ∀ k, k ≤ d → (List.range xs.length).countP (fun i => decide (∃ j, j < k ∧ kidAt xs v j = i)) = k := by
  intro k
  induction k with
  | zero => intro _; exact cnt_none _ _ fun q _ => decide_eq_false fun ⟨j, h, _⟩ => by omega
  | succ k ih =>
    intro hk
    rw [cnt_one (p := fun i => decide (∃ j, j < k ∧ kidAt xs v j = i)) (a := kidAt xs v k) xs.length (kid_lt ht hd (by omega)) ?_ ?_, ih (by omega)]
    · exact decide_eq_false fun ⟨j, h, e⟩ => by have := kid_lt_kid ht hd (i := j) (j := k) (by omega) h; omega
    · intro i
      by_cases h1 : ∃ j, j < k ∧ kidAt xs v j = i
      · rw [decide_eq_true h1, Bool.true_or]
        obtain ⟨j, h, e⟩ := h1
        exact decide_eq_true ⟨j, by omega, e⟩
      · rw [decide_eq_false h1, Bool.false_or]
        by_cases h2 : i = kidAt xs v k
        · rw [h2, beq_self_eq_true]
          exact decide_eq_true ⟨k, by omega, rfl⟩
        · rw [beq_eq_false_iff_ne.2 h2]
          refine decide_eq_false fun ⟨j, h, e⟩ => ?_
          rcases Nat.lt_or_ge j k with h3 | h3
          · exact h1 ⟨j, h3, e⟩
          · have : j = k := by omega
            rw [this] at e
            exact h2 e.symm
theorem par_kid {xs ps : List Int} (ht : isTree xs = true) (hp : ParsOK xs ps) {i j : Nat} (hi : i < xs.length) : ps[i]?.getD 0 = (j : Int) ↔ IsKid xs j i := by
  constructor
  · intro h
    rcases Nat.eq_zero_or_pos i with h0 | h0
    · subst h0
      rw [hp.2.1] at h
      simp at h
    · obtain ⟨p, hk⟩ := kid_has ht h0 hi
      rw [hp.2.2 p i hk] at h
      have : p = j := by simp at h; omega
      rw [← this]; exact hk
  · intro h
    rw [hp.2.2 j i h]; rfl
theorem par_cnt {xs ps : List Int} (ht : isTree xs = true) (hp : ParsOK xs ps) {v d : Nat} (hd : xs[v]? = some (d : Int)) : (List.range xs.length).countP (fun i => ps[i]?.getD 0 == (v : Int)) = d := by
  rw [← kids_cnt ht hd d (Nat.le_refl _)]
  refine List.countP_congr fun i hi => ?_
  have hi := List.mem_range.1 hi
  rw [beq_iff_eq, par_kid ht hp hi, decide_eq_true_iff]
  constructor
  · rintro ⟨d', k, h1, h2, h3⟩
    rw [hd] at h1
    injection h1 with h1
    exact ⟨k, by omega, h3⟩
  · rintro ⟨k, h1, h2⟩
    exact ⟨d, k, hd, h1, h2⟩
/-- both ways to tell that a tree is inside another one by a list say the same -/
theorem inside_iff {t u ps : List Int} {f : Nat → Nat} (ht : isTree t = true) (hp : ParsOK t ps) (hasc : ∀ i j, i < j → j < t.length → f i < f j) :
    (∀ i, i < t.length → pa u f i = ps[i]?.getD 0) ↔ ((∀ i, 0 < i → i < t.length → pa u f i ≠ -1) ∧ degs u f t.length = t) := by
  constructor
  · intro h
    refine ⟨fun i h0 hi e => ?_, ?_⟩
    · obtain ⟨p, hk⟩ := kid_has ht h0 hi
      have := h i hi
      rw [hp.2.2 p i hk, e] at this
      simp at this
    · apply List.ext_getElem?
      intro j
      rcases Nat.lt_or_ge j t.length with hj | hj
      · obtain ⟨d, hd, _⟩ := tree_degN ht hj
        rw [degs_at hj, hd, ← par_cnt ht hp hd]
        congr 2
        refine List.countP_congr fun i hi => ?_
        rw [h i (List.mem_range.1 hi)]
      · rw [List.getElem?_eq_none (by rw [degs_len]; exact hj), List.getElem?_eq_none hj]
  · rintro ⟨h1, h2⟩ i
    have hcnt : ∀ j d : Nat, t[j]? = some (d : Int) → (List.range t.length).countP (fun q => pa u f q == (j : Int)) = d := fun j d hd => by
      have hj := (List.getElem?_eq_some_iff.1 hd).1
      have := degs_at (u := u) (f := f) hj
      rw [h2, hd] at this
      injection this with this
      omega
    induction i using Nat.strongRecOn with
    | ind i ih =>
      intro hi
      rcases Nat.eq_zero_or_pos i with h0 | h0
      · subst h0; rw [hp.2.1]; rfl
      · obtain ⟨b, hk⟩ := kid_has ht h0 hi
        have hkb := kid_bounds ht hk
        rw [hp.2.2 b i hk]
        show pa u f i = (b : Int)
        rcases pl_cases u f (f i) i with ⟨h3, _⟩ | ⟨a, h3, h4, h5, h6⟩
        · exact absurd h3 (h1 i h0 hi)
        · rw [show pa u f i = (a : Int) from h4]
          have hih : ∀ j : Nat, (List.range i).countP (fun q => pa u f q == (j : Int)) = (List.range i).countP (fun q => ps[q]?.getD 0 == (j : Int)) := fun j => List.countP_congr fun q hq => by
            have := List.mem_range.1 hq
            rw [ih q this (by omega)]
          rcases Nat.lt_trichotomy a b with h7 | h7 | h7
          · exfalso
            obtain ⟨d, hd, _⟩ := tree_degN ht (v := b) (by omega)
            have e1 := hcnt b d hd
            have e2 := par_cnt ht hp hd
            have e3 := cnt_lt (p := fun q => ps[q]?.getD 0 == (b : Int)) hi (beq_iff_eq.2 ((par_kid ht hp hi).2 hk))
            have hnb := h6 b h7 hkb.1
            have hfb : fin u (f b) ≤ f i := by
              have := hasc b i hkb.1 hi
              have h8 : ¬ (f b ≤ f i ∧ f i < fin u (f b)) := fun h => by rw [bel_iff.2 h] at hnb; cases hnb
              omega
            have e4 := cnt_stop (p := fun q => pa u f q == (b : Int)) (i := i) (m := t.length) (by omega) (fun q h8 h9 => by
              refine beq_eq_false_iff_ne.2 fun e => ?_
              rcases pl_cases u f (f q) q with ⟨g1, _⟩ | ⟨c, g1, g2, g3, _⟩
              · rw [pa, g1] at e; omega
              · rw [pa, g2] at e
                have : c = b := by omega
                subst this
                have g4 := (bel_iff.1 g3).2
                have g5 : f i ≤ f q := by
                  rcases Nat.eq_or_lt_of_le h8 with h | h
                  · rw [h]; exact Nat.le_refl _
                  · exact Nat.le_of_lt (hasc i q h h9)
                omega)
            rw [hih b] at e4
            omega
          · rw [h7]
          · exfalso
            obtain ⟨d, hd, _⟩ := tree_degN ht (v := a) (by omega)
            have e1 := hcnt a d hd
            have e2 := par_cnt ht hp hd
            have e3 := cnt_lt (p := fun q => pa u f q == (a : Int)) hi (beq_iff_eq.2 h4)
            have hfa : fin t a ≤ i := by
              refine Nat.le_of_not_lt fun h => ?_
              have := kid_up ht hk h3 h
              omega
            have e4 := cnt_stop (p := fun q => ps[q]?.getD 0 == (a : Int)) (i := i) (m := t.length) (by omega) (fun q h8 h9 => by
              refine beq_eq_false_iff_ne.2 fun e => ?_
              have := kid_bounds ht ((par_kid ht hp h9).1 e)
              omega)
            rw [hih a] at e3
            omega
end M
end Go.Proofs.Ytgcabcmnhdaepaa
