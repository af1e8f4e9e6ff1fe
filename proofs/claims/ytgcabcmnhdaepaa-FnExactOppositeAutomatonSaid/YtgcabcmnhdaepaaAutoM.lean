/- Automata, their mathematics: what an automaton is, its steps. No program is named here. -/
import Derived.Test.YtgcabcmnhdaepaaLeast
import Derived.Test.YtgcabcmnhdaepaaInsIn
namespace Go.Proofs.Ytgcabcmnhdaepaa
namespace M
/-- the first k numbers of a row are states -/
def cellsTo (m : Int) (r : List Int) (k : Nat) : Bool := (List.range k).all fun c => decide (0 ≤ r[c]?.getD 0) && decide (r[c]?.getD 0 ≤ m - 1)
def rowOk (m : Int) (r : List Int) : Bool := decide ((r.length : Int) = m) && cellsTo m r r.length
def rowsTo (m : Int) (Ss : List (List Int)) (k : Nat) : Bool := (List.range k).all fun s => rowOk m (Ss[s]?.getD [])
def isAuto (st : Int) (Ss : List (List Int)) (gs : List Int) : Bool :=
  (decide (1 ≤ (Ss.length : Int)) && decide ((Ss.length : Int) ≤ 9)) && ((decide (0 ≤ st) && decide (st ≤ (Ss.length : Int) - 1)) && (rowsTo Ss.length Ss Ss.length && goodTo gs Ss.length gs.length))
theorem cellsTo_succ {m : Int} {r : List Int} {k : Nat} {x : Int} (h : r[k]? = some x) : cellsTo m r (k + 1) = (cellsTo m r k && (decide (0 ≤ x) && decide (x ≤ m - 1))) := by
  rw [cellsTo, cellsTo, List.range_succ, List.all_append]; simp [h]
theorem cellsTo_iff {m : Int} {r : List Int} {k : Nat} : cellsTo m r k = true ↔ ∀ c, c < k → 0 ≤ r[c]?.getD 0 ∧ r[c]?.getD 0 ≤ m - 1 := by
  simp [cellsTo, List.all_eq_true]
theorem cellsTo_no {m : Int} {r : List Int} {k n : Nat} {x : Int} (h : r[k]? = some x) (hk : k < n) (hx : (decide (0 ≤ x) && decide (x ≤ m - 1)) = false) : cellsTo m r n = false := by
  cases hc : cellsTo m r n with
  | false => rfl
  | true =>
    have := cellsTo_iff.1 hc k hk
    rw [h] at this
    simp only [Option.getD_some] at this
    simp only [Bool.and_eq_false_iff, decide_eq_false_iff_not] at hx
    omega
theorem rowsTo_succ {m : Int} {Ss : List (List Int)} {k : Nat} {r : List Int} (h : Ss[k]? = some r) : rowsTo m Ss (k + 1) = (rowsTo m Ss k && rowOk m r) := by
  rw [rowsTo, rowsTo, List.range_succ, List.all_append]; simp [h]
theorem rowsTo_iff {m : Int} {Ss : List (List Int)} {k : Nat} : rowsTo m Ss k = true ↔ ∀ s, s < k → rowOk m (Ss[s]?.getD []) = true := by
  simp [rowsTo, List.all_eq_true]
theorem rowsTo_no {m : Int} {Ss : List (List Int)} {k n : Nat} {r : List Int} (h : Ss[k]? = some r) (hk : k < n) (hx : rowOk m r = false) : rowsTo m Ss n = false := by
  cases hc : rowsTo m Ss n with
  | false => rfl
  | true =>
    have := rowsTo_iff.1 hc k hk
    rw [h, Option.getD_some, hx] at this
    cases this
theorem rowOk_iff {m : Int} {r : List Int} : rowOk m r = true ↔ (r.length : Int) = m ∧ ∀ x ∈ r, 0 ≤ x ∧ x ≤ m - 1 := by
  rw [rowOk, Bool.and_eq_true, decide_eq_true_eq, cellsTo_iff]
  refine and_congr_right fun _ => ⟨fun h x hx => ?_, fun h c hc => ?_⟩
  · obtain ⟨j, hj⟩ := List.getElem?_of_mem hx
    have := h j (List.getElem?_eq_some_iff.1 hj).1
    rw [hj] at this
    exact this
  · rw [List.getElem?_eq_getElem hc]
    exact h _ (List.getElem_mem hc)
theorem rowOk_len {m : Int} {r : List Int} (h : (r.length : Int) ≠ m) : rowOk m r = false := by rw [rowOk, decide_eq_false h]; rfl
/-- the least and the greatest number of a row tell whether it has states alone -/
theorem minTo_mem {xs : List Int} : ∀ {k : Nat}, 0 < k → k ≤ xs.length → ∃ j, j < k ∧ xs[j]? = some (minTo xs k) := by
  intro k
  induction k with
  | zero => intro h; omega
  | succ k ih =>
    intro _ hk
    obtain ⟨x, hx⟩ : ∃ x, xs[k]? = some x := ⟨_, List.getElem?_eq_getElem (by omega)⟩
    rcases Nat.eq_zero_or_pos k with h0 | h0
    · subst h0
      exact ⟨0, by omega, by rw [minTo_one hx]; exact hx⟩
    · obtain ⟨j, hj, e⟩ := ih h0 (by omega)
      have hs := minTo_step hx h0 rfl
      rw [hs]
      by_cases hl : minTo xs k ≤ x
      · exact ⟨j, by omega, by rw [Int.min_eq_left hl]; exact e⟩
      · exact ⟨k, by omega, by rw [Int.min_eq_right (by omega)]; exact hx⟩
theorem maxTo_mem {xs : List Int} : ∀ {k : Nat}, k ≤ xs.length → maxTo xs k = 0 ∨ ∃ j, j < k ∧ xs[j]? = some (maxTo xs k) := by
  intro k
  induction k with
  | zero => intro _; exact .inl rfl
  | succ k ih =>
    intro hk
    obtain ⟨x, hx⟩ : ∃ x, xs[k]? = some x := ⟨_, List.getElem?_eq_getElem (by omega)⟩
    by_cases hl : maxTo xs k ≤ x
    · exact .inr ⟨k, by omega, by rw [maxTo_hit hx hl]; exact hx⟩
    · rw [maxTo_miss hx (by omega)]
      rcases ih (by omega) with h | ⟨j, hj, e⟩
      · exact .inl h
      · exact .inr ⟨j, by omega, e⟩
theorem rowOk_neg {m : Int} {r : List Int} (h0 : 0 < r.length) (h : minTo r r.length < 0) : rowOk m r = false := by
  obtain ⟨j, hj, e⟩ := minTo_mem h0 (Nat.le_refl r.length)
  cases hc : rowOk m r with
  | false => rfl
  | true => have := (rowOk_iff.1 hc).2 _ (List.mem_of_getElem? e); omega
theorem min_pos {r : List Int} (h : ¬ minTo r r.length < 0) : ∀ x ∈ r, 0 ≤ x := fun x hx => by
  obtain ⟨j, hj⟩ := List.getElem?_of_mem hx
  have := minTo_le hj r.length (List.getElem?_eq_some_iff.1 hj).1
  omega
theorem rowOk_big {m : Int} {r : List Int} (hm1 : 1 ≤ m) (h : m ≤ maxTo r r.length) : rowOk m r = false := by
  rcases maxTo_mem (Nat.le_refl r.length) with e | ⟨j, hj, e⟩
  · omega
  · cases hc : rowOk m r with
    | false => rfl
    | true => have := (rowOk_iff.1 hc).2 _ (List.mem_of_getElem? e); omega
theorem rowOk_yes {m : Int} {r : List Int} (hm : (r.length : Int) = m) (h0 : ∀ x ∈ r, 0 ≤ x) (h : maxTo r r.length < m) : rowOk m r = true := by
  rw [rowOk_iff]
  refine ⟨hm, fun x hx => ⟨h0 x hx, ?_⟩⟩
  obtain ⟨j, hj⟩ := List.getElem?_of_mem hx
  have := maxTo_ge hj r.length (List.getElem?_eq_some_iff.1 hj).1
  omega
theorem isAuto_no1 {st : Int} {Ss : List (List Int)} {gs : List Int} {m : Nat} (hm : Ss.length = m) (h : (decide (1 ≤ (m : Int)) && decide ((m : Int) ≤ 9)) = false) : isAuto st Ss gs = false := by
  rw [isAuto, hm, h]; rfl
theorem isAuto_no2 {st : Int} {Ss : List (List Int)} {gs : List Int} {m : Nat} (hm : Ss.length = m) (h : (decide (0 ≤ st) && decide (st ≤ (m : Int) - 1)) = false) : isAuto st Ss gs = false := by
  rw [isAuto, hm, h]; simp
theorem isAuto_no3 {st : Int} {Ss : List (List Int)} {gs : List Int} {m k : Nat} {r : List Int} (hm : Ss.length = m) (hr : Ss[k]? = some r) (h : rowOk m r = false) : isAuto st Ss gs = false := by
  rw [isAuto, hm, rowsTo_no hr (by rw [← hm]; exact (List.getElem?_eq_some_iff.1 hr).1) h]; simp
theorem isAuto_end {st : Int} {Ss : List (List Int)} {gs : List Int} {m g : Nat} (hm : Ss.length = m) (hg : gs.length = g) (h1 : (decide (1 ≤ (m : Int)) && decide ((m : Int) ≤ 9)) = true) (h2 : (decide (0 ≤ st) && decide (st ≤ (m : Int) - 1)) = true) (h3 : rowsTo m Ss m = true) : isAuto st Ss gs = goodTo gs m g := by
  rw [isAuto, hm, hg, h1, h2, h3]; rfl
/-- an automaton of m states, as numbers -/
structure IsA (st : Int) (Ss : List (List Int)) (gs : List Int) (m : Nat) : Prop where
  len : Ss.length = m
  pos : 1 ≤ m
  le : m ≤ 9
  st0 : 0 ≤ st
  st1 : st < m
  row : ∀ r ∈ Ss, r.length = m ∧ ∀ x ∈ r, 0 ≤ x ∧ x < m
  good : goodTo gs m gs.length = true
theorem isA_of {st : Int} {Ss : List (List Int)} {gs : List Int} (h : isAuto st Ss gs = true) : IsA st Ss gs Ss.length := by
  simp only [isAuto, Bool.and_eq_true, decide_eq_true_eq] at h
  obtain ⟨⟨h1, h2⟩, ⟨h3, h4⟩, h5, h6⟩ := h
  refine ⟨rfl, by omega, by omega, h3, by omega, fun r hr => ?_, h6⟩
  obtain ⟨j, hj⟩ := List.getElem?_of_mem hr
  have h7 := rowsTo_iff.1 h5 j (List.getElem?_eq_some_iff.1 hj).1
  rw [hj, Option.getD_some, rowOk_iff] at h7
  exact ⟨by omega, fun x hx => by have := h7.2 x hx; omega⟩
theorem good_le {gs : List Int} {m : Nat} (h : goodTo gs m gs.length = true) : gs.length ≤ m := by
  have hj : ∀ j, j < gs.length → (j : Int) ≤ gs[j]?.getD 0 := by
    intro j
    induction j with
    | zero => intro hj; exact (goodAt_iff.1 (goodTo_each h 0 hj)).1
    | succ j ih =>
      intro hj
      have h1 := goodAt_iff.1 (goodTo_each h (j + 1) hj)
      have h2 := ih (by omega)
      simp only [Nat.add_sub_cancel] at h1
      omega
  rcases Nat.eq_zero_or_pos gs.length with h0 | h0
  · omega
  · have h1 := hj (gs.length - 1) (by omega)
    have h2 := goodAt_iff.1 (goodTo_each h (gs.length - 1) (by omega))
    omega
/-- the state behind s for the child state c -/
def stp (Ss : List (List Int)) (s c : Int) : Int := (Ss[s.toNat]?.getD [])[c.toNat]?.getD 0
theorem stp_at {st : Int} {Ss : List (List Int)} {gs : List Int} {m : Nat} (h : IsA st Ss gs m) {s c : Nat} (hs : s < m) (hc : c < m) :
    ∃ r, Ss[s]? = some r ∧ r.length = m ∧ r[c]? = some (stp Ss s c) ∧ 0 ≤ stp Ss s c ∧ stp Ss s c < m := by
  have hl := h.len
  obtain ⟨r, hr⟩ : ∃ r, Ss[s]? = some r := ⟨_, List.getElem?_eq_getElem (by omega)⟩
  obtain ⟨h1, h2⟩ := h.row r (List.mem_of_getElem? hr)
  obtain ⟨x, hx⟩ : ∃ x, r[c]? = some x := ⟨_, List.getElem?_eq_getElem (by omega)⟩
  have he : stp Ss s c = x := by rw [stp, Int.toNat_natCast, Int.toNat_natCast, hr, Option.getD_some, hx]; rfl
  have := h2 x (List.mem_of_getElem? hx)
  exact ⟨r, hr, h1, by rw [he]; exact hx, by omega, by omega⟩
theorem stp_range {st : Int} {Ss : List (List Int)} {gs : List Int} {m : Nat} (h : IsA st Ss gs m) {s c : Int} (hs : 0 ≤ s) (hs' : s < m) (hc : 0 ≤ c) (hc' : c < m) : 0 ≤ stp Ss s c ∧ stp Ss s c < m := by
  obtain ⟨r, _, _, _, h1, h2⟩ := stp_at h (s := s.toNat) (c := c.toNat) (by omega) (by omega)
  rw [Int.toNat_of_nonneg hs, Int.toNat_of_nonneg hc] at h1 h2
  exact ⟨h1, h2⟩
end M
end Go.Proofs.Ytgcabcmnhdaepaa
