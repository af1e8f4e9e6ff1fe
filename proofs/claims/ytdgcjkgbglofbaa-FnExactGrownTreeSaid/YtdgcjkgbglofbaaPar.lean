/- Parents and meets as mathematics: subtrees are nested, each node but the root is a child of one node, and the meet is the greatest node that has both below it. -/
import Derived.Test.YtdgcjkgbglofbaaLevel
namespace Go.Proofs.Ytdgcjkgbglofbaa.M

def fin (xs : List Int) (v : Nat) : Nat := v + span 1 (xs.drop v)
theorem span_min : ∀ (l : List Int) (o : Int) (k : Nat), k < span o l → 1 ≤ o + bal (l.take k) := by
  intro l
  induction l with
  | nil => intro o k h; simp [span] at h
  | cons x r ih =>
    intro o k h
    rw [span] at h
    split at h
    · omega
    · cases k with
      | zero => simp only [List.take_zero, bal]; omega
      | succ k =>
        have := ih (o - 1 + x) k (by omega)
        simp only [List.take_succ_cons, bal]
        omega
theorem due_in {xs : List Int} {v q : Nat} (h1 : v ≤ q) (h2 : q < fin xs v) : due xs v ≤ due xs q := by
  have h := span_min (xs.drop v) 1 (q - v) (by simp only [fin] at h2; omega)
  have e : xs.take q = xs.take v ++ (xs.drop v).take (q - v) := by
    have := List.take_add (l := xs) (i := v) (j := q - v)
    rw [← this]
    congr 1
    omega
  simp only [due]
  rw [e, bal_append]
  omega
theorem fin_gt {xs : List Int} {v : Nat} (h : v < xs.length) : v < fin xs v := by have := span_pos h; simp only [fin]; omega
theorem fin_le {xs : List Int} {v : Nat} (h : v ≤ xs.length) : fin xs v ≤ xs.length := end_le h
theorem fin_root {xs : List Int} (ht : isTree xs = true) : fin xs 0 = xs.length := by
  have := (lgood_start ht).2.1
  simpa [szs, fin] using this
theorem nest {xs : List Int} (ht : isTree xs = true) {v q : Nat} (hv : v < xs.length) (h1 : v ≤ q) (h2 : q < fin xs v) : fin xs q ≤ fin xs v := by
  have hl := fin_le (xs := xs) (v := v) (by omega)
  rcases Nat.lt_or_ge (fin xs v) (fin xs q) with h | h
  · have e1 := due_in (xs := xs) (v := q) (q := fin xs v) (by omega) h
    have e2 := due_span ht hv
    have e3 := due_in h1 h2
    simp only [fin] at e1
    omega
  · exact h
theorem kid_le {xs : List Int} {v i j : Nat} (h : i ≤ j) : kidAt xs v i ≤ kidAt xs v j := by
  induction j with
  | zero => obtain rfl : i = 0 := by omega
            exact Nat.le_refl _
  | succ j ih =>
    rcases Nat.lt_or_ge i (j + 1) with h1 | h1
    · have := ih (by omega)
      simp only [kidAt]
      omega
    · obtain rfl : i = j + 1 := by omega
      exact Nat.le_refl _
theorem kid_tile {xs : List Int} {v at_ : Nat} (h : v < at_) : ∀ i, at_ < kidAt xs v i → ∃ j, j < i ∧ kidAt xs v j ≤ at_ ∧ at_ < kidAt xs v (j + 1) := by
  intro i
  induction i with
  | zero => intro h1; simp only [kidAt] at h1; omega
  | succ i ih =>
    intro h1
    rcases Nat.lt_or_ge at_ (kidAt xs v i) with h2 | h2
    · obtain ⟨j, hj, h3⟩ := ih h2
      exact ⟨j, by omega, h3⟩
    · exact ⟨i, by omega, h2, h1⟩
def IsKid (xs : List Int) (u c : Nat) : Prop := ∃ (d : Nat) (i : Nat), xs[u]? = some (d : Int) ∧ i < d ∧ kidAt xs u i = c
theorem kid_bounds {xs : List Int} (ht : isTree xs = true) {u c : Nat} (h : IsKid xs u c) : u < c ∧ c < fin xs u ∧ c < xs.length := by
  obtain ⟨d, i, hd, hi, rfl⟩ := h
  have h1 := kid_due ht hd i (by omega)
  have h2 := kid_lt ht hd (i := i) (by omega)
  have h3 := kid_end ht hd
  have h4 := kid_le (xs := xs) (v := u) (i := i + 1) (j := d) (by omega)
  have h5 := span_pos h2
  simp only [kidAt] at h4
  simp only [fin]
  omega
theorem kid_up {xs : List Int} (ht : isTree xs = true) {p c r : Nat} (h : IsKid xs p c) (h1 : r < c) (h2 : c < fin xs r) : r ≤ p := by
  obtain ⟨hb1, hb2, hb3⟩ := kid_bounds ht h
  rcases Nat.lt_or_ge p r with hlt | hge
  · obtain ⟨d, i, hd, hi, hk⟩ := h
    have he := kid_end ht hd
    obtain ⟨j, hj, hj1, hj2⟩ := kid_tile (xs := xs) (v := p) (at_ := r) hlt d (by simp only [fin] at hb2; omega)
    have hjl := kid_lt ht hd (i := j) (by omega)
    have hn := nest ht hjl hj1 (by simp only [kidAt] at hj2; exact hj2)
    have hn2 : fin xs (kidAt xs p j) = kidAt xs p (j + 1) := by simp only [fin, kidAt]
    rcases Nat.lt_or_ge i (j + 1) with hij | hij
    · have := kid_le (xs := xs) (v := p) (i := i) (j := j) (by omega)
      omega
    · have := kid_le (xs := xs) (v := p) (i := j + 1) (j := i) hij
      omega
  · exact hge
theorem kid_unique {xs : List Int} (ht : isTree xs = true) {p q c : Nat} (h : IsKid xs p c) (h' : IsKid xs q c) : p = q := by
  have a := kid_bounds ht h
  have b := kid_bounds ht h'
  have := kid_up ht h b.1 b.2.1
  have := kid_up ht h' a.1 a.2.1
  omega
theorem kid_exists {xs : List Int} (ht : isTree xs = true) {c : Nat} (hc : c < xs.length) : ∀ (m u : Nat), c - u ≤ m → u < c → c < fin xs u → ∃ p, IsKid xs p c := by
  intro m
  induction m with
  | zero => intro u h1 h2; omega
  | succ m ih =>
    intro u h1 h2 h3
    obtain ⟨d, hd, _⟩ := tree_degN ht (v := u) (by omega)
    have he := kid_end ht hd
    obtain ⟨j, hj, hj1, hj2⟩ := kid_tile (xs := xs) h2 d (by simp only [fin] at h3; omega)
    rcases Nat.lt_or_ge (kidAt xs u j) c with h4 | h4
    · have h5 := (kid_due ht hd j (by omega)).2.2
      exact ih (kidAt xs u j) (by omega) h4 (by simp only [kidAt] at hj2; exact hj2)
    · exact ⟨u, d, j, hd, hj, by omega⟩
theorem kid_has {xs : List Int} (ht : isTree xs = true) {c : Nat} (h0 : 0 < c) (hc : c < xs.length) : ∃ p, IsKid xs p c :=
  kid_exists ht hc c 0 (by omega) h0 (by rw [fin_root ht]; exact hc)

/-- v stands at u or below it -/
def bel (xs : List Int) (v u : Nat) : Bool := decide (u ≤ v) && decide (v < fin xs u)
theorem bel_iff {xs : List Int} {v u : Nat} : bel xs v u = true ↔ u ≤ v ∧ v < fin xs u := by simp [bel]
def meetDown (xs : List Int) (v w : Nat) : Nat → Nat
  | 0 => 0
  | u + 1 => if bel xs v (u + 1) && bel xs w (u + 1) then u + 1 else meetDown xs v w u
theorem meetDown_hit {xs : List Int} {v w u : Nat} (h : (bel xs v u && bel xs w u) = true) : meetDown xs v w u = u := by
  cases u with
  | zero => rfl
  | succ u => rw [meetDown, if_pos h]
theorem meetDown_miss {xs : List Int} {v w u : Nat} (h : (bel xs v (u + 1) && bel xs w (u + 1)) = false) : meetDown xs v w (u + 1) = meetDown xs v w u := by rw [meetDown, if_neg (by simp [h])]
theorem meetDown_le (xs : List Int) (v w : Nat) : ∀ u, meetDown xs v w u ≤ u := by
  intro u
  induction u with
  | zero => exact Nat.le_refl _
  | succ u ih => rw [meetDown]; split <;> omega
theorem meetDown_bel {xs : List Int} (ht : isTree xs = true) {v w : Nat} (hv : v < xs.length) (hw : w < xs.length) : ∀ u, bel xs v (meetDown xs v w u) = true ∧ bel xs w (meetDown xs v w u) = true := by
  intro u
  induction u with
  | zero => simp only [meetDown, bel_iff, fin_root ht]; omega
  | succ u ih =>
    rw [meetDown]
    split
    · rename_i h; simpa using h
    · exact ih
theorem meetDown_max {xs : List Int} {v w : Nat} : ∀ u r, r ≤ u → bel xs v r = true → bel xs w r = true → r ≤ meetDown xs v w u := by
  intro u
  induction u with
  | zero => intro r h _ _; omega
  | succ u ih =>
    intro r h h1 h2
    rcases Nat.lt_or_ge r (u + 1) with h3 | h3
    · have := ih r (by omega) h1 h2
      rw [meetDown]
      split <;> omega
    · obtain rfl : r = u + 1 := by omega
      rw [meetDown_hit (by simp [h1, h2])]
      exact Nat.le_refl _
def meet (xs : List Int) (v w : Nat) : Nat := meetDown xs v w (min v w)
/-- the model's walk: at the stop -/
theorem meet_stop {xs : List Int} {v w a : Nat} (h1 : bel xs v a = true) (h2 : bel xs w a = true) (h3 : meet xs v w ≤ a) : a = meet xs v w := by
  have b1 := bel_iff.1 h1
  have b2 := bel_iff.1 h2
  have := meetDown_max (xs := xs) (v := v) (w := w) (min v w) a (by omega) h1 h2
  simp only [meet] at *
  omega
/-- the model's walk: a step to the parent -/
theorem meet_step {xs : List Int} (ht : isTree xs = true) {v w a p : Nat} (hv : v < xs.length) (hw : w < xs.length) (h1 : bel xs v a = true) (h2 : bel xs w a = false) (h3 : meet xs v w ≤ a) (hp : IsKid xs p a) :
    bel xs v p = true ∧ meet xs v w ≤ p := by
  obtain ⟨m1, m2⟩ := meetDown_bel ht hv hw (min v w)
  have b1 := bel_iff.1 h1
  have hb := kid_bounds ht hp
  have hn := nest ht (v := p) (q := a) (by omega) (by omega) hb.2.1
  refine ⟨bel_iff.2 (by omega), ?_⟩
  have hm : meet xs v w ≠ a := fun e => by
    rw [← e] at h2
    simp only [meet] at h2
    rw [m2] at h2
    cases h2
  have b2 := bel_iff.1 m1
  exact kid_up ht hp (by omega) (by simp only [meet]; omega)
theorem meet_start {xs : List Int} {v w : Nat} (hv : v < xs.length) : bel xs v v = true ∧ meet xs v w ≤ v := by
  have := meetDown_le xs v w (min v w)
  have h2 := fin_gt hv
  exact ⟨bel_iff.2 ⟨Nat.le_refl _, h2⟩, by simp only [meet]; omega⟩
end Go.Proofs.Ytdgcjkgbglofbaa.M
