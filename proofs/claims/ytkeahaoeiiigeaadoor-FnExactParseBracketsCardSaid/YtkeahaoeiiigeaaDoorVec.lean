/- Vectors of binary trees, mirrored ones, inner orders, brackets: the mathematics. No program is named here. -/
import Derived.Test.YtkeahaoeiiigeaaDoorBin
namespace Go.Proofs.YtkeahaoeiiigeaaDoor.M
/-- left and right exchanged everywhere -/
def Bin.mirror : Bin → Bin
  | .nil => .nil
  | .node l r => .node r.mirror l.mirror
theorem Bin.mirror_n : ∀ t : Bin, t.mirror.n = t.n
  | .nil => rfl
  | .node l r => by simp only [Bin.mirror, Bin.n, r.mirror_n, l.mirror_n]; omega
/-- the nodes in inner order, the root's number given -/
def Bin.inner : Bin → Nat → List Int
  | .nil, _ => []
  | .node l r, k => l.inner (k + 1) ++ ((k : Int) :: r.inner (k + 1 + l.n))
theorem Bin.inner_len : ∀ (t : Bin) (k : Nat), (t.inner k).length = t.n
  | .nil, _ => rfl
  | .node l r, k => by simp only [Bin.inner, Bin.n, List.length_append, List.length_cons, l.inner_len, r.inner_len]; omega
/-- the numbers of nodes at the right, in inner order -/
def Bin.vec : Bin → List Int
  | .nil => []
  | .node l r => l.vec ++ ((r.n : Int) :: r.vec)
theorem Bin.vec_len : ∀ t : Bin, t.vec.length = t.n
  | .nil => rfl
  | .node l r => by simp only [Bin.vec, Bin.n, List.length_append, List.length_cons, l.vec_len, r.vec_len]; omega
/-- brackets, the first letter's number given -/
def Bin.brk : Bin → Nat → List UInt8
  | .nil, k => [UInt8.ofNat (97 + k)]
  | .node l r, k => 40 :: (l.brk k ++ r.brk (k + l.n + 1)) ++ [41]
theorem Bin.brk_len : ∀ (t : Bin) (k : Nat), (t.brk k).length = 3 * t.n + 1
  | .nil, _ => rfl
  | .node l r, k => by simp only [Bin.brk, Bin.n, List.length_append, List.length_cons, List.length_nil, l.brk_len, r.brk_len]; omega
/-- what a list must be to be a vector -/
def good (l : List Int) : Prop := ∀ (i : Nat) (x : Int), l[i]? = some x → 0 ≤ x ∧ (i : Int) + x < l.length ∧ ∀ (j : Nat) (y : Int), i ≤ j → (j : Int) ≤ i + x → l[j]? = some y → (j : Int) + y ≤ i + x
theorem good_nil : good [] := fun i x h => by simp at h
theorem good_split {a b : List Int} {x : Int} (h : good (a ++ x :: b)) (hx : x = b.length) (ha : ∀ (i : Nat) (y : Int), a[i]? = some y → (i : Int) + y ≠ a.length + x) : good a ∧ good b := by
  have hax : (a ++ x :: b)[a.length]? = some x := by simp
  have hA : ∀ (i : Nat) (y : Int), a[i]? = some y → (a ++ x :: b)[i]? = some y := fun i y e => by
    rw [List.getElem?_append_left (by have := (List.getElem?_eq_some_iff.1 e).1; omega)]; exact e
  have hB : ∀ (i : Nat) (y : Int), b[i]? = some y → (a ++ x :: b)[a.length + 1 + i]? = some y := fun i y e => by
    rw [List.getElem?_append_right (by omega), show a.length + 1 + i - a.length = i + 1 by omega, List.getElem?_cons_succ]; exact e
  constructor
  · intro i y e
    have h1 := h i y (hA i y e)
    have hi : i < a.length := (List.getElem?_eq_some_iff.1 e).1
    refine ⟨h1.1, ?_, fun j z hij hj ez => h1.2.2 j z hij hj (hA j z ez)⟩
    by_cases hc : (i : Int) + y < a.length
    · exact hc
    · have h2 := h1.2.2 a.length x (by omega) (by omega) hax
      have h3 := h1.2.1
      have h4 := ha i y e
      simp only [List.length_append, List.length_cons] at h3
      omega
  · intro i y e
    have h1 := h _ y (hB i y e)
    refine ⟨h1.1, ?_, fun j z hij hj ez => ?_⟩
    · have h3 := h1.2.1
      simp only [List.length_append, List.length_cons] at h3
      omega
    · have := h1.2.2 (a.length + 1 + j) z (by omega) (by omega) (hB j z ez)
      omega
theorem vec_good : ∀ t : Bin, good t.vec
  | .nil => good_nil
  | .node l r => by
    have hl := vec_good l
    have hr := vec_good r
    have nl := l.vec_len
    have nr := r.vec_len
    intro i x e
    simp only [Bin.vec] at e ⊢
    simp only [List.length_append, List.length_cons]
    have hcase : ∀ (j : Nat) (y : Int), (l.vec ++ (r.n : Int) :: r.vec)[j]? = some y → (j < l.n ∧ l.vec[j]? = some y) ∨ (j = l.n ∧ y = r.n) ∨ (l.n < j ∧ r.vec[j - l.n - 1]? = some y) := fun j y e => by
      rcases Nat.lt_trichotomy j l.n with h | h | h
      · rw [List.getElem?_append_left (by omega)] at e; exact .inl ⟨h, e⟩
      · rw [List.getElem?_append_right (by omega), show j - l.vec.length = 0 by omega] at e
        simp only [List.getElem?_cons_zero, Option.some.injEq] at e
        exact .inr (.inl ⟨h, e.symm⟩)
      · rw [List.getElem?_append_right (by omega), show j - l.vec.length = (j - l.n - 1) + 1 by omega, List.getElem?_cons_succ] at e
        exact .inr (.inr ⟨h, e⟩)
    rcases hcase i x e with ⟨hi, e⟩ | ⟨hi, rfl⟩ | ⟨hi, e⟩
    · have h1 := hl i x e
      refine ⟨h1.1, by omega, fun j y hij hj ey => ?_⟩
      rcases hcase j y ey with ⟨hj', ey⟩ | ⟨hj', _⟩ | ⟨hj', _⟩
      · exact h1.2.2 j y hij hj ey
      · omega
      · omega
    · refine ⟨by omega, by omega, fun j y hij hj ey => ?_⟩
      rcases hcase j y ey with ⟨hj', _⟩ | ⟨hj', rfl⟩ | ⟨hj', ey⟩
      · omega
      · omega
      · have := (hr _ y ey).2.1; omega
    · have h1 := hr _ x e
      refine ⟨h1.1, by omega, fun j y hij hj ey => ?_⟩
      rcases hcase j y ey with ⟨hj', _⟩ | ⟨hj', _⟩ | ⟨hj', ey⟩
      · omega
      · omega
      · have := h1.2.2 _ y (by omega) (by omega) ey; omega
/-- the lesser number at each place -/
def meet (a b : List Int) : List Int := List.zipWith min a b
theorem meet_len {a b : List Int} (h : a.length = b.length) : (meet a b).length = a.length := by simp [meet, h]
theorem meet_good {a b : List Int} (h : a.length = b.length) (ha : good a) (hb : good b) : good (meet a b) := by
  have hm : ∀ (i : Nat) (x : Int), (meet a b)[i]? = some x → ∃ y z, a[i]? = some y ∧ b[i]? = some z ∧ x = min y z := fun i x e => by
    rw [meet, List.getElem?_zipWith] at e
    cases h1 : a[i]? with
    | none => rw [h1] at e; simp at e
    | some y => cases h2 : b[i]? with
      | none => rw [h1, h2] at e; simp at e
      | some z => rw [h1, h2] at e; simp at e; exact ⟨y, z, rfl, rfl, e.symm⟩
  intro i x e
  obtain ⟨y, z, e1, e2, rfl⟩ := hm i x e
  have g1 := ha i y e1
  have g2 := hb i z e2
  rw [meet_len h]
  refine ⟨by omega, by omega, fun j u hij hj ej => ?_⟩
  obtain ⟨p, q, f1, f2, rfl⟩ := hm j u ej
  rcases Int.le_total y z with hyz | hyz
  · have := g1.2.2 j p hij (by omega) f1; omega
  · have := g2.2.2 j q hij (by omega) f2; omega
/-- the first place with all that follow at its right -/
def root (l : List Int) : Option Nat := (List.range l.length).find? fun i => l[i]?.getD 0 == (l.length : Int) - 1 - i
theorem root_at {l : List Int} {i : Nat} {x : Int} (hi : l[i]? = some x) (hx : x = (l.length : Int) - 1 - i) (h : ∀ (j : Nat) (y : Int), j < i → l[j]? = some y → y ≠ (l.length : Int) - 1 - j) : root l = some i := by
  have hl := (List.getElem?_eq_some_iff.1 hi).1
  rw [root, List.find?_range_eq_some]
  refine ⟨by rw [hi]; simp [hx], by simpa using hl, fun j hj => ?_⟩
  have hj' : l[j]? = some (l[j]'(by omega)) := List.getElem?_eq_getElem (by omega)
  have := h j _ hj hj'
  rw [hj']
  simpa using this
theorem root_none {l : List Int} (h : ∀ (j : Nat) (y : Int), l[j]? = some y → y ≠ (l.length : Int) - 1 - j) : root l = none := by
  rw [root, List.find?_eq_none]
  intro j hj
  have hj2 : j < l.length := by simpa using hj
  have hj' : l[j]? = some (l[j]'(by omega)) := List.getElem?_eq_getElem (by omega)
  have := h j _ hj'
  rw [hj']
  simpa using this
/-- the binary tree with a vector -/
def ofVec : Nat → List Int → Option Bin
  | 0, _ => none
  | f + 1, l => if l.length = 0 then some .nil else match root l with
    | none => none
    | some i => match ofVec f (l.take i), ofVec f (l.drop (i + 1)) with
      | some a, some b => some (.node a b)
      | _, _ => none
theorem ofVec_nil (f : Nat) {l : List Int} (h : l.length = 0) : ofVec (f + 1) l = some .nil := by rw [ofVec, if_pos h]
theorem ofVec_none (f : Nat) {l : List Int} (h0 : l.length ≠ 0) (h : root l = none) : ofVec (f + 1) l = none := by rw [ofVec, if_neg h0, h]
theorem ofVec_some (f : Nat) {l : List Int} {i : Nat} (h0 : l.length ≠ 0) (h : root l = some i) : ofVec (f + 1) l = (match ofVec f (l.take i), ofVec f (l.drop (i + 1)) with
      | some a, some b => some (.node a b)
      | _, _ => none) := by rw [ofVec, if_neg h0, h]
theorem ofVec_n : ∀ (f : Nat) (l : List Int) (t : Bin), ofVec f l = some t → t.n = l.length := by
  intro f
  induction f with
  | zero => intro l t h; cases h
  | succ f ih =>
    intro l t h
    by_cases h0 : l.length = 0
    · rw [ofVec_nil f h0] at h; injection h with h; subst h; exact h0.symm
    · cases hr : root l with
      | none => rw [ofVec_none f h0 hr] at h; cases h
      | some i =>
        rw [ofVec_some f h0 hr] at h
        have hi : i < l.length := by
          rw [root, List.find?_range_eq_some] at hr
          simpa using hr.2.1
        split at h
        · rename_i a b ha hb
          injection h with h
          subst h
          have h1 := ih _ _ ha
          have h2 := ih _ _ hb
          simp only [List.length_take, List.length_drop] at h1 h2
          simp only [Bin.n]
          omega
        · cases h
theorem ofVec_good : ∀ (f : Nat) (l : List Int), l.length < f → good l → ∃ t, ofVec f l = some t := by
  intro f
  induction f with
  | zero => intro l h; omega
  | succ f ih =>
    intro l hf hg
    by_cases h0 : l.length = 0
    · exact ⟨_, ofVec_nil f h0⟩
    · cases hr : root l with
      | none =>
        exfalso
        have hl : l[l.length - 1]? = some (l[l.length - 1]'(by omega)) := List.getElem?_eq_getElem (by omega)
        have h1 := hg _ _ hl
        rw [root, List.find?_eq_none] at hr
        have h2 := hr (l.length - 1) (by simp; omega)
        rw [hl] at h2
        simp only [Option.getD_some, beq_iff_eq] at h2
        omega
      | some i =>
        have hr' := hr
        rw [root, List.find?_range_eq_some] at hr'
        obtain ⟨e1, e2, e3⟩ := hr'
        have hi : i < l.length := by simpa using e2
        have hli : l[i]? = some (l[i]'hi) := List.getElem?_eq_getElem hi
        rw [hli] at e1
        simp only [Option.getD_some, beq_iff_eq] at e1
        have hsp : l.take i ++ l[i]'hi :: l.drop (i + 1) = l := by
          rw [← List.drop_eq_getElem_cons hi, List.take_append_drop]
        have hsg := hg
        rw [← hsp] at hsg
        have ht : (l.take i).length = i := by rw [List.length_take]; omega
        obtain ⟨g1, g2⟩ := good_split hsg (by rw [e1, List.length_drop]; omega) (fun j y ej hc => by
          have hj : j < i := by have := (List.getElem?_eq_some_iff.1 ej).1; omega
          rw [List.getElem?_take_of_lt hj] at ej
          have := e3 j hj
          rw [ej] at this
          simp only [Option.getD_some, Bool.not_eq_true', beq_eq_false_iff_ne, ne_eq] at this
          omega)
        obtain ⟨a, ha⟩ := ih _ (by rw [ht]; omega) g1
        obtain ⟨b, hb⟩ := ih _ (by rw [List.length_drop]; omega) g2
        exact ⟨.node a b, by rw [ofVec_some f h0 hr, ha, hb]⟩
theorem vec_back : ∀ (t : Bin) (f : Nat), t.n < f → ofVec f t.vec = some t
  | .nil, f, h => by
    obtain ⟨f, rfl⟩ : ∃ g, f = g + 1 := ⟨f - 1, by omega⟩
    exact ofVec_nil f rfl
  | .node l r, f, h => by
    obtain ⟨f, rfl⟩ : ∃ g, f = g + 1 := ⟨f - 1, by omega⟩
    have nl := l.vec_len
    have nr := r.vec_len
    have hlen : (Bin.node l r).vec.length = l.n + r.n + 1 := by rw [Bin.vec_len]; rfl
    have hroot : root (Bin.node l r).vec = some l.n := by
      refine root_at (x := (r.n : Int)) (by rw [Bin.vec, List.getElem?_append_right (by omega), nl]; simp) (by rw [hlen]; omega) fun j y hj e => ?_
      rw [Bin.vec, List.getElem?_append_left (by omega)] at e
      have := (vec_good l j y e).2.1
      rw [hlen]
      omega
    rw [ofVec_some f (by omega) hroot]
    have e1 : (Bin.node l r).vec.take l.n = l.vec := by rw [Bin.vec, List.take_append_of_le_length (by omega), List.take_of_length_le (by omega)]
    have e2 : (Bin.node l r).vec.drop (l.n + 1) = r.vec := by rw [Bin.vec, ← nl, List.drop_append]; simp
    simp only [Bin.n] at h
    rw [e1, e2, vec_back l f (by omega), vec_back r f (by omega)]
theorem vec_range (t : Bin) (i : Nat) (x : Int) (h : t.vec[i]? = some x) : 0 ≤ x ∧ x ≤ t.n := by
  have := vec_good t i x h
  rw [Bin.vec_len] at this
  omega
end Go.Proofs.YtkeahaoeiiigeaaDoor.M
