/- Places of nodes in texts of binary trees, and rotations there: the mathematics. No program is named here. -/
import Derived.Test.YtkeahaoeiiigeaaDoorVec
import Derived.Lib.Bytealg
namespace Go.Proofs.YtkeahaoeiiigeaaDoor.M
/-- how many bytes 49 -/
def ones : List UInt8 → Nat
  | [] => 0
  | c :: r => if c = 49 then ones r + 1 else ones r
theorem ones_append (a b : List UInt8) : ones (a ++ b) = ones a + ones b := by
  induction a with
  | nil => simp [ones]
  | cons c r ih =>
    rw [List.cons_append, ones, ones]
    by_cases h : c = 49
    · rw [if_pos h, if_pos h, ih]; omega
    · rw [if_neg h, if_neg h, ih]
theorem ones_txt : ∀ t : Bin, ones t.txt = t.n
  | .nil => by decide
  | .node l r => by rw [Bin.txt, ones, if_pos rfl, ones_append, ones_txt l, ones_txt r, Bin.n]
/-- the place of the byte 49 number i -/
def place : List UInt8 → Nat → Nat
  | [], _ => 0
  | c :: r, i => if c = 49 then (match i with | 0 => 0 | j + 1 => place r j + 1) else place r i + 1
theorem place_0 (r : List UInt8) : place (49 :: r) 0 = 0 := by rw [place, if_pos rfl]
theorem place_1 (r : List UInt8) (j : Nat) : place (49 :: r) (j + 1) = place r j + 1 := by rw [place, if_pos rfl]
theorem place_x {c : UInt8} (h : c ≠ 49) (r : List UInt8) (i : Nat) : place (c :: r) i = place r i + 1 := by cases i <;> rw [place, if_neg h]
theorem place_at : ∀ (l : List UInt8) (i : Nat), i < ones l → l[place l i]? = some 49
  | [], i, h => by simp [ones] at h
  | c :: r, i, h => by
    by_cases hc : c = 49
    · subst hc
      cases i with
      | zero => rw [place_0]; rfl
      | succ j =>
        rw [ones, if_pos rfl] at h
        rw [place_1, List.getElem?_cons_succ]
        exact place_at r j (by omega)
    · rw [ones, if_neg hc] at h
      rw [place_x hc, List.getElem?_cons_succ]
      exact place_at r i h
theorem place_lt {l : List UInt8} {i : Nat} (h : i < ones l) : place l i < l.length := (List.getElem?_eq_some_iff.1 (place_at l i h)).1
/-- the part that begins at a node, and what stands around it -/
theorem place_part {t : Bin} {i : Nat} (h : i < t.n) : ∃ (a b : Bin) (r : List UInt8), t.txt.drop (place t.txt i) = (Bin.node a b).txt ++ r := by
  have h1 : i < ones t.txt := by rw [ones_txt]; exact h
  have h2 := place_at t.txt i h1
  have h3 := place_lt h1
  obtain ⟨o, ho⟩ := after_place (place t.txt i) t.txt 1 [] (after_self t) (by simpa using h3)
  obtain ⟨s, r, e, _⟩ := after_inv _ _ o [] (Nat.le_refl _) ho
  cases s with
  | nil =>
    have : (t.txt.drop (place t.txt i))[0]? = some 48 := by rw [e]; rfl
    rw [List.getElem?_drop, Nat.add_zero, h2] at this
    exact absurd this (by decide)
  | node a b => exact ⟨a, b, r, e⟩
/-- a rotation at the root -/
def rotR : Bin → Option Bin
  | .node (.node a b) c => some (.node a (.node b c))
  | _ => none
def rotL : Bin → Option Bin
  | .node a (.node b c) => some (.node (.node a b) c)
  | _ => none
/-- the first byte 49 -/
theorem place_first : ∀ (l : List UInt8), 0 < ones l → Lib.indexByte l 49 = (place l 0 : Int) := by
  intro l
  induction l with
  | nil => intro h; simp [ones] at h
  | cons c r ih =>
    intro h
    by_cases hc : c = 49
    · subst hc; rw [place_0, Lib.indexByte, if_pos (by decide)]; rfl
    · rw [ones, if_neg hc] at h
      have hb : (c == 49) = false := beq_false_of_ne hc
      have hn : ((place r 0 : Int) == -1) = false := beq_false_of_ne (by omega)
      rw [place_x hc, Lib.indexByte, hb, ih h, hn]
      simp
/-- the next one -/
theorem place_next : ∀ (l : List UInt8) (i : Nat), i + 1 < ones l → place l (i + 1) = place l i + 1 + place (l.drop (place l i + 1)) 0 := by
  intro l
  induction l with
  | nil => intro i h; simp [ones] at h
  | cons c r ih =>
    intro i h
    by_cases hc : c = 49
    · subst hc
      rw [ones, if_pos rfl] at h
      rw [place_1]
      cases i with
      | zero => rw [place_0, List.drop_succ_cons, List.drop_zero]; omega
      | succ j =>
        rw [place_1, ih j (by omega), List.drop_succ_cons]; omega
    · rw [ones, if_neg hc] at h
      rw [place_x hc, place_x hc, ih i h, List.drop_succ_cons]; omega
theorem ones_drop : ∀ (l : List UInt8) (i : Nat), i < ones l → ones (l.drop (place l i + 1)) + i + 1 = ones l := by
  intro l
  induction l with
  | nil => intro i h; simp [ones] at h
  | cons c r ih =>
    intro i h
    by_cases hc : c = 49
    · subst hc
      rw [ones, if_pos rfl] at h ⊢
      cases i with
      | zero => rw [place_0, List.drop_succ_cons, List.drop_zero]
      | succ j => rw [place_1, List.drop_succ_cons]; have := ih j (by omega); omega
    · rw [ones, if_neg hc] at h ⊢
      rw [place_x hc, List.drop_succ_cons]
      exact ih i h
end Go.Proofs.YtkeahaoeiiigeaaDoor.M
