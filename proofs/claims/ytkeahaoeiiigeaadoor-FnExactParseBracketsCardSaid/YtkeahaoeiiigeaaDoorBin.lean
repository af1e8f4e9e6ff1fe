/- Binary trees and their texts of digits: the mathematics. No program is named here. -/
import Derived.Lib.Strings
namespace Go.Proofs.YtkeahaoeiiigeaaDoor.M
/-- a text by its bytes -/
def bs (l : List UInt8) : ByteArray := ⟨l.toArray⟩
theorem bs_self (s : ByteArray) : bs s.data.toList = s := rfl
theorem bs_data (l : List UInt8) : (bs l).data.toList = l := rfl
theorem bs_size (l : List UInt8) : (bs l).size = l.length := rfl
theorem bs_append (a b : List UInt8) : bs a ++ bs b = bs (a ++ b) := by
  apply ByteArray.ext
  rw [ByteArray.data_append]
  simp [bs]
theorem bs_extract (l : List UInt8) (a b : Nat) : (bs l).extract a b = bs ((l.drop a).take (b - a)) := by
  apply ByteArray.ext
  rw [ByteArray.data_extract]
  simp [bs, List.extract_eq_take_drop]
theorem bs_inj {a b : List UInt8} (h : bs a = bs b) : a = b := by
  have := congrArg (fun s => s.data.toList) h
  exact this
inductive Bin where
  | nil : Bin
  | node (l r : Bin) : Bin

/-- the number of nodes -/
def Bin.n : Bin → Nat
  | .nil => 0
  | .node l r => l.n + r.n + 1
/-- the text of digits -/
def Bin.txt : Bin → List UInt8
  | .nil => [48]
  | .node l r => 49 :: (l.txt ++ r.txt)
theorem Bin.txt_len : ∀ t : Bin, t.txt.length = 2 * t.n + 1
  | .nil => rfl
  | .node l r => by simp only [Bin.txt, Bin.n, List.length_cons, List.length_append, l.txt_len, r.txt_len]; omega
/-- what stands behind o parts -/
def after : List UInt8 → Nat → Option (List UInt8)
  | l, 0 => some l
  | [], _ + 1 => none
  | c :: r, o + 1 => if c = 48 then after r o else if c = 49 then after r (o + 2) else none
theorem after_zero (l : List UInt8) : after l 0 = some l := by cases l <;> rfl
theorem after_nil (o : Nat) : after [] (o + 1) = none := rfl
theorem after_0 (r : List UInt8) (o : Nat) : after (48 :: r) (o + 1) = after r o := by rw [after, if_pos rfl]
theorem after_1 (r : List UInt8) (o : Nat) : after (49 :: r) (o + 1) = after r (o + 2) := by rw [after, if_neg (by decide), if_pos rfl]
theorem after_x {c : UInt8} (r : List UInt8) (o : Nat) (h : c ≠ 48) (h' : c ≠ 49) : after (c :: r) (o + 1) = none := by rw [after, if_neg h, if_neg h']
theorem after_txt : ∀ (t : Bin) (r : List UInt8) (o : Nat), after (t.txt ++ r) (o + 1) = after r o
  | .nil, r, o => after_0 r o
  | .node a b, r, o => by
    rw [Bin.txt, List.cons_append, after_1, List.append_assoc, after_txt a, after_txt b]
theorem after_inv : ∀ (m : Nat) (l : List UInt8) (o : Nat) (r : List UInt8), l.length ≤ m → after l (o + 1) = some r → ∃ (t : Bin) (l' : List UInt8), l = t.txt ++ l' ∧ after l' o = some r := by
  intro m
  induction m with
  | zero =>
    intro l o r h e
    obtain rfl : l = [] := List.eq_nil_of_length_eq_zero (by omega)
    rw [after_nil] at e
    cases e
  | succ m ih =>
    intro l o r h e
    cases l with
    | nil => rw [after_nil] at e; cases e
    | cons c l =>
      simp only [List.length_cons] at h
      by_cases h0 : c = 48
      · subst h0; rw [after_0] at e; exact ⟨.nil, l, rfl, e⟩
      · by_cases h1 : c = 49
        · subst h1
          rw [after_1] at e
          obtain ⟨a, l1, rfl, e1⟩ := ih l (o + 1) r (by omega) e
          obtain ⟨b, l2, rfl, e2⟩ := ih l1 o r (by simp only [List.length_append] at h; omega) e1
          exact ⟨.node a b, l2, by simp [Bin.txt], e2⟩
        · rw [after_x _ _ h0 h1] at e; cases e
theorem after_one {l r : List UInt8} (h : after l 1 = some r) : ∃ t : Bin, l = t.txt ++ r := by
  obtain ⟨t, l', e, e'⟩ := after_inv _ l 0 r (Nat.le_refl _) h
  rw [after_zero] at e'
  injection e' with e'
  exact ⟨t, e' ▸ e⟩
theorem after_two (l : List UInt8) : after l 2 = (after l 1).bind fun r => after r 1 := by
  cases h : after l 1 with
  | some r =>
    obtain ⟨t, rfl⟩ := after_one h
    rw [after_txt]; rfl
  | none =>
    show _ = none
    cases h2 : after l 2 with
    | none => rfl
    | some r =>
      obtain ⟨t, l', rfl, _⟩ := after_inv _ l 1 r (Nat.le_refl _) h2
      rw [after_txt, after_zero] at h
      cases h
theorem after_len {l r : List UInt8} (h : after l 1 = some r) : r.length < l.length := by
  obtain ⟨t, rfl⟩ := after_one h
  have := t.txt_len
  simp only [List.length_append]
  omega
theorem after_self (t : Bin) : after t.txt 1 = some [] := by
  have := after_txt t [] 0
  rwa [List.append_nil, after_zero] at this
theorem txt_inj {a b : Bin} : ∀ {r s : List UInt8}, a.txt ++ r = b.txt ++ s → a = b ∧ r = s := by
  induction a generalizing b with
  | nil =>
    intro r s h
    cases b with
    | nil => simp only [Bin.txt, List.cons_append, List.nil_append, List.cons.injEq] at h; exact ⟨rfl, h.2⟩
    | node c d => simp only [Bin.txt, List.cons_append, List.cons.injEq] at h; exact absurd h.1 (by decide)
  | node l r ihl ihr =>
    intro r' s h
    cases b with
    | nil => simp only [Bin.txt, List.cons_append, List.cons.injEq] at h; exact absurd h.1 (by decide)
    | node c d =>
      simp only [Bin.txt, List.cons_append, List.cons.injEq, true_and, List.append_assoc] at h
      obtain ⟨e1, h1⟩ := ihl h
      obtain ⟨e2, h2⟩ := ihr h1
      exact ⟨by rw [e1, e2], h2⟩
/-- whether the bytes are those of the text of a binary tree -/
def isBin (l : List UInt8) : Bool := decide (l.length ≤ 47) && (after l 1 == some [])
theorem isBin_txt {t : Bin} (h : t.n ≤ 23) : isBin t.txt = true := by
  have := t.txt_len
  simp only [isBin, after_self, Bool.and_eq_true, decide_eq_true_eq, beq_self_eq_true, and_true]
  omega
theorem isBin_inv {l : List UInt8} (h : isBin l = true) : ∃ t : Bin, l = t.txt ∧ t.n ≤ 23 := by
  simp only [isBin, Bool.and_eq_true, decide_eq_true_eq, beq_iff_eq] at h
  obtain ⟨t, e⟩ := after_one h.2
  rw [List.append_nil] at e
  have := t.txt_len
  exact ⟨t, e, by rw [← e] at this; omega⟩
/-- the parts that are still to come at a place of a text -/
theorem after_place : ∀ (k : Nat) (l : List UInt8) (o : Nat) (r : List UInt8), after l o = some r → k + r.length < l.length → ∃ o', after (l.drop k) (o' + 1) = some r := by
  intro k
  induction k with
  | zero =>
    intro l o r h hk
    cases o with
    | zero => rw [after_zero] at h; injection h with h; subst h; omega
    | succ o => exact ⟨o, h⟩
  | succ k ih =>
    intro l o r h hk
    cases o with
    | zero => rw [after_zero] at h; injection h with h; subst h; omega
    | succ o =>
      cases l with
      | nil => rw [after_nil] at h; cases h
      | cons c l =>
        simp only [List.length_cons] at hk
        rw [List.drop_succ_cons]
        by_cases h0 : c = 48
        · subst h0; rw [after_0] at h; exact ih l o r h (by omega)
        · by_cases h1 : c = 49
          · subst h1; rw [after_1] at h; exact ih l (o + 2) r h (by omega)
          · rw [after_x _ _ h0 h1] at h; cases h
end Go.Proofs.YtkeahaoeiiigeaaDoor.M
