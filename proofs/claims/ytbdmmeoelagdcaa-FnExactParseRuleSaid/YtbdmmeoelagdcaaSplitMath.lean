/- A text cut at each '>', and at the first: mathematics. -/
import Derived.Test.YtbdmmeoelagdcaaFnIsRule
import Derived.Lib.Bytealg
namespace Go.Proofs.Ytbdmmeoelagdcaa
open Go.RowKit
namespace M
/-- the pieces that are whole after the first k bytes, and where the next one begins -/
def cutsTo (t : ByteArray) : Nat → List ByteArray × Nat
  | 0 => ([], 0)
  | k + 1 => if t.data.toList[k]? = some 62 then ((cutsTo t k).1 ++ [t.extract (cutsTo t k).2 k], k + 1) else cutsTo t k
theorem cuts_hit {t : ByteArray} {k : Nat} (h : t.data.toList[k]? = some 62) : cutsTo t (k + 1) = ((cutsTo t k).1 ++ [t.extract (cutsTo t k).2 k], k + 1) := by rw [cutsTo, if_pos h]
theorem cuts_miss {t : ByteArray} {k : Nat} (h : ¬ t.data.toList[k]? = some 62) : cutsTo t (k + 1) = cutsTo t k := by rw [cutsTo, if_neg h]
theorem cuts_le (t : ByteArray) : ∀ k, (cutsTo t k).2 ≤ k
  | 0 => Nat.le_refl _
  | k + 1 => by
    by_cases h : t.data.toList[k]? = some 62
    · rw [cuts_hit h]; exact Nat.le_refl _
    · rw [cuts_miss h]; exact Nat.le_succ_of_le (cuts_le t k)
theorem cuts_len (t : ByteArray) : ∀ k, (cutsTo t k).1.length ≤ k
  | 0 => Nat.le_refl _
  | k + 1 => by
    by_cases h : t.data.toList[k]? = some 62
    · rw [cuts_hit h]; simp; exact cuts_len t k
    · rw [cuts_miss h]; exact Nat.le_succ_of_le (cuts_len t k)
theorem cuts_mono (t : ByteArray) {j : Nat} : ∀ {k}, j ≤ k → (cutsTo t j).1.length ≤ (cutsTo t k).1.length := by
  intro k h
  induction h with
  | refl => exact Nat.le_refl _
  | @step m _ ih =>
    by_cases h : t.data.toList[m]? = some 62
    · rw [cuts_hit h]; simp; exact Nat.le_succ_of_le ih
    · rw [cuts_miss h]; exact ih
theorem cuts_still {t : ByteArray} {j : Nat} : ∀ {k}, j ≤ k → (∀ i, j ≤ i → i < k → ¬ t.data.toList[i]? = some 62) → cutsTo t k = cutsTo t j := by
  intro k h
  induction h with
  | refl => intro _; rfl
  | @step m hm ih =>
    intro hn
    rw [cuts_miss (hn m hm (Nat.lt_succ_self m)), ih fun i h1 h2 => hn i h1 (Nat.lt_succ_of_lt h2)]
/-- all pieces -/
def cuts (t : ByteArray) : List ByteArray := (cutsTo t t.size).1 ++ [t.extract (cutsTo t t.size).2 t.size]
/-- where the first '>' stands, or the text's end -/
def gt (t : ByteArray) : Nat := t.data.toList.idxOf 62
def leftOf (t : ByteArray) : ByteArray := t.extract 0 (gt t)
def rightOf (t : ByteArray) : ByteArray := t.extract (gt t + 1) t.size
theorem gt_le (t : ByteArray) : gt t ≤ t.size := by
  have := List.idxOf_le_length (a := (62 : UInt8)) (l := t.data.toList)
  rw [gt, Lib.size_eq t]; exact this
theorem gt_before {t : ByteArray} {i : Nat} (h : i < gt t) : ¬ t.data.toList[i]? = some 62 := by
  intro e
  have hl := (List.getElem?_eq_some_iff.1 e).1
  have h1 := List.not_of_lt_findIdx (p := (· == (62 : UInt8))) (xs := t.data.toList) h
  rw [List.getElem?_eq_getElem hl] at e
  injection e with e
  rw [e] at h1
  exact absurd h1 (by decide)
theorem gt_at {t : ByteArray} (h : gt t < t.size) : t.data.toList[gt t]? = some 62 := by
  have hl : gt t < t.data.toList.length := by rw [← Lib.size_eq t]; exact h
  rw [List.getElem?_eq_getElem hl]
  exact congrArg some (eq_of_beq (List.findIdx_getElem (p := (· == (62 : UInt8))) (xs := t.data.toList) (w := hl)))
theorem isRule_nil (l : List UInt8) : isRule l [] = false := by simp [isRule, isRight]
theorem isRule_gt {l r : List UInt8} (h : (62 : UInt8) ∈ r) : isRule l r = false := by
  rw [isRule, isRight]
  cases hp : isPat l with
  | false => rfl
  | true =>
    by_cases h1 : 1 < l.length
    · obtain ⟨_, _, hok, _⟩ := pat_long hp h1
      have : (r.all fun c => l.contains c) = false := List.all_eq_false.2 ⟨62, h, fun e => by
        have := List.all_eq_true.1 hok 62 (List.contains_iff_mem.1 e)
        exact absurd this (by decide)⟩
      rw [this]; simp
    · rw [decide_eq_false h1]; simp
theorem extract_list (t : ByteArray) (i j : Nat) : (t.extract i j).data.toList = (t.data.toList.take j).drop i := by
  rw [ByteArray.data_extract, Array.toList_extract, List.extract_eq_take_drop, List.drop_take]
/-- two pieces: the sides -/
theorem cuts_two {t : ByteArray} (h : (cuts t).length = 2) : cuts t = [leftOf t, rightOf t] := by
  have hz : cutsTo t (gt t) = ([], 0) := cuts_still (Nat.zero_le _) fun i _ h => gt_before h
  rcases Nat.lt_or_ge (gt t) t.size with hl | hl
  · have h1 := cuts_hit (gt_at hl)
    rw [hz] at h1
    have hn : ∀ i, gt t + 1 ≤ i → i < t.size → ¬ t.data.toList[i]? = some 62 := fun i hi hi2 e => by
      have h2 := cuts_mono t hi
      rw [h1] at h2
      have h3 := congrArg (fun x => x.1.length) (cuts_hit e)
      have h4 := cuts_mono t (show i + 1 ≤ t.size from hi2)
      simp at h3 h2
      rw [cuts, List.length_append, List.length_singleton] at h
      omega
    rw [cuts, cuts_still (show gt t + 1 ≤ t.size from hl) hn, h1]
    rfl
  · have e : gt t = t.size := Nat.le_antisymm (gt_le t) hl
    rw [cuts, ← e, hz] at h
    simp at h
/-- not two pieces: no rule -/
theorem cuts_not {t : ByteArray} (h : (cuts t).length ≠ 2) : isRule (leftOf t).data.toList (rightOf t).data.toList = false := by
  have hz : cutsTo t (gt t) = ([], 0) := cuts_still (Nat.zero_le _) fun i _ h => gt_before h
  rcases Nat.lt_or_ge (gt t) t.size with hl | hl
  · have h1 := cuts_hit (gt_at hl)
    rw [hz] at h1
    by_cases hn : ∀ i, gt t + 1 ≤ i → i < t.size → ¬ t.data.toList[i]? = some 62
    · exfalso
      apply h
      rw [cuts, cuts_still (show gt t + 1 ≤ t.size from hl) hn, h1]
      rfl
    · apply isRule_gt
      have : ∃ i, gt t + 1 ≤ i ∧ i < t.size ∧ t.data.toList[i]? = some 62 := by
        apply Classical.byContradiction
        intro hc
        exact hn fun i a b e => hc ⟨i, a, b, e⟩
      obtain ⟨i, a, b, e⟩ := this
      rw [rightOf, extract_list, List.take_of_length_le (by rw [Lib.size_eq t]; exact Nat.le_refl _)]
      exact List.mem_of_getElem? (i := i - (gt t + 1)) (by rw [List.getElem?_drop, show gt t + 1 + (i - (gt t + 1)) = i by omega]; exact e)
  · have : (rightOf t).data.toList = [] := by
      rw [rightOf, extract_list]
      exact List.drop_eq_nil_of_le (by rw [List.length_take]; omega)
    rw [this, isRule_nil]
end M
noncomputable def F_ParseRule (t : ByteArray) : ByteArray × ByteArray × Int := if M.isRule (M.leftOf t).data.toList (M.rightOf t).data.toList then (M.leftOf t, M.rightOf t, 0) else (⟨#[]⟩, ⟨#[]⟩, 6)
end Go.Proofs.Ytbdmmeoelagdcaa
