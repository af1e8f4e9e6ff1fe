/- Mathematics of brackets: their digits lead back to the text of the binary tree. -/
import Derived.Test.YtkeahaoeiiigeaaDoorFnBracketsOf
import Derived.Lib.MapLaws
import Derived.Lib.TrimAscii
namespace Go.Proofs.YtkeahaoeiiigeaaDoor

/-- the program's digit of a rune -/
def digF (x : Int) : Int := if x = 40 then 49 else if x = 41 then -1 else 48
/-- the program's digits of an ASCII text, and the model's of any -/
def digs (l : List UInt8) : List UInt8 := l.flatMap fun b => if b = 40 then [49] else if b = 41 then [] else [48]
def sdig (b : UInt8) : List UInt8 := if b = 40 then [49] else if 97 ≤ b ∧ b ≤ 122 then [48] else []

theorem brk_ascii : ∀ (t : M.Bin) (k : Nat), k + t.n ≤ 25 → ∀ b ∈ t.brk k, b.toNat < 128
  | .nil, k, h, b, hb => by
    simp only [M.Bin.brk, List.mem_singleton] at hb
    simp only [M.Bin.n] at h
    subst hb
    rw [UInt8.toNat_ofNat']
    omega
  | .node l r, k, h, b, hb => by
    simp only [M.Bin.n] at h
    simp only [M.Bin.brk, List.mem_append, List.mem_cons, List.not_mem_nil, or_false, or_assoc] at hb
    rcases hb with rfl | hb | hb | rfl
    · decide
    · exact brk_ascii l k (by omega) b hb
    · exact brk_ascii r (k + l.n + 1) (by omega) b hb
    · decide
theorem letter_nat {k : Nat} (h : k ≤ 25) : (UInt8.ofNat (97 + k)).toNat = 97 + k := by rw [UInt8.toNat_ofNat']; omega
theorem digs_brk : ∀ (t : M.Bin) (k : Nat), k + t.n ≤ 25 → digs (t.brk k) = t.txt
  | .nil, k, h => by
    simp only [M.Bin.n] at h
    have e := letter_nat (k := k) (by omega)
    have h1 : UInt8.ofNat (97 + k) ≠ 40 := fun e2 => by rw [e2] at e; simp at e; omega
    have h2 : UInt8.ofNat (97 + k) ≠ 41 := fun e2 => by rw [e2] at e; simp at e; omega
    rw [digs, M.Bin.brk, M.Bin.txt]
    generalize UInt8.ofNat (97 + k) = c at *
    simp [h1, h2]
  | .node l r, k, h => by
    simp only [M.Bin.n] at h
    have hl := digs_brk l k (by omega)
    have hr := digs_brk r (k + l.n + 1) (by omega)
    rw [digs] at hl hr ⊢
    rw [M.Bin.brk, M.Bin.txt, List.flatMap_append, List.flatMap_cons, List.flatMap_append, hl, hr]
    simp
theorem sdig_brk : ∀ (t : M.Bin) (k : Nat), k + t.n ≤ 25 → (t.brk k).flatMap sdig = t.txt
  | .nil, k, h => by
    simp only [M.Bin.n] at h
    have e := letter_nat (k := k) (by omega)
    have h1 : UInt8.ofNat (97 + k) ≠ 40 := fun e2 => by rw [e2] at e; simp at e; omega
    have h2 : 97 ≤ UInt8.ofNat (97 + k) ∧ UInt8.ofNat (97 + k) ≤ 122 := by
      constructor
      · rw [UInt8.le_iff_toNat_le, e]; simp
      · rw [UInt8.le_iff_toNat_le, e]; simp; omega
    rw [M.Bin.brk, M.Bin.txt]
    generalize UInt8.ofNat (97 + k) = c at *
    simp [sdig, h1, h2]
  | .node l r, k, h => by
    simp only [M.Bin.n] at h
    rw [M.Bin.brk, M.Bin.txt, List.flatMap_append, List.flatMap_cons, List.flatMap_append, sdig_brk l k (by omega), sdig_brk r (k + l.n + 1) (by omega)]
    simp [sdig]
theorem map_digs : ∀ (l : List UInt8), (∀ b ∈ l, b.toNat < 128) → Lib.mapD digF l = digs l
  | [], _ => rfl
  | b :: l, h => by
    have hb := h b (by simp)
    rw [Lib.mapD_step _ _ (by simp), Lib.decodeL_ascii b l hb]
    have ih := map_digs l (fun c hc => h c (by simp [hc]))
    simp only [List.drop_succ_cons, List.drop_zero, ih]
    rw [digs, digs, List.flatMap_cons]
    congr 1
    by_cases h40 : b = 40
    · subst h40; decide
    · by_cases h41 : b = 41
      · subst h41; decide
      · have n40 : ¬ ((b.toNat : Int) = 40) := fun e => h40 (UInt8.toNat_inj.1 (by simp; omega))
        have n41 : ¬ ((b.toNat : Int) = 41) := fun e => h41 (UInt8.toNat_inj.1 (by simp; omega))
        rw [if_neg h40, if_neg h41, digF, if_neg n40, if_neg n41]
        decide
theorem digF_len (r : Int) : (if 0 ≤ digF r then Lib.encodeRune (digF r) else []).length ≤ 1 := by
  by_cases h1 : r = 40
  · rw [digF, if_pos h1]; decide
  · by_cases h2 : r = 41
    · rw [digF, if_neg h1, if_pos h2]; decide
    · rw [digF, if_neg h1, if_neg h2]; decide
theorem mapD_dig_len : ∀ (n : Nat) (l : List UInt8), l.length ≤ n → (Lib.mapD digF l).length ≤ l.length
  | 0, l, h => by
    have : l = [] := List.eq_nil_of_length_eq_zero (by omega)
    subst this
    simp [Lib.mapD_nil]
  | n + 1, l, h => by
    by_cases h0 : l = []
    · subst h0; simp [Lib.mapD_nil]
    · have h1 := Lib.decodeL_width l
      have h2 := List.length_pos_iff.2 h0
      have ih := mapD_dig_len n (l.drop (Lib.decodeL l).2) (by rw [List.length_drop]; omega)
      have h3 := digF_len ((Lib.decodeL l).1 : Int)
      rw [Lib.mapD_step _ _ h0, List.length_append]
      rw [List.length_drop] at ih
      omega
/-- what is told when the digits are known -/
noncomputable def parsed (w s : ByteArray) : ByteArray × Int := if okB w = true ∧ brS (treeOf w) 0 = s then (w, 0) else (⟨#[]⟩, 6)
theorem parsed_no {w : ByteArray} (h : okB w = false) (s : ByteArray) : parsed w s = (⟨#[]⟩, 6) := by rw [parsed, if_neg (by rw [h]; simp)]
theorem parsed_hit {t : M.Bin} (h : okB t.str = true) {s : ByteArray} (hs : brS t 0 = s) : parsed t.str s = (t.str, 0) := by rw [parsed, treeOf_str, if_pos ⟨h, hs⟩]
theorem parsed_miss (t : M.Bin) {s : ByteArray} (hs : ¬ brS t 0 = s) : parsed t.str s = (⟨#[]⟩, 6) := by rw [parsed, treeOf_str, if_neg (fun h => hs h.2)]
/-- the reading of brackets -/
noncomputable def F_ParseBrackets (s : ByteArray) : ByteArray × Int := parsed (M.bs (s.data.toList.flatMap sdig)) s
theorem parse_same (s : ByteArray) : F_ParseBrackets s = parsed (M.bs (Lib.mapD digF s.data.toList)) s := by
  have key : ∀ t : M.Bin, t.n ≤ 23 → brS t 0 = s → M.bs (s.data.toList.flatMap sdig) = t.str ∧ M.bs (Lib.mapD digF s.data.toList) = t.str := fun t ht e => by
    have hs : s.data.toList = t.brk 0 := by rw [← e, brS, M.bs_data]
    rw [hs, sdig_brk t 0 (by omega), map_digs _ (brk_ascii t 0 (by omega)), digs_brk t 0 (by omega)]
    exact ⟨rfl, rfl⟩
  rw [F_ParseBrackets]
  by_cases h1 : okB (M.bs (s.data.toList.flatMap sdig)) = true ∧ brS (treeOf (M.bs (s.data.toList.flatMap sdig))) 0 = s
  · obtain ⟨t, e, ht⟩ := okB_inv h1.1
    have h2 := h1.2
    rw [e, treeOf_str] at h2
    have := key t ht h2
    rw [this.1, this.2]
  · by_cases h2 : okB (M.bs (Lib.mapD digF s.data.toList)) = true ∧ brS (treeOf (M.bs (Lib.mapD digF s.data.toList))) 0 = s
    · obtain ⟨t, e, ht⟩ := okB_inv h2.1
      have h3 := h2.2
      rw [e, treeOf_str] at h3
      have := key t ht h3
      rw [this.1, this.2]
    · rw [parsed, parsed, if_neg h1, if_neg h2]
end Go.Proofs.YtkeahaoeiiigeaaDoor
