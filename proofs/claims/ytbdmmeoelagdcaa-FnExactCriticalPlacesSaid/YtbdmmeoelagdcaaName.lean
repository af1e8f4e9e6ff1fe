/- Letters named in their order: the mathematics. No program is named here. -/
import Derived.Test.YtbdmmeoelagdcaaCom
namespace Go.Proofs.Ytbdmmeoelagdcaa.M
/-- how many letters stand in a text -/
def numL (l : List UInt8) : Nat := l.countP isL
/-- a text with its letters named in their order, from the number n on -/
def nameFrom : Nat → List UInt8 → List UInt8
  | _, [] => []
  | n, c :: l => if isL c then UInt8.ofNat (97 + n) :: nameFrom (n + 1) l else c :: nameFrom n l
theorem numL_len (l : List UInt8) : numL l ≤ l.length := List.countP_le_length
theorem numL_snoc (l : List UInt8) (c : UInt8) : numL (l ++ [c]) = numL l + (if isL c then 1 else 0) := by
  rw [numL, numL, List.countP_append, List.countP_singleton]
theorem nameFrom_len : ∀ (l : List UInt8) (n : Nat), (nameFrom n l).length = l.length := by
  intro l
  induction l with
  | nil => intro n; rfl
  | cons c l ih => intro n; rw [nameFrom]; split <;> simp [ih]
theorem nameFrom_snoc : ∀ (l : List UInt8) (n : Nat) (c : UInt8), nameFrom n (l ++ [c]) = nameFrom n l ++ [if isL c then UInt8.ofNat (97 + (n + numL l)) else c] := by
  intro l
  induction l with
  | nil =>
    intro n c
    cases h : isL c <;> simp [nameFrom, h, numL]
  | cons d l ih =>
    intro n c
    rw [List.cons_append, nameFrom, nameFrom]
    cases h : isL d
    · simp only [Bool.false_eq_true, if_false]
      rw [ih, show numL (d :: l) = numL l by simp [numL, h], List.cons_append]
    · simp only [if_true]
      rw [ih, show numL (d :: l) = numL l + 1 by simp [numL, h], List.cons_append, show n + 1 + numL l = n + (numL l + 1) by omega]
/-- named up to a place -/
def namedTo (l : List UInt8) (k : Nat) : List UInt8 := nameFrom 0 (l.take k) ++ l.drop k
theorem namedTo_zero (l : List UInt8) : namedTo l 0 = l := by simp [namedTo, nameFrom]
theorem namedTo_end (l : List UInt8) {k : Nat} (h : l.length ≤ k) : namedTo l k = nameFrom 0 l := by rw [namedTo, List.take_of_length_le h, List.drop_of_length_le h, List.append_nil]
theorem namedTo_len (l : List UInt8) (k : Nat) : (namedTo l k).length = l.length := by
  rw [namedTo, List.length_append, nameFrom_len, List.length_take, List.length_drop]; omega
theorem namedTo_at {l : List UInt8} {k : Nat} {c : UInt8} (h : l[k]? = some c) : (namedTo l k)[k]? = some c := by
  have hk := (List.getElem?_eq_some_iff.1 h).1
  rw [namedTo, List.getElem?_append_right (by rw [nameFrom_len, List.length_take]; omega), nameFrom_len, List.length_take, show k - min k l.length = 0 by omega, List.getElem?_drop, Nat.add_zero]
  exact h
theorem take_snoc {l : List UInt8} {k : Nat} {c : UInt8} (h : l[k]? = some c) : l.take (k + 1) = l.take k ++ [c] := by rw [List.take_add_one, h]; rfl
theorem numL_take {l : List UInt8} {k : Nat} {c : UInt8} (h : l[k]? = some c) : numL (l.take (k + 1)) = numL (l.take k) + (if isL c then 1 else 0) := by rw [take_snoc h, numL_snoc]
theorem numL_take_le (l : List UInt8) (k : Nat) : numL (l.take k) ≤ numL l := by
  have := List.take_append_drop k l
  have h2 : numL l = numL (l.take k) + numL (l.drop k) := by
    conv => lhs; rw [← this]
    rw [numL, List.countP_append]; rfl
  omega
theorem namedTo_let {l : List UInt8} {k : Nat} {c : UInt8} (h : l[k]? = some c) (hc : isL c = true) : namedTo l (k + 1) = (namedTo l k).set k (UInt8.ofNat (97 + numL (l.take k))) := by
  have hk := (List.getElem?_eq_some_iff.1 h).1
  have hd : l.drop k = c :: l.drop (k + 1) := by
    have h2 := List.drop_eq_getElem_cons hk
    rw [List.getElem?_eq_getElem hk] at h
    injection h with h
    rw [h2, h]
  have hl : (nameFrom 0 (l.take k)).length = k := by rw [nameFrom_len, List.length_take]; omega
  rw [namedTo, namedTo, take_snoc h, nameFrom_snoc, if_pos hc, hd, List.set_append_right _ _ (by omega), hl, Nat.sub_self, List.set_cons_zero, List.append_assoc, Nat.zero_add]
  rfl
theorem namedTo_other {l : List UInt8} {k : Nat} {c : UInt8} (h : l[k]? = some c) (hc : isL c = false) : namedTo l (k + 1) = namedTo l k := by
  have hk := (List.getElem?_eq_some_iff.1 h).1
  have hd : l.drop k = c :: l.drop (k + 1) := by
    have h2 := List.drop_eq_getElem_cons hk
    rw [List.getElem?_eq_getElem hk] at h
    injection h with h
    rw [h2, h]
  rw [namedTo, namedTo, take_snoc h, nameFrom_snoc, if_neg (by simp [hc]), hd, List.append_assoc]
  rfl
/-- the bytes of patterns -/
def okP (c : UInt8) : Prop := isL c = true ∨ c = 40 ∨ c = 41
theorem close_ok : ∀ (l : List UInt8) (o : Nat), close l o = some [] → ∀ c ∈ l, okP c := by
  intro l
  induction l with
  | nil => intro o _ c hc; cases hc
  | cons d l ih =>
    intro o h
    cases o with
    | zero => rw [close_zero] at h; injection h with h; cases h
    | succ o =>
      have key : ∀ o', close l o' = some [] → okP d → ∀ c ∈ d :: l, okP c := fun o' h' hd c hc => by
        rcases List.mem_cons.1 hc with rfl | hc
        · exact hd
        · exact ih o' h' c hc
      rw [close] at h
      split at h
      · rename_i e; exact key _ h (.inr (.inr e))
      · split at h
        · rename_i e; exact key _ h (.inl e)
        · split at h
          · rename_i e; exact key _ h (.inr (.inl e))
          · cases h
theorem piece_ok {l : List UInt8} (h : piece l = some []) : ∀ c ∈ l, okP c := by
  cases l with
  | nil => cases h
  | cons d l =>
    rw [piece] at h
    split at h
    · rename_i e
      injection h with h
      subst h
      intro c hc
      rcases List.mem_cons.1 hc with rfl | hc
      · exact .inl e
      · cases hc
    · split at h
      · rename_i e
        intro c hc
        rcases List.mem_cons.1 hc with rfl | hc
        · exact .inr (.inl e)
        · exact close_ok l 1 h c hc
      · cases h
theorem com_ok : ∀ (n o : Nat) (P Q : List UInt8) (x : List UInt8 × List UInt8 × List UInt8), P.length ≤ n → com o P Q = some x → (∀ c ∈ P, okP c) → (∀ c ∈ Q, okP c) → ∀ c ∈ x.1, okP c := by
  intro n
  induction n with
  | zero =>
    intro o P Q x h e hP hQ
    obtain rfl : P = [] := List.eq_nil_of_length_eq_zero (by omega)
    cases o with
    | zero => rw [com_zero] at e; injection e with e; subst e; intro c hc; cases hc
    | succ o => rw [com_nilL] at e; cases e
  | succ n ih =>
    intro o P Q x hl e hP hQ
    cases o with
    | zero => rw [com_zero] at e; injection e with e; subst e; intro c hc; cases hc
    | succ o =>
      cases P with
      | nil => rw [com_nilL] at e; cases e
      | cons c P =>
        cases Q with
        | nil => rw [com_nilR] at e; cases e
        | cons d Q =>
          have hPl : P.length ≤ n := by simp at hl; omega
          have hP' : ∀ c ∈ P, okP c := fun b hb => hP b (List.mem_cons_of_mem _ hb)
          have hQ' : ∀ c ∈ Q, okP c := fun b hb => hQ b (List.mem_cons_of_mem _ hb)
          have one : ∀ (b : UInt8) (y : List UInt8), okP b → (∀ c ∈ y, okP c) → ∀ c ∈ b :: y, okP c := fun b y hb hy c hc => by
            rcases List.mem_cons.1 hc with rfl | hc
            · exact hb
            · exact hy c hc
          have two : ∀ (a y : List UInt8), (∀ c ∈ a, okP c) → (∀ c ∈ y, okP c) → ∀ c ∈ a ++ y, okP c := fun a y ha hy c hc => by
            rcases List.mem_append.1 hc with hc | hc
            · exact ha c hc
            · exact hy c hc
          by_cases h41 : c = 41 ∨ d = 41
          · by_cases hcd : c = d
            · subst hcd
              obtain rfl : c = 41 := by rcases h41 with h | h <;> exact h
              rw [com_shut, Option.map_eq_some_iff] at e
              obtain ⟨y, hy, rfl⟩ := e
              exact one _ _ (.inr (.inr rfl)) (ih o P Q y hPl hy hP' hQ')
            · rw [com_half _ P Q h41 hcd] at e; cases e
          · have hc : c ≠ 41 := fun e => h41 (.inl e)
            have hd : d ≠ 41 := fun e => h41 (.inr e)
            cases hL : isL c
            · cases hM : isL d
              · by_cases hcd : c = 40 ∧ d = 40
                · obtain ⟨rfl, rfl⟩ := hcd
                  rw [com_same, Option.map_eq_some_iff] at e
                  obtain ⟨y, hy, rfl⟩ := e
                  exact one _ _ (.inr (.inl rfl)) (ih (o + 2) P Q y hPl hy hP' hQ')
                · rw [com_other _ P Q hL hM h41 hcd] at e; cases e
              · cases hr : piece (c :: P) with
                | none => rw [com_no2 _ P Q hL hc hM hr] at e; cases e
                | some r =>
                  rw [com_let2 _ P Q hL hc hM hr, Option.map_eq_some_iff] at e
                  obtain ⟨y, hy, rfl⟩ := e
                  have hd1 := piece_drop hr
                  exact two _ _ (fun b hb => hP b (List.mem_of_mem_take hb)) (ih (o + 1) r Q y (by have := hd1.1; simp at this; omega) hy (fun b hb => hP b (by rw [← hd1.2] at hb; exact List.mem_of_mem_drop hb)) hQ')
            · cases hr : piece (d :: Q) with
              | none => rw [com_no _ P Q hL hd hr] at e; cases e
              | some r =>
                rw [com_let _ P Q hL hd hr, Option.map_eq_some_iff] at e
                obtain ⟨y, hy, rfl⟩ := e
                have hd1 := piece_drop hr
                exact two _ _ (fun b hb => hQ b (List.mem_of_mem_take hb)) (ih (o + 1) P r y hPl hy hP' (fun b hb => hQ b (by rw [← hd1.2] at hb; exact List.mem_of_mem_drop hb)))
theorem com1_ok {P Q : List UInt8} {x : List UInt8 × List UInt8 × List UInt8} (h : com1 P Q = some x) (hP : ∀ c ∈ P, okP c) (hQ : ∀ c ∈ Q, okP c) : x.1 ≠ [] ∧ ∀ c ∈ x.1, okP c := by
  cases P with
  | nil => cases h
  | cons c P =>
    cases Q with
    | nil => cases h
    | cons d Q =>
      have ne : ∀ {L r : List UInt8}, piece L = some r → L.take (L.length - r.length) ≠ [] := fun {L r} h e => by
        have h1 := (piece_drop h).1
        have := congrArg List.length e
        rw [List.length_take] at this
        simp at this
        omega
      rw [com1] at h
      cases hL : isL c
      · rw [hL, if_neg (by decide)] at h
        cases hM : isL d
        · rw [hM, if_neg (by decide)] at h
          by_cases hcd : c = 40 ∧ d = 40
          · obtain ⟨rfl, rfl⟩ := hcd
            rw [if_pos ⟨rfl, rfl⟩, Option.map_eq_some_iff] at h
            obtain ⟨y, hy, rfl⟩ := h
            refine ⟨by simp, fun b hb => ?_⟩
            rcases List.mem_cons.1 hb with rfl | hb
            · exact .inr (.inl rfl)
            · exact com_ok P.length 1 P Q y (Nat.le_refl _) hy (fun b hb => hP b (List.mem_cons_of_mem _ hb)) (fun b hb => hQ b (List.mem_cons_of_mem _ hb)) b hb
          · rw [if_neg hcd] at h; cases h
        · rw [hM, if_pos rfl, Option.map_eq_some_iff] at h
          obtain ⟨r, hr, rfl⟩ := h
          exact ⟨ne hr, fun b hb => hP b (List.mem_of_mem_take hb)⟩
      · rw [hL, if_pos rfl, Option.map_eq_some_iff] at h
        obtain ⟨r, hr, rfl⟩ := h
        exact ⟨ne hr, fun b hb => hQ b (List.mem_of_mem_take hb)⟩
end Go.Proofs.Ytbdmmeoelagdcaa.M
