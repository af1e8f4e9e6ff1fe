/- Texts of brackets alone are texts of trees; what stands at the letters of a pattern. The mathematics. -/
import Derived.Test.YtbdmmeoelagdcaaPat
import Derived.Test.YtbdmmeoelagdcaaMath
namespace Go.Proofs.Ytbdmmeoelagdcaa.M
def isB (c : UInt8) : Prop := c = 40 ∨ c = 41
def toI (l : List UInt8) : List Int := l.map fun b => (b.toNat : Int)
theorem close_prun : ∀ (l : List UInt8) (o : Nat) (r : List UInt8), (∀ c ∈ l, isB c) → close l o = some r → ∀ (ds st : List Int), o ≤ st.length → (o = 0 ∨ ds ≠ []) →
    ∃ ds', prun ds st (toI l) = prun ds' (st.take (st.length - o)) (toI r) ∧ (ds ≠ [] → ds' ≠ []) ∧ ds'.length ≤ ds.length + (l.length - r.length) := by
  intro l
  induction l with
  | nil =>
    intro o r _ h ds st ho _
    cases o with
    | zero => rw [close_zero] at h; injection h with h; subst h; exact ⟨ds, by rw [Nat.sub_zero, List.take_length], id, by omega⟩
    | succ o => rw [close_nil] at h; cases h
  | cons c l ih =>
    intro o r hb h ds st ho hds
    cases o with
    | zero => rw [close_zero] at h; injection h with h; subst h; exact ⟨ds, by rw [Nat.sub_zero, List.take_length], id, by omega⟩
    | succ o =>
      have hb' : ∀ c ∈ l, isB c := fun b h => hb b (List.mem_cons_of_mem _ h)
      have hdn : ds ≠ [] := hds.resolve_left (by omega)
      rcases hb c (List.mem_cons_self ..) with rfl | rfl
      · rw [close_open] at h
        have hr := (close_drop _ _ _ h).1
        obtain ⟨ds', h1, h2, h3⟩ := ih (o + 2) r hb' h (ds.set (st[st.length - 1]?.getD 0).toNat ((ds[(st[st.length - 1]?.getD 0).toNat]?.getD 0) + 1) ++ [0]) (st ++ [(ds.length : Int)]) (by simp; omega) (.inr (by simp))
        refine ⟨ds', ?_, fun _ => h2 (by simp), ?_⟩
        · have e1 : prun ds st (toI (40 :: l)) = prun (ds.set (st[st.length - 1]?.getD 0).toNat ((ds[(st[st.length - 1]?.getD 0).toNat]?.getD 0) + 1) ++ [0]) (st ++ [(ds.length : Int)]) (toI l) := by
            show prun ds st (40 :: toI l) = _
            rw [prun, pstep, if_pos rfl, if_pos (by omega)]
          rw [e1, h1]
          congr 1
          rw [List.length_append, List.length_singleton, show st.length + 1 - (o + 2) = st.length - (o + 1) by omega, List.take_append_of_le_length (by omega)]
        · simp at h3
          simp
          omega
      · rw [close_shut] at h
        have hr := (close_drop _ _ _ h).1
        obtain ⟨ds', h1, h2, h3⟩ := ih o r hb' h ds st.dropLast (by simp; omega) (.inr hdn)
        refine ⟨ds', ?_, h2, ?_⟩
        · have e1 : prun ds st (toI (41 :: l)) = prun ds st.dropLast (toI l) := by
            show prun ds st (41 :: toI l) = _
            rw [prun, pstep, if_neg (by decide), if_pos rfl, if_pos (by omega)]
          rw [e1, h1]
          congr 1
          rw [List.length_dropLast, List.dropLast_eq_take, List.take_take]
          congr 1
          omega
        · simp
          omega
theorem piece_parse {l : List UInt8} (hb : ∀ c ∈ l, isB c) (h : piece l = some []) (hl : l.length ≤ 48) : (parse (toI l)).2 = 0 ∧ (parse (toI l)).1 ≠ [] ∧ (parse (toI l)).1.length ≤ 48 := by
  cases l with
  | nil => cases h
  | cons c l =>
    rcases hb c (List.mem_cons_self ..) with rfl | rfl
    · rw [piece_open] at h
      obtain ⟨ds', h1, h2, h3⟩ := close_prun l 1 [] (fun b h => hb b (List.mem_cons_of_mem _ h)) h [0] [0] (by simp) (.inr (by simp))
      have e1 : prun [] [] (toI (40 :: l)) = some (ds', []) := by
        show prun [] [] (40 :: toI l) = _
        rw [prun, pstep, if_pos rfl, if_neg (by simp), if_pos rfl]
        show prun [0] [0] (toI l) = _
        rw [h1]
        rfl
      have hne := h2 (by simp)
      have e2 : parse (toI (40 :: l)) = (ds', 0) := by
        rw [parse, if_neg (by simp [toI] at hl ⊢; omega), e1]
        simp [hne]
      rw [e2]
      exact ⟨rfl, hne, by simp at h3 hl ⊢; omega⟩
    · rw [piece_shut] at h; cases h
theorem close_take : ∀ (l : List UInt8) (o : Nat) (r : List UInt8), close l o = some r → close (l.take (l.length - r.length)) o = some [] := by
  intro l
  induction l with
  | nil =>
    intro o r h
    cases o with
    | zero => rw [close_zero] at h; injection h with h; subst h; rfl
    | succ o => rw [close_nil] at h; cases h
  | cons c l ih =>
    intro o r h
    have hr := (close_drop _ _ _ h).1
    cases o with
    | zero => rw [close_zero] at h; injection h with h; subst h; simp [close_zero]
    | succ o =>
      have e1 : (c :: l).take ((c :: l).length - r.length) = c :: l.take (l.length - r.length) := by
        rw [List.length_cons] at hr ⊢
        rw [show l.length + 1 - r.length = (l.length - r.length) + 1 by omega, List.take_succ_cons]
      rw [e1, close]
      rw [close] at h
      split
      · rename_i e; rw [if_pos e] at h; exact ih o r h
      · rename_i e
        rw [if_neg e] at h
        split
        · rename_i e2; rw [if_pos e2] at h; exact ih (o + 1) r h
        · rename_i e2
          rw [if_neg e2] at h
          split
          · rename_i e3; rw [if_pos e3] at h; exact ih (o + 2) r h
          · rename_i e3; rw [if_neg e3] at h; cases h
theorem piece_whole {l r : List UInt8} (h : piece l = some r) : piece (l.take (l.length - r.length)) = some [] := by
  have hr := (piece_drop h).1
  cases l with
  | nil => cases h
  | cons c l =>
    have e1 : (c :: l).take ((c :: l).length - r.length) = c :: l.take (l.length - r.length) := by
      rw [List.length_cons] at hr ⊢
      rw [show l.length + 1 - r.length = (l.length - r.length) + 1 by omega, List.take_succ_cons]
    rw [e1, piece]
    rw [piece] at h
    split
    · rename_i e
      rw [if_pos e] at h
      injection h with h
      subst h
      simp
    · rename_i e
      rw [if_neg e] at h
      split
      · rename_i e2; rw [if_pos e2] at h; exact close_take _ _ _ h
      · rename_i e2; rw [if_neg e2] at h; cases h
theorem mt_pieces : ∀ (P T : List UInt8) (ts : List (List UInt8)), mt P T = some ts → ts.length ≤ P.length ∧ ∀ Y ∈ ts, piece Y = some [] ∧ Y.length ≤ T.length ∧ ∀ c ∈ Y, c ∈ T := by
  intro P
  induction P with
  | nil => intro T ts h; rw [mt_nil] at h; injection h with h; subst h; exact ⟨by simp, fun Y h => by cases h⟩
  | cons c P ih =>
    intro T ts h
    cases hc : isL c
    · cases T with
      | nil => rw [mt_end] at h; cases h
      | cons d T =>
        by_cases hd : d = c
        · subst hd
          rw [mt_same hc] at h
          obtain ⟨h1, h2⟩ := ih T ts h
          exact ⟨by simp; omega, fun Y hY => ⟨(h2 Y hY).1, by have := (h2 Y hY).2.1; simp; omega, fun b hb => List.mem_cons_of_mem _ ((h2 Y hY).2.2 b hb)⟩⟩
        · rw [mt_other hc _ _ hd] at h; cases h
    · cases hp : piece T with
      | none => rw [mt_none hc P hp] at h; cases h
      | some r =>
        rw [mt_let hc P hp, Option.map_eq_some_iff] at h
        obtain ⟨ts', h', rfl⟩ := h
        obtain ⟨h1, h2⟩ := ih r ts' h'
        have hd := piece_drop hp
        refine ⟨by simp; omega, fun Y hY => ?_⟩
        rcases List.mem_cons.1 hY with rfl | hY
        · exact ⟨piece_whole hp, by rw [List.length_take]; omega, fun b hb => List.mem_of_mem_take hb⟩
        · exact ⟨(h2 Y hY).1, by have := (h2 Y hY).2.1; omega, fun b hb => by
            have := (h2 Y hY).2.2 b hb
            rw [← hd.2] at this
            exact List.mem_of_mem_drop this⟩
end Go.Proofs.Ytbdmmeoelagdcaa.M
