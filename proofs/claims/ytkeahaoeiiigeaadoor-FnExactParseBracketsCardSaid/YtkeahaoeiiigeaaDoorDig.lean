/- behindPart: what stands behind the part with which a text begins, or a panic. -/
import Derived.Test.YtkeahaoeiiigeaaDoorBase
import Derived.Test.YtkeahaoeiiigeaaDoorBin
import Derived.WalkLawsBesides
namespace Go.Proofs.YtkeahaoeiiigeaaDoor
open Go.RowKit

/-- whether the first byte is this one -/
def begins (s : ByteArray) (c : UInt8) : Bool := s.data.toList.head? == some c
theorem begins_nil {s : ByteArray} {c : UInt8} (h : s.data.toList = []) : begins s c = false := by rw [begins, h]; rfl
theorem begins_cons {s : ByteArray} {c d : UInt8} {l : List UInt8} (h : s.data.toList = d :: l) : begins s c = decide (d = c) := by
  rw [begins, h, List.head?_cons]
  by_cases e : d = c
  · subst e; simp
  · rw [decide_eq_false e]; exact beq_eq_false_iff_ne.2 (fun e2 => e (Option.some.inj e2))
theorem hasPrefix (s : ByteArray) (c : UInt8) (w : World) : Calls Tryd.prog 99 #[.string s, .string ⟨#[c]⟩] w fun e w' => e = .returned (.bool (begins s c)) ∧ w' = w := by
  go_enter Tryd.func99, Tryd.ntmps99
  go_wp2
  · rename_i h
    refine bodyPost_ret (v := .bool ((s.extract 0 1).toList == [c])) (by simp [results, Tryd.results99, go_sem]) rfl ⟨?_, rfl⟩
    have e : ((s.extract 0 1).toList == [c]) = begins s c := by
      rw [Lib.extract_toList]
      have h2 : 1 ≤ s.data.toList.length := by rw [← Lib.size_eq]; omega
      cases hl : s.data.toList with
      | nil => rw [hl] at h2; simp at h2
      | cons d l =>
        rw [begins_cons hl]
        by_cases e : d = c
        · subst e; simp
        · rw [decide_eq_false e]; simp [e]
    rw [e]
  · rename_i h
    refine bodyPost_ret (v := .bool false) (by simp [results, Tryd.results99, go_sem]) rfl ⟨?_, rfl⟩
    have h2 : s.data.toList = [] := List.eq_nil_of_length_eq_zero (by rw [← Lib.size_eq]; omega)
    rw [begins_nil h2]

/-- the error of the program's variable, wherever it lies -/
def errV (p : Addr) : Value := .iface 105 (.pointer (some p))
/-- what behindPart comes to -/
def behindEnd (p : Addr) (l : List UInt8) (w : World) (e : Ending) (w' : World) : Prop :=
  (match M.after l 1 with | some r => e = .returned (.string (M.bs r)) | none => e = .panicked [{ v := errV p, recovered := false }]) ∧ w' = w

theorem bs_tail {s : ByteArray} {c : UInt8} {l : List UInt8} (h : s.data.toList = c :: l) : s.extract 1 s.size = M.bs l := by
  rw [Lib.extract_eq, Lib.size_eq, h]
  simp [M.bs]

theorem behindPart_bad (p : Addr) (s : ByteArray) (w : World) (h0 : begins s 48 = false) (h1 : begins s 49 = false) (ha : M.after s.data.toList 1 = none) (hc : w.cell? ⟨0, 0, none⟩ = some (errV p)) : Calls Tryd.prog 82 #[.string s] w (behindEnd p s.data.toList w) := by
  have HE : Hid (behindEnd p s.data.toList w (.panicked [{ v := errV p, recovered := false }]) w) := by
    show behindEnd _ _ _ _ _
    unfold behindEnd
    rw [ha]
    exact ⟨rfl, rfl⟩
  rw [errV] at hc
  clear ha
  generalize behindEnd p s.data.toList w = E at *
  go_enter Tryd.func82, Tryd.ntmps82
  go_wp2_with (go_at_call 99; refine (hasPrefix _ _ _).mono ?_; rintro e w' ⟨rfl, hw⟩; subst hw)
  exact ⟨rfl, HE.out⟩

set_option maxRecDepth 100000 in
theorem behindPart (p : Addr) : ∀ (n : Nat) (s : ByteArray) (w : World), s.size ≤ n → w.cell? ⟨0, 0, none⟩ = some (errV p) → Calls Tryd.prog 82 #[.string s] w (behindEnd p s.data.toList w) := by
  intro n
  induction n with
  | zero =>
    intro s w hs hc
    have hl : s.data.toList = [] := List.eq_nil_of_length_eq_zero (by rw [← Lib.size_eq]; omega)
    exact behindPart_bad p s w (begins_nil hl) (begins_nil hl) (by rw [hl]; rfl) hc
  | succ n ih =>
    intro s w hs hc
    cases hl : s.data.toList with
    | nil =>
      have := behindPart_bad p s w (begins_nil hl) (begins_nil hl) (by rw [hl]; rfl) hc
      rwa [hl] at this
    | cons c l =>
      have hz : Hid (s.size = l.length + 1) := by show _ = _; rw [Lib.size_eq, hl]; rfl
      have hz1 : (1 : Int) ≤ (s.size : Int) := by have := hz.out; omega
      have hz2 : 1 ≤ s.size := by omega
      have hb := bs_tail hl
      by_cases h48 : c = 48
      · subst h48
        have h0 : begins s 48 = true := by rw [begins_cons hl]; rfl
        have HE : Hid (behindEnd p (48 :: l) w (.returned (.string (s.extract 1 s.size))) w) := by
          show behindEnd _ _ _ _ _
          unfold behindEnd
          rw [M.after_0, M.after_zero, hb]
          exact ⟨rfl, rfl⟩
        generalize behindEnd p (48 :: l) w = E at *
        clear hl hb ih hc
        go_enter Tryd.func82, Tryd.ntmps82
        go_wp2_with (go_at_call 99; refine (hasPrefix _ _ _).mono ?_; rintro e w' ⟨rfl, hw⟩; subst hw)
        exact HE.out
      · by_cases h49 : c = 49
        · subst h49
          have h0 : begins s 48 = false := by rw [begins_cons hl]; rfl
          have h1 : begins s 49 = true := by rw [begins_cons hl]; rfl
          have H1 := ih (s.extract 1 s.size) w (by rw [hb, M.bs_size]; have := hz.out; omega) hc
          rw [hb, M.bs_data, ← hb] at H1
          have ha : M.after (49 :: l) 1 = (M.after l 1).bind fun r => M.after r 1 := by rw [M.after_1, M.after_two]
          cases h2 : M.after l 1 with
          | none =>
            rw [h2] at ha
            have HE : Hid (behindEnd p (49 :: l) w (.panicked [{ v := errV p, recovered := false }]) w) := by
              show behindEnd _ _ _ _ _
              unfold behindEnd
              rw [ha]
              exact ⟨rfl, rfl⟩
            have K1 : Hid (Calls Tryd.prog 82 #[.string (s.extract 1 s.size)] w fun e w' => e = .panicked [{ v := errV p, recovered := false }] ∧ w' = w) := by
              unfold behindEnd at H1
              rw [h2] at H1
              exact H1
            generalize behindEnd p (49 :: l) w = E at *
            clear hl hb ih hc H1 ha h2
            go_enter Tryd.func82, Tryd.ntmps82
            go_wp2_with (first | (go_at_call 99; refine (hasPrefix _ _ _).mono ?_; rintro e w' ⟨rfl, hw⟩; subst hw) | (go_at_call 82; with_reducible refine K1.out.mono ?_; rintro e w' ⟨rfl, hw⟩; subst hw))
            exact ⟨rfl, HE.out⟩
          | some r =>
            rw [h2] at ha
            have K1 : Hid (Calls Tryd.prog 82 #[.string (s.extract 1 s.size)] w fun e w' => e = .returned (.string (M.bs r)) ∧ w' = w) := by
              unfold behindEnd at H1
              rw [h2] at H1
              exact H1
            have H2 := ih (M.bs r) w (by rw [M.bs_size]; have := M.after_len h2; have := hz.out; omega) hc
            rw [M.bs_data] at H2
            have ha' : M.after (49 :: l) 1 = M.after r 1 := ha
            cases h3 : M.after r 1 with
            | none =>
              have HE : Hid (behindEnd p (49 :: l) w (.panicked [{ v := errV p, recovered := false }]) w) := by
                show behindEnd _ _ _ _ _
                unfold behindEnd
                rw [ha', h3]
                exact ⟨rfl, rfl⟩
              have K2 : Hid (Calls Tryd.prog 82 #[.string (M.bs r)] w fun e w' => e = .panicked [{ v := errV p, recovered := false }] ∧ w' = w) := by
                unfold behindEnd at H2
                rw [h3] at H2
                exact H2
              generalize behindEnd p (49 :: l) w = E at *
              generalize M.bs r = R at *
              clear hl hb ih hc H1 H2 ha ha' h2 h3
              go_enter Tryd.func82, Tryd.ntmps82
              go_wp2_with (first | (go_at_call 99; refine (hasPrefix _ _ _).mono ?_; rintro e w' ⟨rfl, hw⟩; subst hw) | (go_at_call 82; first | (with_reducible refine K1.out.mono ?_; rintro e w' ⟨rfl, hw⟩; subst hw) | (with_reducible refine K2.out.mono ?_; rintro e w' ⟨rfl, hw⟩; subst hw)))
              exact ⟨rfl, HE.out⟩
            | some r2 =>
              have HE : Hid (behindEnd p (49 :: l) w (.returned (.string (M.bs r2))) w) := by
                show behindEnd _ _ _ _ _
                unfold behindEnd
                rw [ha', h3]
                exact ⟨rfl, rfl⟩
              have K2 : Hid (Calls Tryd.prog 82 #[.string (M.bs r)] w fun e w' => e = .returned (.string (M.bs r2)) ∧ w' = w) := by
                unfold behindEnd at H2
                rw [h3] at H2
                exact H2
              generalize behindEnd p (49 :: l) w = E at *
              generalize M.bs r2 = R2 at *
              generalize M.bs r = R at *
              clear hl hb ih hc H1 H2 ha ha' h2 h3
              go_enter Tryd.func82, Tryd.ntmps82
              go_wp2_with (first | (go_at_call 99; refine (hasPrefix _ _ _).mono ?_; rintro e w' ⟨rfl, hw⟩; subst hw) | (go_at_call 82; first | (with_reducible refine K1.out.mono ?_; rintro e w' ⟨rfl, hw⟩; subst hw) | (with_reducible refine K2.out.mono ?_; rintro e w' ⟨rfl, hw⟩; subst hw)))
              exact HE.out
        · have h0 : begins s 48 = false := by rw [begins_cons hl]; exact decide_eq_false h48
          have h1 : begins s 49 = false := by rw [begins_cons hl]; exact decide_eq_false h49
          have := behindPart_bad p s w h0 h1 (by rw [hl]; exact M.after_x _ _ h48 h49) hc
          rwa [hl] at this
end Go.Proofs.YtkeahaoeiiigeaaDoor
