/- Common patterns: the mathematics. No program is named here. -/
import Derived.Test.YtbdmmeoelagdcaaPat
namespace Go.Proofs.Ytbdmmeoelagdcaa.M
set_option linter.unusedVariables false in
/-- what two texts have in common up to where o brackets are closed, and what stands behind in both -/
def com (o : Nat) (P Q : List UInt8) : Option (List UInt8 × List UInt8 × List UInt8) :=
  match o, P, Q with
  | 0, P, Q => some ([], P, Q)
  | o + 1, c :: P, d :: Q =>
    if c = 41 ∨ d = 41 then (if c = d then (com o P Q).map fun x => (41 :: x.1, x.2) else none)
    else if isL c then match piece (d :: Q) with
      | none => none
      | some r => (com (o + 1) P r).map fun x => ((d :: Q).take ((d :: Q).length - r.length) ++ x.1, x.2)
    else if isL d then match h : piece (c :: P) with
      | none => none
      | some r => (com (o + 1) r Q).map fun x => ((c :: P).take ((c :: P).length - r.length) ++ x.1, x.2)
    else if c = 40 ∧ d = 40 then (com (o + 2) P Q).map fun x => (40 :: x.1, x.2)
    else none
  | _ + 1, _, _ => none
  termination_by P.length
  decreasing_by
    all_goals simp_wf
    all_goals first | omega | (have := (piece_drop h).1; simpa using this)
/-- of the pieces that begin both texts -/
def com1 : List UInt8 → List UInt8 → Option (List UInt8 × List UInt8 × List UInt8)
  | c :: P, d :: Q => if isL c then (piece (d :: Q)).map fun r => ((d :: Q).take ((d :: Q).length - r.length), P, r)
    else if isL d then (piece (c :: P)).map fun r => ((c :: P).take ((c :: P).length - r.length), r, Q)
    else if c = 40 ∧ d = 40 then (com 1 P Q).map fun x => (40 :: x.1, x.2) else none
  | _, _ => none
theorem com_zero (P Q : List UInt8) : com 0 P Q = some ([], P, Q) := by rw [com]
theorem com_shut (o : Nat) (P Q : List UInt8) : com (o + 1) (41 :: P) (41 :: Q) = (com o P Q).map fun x => (41 :: x.1, x.2) := by rw [com]; simp
theorem com_half {c d : UInt8} (o : Nat) (P Q : List UInt8) (h : c = 41 ∨ d = 41) (hn : c ≠ d) : com (o + 1) (c :: P) (d :: Q) = none := by rw [com]; simp [h, hn]
theorem com_let {c d : UInt8} (o : Nat) (P Q : List UInt8) (h : isL c = true) (hd : d ≠ 41) {r : List UInt8} (hr : piece (d :: Q) = some r) :
    com (o + 1) (c :: P) (d :: Q) = (com (o + 1) P r).map fun x => ((d :: Q).take ((d :: Q).length - r.length) ++ x.1, x.2) := by
  rw [com, if_neg (by simp [ne_shut h, hd]), if_pos h, hr]
theorem com_let2 {c d : UInt8} (o : Nat) (P Q : List UInt8) (h : isL c = false) (hc : c ≠ 41) (h2 : isL d = true) {r : List UInt8} (hr : piece (c :: P) = some r) :
    com (o + 1) (c :: P) (d :: Q) = (com (o + 1) r Q).map fun x => ((c :: P).take ((c :: P).length - r.length) ++ x.1, x.2) := by
  rw [com, if_neg (by simp [hc, ne_shut h2]), if_neg (by simp [h]), if_pos h2]
  split
  · rename_i e; rw [hr] at e; cases e
  · rename_i r' e; rw [hr] at e; injection e with e; subst e; rfl
theorem com_same (o : Nat) (P Q : List UInt8) : com (o + 1) (40 :: P) (40 :: Q) = (com (o + 2) P Q).map fun x => (40 :: x.1, x.2) := by
  rw [com, if_neg (by decide), if_neg (by decide), if_neg (by decide), if_pos ⟨rfl, rfl⟩]
theorem com_other {c d : UInt8} (o : Nat) (P Q : List UInt8) (h : isL c = false) (h2 : isL d = false) (h41 : ¬ (c = 41 ∨ d = 41)) (hn : ¬ (c = 40 ∧ d = 40)) : com (o + 1) (c :: P) (d :: Q) = none := by
  rw [com, if_neg h41, if_neg (by simp [h]), if_neg (by simp [h2]), if_neg hn]
theorem com_no {c d : UInt8} (o : Nat) (P Q : List UInt8) (h : isL c = true) (hd : d ≠ 41) (hr : piece (d :: Q) = none) : com (o + 1) (c :: P) (d :: Q) = none := by
  rw [com, if_neg (by simp [ne_shut h, hd]), if_pos h, hr]
theorem com_no2 {c d : UInt8} (o : Nat) (P Q : List UInt8) (h : isL c = false) (hc : c ≠ 41) (h2 : isL d = true) (hr : piece (c :: P) = none) : com (o + 1) (c :: P) (d :: Q) = none := by
  rw [com, if_neg (by simp [hc, ne_shut h2]), if_neg (by simp [h]), if_pos h2]
  split
  · rfl
  · rename_i r' e; rw [hr] at e; cases e
theorem com_nilL (o : Nat) (Q : List UInt8) : com (o + 1) [] Q = none := by rw [com.eq_def]
theorem com_nilR (o : Nat) (P : List UInt8) : com (o + 1) P [] = none := by cases P <;> rw [com.eq_def]
/-- how two texts go on -/
theorem com_add : ∀ (n a b : Nat) (P Q : List UInt8), P.length ≤ n → com (a + b) P Q = (com a P Q).bind fun x => (com b x.2.1 x.2.2).map fun y => (x.1 ++ y.1, y.2) := by
  intro n
  induction n with
  | zero =>
    intro a b P Q h
    obtain rfl : P = [] := List.eq_nil_of_length_eq_zero (by omega)
    cases a with
    | zero => rw [com_zero, Nat.zero_add]; simp
    | succ a => rw [show a + 1 + b = (a + b) + 1 by omega, com_nilL, com_nilL]; rfl
  | succ n ih =>
    intro a b P Q hl
    cases a with
    | zero => rw [com_zero, Nat.zero_add]; simp
    | succ a =>
      rw [show a + 1 + b = (a + b) + 1 by omega]
      cases P with
      | nil => rw [com_nilL, com_nilL]; rfl
      | cons c P =>
        cases Q with
        | nil => rw [com_nilR, com_nilR]; rfl
        | cons d Q =>
          have hP : P.length ≤ n := by simp at hl; omega
          have key : ∀ (t : List UInt8) (m : Nat) (P' Q' : List UInt8), P'.length ≤ n → (com (m + b) P' Q').map (fun x => (t ++ x.1, x.2)) = ((com m P' Q').map fun x => (t ++ x.1, x.2)).bind fun x => (com b x.2.1 x.2.2).map fun y => (x.1 ++ y.1, y.2) := fun t m P' Q' h' => by
            rw [ih m b P' Q' h']
            cases com m P' Q' with
            | none => rfl
            | some x =>
              simp only [Option.bind_some, Option.map_some]
              cases com b x.2.1 x.2.2 with
              | none => rfl
              | some y => simp
          by_cases h41 : c = 41 ∨ d = 41
          · by_cases hcd : c = d
            · subst hcd
              obtain rfl : c = 41 := by rcases h41 with h | h <;> exact h
              rw [com_shut, com_shut]
              exact key [41] a P Q hP
            · rw [com_half _ P Q h41 hcd, com_half _ P Q h41 hcd]; rfl
          · have hc : c ≠ 41 := fun e => h41 (.inl e)
            have hd : d ≠ 41 := fun e => h41 (.inr e)
            cases hL : isL c
            · cases hM : isL d
              · by_cases hcd : c = 40 ∧ d = 40
                · obtain ⟨rfl, rfl⟩ := hcd
                  rw [com_same, com_same, show a + b + 2 = a + 2 + b by omega]
                  exact key [40] (a + 2) P Q hP
                · rw [com_other _ P Q hL hM h41 hcd, com_other _ P Q hL hM h41 hcd]; rfl
              · cases hr : piece (c :: P) with
                | none => rw [com_no2 _ P Q hL hc hM hr, com_no2 _ P Q hL hc hM hr]; rfl
                | some r =>
                  rw [com_let2 _ P Q hL hc hM hr, com_let2 _ P Q hL hc hM hr, show a + b + 1 = a + 1 + b by omega]
                  exact key _ (a + 1) r Q (by have := (piece_drop hr).1; simp at this; omega)
            · cases hr : piece (d :: Q) with
              | none => rw [com_no _ P Q hL hd hr, com_no _ P Q hL hd hr]; rfl
              | some r =>
                rw [com_let _ P Q hL hd hr, com_let _ P Q hL hd hr, show a + b + 1 = a + 1 + b by omega]
                exact key _ (a + 1) P r hP
theorem com_piece {c d : UInt8} (hc : c ≠ 41) (hd : d ≠ 41) (o : Nat) (P Q : List UInt8) : com (o + 1) (c :: P) (d :: Q) = (com1 (c :: P) (d :: Q)).bind fun x => (com (o + 1) x.2.1 x.2.2).map fun y => (x.1 ++ y.1, y.2) := by
  rw [com1]
  cases hL : isL c
  · cases hM : isL d
    · by_cases hcd : c = 40 ∧ d = 40
      · obtain ⟨rfl, rfl⟩ := hcd
        rw [com_same, if_neg (by decide), if_neg (by decide), if_pos ⟨rfl, rfl⟩, show o + 2 = 1 + (o + 1) by omega, com_add P.length 1 (o + 1) P Q (Nat.le_refl _)]
        cases com 1 P Q with
        | none => rfl
        | some x =>
          simp only [Option.bind_some, Option.map_some]
          cases com (o + 1) x.2.1 x.2.2 with
          | none => rfl
          | some y => simp
      · rw [com_other _ P Q hL hM (by simp [hc, hd]) hcd, if_neg (by decide), if_neg (by decide), if_neg hcd]; rfl
    · rw [if_neg (by decide), if_pos rfl]
      cases hr : piece (c :: P) with
      | none => rw [com_no2 _ P Q hL hc hM hr]; rfl
      | some r => rw [com_let2 _ P Q hL hc hM hr]; rfl
  · rw [if_pos rfl]
    cases hr : piece (d :: Q) with
    | none => rw [com_no _ P Q hL hd hr]; rfl
    | some r => rw [com_let _ P Q hL hd hr]; rfl
/-- both are read to their ends together, and the text is not longer than both -/
theorem com_len : ∀ (n o : Nat) (P Q : List UInt8) (x : List UInt8 × List UInt8 × List UInt8), P.length ≤ n → com o P Q = some x →
    x.1.length + x.2.1.length + x.2.2.length ≤ P.length + Q.length ∧ close P o = some x.2.1 ∧ close Q o = some x.2.2 := by
  intro n
  induction n with
  | zero =>
    intro o P Q x h e
    obtain rfl : P = [] := List.eq_nil_of_length_eq_zero (by omega)
    cases o with
    | zero => rw [com_zero] at e; injection e with e; subst e; simp [close_zero]
    | succ o => rw [com_nilL] at e; cases e
  | succ n ih =>
    intro o P Q x hl e
    cases o with
    | zero => rw [com_zero] at e; injection e with e; subst e; simp [close_zero]
    | succ o =>
      cases P with
      | nil => rw [com_nilL] at e; cases e
      | cons c P =>
        cases Q with
        | nil => rw [com_nilR] at e; cases e
        | cons d Q =>
          have hP : P.length ≤ n := by simp at hl; omega
          by_cases h41 : c = 41 ∨ d = 41
          · by_cases hcd : c = d
            · subst hcd
              obtain rfl : c = 41 := by rcases h41 with h | h <;> exact h
              rw [com_shut, Option.map_eq_some_iff] at e
              obtain ⟨y, hy, rfl⟩ := e
              obtain ⟨h1, h2, h3⟩ := ih o P Q y hP hy
              exact ⟨by simp; omega, by rw [close_shut]; exact h2, by rw [close_shut]; exact h3⟩
            · rw [com_half _ P Q h41 hcd] at e; cases e
          · have hc : c ≠ 41 := fun e => h41 (.inl e)
            have hd : d ≠ 41 := fun e => h41 (.inr e)
            cases hL : isL c
            · cases hM : isL d
              · by_cases hcd : c = 40 ∧ d = 40
                · obtain ⟨rfl, rfl⟩ := hcd
                  rw [com_same, Option.map_eq_some_iff] at e
                  obtain ⟨y, hy, rfl⟩ := e
                  obtain ⟨h1, h2, h3⟩ := ih (o + 2) P Q y hP hy
                  exact ⟨by simp; omega, by rw [close_open]; exact h2, by rw [close_open]; exact h3⟩
                · rw [com_other _ P Q hL hM h41 hcd] at e; cases e
              · cases hr : piece (c :: P) with
                | none => rw [com_no2 _ P Q hL hc hM hr] at e; cases e
                | some r =>
                  rw [com_let2 _ P Q hL hc hM hr, Option.map_eq_some_iff] at e
                  obtain ⟨y, hy, rfl⟩ := e
                  have hd1 := (piece_drop hr).1
                  obtain ⟨h1, h2, h3⟩ := ih (o + 1) r Q y (by simp at hd1; omega) hy
                  refine ⟨?_, by rw [close_piece hc, hr]; exact h2, by rw [close_let hM]; exact h3⟩
                  rw [List.length_append, List.length_take, List.length_cons, List.length_cons]
                  rw [List.length_cons] at hd1
                  show _ + _ + y.2.1.length + y.2.2.length ≤ _
                  omega
            · cases hr : piece (d :: Q) with
              | none => rw [com_no _ P Q hL hd hr] at e; cases e
              | some r =>
                rw [com_let _ P Q hL hd hr, Option.map_eq_some_iff] at e
                obtain ⟨y, hy, rfl⟩ := e
                have hd1 := (piece_drop hr).1
                obtain ⟨h1, h2, h3⟩ := ih (o + 1) P r y hP hy
                refine ⟨?_, by rw [close_let hL]; exact h2, by rw [close_piece hd, hr]; exact h3⟩
                rw [List.length_append, List.length_take, List.length_cons, List.length_cons]
                rw [List.length_cons] at hd1
                show _ + _ + y.2.1.length + y.2.2.length ≤ _
                omega
theorem com1_len {P Q : List UInt8} {x : List UInt8 × List UInt8 × List UInt8} (h : com1 P Q = some x) :
    x.1.length + x.2.1.length + x.2.2.length ≤ P.length + Q.length ∧ piece P = some x.2.1 ∧ piece Q = some x.2.2 := by
  cases P with
  | nil => cases h
  | cons c P =>
    cases Q with
    | nil => cases h
    | cons d Q =>
      rw [com1] at h
      cases hL : isL c
      · rw [hL, if_neg (by decide)] at h
        cases hM : isL d
        · rw [hM, if_neg (by decide)] at h
          by_cases hcd : c = 40 ∧ d = 40
          · obtain ⟨rfl, rfl⟩ := hcd
            rw [if_pos ⟨rfl, rfl⟩, Option.map_eq_some_iff] at h
            obtain ⟨y, hy, rfl⟩ := h
            obtain ⟨h1, h2, h3⟩ := com_len P.length 1 P Q y (Nat.le_refl _) hy
            exact ⟨by simp; omega, by rw [piece_open]; exact h2, by rw [piece_open]; exact h3⟩
          · rw [if_neg hcd] at h; cases h
        · rw [hM, if_pos rfl, Option.map_eq_some_iff] at h
          obtain ⟨r, hr, rfl⟩ := h
          have hd1 := (piece_drop hr).1
          refine ⟨?_, hr, by rw [piece_let hM]⟩
          rw [List.length_cons] at hd1
          simp only [List.length_take, List.length_cons]
          omega
      · rw [hL, if_pos rfl, Option.map_eq_some_iff] at h
        obtain ⟨r, hr, rfl⟩ := h
        have hd1 := (piece_drop hr).1
        refine ⟨?_, by rw [piece_let hL], hr⟩
        rw [List.length_cons] at hd1
        simp only [List.length_take, List.length_cons]
        omega
end Go.Proofs.Ytbdmmeoelagdcaa.M
