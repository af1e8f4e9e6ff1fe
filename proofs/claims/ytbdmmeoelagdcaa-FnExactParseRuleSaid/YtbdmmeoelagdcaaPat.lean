/- Patterns and their texts: the mathematics. No program is named here. -/
import Derived.Test.YtbdmmeoelagdcaaBin
namespace Go.Proofs.Ytbdmmeoelagdcaa.M
/-- a letter of patterns -/
def isL (c : UInt8) : Bool := decide (97 ≤ c.toNat) && decide (c.toNat ≤ 104)
theorem isL_iff {c : UInt8} : isL c = true ↔ 97 ≤ c.toNat ∧ c.toNat ≤ 104 := by simp [isL]
theorem isL_40 : isL 40 = false := by decide
theorem isL_41 : isL 41 = false := by decide
/-- what stands behind all that o brackets hold open -/
def close : List UInt8 → Nat → Option (List UInt8)
  | l, 0 => some l
  | [], _ + 1 => none
  | c :: r, o + 1 => if c = 41 then close r o else if isL c then close r (o + 1) else if c = 40 then close r (o + 2) else none
/-- what stands behind the piece that begins a text -/
def piece : List UInt8 → Option (List UInt8)
  | [] => none
  | c :: r => if isL c then some r else if c = 40 then close r 1 else none
theorem close_zero (l : List UInt8) : close l 0 = some l := by cases l <;> rfl
theorem close_nil (o : Nat) : close [] (o + 1) = none := rfl
theorem close_shut (r : List UInt8) (o : Nat) : close (41 :: r) (o + 1) = close r o := by rw [close, if_pos rfl]
theorem ne_shut {c : UInt8} (h : isL c = true) : c ≠ 41 := fun e => by rw [e] at h; cases h
theorem ne_open {c : UInt8} (h : isL c = true) : c ≠ 40 := fun e => by rw [e] at h; cases h
theorem close_let {c : UInt8} (h : isL c = true) (r : List UInt8) (o : Nat) : close (c :: r) (o + 1) = close r (o + 1) := by rw [close, if_neg (ne_shut h), if_pos h]
theorem close_open (r : List UInt8) (o : Nat) : close (40 :: r) (o + 1) = close r (o + 2) := by rw [close, if_neg (by decide), if_neg (by decide), if_pos rfl]
theorem close_bad {c : UInt8} (h : isL c = false) (h1 : c ≠ 40) (h2 : c ≠ 41) (r : List UInt8) (o : Nat) : close (c :: r) (o + 1) = none := by rw [close, if_neg h2, if_neg (by simp [h]), if_neg h1]
theorem piece_let {c : UInt8} (h : isL c = true) (r : List UInt8) : piece (c :: r) = some r := by rw [piece, if_pos h]
theorem piece_open (r : List UInt8) : piece (40 :: r) = close r 1 := by rw [piece, if_neg (by decide), if_pos rfl]
theorem piece_bad {c : UInt8} (h : isL c = false) (h1 : c ≠ 40) (r : List UInt8) : piece (c :: r) = none := by rw [piece, if_neg (by simp [h]), if_neg h1]
theorem piece_shut (r : List UInt8) : piece (41 :: r) = none := piece_bad (by decide) (by decide) r
theorem close_drop : ∀ (l : List UInt8) (o : Nat) (r : List UInt8), close l o = some r → r.length + o ≤ l.length ∧ l.drop (l.length - r.length) = r := by
  intro l
  induction l with
  | nil => intro o r h; cases o with
    | zero => rw [close_zero] at h; injection h with h; subst h; simp
    | succ o => rw [close_nil] at h; cases h
  | cons c l ih =>
    intro o r h
    have step : ∀ o', close l o' = some r → r.length + o' ≤ l.length ∧ (c :: l).drop ((c :: l).length - r.length) = r := fun o' h' => by
      obtain ⟨h1, h2⟩ := ih o' r h'
      refine ⟨h1, ?_⟩
      rw [List.length_cons, show l.length + 1 - r.length = (l.length - r.length) + 1 by omega, List.drop_succ_cons, h2]
    cases o with
    | zero => rw [close_zero] at h; injection h with h; subst h; simp
    | succ o =>
      rw [close] at h
      rw [List.length_cons] at *
      split at h
      · have := step o h; exact ⟨by omega, by simpa using this.2⟩
      · split at h
        · have := step (o + 1) h; exact ⟨by omega, by simpa using this.2⟩
        · split at h
          · have := step (o + 2) h; exact ⟨by omega, by simpa using this.2⟩
          · cases h
theorem piece_drop {l r : List UInt8} (h : piece l = some r) : r.length < l.length ∧ l.drop (l.length - r.length) = r := by
  cases l with
  | nil => cases h
  | cons c l =>
    have e : ∀ k : Nat, k ≤ l.length → (c :: l).drop ((c :: l).length - k) = l.drop (l.length - k) := fun k hk => by
      rw [List.length_cons, show l.length + 1 - k = (l.length - k) + 1 by omega, List.drop_succ_cons]
    rw [piece] at h
    split at h
    · injection h with h; subst h
      exact ⟨by simp, by rw [e _ (Nat.le_refl _)]; simp⟩
    · split at h
      · obtain ⟨h1, h2⟩ := close_drop _ _ _ h
        exact ⟨by simp; omega, by rw [e _ (by omega), h2]⟩
      · cases h
theorem piece_take {l r : List UInt8} (h : piece l = some r) : l.take (l.length - r.length) ++ r = l := by
  have := List.take_append_drop (l.length - r.length) l
  rwa [(piece_drop h).2] at this
theorem close_add : ∀ (l : List UInt8) (a b : Nat), close l (a + b) = (close l a).bind (close · b) := by
  intro l
  induction l with
  | nil => intro a b; cases a with
    | zero => rw [close_zero, Nat.zero_add]; rfl
    | succ a => rw [show a + 1 + b = (a + b) + 1 by omega, close_nil, close_nil]; rfl
  | cons c l ih =>
    intro a b
    cases a with
    | zero => rw [close_zero, Nat.zero_add]; rfl
    | succ a =>
      rw [show a + 1 + b = (a + b) + 1 by omega, close, close]
      split
      · exact ih a b
      · split
        · rw [show a + b + 1 = a + 1 + b by omega]; exact ih (a + 1) b
        · split
          · rw [show a + b + 2 = a + 2 + b by omega]; exact ih (a + 2) b
          · rfl
theorem close_piece {c : UInt8} (h : c ≠ 41) (r : List UInt8) (o : Nat) : close (c :: r) (o + 1) = (piece (c :: r)).bind (close · (o + 1)) := by
  rw [close, if_neg h, piece]
  split
  · rfl
  · split
    · rw [show o + 2 = 1 + (o + 1) by omega]; exact close_add r 1 (o + 1)
    · rfl

/-- the same, with letters that have stood -/
def closeU : List UInt8 → Nat → List Bool → Option (List UInt8 × List Bool)
  | l, 0, U => some (l, U)
  | [], _ + 1, _ => none
  | c :: r, o + 1, U => if c = 41 then closeU r o U else if isL c then (if U.getD (c.toNat - 97) true then none else closeU r (o + 1) (U.set (c.toNat - 97) true)) else if c = 40 then closeU r (o + 2) U else none
def pieceU : List UInt8 → List Bool → Option (List UInt8 × List Bool)
  | [], _ => none
  | c :: r, U => if isL c then (if U.getD (c.toNat - 97) true then none else some (r, U.set (c.toNat - 97) true)) else if c = 40 then closeU r 1 U else none
theorem closeU_zero (l : List UInt8) (U : List Bool) : closeU l 0 U = some (l, U) := by cases l <;> rfl
theorem closeU_nil (o : Nat) (U : List Bool) : closeU [] (o + 1) U = none := rfl
theorem closeU_shut (r : List UInt8) (o : Nat) (U : List Bool) : closeU (41 :: r) (o + 1) U = closeU r o U := by rw [closeU, if_pos rfl]
theorem pieceU_used {c : UInt8} (h : isL c = true) (r : List UInt8) {U : List Bool} (hu : U.getD (c.toNat - 97) true = true) : pieceU (c :: r) U = none := by rw [pieceU, if_pos h, if_pos hu]
theorem pieceU_let {c : UInt8} (h : isL c = true) (r : List UInt8) {U : List Bool} (hu : U.getD (c.toNat - 97) true = false) : pieceU (c :: r) U = some (r, U.set (c.toNat - 97) true) := by rw [pieceU, if_pos h, if_neg (by rw [hu]; decide)]
theorem pieceU_open (r : List UInt8) (U : List Bool) : pieceU (40 :: r) U = closeU r 1 U := by rw [pieceU, if_neg (by decide), if_pos rfl]
theorem pieceU_bad {c : UInt8} (h : isL c = false) (h1 : c ≠ 40) (r : List UInt8) (U : List Bool) : pieceU (c :: r) U = none := by rw [pieceU, if_neg (by simp [h]), if_neg h1]
theorem closeU_add : ∀ (l : List UInt8) (a b : Nat) (U : List Bool), closeU l (a + b) U = (closeU l a U).bind fun x => closeU x.1 b x.2 := by
  intro l
  induction l with
  | nil => intro a b U; cases a with
    | zero => rw [closeU_zero, Nat.zero_add]; rfl
    | succ a => rw [show a + 1 + b = (a + b) + 1 by omega, closeU_nil, closeU_nil]; rfl
  | cons c l ih =>
    intro a b U
    cases a with
    | zero => rw [closeU_zero, Nat.zero_add]; rfl
    | succ a =>
      rw [show a + 1 + b = (a + b) + 1 by omega, closeU, closeU]
      split
      · exact ih a b U
      · split
        · split
          · rfl
          · rw [show a + b + 1 = a + 1 + b by omega]; exact ih (a + 1) b _
        · split
          · rw [show a + b + 2 = a + 2 + b by omega]; exact ih (a + 2) b U
          · rfl
theorem closeU_piece {c : UInt8} (h : c ≠ 41) (r : List UInt8) (o : Nat) (U : List Bool) : closeU (c :: r) (o + 1) U = (pieceU (c :: r) U).bind fun x => closeU x.1 (o + 1) x.2 := by
  rw [closeU, if_neg h, pieceU]
  split
  · split <;> rfl
  · split
    · rw [show o + 2 = 1 + (o + 1) by omega]; exact closeU_add r 1 (o + 1) U
    · rfl
theorem closeU_len : ∀ (l : List UInt8) (o : Nat) (U : List Bool) (x : List UInt8 × List Bool), closeU l o U = some x → x.2.length = U.length ∧ x.1.length + o ≤ l.length ∧ l.drop (l.length - x.1.length) = x.1 := by
  intro l
  induction l with
  | nil => intro o U x h; cases o with
    | zero => rw [closeU_zero] at h; injection h with h; subst h; simp
    | succ o => rw [closeU_nil] at h; cases h
  | cons c l ih =>
    intro o U x h
    have step : ∀ o' (V : List Bool), V.length = U.length → closeU l o' V = some x → x.2.length = U.length ∧ x.1.length + o' ≤ l.length ∧ (c :: l).drop (l.length + 1 - x.1.length) = x.1 := fun o' V hV h' => by
      obtain ⟨h0, h1, h2⟩ := ih o' V x h'
      refine ⟨h0.trans hV, h1, ?_⟩
      rw [show l.length + 1 - x.1.length = (l.length - x.1.length) + 1 by omega, List.drop_succ_cons, h2]
    cases o with
    | zero => rw [closeU_zero] at h; injection h with h; subst h; simp
    | succ o =>
      rw [closeU] at h
      rw [List.length_cons]
      split at h
      · obtain ⟨a, b, c⟩ := step o U rfl h; exact ⟨a, by omega, c⟩
      · split at h
        · split at h
          · cases h
          · obtain ⟨a, b, c⟩ := step (o + 1) _ (by simp) h; exact ⟨a, by omega, c⟩
        · split at h
          · obtain ⟨a, b, c⟩ := step (o + 2) U rfl h; exact ⟨a, by omega, c⟩
          · cases h
theorem pieceU_len {l : List UInt8} {U : List Bool} {x : List UInt8 × List Bool} (h : pieceU l U = some x) : x.2.length = U.length ∧ x.1.length < l.length ∧ l.drop (l.length - x.1.length) = x.1 := by
  cases l with
  | nil => cases h
  | cons c l =>
    have e : ∀ k : Nat, k ≤ l.length → (c :: l).drop ((c :: l).length - k) = l.drop (l.length - k) := fun k hk => by
      rw [List.length_cons, show l.length + 1 - k = (l.length - k) + 1 by omega, List.drop_succ_cons]
    rw [pieceU] at h
    split at h
    · split at h
      · cases h
      · injection h with h; subst h
        exact ⟨by simp, by simp, by rw [e _ (Nat.le_refl _)]; simp⟩
    · split at h
      · obtain ⟨h0, h1, h2⟩ := closeU_len _ _ _ _ h
        exact ⟨h0, by simp; omega, by rw [e _ (by omega), h2]⟩
      · cases h
/-- how often the letter i stands in a text -/
def cntL (l : List UInt8) (i : Nat) : Nat := l.countP fun c => c.toNat == 97 + i
theorem cntL_nil (i : Nat) : cntL [] i = 0 := rfl
theorem cntL_cons (c : UInt8) (l : List UInt8) (i : Nat) : cntL (c :: l) i = cntL l i + (if c.toNat = 97 + i then 1 else 0) := by
  rw [cntL, cntL, List.countP_cons]
  by_cases h : c.toNat = 97 + i <;> simp [h]
theorem cntL_other {c : UInt8} (h : isL c = false) (l : List UInt8) {i : Nat} (hi : i < 8) : cntL (c :: l) i = cntL l i := by
  have : ¬ c.toNat = 97 + i := fun e => by simp [isL, e] at h; omega
  rw [cntL_cons, if_neg this]; omega
def usd (U : List Bool) (i : Nat) : Nat := if U.getD i true then 1 else 0
theorem usd_set (U : List Bool) (hU : U.length = 8) {k i : Nat} (hk : k < 8) (hi : i < 8) : usd (U.set k true) i = if i = k then 1 else usd U i := by
  have h2 : (U.set k true).getD i true = if i = k then true else U.getD i true := by
    rw [List.getD_eq_getElem?_getD, List.getD_eq_getElem?_getD, List.getElem?_set]
    by_cases h : k = i
    · subst h; simp [hU, hk]
    · rw [if_neg h, if_neg (fun e => h e.symm)]
  rw [usd, usd, h2]
  by_cases h : i = k
  · rw [if_pos h, if_pos h, if_pos rfl]
  · rw [if_neg h, if_neg h]
theorem closeU_iff : ∀ (l : List UInt8) (o : Nat) (U : List Bool), U.length = 8 → ((∃ V, closeU l o U = some ([], V)) ↔ (close l o = some [] ∧ ∀ i, i < 8 → cntL l i + usd U i ≤ 1)) := by
  intro l
  have hu1 : ∀ (U : List Bool) i, usd U i ≤ 1 := fun U i => by rw [usd]; split <;> omega
  induction l with
  | nil =>
    intro o U hU
    cases o with
    | zero =>
      rw [closeU_zero, close_zero]
      exact ⟨fun _ => ⟨rfl, fun i _ => (by rw [cntL_nil]; have := hu1 U i; omega)⟩, fun _ => ⟨U, rfl⟩⟩
    | succ o =>
      rw [closeU_nil, close_nil]
      exact ⟨fun ⟨_, h⟩ => (by cases h), fun ⟨h, _⟩ => by cases h⟩
  | cons c l ih =>
    intro o U hU
    cases o with
    | zero =>
      rw [closeU_zero, close_zero]
      exact ⟨fun ⟨_, h⟩ => (by injection h with h; injection h with h _; cases h), fun ⟨h, _⟩ => (by injection h with h; cases h)⟩
    | succ o =>
      by_cases h41 : c = 41
      · subst h41
        rw [closeU_shut, close_shut, ih o U hU]
        exact and_congr_right fun _ => forall_congr' fun i => forall_congr' fun hi => by rw [cntL_other (by decide) l hi]
      · cases hL : isL c
        · by_cases h40 : c = 40
          · subst h40
            rw [closeU, if_neg (by decide), if_neg (by decide), if_pos rfl, close_open, ih (o + 2) U hU]
            exact and_congr_right fun _ => forall_congr' fun i => forall_congr' fun hi => by rw [cntL_other (by decide) l hi]
          · rw [closeU, if_neg h41, if_neg (by simp [hL]), if_neg h40, close_bad hL h40 h41]
            exact ⟨fun ⟨_, h⟩ => (by cases h), fun ⟨h, _⟩ => by cases h⟩
        · have hk := isL_iff.1 hL
          rw [closeU, if_neg h41, if_pos hL, close_let hL]
          cases hb : U.getD (c.toNat - 97) true
          · rw [if_neg (by decide), ih (o + 1) _ (by simpa using hU)]
            have h0 : usd U (c.toNat - 97) = 0 := by rw [usd, hb]; rfl
            refine and_congr_right fun _ => forall_congr' fun i => forall_congr' fun hi => ?_
            rw [usd_set U hU (by omega) hi, cntL_cons]
            by_cases he : i = c.toNat - 97
            · have h2 : c.toNat = 97 + i := by omega
              rw [if_pos he, if_pos h2, he, h0]
            · rw [if_neg he, if_neg (by omega)]
              omega
          · rw [if_pos rfl]
            refine ⟨fun ⟨_, h⟩ => (by cases h), fun ⟨_, h⟩ => ?_⟩
            have := h (c.toNat - 97) (by omega)
            rw [cntL_cons, if_pos (by omega), usd, hb, if_pos rfl] at this
            omega
theorem pieceU_iff (l : List UInt8) (U : List Bool) (hU : U.length = 8) : (∃ V, pieceU l U = some ([], V)) ↔ (piece l = some [] ∧ ∀ i, i < 8 → cntL l i + usd U i ≤ 1) := by
  have hu1 : ∀ (U : List Bool) i, usd U i ≤ 1 := fun U i => by rw [usd]; split <;> omega
  cases l with
  | nil => exact ⟨fun ⟨_, h⟩ => (by cases h), fun ⟨h, _⟩ => by cases h⟩
  | cons c l =>
    cases hL : isL c
    · by_cases h40 : c = 40
      · subst h40
        rw [pieceU_open, piece_open, closeU_iff l 1 U hU]
        exact and_congr_right fun _ => forall_congr' fun i => forall_congr' fun hi => by rw [cntL_other (by decide) l hi]
      · rw [pieceU_bad hL h40, piece_bad hL h40]
        exact ⟨fun ⟨_, h⟩ => (by cases h), fun ⟨h, _⟩ => by cases h⟩
    · have hk := isL_iff.1 hL
      rw [piece_let hL]
      cases hb : U.getD (c.toNat - 97) true
      · rw [pieceU_let hL l hb]
        have h0 : usd U (c.toNat - 97) = 0 := by rw [usd, hb]; rfl
        constructor
        · rintro ⟨V, h⟩
          injection h with h
          injection h with h1 h2
          subst h1
          refine ⟨rfl, fun i hi => ?_⟩
          rw [cntL_cons, cntL_nil]
          split
          · have e : i = c.toNat - 97 := by omega
            rw [e, h0]; omega
          · have := hu1 U i; omega
        · rintro ⟨h, _⟩
          injection h with h
          subst h
          exact ⟨_, rfl⟩
      · rw [pieceU_used hL l hb]
        refine ⟨fun ⟨_, h⟩ => (by cases h), fun ⟨_, h⟩ => ?_⟩
        have := h (c.toNat - 97) (by omega)
        rw [cntL_cons, if_pos (by omega), usd, hb, if_pos rfl] at this
        omega
/-- whether a text is a pattern -/
def isPat (l : List UInt8) : Bool := decide (0 < l.length) && decide (l.length ≤ 60) && (piece l == some []) && ((List.range 8).all fun i => decide (cntL l i ≤ 1))
theorem isPat_iff {l : List UInt8} : isPat l = true ↔ l.length ≤ 60 ∧ piece l = some [] ∧ ∀ i, i < 8 → cntL l i ≤ 1 := by
  simp only [isPat, Bool.and_eq_true, decide_eq_true_eq, beq_iff_eq, List.all_eq_true, List.mem_range]
  exact ⟨fun ⟨⟨⟨_, b⟩, c⟩, d⟩ => ⟨b, c, d⟩, fun ⟨b, c, d⟩ => ⟨⟨⟨by have := (piece_drop c).1; simp at this; omega, b⟩, c⟩, d⟩⟩
theorem isPat_U {l : List UInt8} (h60 : l.length ≤ 60) : isPat l = true ↔ ∃ V, pieceU l (List.replicate 8 false) = some ([], V) := by
  rw [isPat_iff, pieceU_iff l _ (by simp)]
  have h : ∀ i, i < 8 → usd (List.replicate 8 false) i = 0 := by decide
  exact ⟨fun ⟨_, b, c⟩ => ⟨b, fun i hi => by rw [h i hi]; exact c i hi⟩, fun ⟨b, c⟩ => ⟨h60, b, fun i hi => by have := c i hi; rw [h i hi] at this; exact this⟩⟩

/-- what has to stand at the letters of a pattern, so that a text comes -/
def mt : List UInt8 → List UInt8 → Option (List (List UInt8))
  | [], _ => some []
  | c :: P, T => if isL c then (match piece T with | none => none | some r => (mt P r).map (T.take (T.length - r.length) :: ·)) else (match T with | [] => none | d :: T' => if d = c then mt P T' else none)
theorem mt_nil (T : List UInt8) : mt [] T = some [] := by rw [mt]
theorem mt_let {c : UInt8} (h : isL c = true) (P : List UInt8) {T r : List UInt8} (hr : piece T = some r) : mt (c :: P) T = (mt P r).map (T.take (T.length - r.length) :: ·) := by rw [mt.eq_def]; simp [h, hr]
theorem mt_none {c : UInt8} (h : isL c = true) (P : List UInt8) {T : List UInt8} (hr : piece T = none) : mt (c :: P) T = none := by rw [mt.eq_def]; simp [h, hr]
theorem mt_same {c : UInt8} (h : isL c = false) (P T : List UInt8) : mt (c :: P) (c :: T) = mt P T := by rw [mt.eq_def]; simp [h]
theorem mt_other {c d : UInt8} (h : isL c = false) (P T : List UInt8) (hd : d ≠ c) : mt (c :: P) (d :: T) = none := by rw [mt.eq_def]; simp [h, hd]
theorem mt_end {c : UInt8} (P : List UInt8) : mt (c :: P) [] = none := by rw [mt.eq_def]; cases h : isL c <;> simp [h, piece]
/-- both texts are read side by side -/
def both (P T : List UInt8) : Prop := (piece P = some [] ∧ piece T = some []) ∨ ∃ o, close P o = some [] ∧ close T o = some []
theorem both_end {T : List UInt8} (h : both [] T) : T = [] := by
  rcases h with ⟨h, _⟩ | ⟨o, h1, h2⟩
  · cases h
  · cases o with
    | zero => rw [close_zero] at h2; injection h2
    | succ o => rw [close_nil] at h1; cases h1
theorem both_more {c : UInt8} {P : List UInt8} (h : both (c :: P) []) : False := by
  rcases h with ⟨_, h⟩ | ⟨o, h1, h2⟩
  · cases h
  · cases o with
    | zero => rw [close_zero] at h1; injection h1 with h1; cases h1
    | succ o => rw [close_nil] at h2; cases h2
theorem both_kind {c : UInt8} {P T : List UInt8} (h : both (c :: P) T) : isL c = true ∨ c = 40 ∨ c = 41 := by
  cases hL : isL c
  · by_cases h0 : c = 40
    · exact .inr (.inl h0)
    · by_cases h1 : c = 41
      · exact .inr (.inr h1)
      · exfalso
        rcases h with ⟨h, _⟩ | ⟨o, h, _⟩
        · rw [piece_bad hL h0] at h; cases h
        · cases o with
          | zero => rw [close_zero] at h; injection h with h; cases h
          | succ o => rw [close_bad hL h0 h1] at h; cases h
  · exact .inl rfl
theorem both_let {c d : UInt8} {P T : List UInt8} (h : both (c :: P) (d :: T)) (hL : isL c = true) (hd : d ≠ 41) : ∃ r, piece (d :: T) = some r ∧ both P r := by
  rcases h with ⟨h1, h2⟩ | ⟨o, h1, h2⟩
  · rw [piece_let hL] at h1
    injection h1 with h1
    subst h1
    exact ⟨[], h2, .inr ⟨0, close_zero _, close_zero _⟩⟩
  · cases o with
    | zero => rw [close_zero] at h1; injection h1 with h1; cases h1
    | succ o =>
      rw [close_let hL] at h1
      rw [close_piece hd] at h2
      cases hp : piece (d :: T) with
      | none => rw [hp] at h2; cases h2
      | some r =>
        rw [hp] at h2
        exact ⟨r, rfl, .inr ⟨o + 1, h1, h2⟩⟩
theorem both_same {c : UInt8} {P T : List UInt8} (h : both (c :: P) (c :: T)) (hL : isL c = false) : both P T := by
  rcases h with ⟨h1, h2⟩ | ⟨o, h1, h2⟩
  · by_cases h0 : c = 40
    · subst h0
      rw [piece_open] at h1 h2
      exact .inr ⟨1, h1, h2⟩
    · rw [piece_bad hL h0] at h1; cases h1
  · cases o with
    | zero => rw [close_zero] at h1; injection h1 with h1; cases h1
    | succ o =>
      by_cases h0 : c = 41
      · subst h0
        rw [close_shut] at h1 h2
        exact .inr ⟨o, h1, h2⟩
      · by_cases h4 : c = 40
        · subst h4
          rw [close_open] at h1 h2
          exact .inr ⟨o + 2, h1, h2⟩
        · rw [close_bad hL h4 h0] at h1; cases h1
theorem mt_shut {c : UInt8} (hL : isL c = true) (P T : List UInt8) : mt (c :: P) (41 :: T) = none := mt_none hL P (piece_shut T)
end Go.Proofs.Ytbdmmeoelagdcaa.M
