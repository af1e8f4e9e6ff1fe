/- Patterns and their texts: the mathematics. No program is named here. -/
import Derived.Test.YtbdmmeoelagdcaaMgCountAvoiding1
import Derived.Shelf.Small.Strs
import Derived.Shelf.LaysM
import Derived.Shelf.Strconv.Clone
import Derived.Shelf.Strings.Count
import Derived.Shelf.Strings.Prefix
import Derived.Test.YtbdmmeoelagdcaaProg
import Derived.Scope
import Derived.ScopeJumps
import Derived.WalkMore
import Derived.RangeFuncNested
import Derived.RangeFuncBound
import Derived.RangeFuncCalls
import Derived.RangeFuncLeaves
import Derived.Shelf.Abstract
import Derived.OwnWalkIn
import Derived.TacticsInMore
import Derived.LoopNIn
import Derived.LoopIn
import Derived.Maps.OwnIn
import Derived.Shelf.RegionOpen
namespace Go.Proofs.Ytbdmmeoelagdcaa.M
/-- a letter of patterns -/
def isL (c : UInt8) : Bool := decide (97 ≤ c.toNat) && decide (c.toNat ≤ 104)
theorem isL_iff {c : UInt8} : isL c = true ↔ 97 ≤ c.toNat ∧ c.toNat ≤ 104 := by simp [isL]
theorem isL_40 : isL 40 = false := by decide
theorem isL_41 : isL 41 = false := by decide
/-- what stands behind all that o brackets hold open -/
def close : List UInt8 → Nat → Option (List UInt8)
  | l, 0 => some l
  | [], _ + 1 => none
  | c :: r, o + 1 => if c = 41 then close r o else if isL c then close r (o + 1) else if c = 40 then close r (o + 2) else none
/-- what stands behind the piece that begins a text -/
def piece : List UInt8 → Option (List UInt8)
  | [] => none
  | c :: r => if isL c then some r else if c = 40 then close r 1 else none
theorem close_zero (l : List UInt8) : close l 0 = some l := by cases l <;> rfl
theorem close_nil (o : Nat) : close [] (o + 1) = none := rfl
theorem close_shut (r : List UInt8) (o : Nat) : close (41 :: r) (o + 1) = close r o := by rw [close, if_pos rfl]
theorem ne_shut {c : UInt8} (h : isL c = true) : c ≠ 41 := fun e => by rw [e] at h; cases h
theorem ne_open {c : UInt8} (h : isL c = true) : c ≠ 40 := fun e => by rw [e] at h; cases h
theorem close_let {c : UInt8} (h : isL c = true) (r : List UInt8) (o : Nat) : close (c :: r) (o + 1) = close r (o + 1) := by rw [close, if_neg (ne_shut h), if_pos h]
theorem close_open (r : List UInt8) (o : Nat) : close (40 :: r) (o + 1) = close r (o + 2) := by rw [close, if_neg (by decide), if_neg (by decide), if_pos rfl]
theorem close_bad {c : UInt8} (h : isL c = false) (h1 : c ≠ 40) (h2 : c ≠ 41) (r : List UInt8) (o : Nat) : close (c :: r) (o + 1) = none := by rw [close, if_neg h2, if_neg (by simp [h]), if_neg h1]
theorem piece_let {c : UInt8} (h : isL c = true) (r : List UInt8) : piece (c :: r) = some r := by rw [piece, if_pos h]
theorem piece_open (r : List UInt8) : piece (40 :: r) = close r 1 := by rw [piece, if_neg (by decide), if_pos rfl]
theorem piece_bad {c : UInt8} (h : isL c = false) (h1 : c ≠ 40) (r : List UInt8) : piece (c :: r) = none := by rw [piece, if_neg (by simp [h]), if_neg h1]
theorem piece_shut (r : List UInt8) : piece (41 :: r) = none := piece_bad (by decide) (by decide) r
theorem close_drop : ∀ (l : List UInt8) (o : Nat) (r : List UInt8), close l o = some r → r.length + o ≤ l.length ∧ l.drop (l.length - r.length) = r := by
  intro l
  induction l with
  | nil => intro o r h; cases o with
    | zero => rw [close_zero] at h; injection h with h; subst h; simp
    | succ o => rw [close_nil] at h; cases h
  | cons c l ih =>
    intro o r h
    have step : ∀ o', close l o' = some r → r.length + o' ≤ l.length ∧ (c :: l).drop ((c :: l).length - r.length) = r := fun o' h' => by
      obtain ⟨h1, h2⟩ := ih o' r h'
      refine ⟨h1, ?_⟩
      rw [List.length_cons, show l.length + 1 - r.length = (l.length - r.length) + 1 by omega, List.drop_succ_cons, h2]
    cases o with
    | zero => rw [close_zero] at h; injection h with h; subst h; simp
    | succ o =>
      rw [close] at h
      rw [List.length_cons] at *
      split at h
      · have := step o h; exact ⟨by omega, by simpa using this.2⟩
      · split at h
        · have := step (o + 1) h; exact ⟨by omega, by simpa using this.2⟩
        · split at h
          · have := step (o + 2) h; exact ⟨by omega, by simpa using this.2⟩
          · cases h
theorem piece_drop {l r : List UInt8} (h : piece l = some r) : r.length < l.length ∧ l.drop (l.length - r.length) = r := by
  cases l with
  | nil => cases h
  | cons c l =>
    have e : ∀ k : Nat, k ≤ l.length → (c :: l).drop ((c :: l).length - k) = l.drop (l.length - k) := fun k hk => by
      rw [List.length_cons, show l.length + 1 - k = (l.length - k) + 1 by omega, List.drop_succ_cons]
    rw [piece] at h
    split at h
    · injection h with h; subst h
      exact ⟨by simp, by rw [e _ (Nat.le_refl _)]; simp⟩
    · split at h
      · obtain ⟨h1, h2⟩ := close_drop _ _ _ h
        exact ⟨by simp; omega, by rw [e _ (by omega), h2]⟩
      · cases h
theorem piece_take {l r : List UInt8} (h : piece l = some r) : l.take (l.length - r.length) ++ r = l := by
  have := List.take_append_drop (l.length - r.length) l
  rwa [(piece_drop h).2] at this
theorem close_add : ∀ (l : List UInt8) (a b : Nat), close l (a + b) = (close l a).bind (close · b) := by
  intro l
  induction l with
  | nil => intro a b; cases a with
    | zero => rw [close_zero, Nat.zero_add]; rfl
    | succ a => rw [show a + 1 + b = (a + b) + 1 by omega, close_nil, close_nil]; rfl
  | cons c l ih =>
    intro a b
    cases a with
    | zero => rw [close_zero, Nat.zero_add]; rfl
    | succ a =>
      rw [show a + 1 + b = (a + b) + 1 by omega, close, close]
      split
      · exact ih a b
      · split
        · rw [show a + b + 1 = a + 1 + b by omega]; exact ih (a + 1) b
        · split
          · rw [show a + b + 2 = a + 2 + b by omega]; exact ih (a + 2) b
          · rfl
theorem close_piece {c : UInt8} (h : c ≠ 41) (r : List UInt8) (o : Nat) : close (c :: r) (o + 1) = (piece (c :: r)).bind (close · (o + 1)) := by
  rw [close, if_neg h, piece]
  split
  · rfl
  · split
    · rw [show o + 2 = 1 + (o + 1) by omega]; exact close_add r 1 (o + 1)
    · rfl

/-- the same, with letters that have stood -/
def closeU : List UInt8 → Nat → List Bool → Option (List UInt8 × List Bool)
  | l, 0, U => some (l, U)
  | [], _ + 1, _ => none
  | c :: r, o + 1, U => if c = 41 then closeU r o U else if isL c then (if U.getD (c.toNat - 97) true then none else closeU r (o + 1) (U.set (c.toNat - 97) true)) else if c = 40 then closeU r (o + 2) U else none
def pieceU : List UInt8 → List Bool → Option (List UInt8 × List Bool)
  | [], _ => none
  | c :: r, U => if isL c then (if U.getD (c.toNat - 97) true then none else some (r, U.set (c.toNat - 97) true)) else if c = 40 then closeU r 1 U else none
theorem closeU_zero (l : List UInt8) (U : List Bool) : closeU l 0 U = some (l, U) := by cases l <;> rfl
theorem closeU_nil (o : Nat) (U : List Bool) : closeU [] (o + 1) U = none := rfl
theorem closeU_shut (r : List UInt8) (o : Nat) (U : List Bool) : closeU (41 :: r) (o + 1) U = closeU r o U := by rw [closeU, if_pos rfl]
theorem pieceU_used {c : UInt8} (h : isL c = true) (r : List UInt8) {U : List Bool} (hu : U.getD (c.toNat - 97) true = true) : pieceU (c :: r) U = none := by rw [pieceU, if_pos h, if_pos hu]
theorem pieceU_let {c : UInt8} (h : isL c = true) (r : List UInt8) {U : List Bool} (hu : U.getD (c.toNat - 97) true = false) : pieceU (c :: r) U = some (r, U.set (c.toNat - 97) true) := by rw [pieceU, if_pos h, if_neg (by rw [hu]; decide)]
theorem pieceU_open (r : List UInt8) (U : List Bool) : pieceU (40 :: r) U = closeU r 1 U := by rw [pieceU, if_neg (by decide), if_pos rfl]
theorem pieceU_bad {c : UInt8} (h : isL c = false) (h1 : c ≠ 40) (r : List UInt8) (U : List Bool) : pieceU (c :: r) U = none := by rw [pieceU, if_neg (by simp [h]), if_neg h1]
theorem closeU_add : ∀ (l : List UInt8) (a b : Nat) (U : List Bool), closeU l (a + b) U = (closeU l a U).bind fun x => closeU x.1 b x.2 := by
  intro l
  induction l with
  | nil => intro a b U; cases a with
    | zero => rw [closeU_zero, Nat.zero_add]; rfl
    | succ a => rw [show a + 1 + b = (a + b) + 1 by omega, closeU_nil, closeU_nil]; rfl
  | cons c l ih =>
    intro a b U
    cases a with
    | zero => rw [closeU_zero, Nat.zero_add]; rfl
    | succ a =>
      rw [show a + 1 + b = (a + b) + 1 by omega, closeU, closeU]
      split
      · exact ih a b U
      · split
        · split
          · rfl
          · rw [show a + b + 1 = a + 1 + b by omega]; exact ih (a + 1) b _
        · split
          · rw [show a + b + 2 = a + 2 + b by omega]; exact ih (a + 2) b U
          · rfl
theorem closeU_piece {c : UInt8} (h : c ≠ 41) (r : List UInt8) (o : Nat) (U : List Bool) : closeU (c :: r) (o + 1) U = (pieceU (c :: r) U).bind fun x => closeU x.1 (o + 1) x.2 := by
  rw [closeU, if_neg h, pieceU]
  split
  · split <;> rfl
  · split
    · rw [show o + 2 = 1 + (o + 1) by omega]; exact closeU_add r 1 (o + 1) U
    · rfl
theorem closeU_len : ∀ (l : List UInt8) (o : Nat) (U : List Bool) (x : List UInt8 × List Bool), closeU l o U = some x → x.2.length = U.length ∧ x.1.length + o ≤ l.length ∧ l.drop (l.length - x.1.length) = x.1 := by
  intro l
  induction l with
  | nil => intro o U x h; cases o with
    | zero => rw [closeU_zero] at h; injection h with h; subst h; simp
    | succ o => rw [closeU_nil] at h; cases h
  | cons c l ih =>
    intro o U x h
    have step : ∀ o' (V : List Bool), V.length = U.length → closeU l o' V = some x → x.2.length = U.length ∧ x.1.length + o' ≤ l.length ∧ (c :: l).drop (l.length + 1 - x.1.length) = x.1 := fun o' V hV h' => by
      obtain ⟨h0, h1, h2⟩ := ih o' V x h'
      refine ⟨h0.trans hV, h1, ?_⟩
      rw [show l.length + 1 - x.1.length = (l.length - x.1.length) + 1 by omega, List.drop_succ_cons, h2]
    cases o with
    | zero => rw [closeU_zero] at h; injection h with h; subst h; simp
    | succ o =>
      rw [closeU] at h
      rw [List.length_cons]
      split at h
      · obtain ⟨a, b, c⟩ := step o U rfl h; exact ⟨a, by omega, c⟩
      · split at h
        · split at h
          · cases h
          · obtain ⟨a, b, c⟩ := step (o + 1) _ (by simp) h; exact ⟨a, by omega, c⟩
        · split at h
          · obtain ⟨a, b, c⟩ := step (o + 2) U rfl h; exact ⟨a, by omega, c⟩
          · cases h
theorem pieceU_len {l : List UInt8} {U : List Bool} {x : List UInt8 × List Bool} (h : pieceU l U = some x) : x.2.length = U.length ∧ x.1.length < l.length ∧ l.drop (l.length - x.1.length) = x.1 := by
  cases l with
  | nil => cases h
  | cons c l =>
    have e : ∀ k : Nat, k ≤ l.length → (c :: l).drop ((c :: l).length - k) = l.drop (l.length - k) := fun k hk => by
      rw [List.length_cons, show l.length + 1 - k = (l.length - k) + 1 by omega, List.drop_succ_cons]
    rw [pieceU] at h
    split at h
    · split at h
      · cases h
      · injection h with h; subst h
        exact ⟨by simp, by simp, by rw [e _ (Nat.le_refl _)]; simp⟩
    · split at h
      · obtain ⟨h0, h1, h2⟩ := closeU_len _ _ _ _ h
        exact ⟨h0, by simp; omega, by rw [e _ (by omega), h2]⟩
      · cases h
/-- how often the letter i stands in a text -/
def cntL (l : List UInt8) (i : Nat) : Nat := l.countP fun c => c.toNat == 97 + i
theorem cntL_nil (i : Nat) : cntL [] i = 0 := rfl
theorem cntL_cons (c : UInt8) (l : List UInt8) (i : Nat) : cntL (c :: l) i = cntL l i + (if c.toNat = 97 + i then 1 else 0) := by
  rw [cntL, cntL, List.countP_cons]
  by_cases h : c.toNat = 97 + i <;> simp [h]
theorem cntL_other {c : UInt8} (h : isL c = false) (l : List UInt8) {i : Nat} (hi : i < 8) : cntL (c :: l) i = cntL l i := by
  have : ¬ c.toNat = 97 + i := fun e => by simp [isL, e] at h; omega
  rw [cntL_cons, if_neg this]; omega
def usd (U : List Bool) (i : Nat) : Nat := if U.getD i true then 1 else 0
theorem usd_set (U : List Bool) (hU : U.length = 8) {k i : Nat} (hk : k < 8) (hi : i < 8) : usd (U.set k true) i = if i = k then 1 else usd U i := by
  have h2 : (U.set k true).getD i true = if i = k then true else U.getD i true := by
    rw [List.getD_eq_getElem?_getD, List.getD_eq_getElem?_getD, List.getElem?_set]
    by_cases h : k = i
    · subst h; simp [hU, hk]
    · rw [if_neg h, if_neg (fun e => h e.symm)]
  rw [usd, usd, h2]
  by_cases h : i = k
  · rw [if_pos h, if_pos h, if_pos rfl]
  · rw [if_neg h, if_neg h]
theorem closeU_iff : ∀ (l : List UInt8) (o : Nat) (U : List Bool), U.length = 8 → ((∃ V, closeU l o U = some ([], V)) ↔ (close l o = some [] ∧ ∀ i, i < 8 → cntL l i + usd U i ≤ 1)) := by
  intro l
  have hu1 : ∀ (U : List Bool) i, usd U i ≤ 1 := fun U i => by rw [usd]; split <;> omega
  induction l with
  | nil =>
    intro o U hU
    cases o with
    | zero =>
      rw [closeU_zero, close_zero]
      exact ⟨fun _ => ⟨rfl, fun i _ => (by rw [cntL_nil]; have := hu1 U i; omega)⟩, fun _ => ⟨U, rfl⟩⟩
    | succ o =>
      rw [closeU_nil, close_nil]
      exact ⟨fun ⟨_, h⟩ => (by cases h), fun ⟨h, _⟩ => by cases h⟩
  | cons c l ih =>
    intro o U hU
    cases o with
    | zero =>
      rw [closeU_zero, close_zero]
      exact ⟨fun ⟨_, h⟩ => (by injection h with h; injection h with h _; cases h), fun ⟨h, _⟩ => (by injection h with h; cases h)⟩
    | succ o =>
      by_cases h41 : c = 41
      · subst h41
        rw [closeU_shut, close_shut, ih o U hU]
        exact and_congr_right fun _ => forall_congr' fun i => forall_congr' fun hi => by rw [cntL_other (by decide) l hi]
      · cases hL : isL c
        · by_cases h40 : c = 40
          · subst h40
            rw [closeU, if_neg (by decide), if_neg (by decide), if_pos rfl, close_open, ih (o + 2) U hU]
            exact and_congr_right fun _ => forall_congr' fun i => forall_congr' fun hi => by rw [cntL_other (by decide) l hi]
          · rw [closeU, if_neg h41, if_neg (by simp [hL]), if_neg h40, close_bad hL h40 h41]
            exact ⟨fun ⟨_, h⟩ => (by cases h), fun ⟨h, _⟩ => by cases h⟩
        · have hk := isL_iff.1 hL
          rw [closeU, if_neg h41, if_pos hL, close_let hL]
          cases hb : U.getD (c.toNat - 97) true
          · rw [if_neg (by decide), ih (o + 1) _ (by simpa using hU)]
            have h0 : usd U (c.toNat - 97) = 0 := by rw [usd, hb]; rfl
            refine and_congr_right fun _ => forall_congr' fun i => forall_congr' fun hi => ?_
            rw [usd_set U hU (by omega) hi, cntL_cons]
            by_cases he : i = c.toNat - 97
            · have h2 : c.toNat = 97 + i := by omega
              rw [if_pos he, if_pos h2, he, h0]
            · rw [if_neg he, if_neg (by omega)]
              omega
          · rw [if_pos rfl]
            refine ⟨fun ⟨_, h⟩ => (by cases h), fun ⟨_, h⟩ => ?_⟩
            have := h (c.toNat - 97) (by omega)
            rw [cntL_cons, if_pos (by omega), usd, hb, if_pos rfl] at this
            omega
theorem pieceU_iff (l : List UInt8) (U : List Bool) (hU : U.length = 8) : (∃ V, pieceU l U = some ([], V)) ↔ (piece l = some [] ∧ ∀ i, i < 8 → cntL l i + usd U i ≤ 1) := by
  have hu1 : ∀ (U : List Bool) i, usd U i ≤ 1 := fun U i => by rw [usd]; split <;> omega
  cases l with
  | nil => exact ⟨fun ⟨_, h⟩ => (by cases h), fun ⟨h, _⟩ => by cases h⟩
  | cons c l =>
    cases hL : isL c
    · by_cases h40 : c = 40
      · subst h40
        rw [pieceU_open, piece_open, closeU_iff l 1 U hU]
        exact and_congr_right fun _ => forall_congr' fun i => forall_congr' fun hi => by rw [cntL_other (by decide) l hi]
      · rw [pieceU_bad hL h40, piece_bad hL h40]
        exact ⟨fun ⟨_, h⟩ => (by cases h), fun ⟨h, _⟩ => by cases h⟩
    · have hk := isL_iff.1 hL
      rw [piece_let hL]
      cases hb : U.getD (c.toNat - 97) true
      · rw [pieceU_let hL l hb]
        have h0 : usd U (c.toNat - 97) = 0 := by rw [usd, hb]; rfl
        constructor
        · rintro ⟨V, h⟩
          injection h with h
          injection h with h1 h2
          subst h1
          refine ⟨rfl, fun i hi => ?_⟩
          rw [cntL_cons, cntL_nil]
          split
          · have e : i = c.toNat - 97 := by omega
            rw [e, h0]; omega
          · have := hu1 U i; omega
        · rintro ⟨h, _⟩
          injection h with h
          subst h
          exact ⟨_, rfl⟩
      · rw [pieceU_used hL l hb]
        refine ⟨fun ⟨_, h⟩ => (by cases h), fun ⟨_, h⟩ => ?_⟩
        have := h (c.toNat - 97) (by omega)
        rw [cntL_cons, if_pos (by omega), usd, hb, if_pos rfl] at this
        omega
/-- whether a text is a pattern -/
def isPat (l : List UInt8) : Bool := decide (0 < l.length) && decide (l.length ≤ 60) && (piece l == some []) && ((List.range 8).all fun i => decide (cntL l i ≤ 1))
theorem isPat_iff {l : List UInt8} : isPat l = true ↔ l.length ≤ 60 ∧ piece l = some [] ∧ ∀ i, i < 8 → cntL l i ≤ 1 := by
  simp only [isPat, Bool.and_eq_true, decide_eq_true_eq, beq_iff_eq, List.all_eq_true, List.mem_range]
  exact ⟨fun ⟨⟨⟨_, b⟩, c⟩, d⟩ => ⟨b, c, d⟩, fun ⟨b, c, d⟩ => ⟨⟨⟨by have := (piece_drop c).1; simp at this; omega, b⟩, c⟩, d⟩⟩
theorem isPat_U {l : List UInt8} (h60 : l.length ≤ 60) : isPat l = true ↔ ∃ V, pieceU l (List.replicate 8 false) = some ([], V) := by
  rw [isPat_iff, pieceU_iff l _ (by simp)]
  have h : ∀ i, i < 8 → usd (List.replicate 8 false) i = 0 := by decide
  exact ⟨fun ⟨_, b, c⟩ => ⟨b, fun i hi => by rw [h i hi]; exact c i hi⟩, fun ⟨b, c⟩ => ⟨h60, b, fun i hi => by have := c i hi; rw [h i hi] at this; exact this⟩⟩

/-- what has to stand at the letters of a pattern, so that a text comes -/
def mt : List UInt8 → List UInt8 → Option (List (List UInt8))
  | [], _ => some []
  | c :: P, T => if isL c then (match piece T with | none => none | some r => (mt P r).map (T.take (T.length - r.length) :: ·)) else (match T with | [] => none | d :: T' => if d = c then mt P T' else none)
theorem mt_nil (T : List UInt8) : mt [] T = some [] := by rw [mt]
theorem mt_let {c : UInt8} (h : isL c = true) (P : List UInt8) {T r : List UInt8} (hr : piece T = some r) : mt (c :: P) T = (mt P r).map (T.take (T.length - r.length) :: ·) := by rw [mt.eq_def]; simp [h, hr]
theorem mt_none {c : UInt8} (h : isL c = true) (P : List UInt8) {T : List UInt8} (hr : piece T = none) : mt (c :: P) T = none := by rw [mt.eq_def]; simp [h, hr]
theorem mt_same {c : UInt8} (h : isL c = false) (P T : List UInt8) : mt (c :: P) (c :: T) = mt P T := by rw [mt.eq_def]; simp [h]
theorem mt_other {c d : UInt8} (h : isL c = false) (P T : List UInt8) (hd : d ≠ c) : mt (c :: P) (d :: T) = none := by rw [mt.eq_def]; simp [h, hd]
theorem mt_end {c : UInt8} (P : List UInt8) : mt (c :: P) [] = none := by rw [mt.eq_def]; cases h : isL c <;> simp [h, piece]
/-- both texts are read side by side -/
def both (P T : List UInt8) : Prop := (piece P = some [] ∧ piece T = some []) ∨ ∃ o, close P o = some [] ∧ close T o = some []
theorem both_end {T : List UInt8} (h : both [] T) : T = [] := by
  rcases h with ⟨h, _⟩ | ⟨o, h1, h2⟩
  · cases h
  · cases o with
    | zero => rw [close_zero] at h2; injection h2
    | succ o => rw [close_nil] at h1; cases h1
theorem both_more {c : UInt8} {P : List UInt8} (h : both (c :: P) []) : False := by
  rcases h with ⟨_, h⟩ | ⟨o, h1, h2⟩
  · cases h
  · cases o with
    | zero => rw [close_zero] at h1; injection h1 with h1; cases h1
    | succ o => rw [close_nil] at h2; cases h2
theorem both_kind {c : UInt8} {P T : List UInt8} (h : both (c :: P) T) : isL c = true ∨ c = 40 ∨ c = 41 := by
  cases hL : isL c
  · by_cases h0 : c = 40
    · exact .inr (.inl h0)
    · by_cases h1 : c = 41
      · exact .inr (.inr h1)
      · exfalso
        rcases h with ⟨h, _⟩ | ⟨o, h, _⟩
        · rw [piece_bad hL h0] at h; cases h
        · cases o with
          | zero => rw [close_zero] at h; injection h with h; cases h
          | succ o => rw [close_bad hL h0 h1] at h; cases h
  · exact .inl rfl
theorem both_let {c d : UInt8} {P T : List UInt8} (h : both (c :: P) (d :: T)) (hL : isL c = true) (hd : d ≠ 41) : ∃ r, piece (d :: T) = some r ∧ both P r := by
  rcases h with ⟨h1, h2⟩ | ⟨o, h1, h2⟩
  · rw [piece_let hL] at h1
    injection h1 with h1
    subst h1
    exact ⟨[], h2, .inr ⟨0, close_zero _, close_zero _⟩⟩
  · cases o with
    | zero => rw [close_zero] at h1; injection h1 with h1; cases h1
    | succ o =>
      rw [close_let hL] at h1
      rw [close_piece hd] at h2
      cases hp : piece (d :: T) with
      | none => rw [hp] at h2; cases h2
      | some r =>
        rw [hp] at h2
        exact ⟨r, rfl, .inr ⟨o + 1, h1, h2⟩⟩
theorem both_same {c : UInt8} {P T : List UInt8} (h : both (c :: P) (c :: T)) (hL : isL c = false) : both P T := by
  rcases h with ⟨h1, h2⟩ | ⟨o, h1, h2⟩
  · by_cases h0 : c = 40
    · subst h0
      rw [piece_open] at h1 h2
      exact .inr ⟨1, h1, h2⟩
    · rw [piece_bad hL h0] at h1; cases h1
  · cases o with
    | zero => rw [close_zero] at h1; injection h1 with h1; cases h1
    | succ o =>
      by_cases h0 : c = 41
      · subst h0
        rw [close_shut] at h1 h2
        exact .inr ⟨o, h1, h2⟩
      · by_cases h4 : c = 40
        · subst h4
          rw [close_open] at h1 h2
          exact .inr ⟨o + 2, h1, h2⟩
        · rw [close_bad hL h4 h0] at h1; cases h1
theorem mt_shut {c : UInt8} (hL : isL c = true) (P T : List UInt8) : mt (c :: P) (41 :: T) = none := mt_none hL P (piece_shut T)
end Go.Proofs.Ytbdmmeoelagdcaa.M

/- What functions of patterns must do, as F says. -/
namespace Go.Proofs.Ytbdmmeoelagdcaa
open Go.RowKit

/-- a text to a bool -/
def GivesP1 (f : Nat) (F : ByteArray → Bool) : Prop :=
  ∀ (s : ByteArray) (w : World), s.size ≤ 1048576 → Calls Try.prog f #[.string s] w fun e w' => e = .returned (.bool (F s)) ∧ Hid (Below w.heap.size w w')
/-- two texts to a bool and a code -/
def GivesPB (f : Nat) (F : ByteArray → ByteArray → Bool × Int) : Prop :=
  ∀ (s u : ByteArray) (w : World), s.size ≤ 1048576 → u.size ≤ 1048576 → Calls Try.prog f #[.string s, .string u] w fun e w' => e = .returned (.tuple #[.bool (F s u).1, .int .i64 (F s u).2]) ∧ Hid (Below w.heap.size w w')
/-- two texts to a text and a code -/
def GivesPS (f : Nat) (F : ByteArray → ByteArray → ByteArray × Int) : Prop :=
  ∀ (s u : ByteArray) (w : World), s.size ≤ 1048576 → u.size ≤ 1048576 → Calls Try.prog f #[.string s, .string u] w fun e w' => e = .returned (.tuple #[.string (F s u).1, .int .i64 (F s u).2]) ∧ Hid (Below w.heap.size w w')
end Go.Proofs.Ytbdmmeoelagdcaa

/- Contracts of three functions of the library, laid at this program: strings.IndexByte, stringslite.Clone, strings.Map. No conditions but those that each states. -/
namespace Go.Proofs
open Go.Shelf
def Try.lays137_ren : Go.Shelf.Ren := ⟨fun | 137 => 144 | 217 => 165 | 266 => 178 | n => n, fun | 9 => 9 | 5 => 5 | 3 => 3 | n => n, fun | n => n⟩
theorem Try.lays137 : Go.Proofs.Lays.n137 Try.prog Try.lays137_ren := {
  mixed := by kernel_rfl
  f137 := Try.func144.trans (congrArg some (by kernel_rfl))
  f217 := Try.func165.trans (congrArg some (by kernel_rfl))
  f266 := Try.func178.trans (congrArg some (by kernel_rfl))
  t3 := Try.underlying3
  a3 := Try.isAgg3
  z3 := Try.sizeOf3
  v3 := Try.zeroValue3
  t5 := Try.underlying5
  a5 := Try.isAgg5
  z5 := Try.sizeOf5
  v5 := Try.zeroValue5
  t9 := Try.underlying9
  a9 := Try.isAgg9
  z9 := Try.sizeOf9
  v9 := Try.zeroValue9 }
open Go.RowKit in
theorem Try.strings_IndexByte (s : ByteArray) (c : Int) (w : World) :
    Calls Try.prog 144 #[.string s, .int .u8 c] w fun e w' => e = .returned (.int .i64 (Lib.indexByte s.data.toList c.toNat.toUInt8)) ∧ w' = w := Any.strings_IndexByte Try.lays137 s c w
def Try.laysM316_ren : Go.Shelf.Ren := ⟨fun | 316 => 148 | n => n, fun | 9 => 9 | 3 => 3 | 4 => 4 | 37 => 98 | 0 => 0 | 127 => 163 | 5 => 5 | n => n, fun | n => n⟩
theorem Try.laysM316 : Go.Proofs.LaysM.n316 Try.prog Try.laysM316_ren := {
  mixed := by kernel_rfl
  f316 := Try.func148.trans (congrArg some (by kernel_rfl))
  t0 := Try.underlying0
  a0 := Try.isAgg0
  z0 := Try.sizeOf0
  v0 := Try.zeroValue0
  t3 := Try.underlying3
  a3 := Try.isAgg3
  z3 := Try.sizeOf3
  v3 := Try.zeroValue3
  t4 := Try.underlying4
  a4 := Try.isAgg4
  z4 := Try.sizeOf4
  v4 := Try.zeroValue4
  t9 := Try.underlying9
  a9 := Try.isAgg9
  z9 := Try.sizeOf9
  v9 := Try.zeroValue9
  t37 := Try.underlying98
  a37 := Try.isAgg98
  z37 := Try.sizeOf98
  v37 := Try.zeroValue98
  t127 := Try.underlying163
  a127 := Try.isAgg163
  z127 := Try.sizeOf163
  v127 := Try.zeroValue163
  t5 := Try.underlying5
  a5 := Try.isAgg5
  z5 := Try.sizeOf5
  v5 := Try.zeroValue5
  i0 := by kernel_rfl
  i3 := by kernel_rfl
  i4 := by kernel_rfl
  i5 := by kernel_rfl
  i9 := by kernel_rfl
  i37 := by kernel_rfl
  i127 := by kernel_rfl }
open Go.RowKit in
theorem Try.stringslite_Clone (s : ByteArray) (w : World) (hlim : s.size ≤ 281474976710656) :
    Calls Try.prog 148 #[.string s] w fun e w' => e = .returned (.string s) ∧ Below w.heap.size w w' := Any.stringslite_Clone Try.laysM316 s w hlim
def Try.lays138_ren : Go.Shelf.Ren := ⟨fun | 138 => 67 | 195 => 125 | 218 => 126 | 143 => 127 | 219 => 160 | 217 => 165 | 225 => 168 | 224 => 167 | 267 => 177 | 266 => 178 | 314 => 183 | n => n, fun | 9 => 9 | 3 => 3 | 4 => 4 | 5 => 5 | 0 => 0 | 46 => 161 | 146 => 177 | 51 => 176 | n => n, fun | 1 => 0 | n => n⟩
theorem Try.lays138 : Go.Proofs.Lays.n138 Try.prog Try.lays138_ren := {
  mixed := by kernel_rfl
  f138 := Try.func67.trans (congrArg some (by kernel_rfl))
  f143 := Try.func127.trans (congrArg some (by kernel_rfl))
  f195 := Try.func125.trans (congrArg some (by kernel_rfl))
  f217 := Try.func165.trans (congrArg some (by kernel_rfl))
  f218 := Try.func126.trans (congrArg some (by kernel_rfl))
  f219 := Try.func160.trans (congrArg some (by kernel_rfl))
  f224 := Try.func167.trans (congrArg some (by kernel_rfl))
  f225 := Try.func168.trans (congrArg some (by kernel_rfl))
  f266 := Try.func178.trans (congrArg some (by kernel_rfl))
  f267 := Try.func177.trans (congrArg some (by kernel_rfl))
  f314 := Try.func183.trans (congrArg some (by kernel_rfl))
  t0 := Try.underlying0
  a0 := Try.isAgg0
  z0 := Try.sizeOf0
  v0 := Try.zeroValue0
  t3 := Try.underlying3
  a3 := Try.isAgg3
  z3 := Try.sizeOf3
  v3 := Try.zeroValue3
  t4 := Try.underlying4
  a4 := Try.isAgg4
  z4 := Try.sizeOf4
  v4 := Try.zeroValue4
  t5 := Try.underlying5
  a5 := Try.isAgg5
  z5 := Try.sizeOf5
  v5 := Try.zeroValue5
  t9 := Try.underlying9
  a9 := Try.isAgg9
  z9 := Try.sizeOf9
  v9 := Try.zeroValue9
  t46 := Try.underlying161
  a46 := Try.isAgg161
  z46 := Try.sizeOf161
  v46 := Try.zeroValue161
  t51 := Try.underlying176
  a51 := Try.isAgg176
  z51 := Try.sizeOf176
  v51 := Try.zeroValue176
  t146 := Try.underlying177
  a146 := Try.isAgg177
  z146 := Try.sizeOf177
  v146 := Try.zeroValue177
  g1 := by kernel_rfl }
open Go.RowKit Go.Lib in
theorem Try.strings_Count_one (s : ByteArray) (c : UInt8) (w : World) :
    Calls Try.prog 67 #[.string s, .string ⟨#[c]⟩] w fun e w' => e = .returned (.int .i64 (Lib.countByte s.data.toList c)) ∧ w' = w := Any.strings_Count_one Try.lays138 s c w
def Try.lays99_ren : Go.Shelf.Ren := ⟨fun | 99 => 134 | 206 => 161 | n => n, fun | 9 => 9 | 4 => 4 | 3 => 3 | n => n, fun | n => n⟩
theorem Try.lays99 : Go.Proofs.Lays.n99 Try.prog Try.lays99_ren := {
  mixed := by kernel_rfl
  f99 := Try.func134.trans (congrArg some (by kernel_rfl))
  f206 := Try.func161.trans (congrArg some (by kernel_rfl))
  t3 := Try.underlying3
  a3 := Try.isAgg3
  z3 := Try.sizeOf3
  v3 := Try.zeroValue3
  t4 := Try.underlying4
  a4 := Try.isAgg4
  z4 := Try.sizeOf4
  v4 := Try.zeroValue4
  t9 := Try.underlying9
  a9 := Try.isAgg9
  z9 := Try.sizeOf9
  v9 := Try.zeroValue9 }
open Go.RowKit Go.Lib in
theorem Try.strings_HasPrefix (s p : ByteArray) (w : World) :
    Calls Try.prog 134 #[.string s, .string p] w fun e w' => e = .returned (.bool (Lib.hasPrefix s.data.toList p.data.toList)) ∧ w' = w := Any.strings_HasPrefix Try.lays99 s p w
end Go.Proofs

/- isLetter: whether a byte is a letter of patterns. -/
namespace Go.Proofs.Ytbdmmeoelagdcaa
open Go.RowKit

theorem index_all : ∀ n : Fin 256, decide (0 ≤ Lib.indexByte [97, 98, 99, 100, 101, 102, 103, 104] (UInt8.ofNat n.1)) = (decide (97 ≤ n.1) && decide (n.1 ≤ 104)) := by decide +kernel
theorem index_isL (c : UInt8) : decide (0 ≤ Lib.indexByte [97, 98, 99, 100, 101, 102, 103, 104] c) = M.isL c := by
  have h := index_all ⟨c.toNat, c.toNat_lt⟩
  rw [M.isL]
  simpa using h
theorem isLetter (c : UInt8) (w : World) : Calls Try.prog 98 #[.int .u8 (c.toNat : Int)] w fun e w' => e = .returned (.bool (M.isL c)) ∧ w' = w := by
  have h := Try.strings_IndexByte ⟨#[97, 98, 99, 100, 101, 102, 103, 104]⟩ (c.toNat : Int) w
  have hc : ((c.toNat : Int)).toNat.toUInt8 = c := by simp
  rw [hc] at h
  have h2 := index_isL c
  have h3 : (⟨#[97, 98, 99, 100, 101, 102, 103, 104]⟩ : ByteArray).data.toList = [97, 98, 99, 100, 101, 102, 103, 104] := rfl
  rw [h3] at h
  rw [← h2]
  have H := Lib.hid h
  clear h h2 h3 hc
  generalize Lib.indexByte [97, 98, 99, 100, 101, 102, 103, 104] c = z at *
  go_enter Try.func98, Try.ntmps98
  go_wp2_with (go_at_call 144; refine H.out.mono ?_; rintro e w' ⟨rfl, hw⟩; subst hw)
  go_ret
  exact ⟨rfl, rfl⟩
end Go.Proofs.Ytbdmmeoelagdcaa

/- A scope in which the run jumps to labels, several of them: what holds at each jump, and a measure that each pass lowers. No program is named here. -/
namespace Go.Proofs.Ytbdmmeoelagdcaa
open Go

/-- as Q; by a goto to a label l: J l -/
def jumpsTo (J : Nat → Act → World → Prop) (Q : Exit → Act → World → Prop) : Exit → Act → World → Prop
  | .goto l, a, w => J l a w
  | e, a, w => Q e a w

theorem wp_scope_labels {P : Program} {a : Act} {w : World} {Q : Exit → Act → World → Prop} {c : Code} (J : Nat → Act → World → Prop) (μ : Nat → Act → World → Nat)
    (m : Nat) (first : c.wp P (jumpsTo (fun l a w => J l a w ∧ μ l a w < m) Q) a w)
    (pass : ∀ l a w, J l a w → ∃ rest, findLabel c l = some rest ∧ rest.wp P (jumpsTo (fun l' a' w' => J l' a' w' ∧ μ l' a' w' < μ l a w) Q) a w) : (Code.scope c).wp P Q a w := by
  intro b k cs
  have hg : ∀ l rest, findLabel c l = some rest → gotoIn l (.inScope c :: k) = some (.code rest :: .inScope c :: k) := fun l rest hf => by simp [gotoIn, hf]
  have key : ∀ n l a w rest, findLabel c l = some rest → μ l a w = n → J l a w → ∃ e a' w', Q e a' w' ∧ Arrives P (lone (b.at a (.code rest :: .inScope c :: k)) cs w) b k cs e a' w' := by
    intro n
    induction n using Nat.strongRecOn with
    | _ n ih =>
      intro l a w rest hf hn hJ
      obtain ⟨rest', hf', hp⟩ := pass l a w hJ
      rw [hf] at hf'
      injection hf' with hf'
      subst hf'
      obtain ⟨e, a₁, w₁, hq, harr⟩ := hp b (.inScope c :: k) cs
      cases e with
      | normal => exact ⟨.normal, a₁, w₁, hq, Steps.trans harr (.one step_inScope)⟩
      | exit id => exact ⟨.exit id, a₁, w₁, hq, fun k' hk => harr k' (by simp [exitTo, hk])⟩
      | goto l' =>
        obtain ⟨hJ', hlt⟩ := hq
        obtain ⟨r2, hf2, _⟩ := pass l' a₁ w₁ hJ'
        obtain ⟨e₂, a₂, w₂, hq₂, harr₂⟩ := ih _ (by omega) l' a₁ w₁ r2 hf2 rfl hJ'
        exact ⟨e₂, a₂, w₂, hq₂, .of_steps (harr _ (hg _ _ hf2)) harr₂⟩
      | ret => exact ⟨_, a₁, w₁, hq, harr⟩
      | panic ch => exact ⟨_, a₁, w₁, hq, harr⟩
      | outgrown => exact ⟨_, a₁, w₁, hq, harr⟩
  obtain ⟨e, a₁, w₁, hq, harr⟩ := first b (.inScope c :: k) cs
  cases e with
  | normal => exact ⟨.normal, a₁, w₁, hq, .head step_scope (Steps.trans harr (.one step_inScope))⟩
  | exit id => exact ⟨.exit id, a₁, w₁, hq, fun k' hk => .head step_scope (harr k' (by simp [exitTo, hk]))⟩
  | goto l' =>
    obtain ⟨r2, hf2, _⟩ := pass l' a₁ w₁ hq.1
    obtain ⟨e₂, a₂, w₂, hq₂, harr₂⟩ := key _ l' a₁ w₁ r2 hf2 rfl hq.1
    exact ⟨e₂, a₂, w₂, hq₂, .of_steps (.head step_scope (harr _ (hg _ _ hf2))) harr₂⟩
  | ret => exact ⟨_, a₁, w₁, hq, .of_steps (.one step_scope) harr⟩
  | panic ch => exact ⟨_, a₁, w₁, hq, .of_steps (.one step_scope) harr⟩
  | outgrown => exact ⟨_, a₁, w₁, hq, .of_steps (.one step_scope) harr⟩
end Go.Proofs.Ytbdmmeoelagdcaa

/- pieceOf: the piece with which a text begins (a machine with three labels). -/
namespace Go.Proofs.Ytbdmmeoelagdcaa
open Go.RowKit

/-- the piece with which a text begins, or nothing -/
def M.pieceT (l : List UInt8) : List UInt8 := match M.piece l with | none => [] | some r => l.take (l.length - r.length)
theorem M.pieceT_none {l : List UInt8} (h : M.piece l = none) : M.pieceT l = [] := by rw [M.pieceT, h]
theorem M.pieceT_some {l r : List UInt8} (h : M.piece l = some r) : M.pieceT l = l.take (l.length - r.length) := by rw [M.pieceT, h]
/-- what the machine's numbers tell at its labels -/
def at0 (L : List UInt8) (R : Option (List UInt8)) (k o : Nat) : Prop := (o = 0 ∧ k = 0 ∧ M.piece L = R) ∨ (0 < o ∧ (∀ c, L[k]? = some c → c ≠ 41) ∧ M.close (L.drop k) o = R)
def at1 (L : List UInt8) (R : Option (List UInt8)) (k o : Nat) : Prop := 0 < o ∧ M.close (L.drop k) o = R
def at2 (L : List UInt8) (R : Option (List UInt8)) (k o : Nat) : Prop := k < L.length ∧ M.close (L.drop (k + 1)) o = R
def rankOf : Nat → Nat
  | 0 => 1
  | 1 => 0
  | _ => 2
theorem at0_end {L : List UInt8} {R : Option (List UInt8)} {k o : Nat} (h : at0 L R k o) (hk : L.drop k = []) : R = none := by
  rcases h with ⟨rfl, rfl, h⟩ | ⟨h0, _, h⟩
  · rw [List.drop_zero] at hk; rw [← h, hk]; rfl
  · obtain ⟨m, rfl⟩ : ∃ m, o = m + 1 := ⟨o - 1, by omega⟩
    rw [← h, hk]; rfl
theorem at0_let {L : List UInt8} {R : Option (List UInt8)} {k o : Nat} {c : UInt8} (h : at0 L R k o) (hk : L.drop k = c :: L.drop (k + 1)) (hlt : k < L.length) (hc : M.isL c = true) : at2 L R k o := by
  refine ⟨hlt, ?_⟩
  rcases h with ⟨rfl, rfl, h⟩ | ⟨h0, _, h⟩
  · rw [List.drop_zero] at hk
    have e : M.piece L = M.piece (c :: L.drop 1) := congrArg M.piece hk
    rw [← h, e, M.piece_let hc, M.close_zero]
  · obtain ⟨m, rfl⟩ : ∃ m, o = m + 1 := ⟨o - 1, by omega⟩
    rw [← h, hk, M.close_let hc]
theorem at0_open {L : List UInt8} {R : Option (List UInt8)} {k o : Nat} (h : at0 L R k o) (hk : L.drop k = 40 :: L.drop (k + 1)) : at1 L R (k + 1) (o + 1) := by
  refine ⟨by omega, ?_⟩
  rcases h with ⟨rfl, rfl, h⟩ | ⟨h0, _, h⟩
  · rw [List.drop_zero] at hk
    have e : M.piece L = M.piece (40 :: L.drop 1) := congrArg M.piece hk
    rw [← h, e, M.piece_open]
  · obtain ⟨m, rfl⟩ : ∃ m, o = m + 1 := ⟨o - 1, by omega⟩
    rw [← h, hk, M.close_open]
theorem at0_bad {L : List UInt8} {R : Option (List UInt8)} {k o : Nat} {c : UInt8} (h : at0 L R k o) (hk : L.drop k = c :: L.drop (k + 1)) (hkc : L[k]? = some c) (hc : M.isL c = false) (h40 : c ≠ 40) : R = none := by
  rcases h with ⟨rfl, rfl, h⟩ | ⟨h0, h1, h⟩
  · rw [List.drop_zero] at hk; rw [← h, hk, M.piece_bad hc h40]
  · obtain ⟨m, rfl⟩ : ∃ m, o = m + 1 := ⟨o - 1, by omega⟩
    rw [← h, hk, M.close_bad hc h40 (h1 c hkc)]
theorem at1_on {L : List UInt8} {R : Option (List UInt8)} {k o : Nat} (h : at1 L R k o) (h1 : ∀ c, L[k]? = some c → c ≠ 41) : at0 L R k o := .inr ⟨h.1, h1, h.2⟩
theorem at1_shut {L : List UInt8} {R : Option (List UInt8)} {k o : Nat} (h : at1 L R k (o + 1)) (hk : L.drop k = 41 :: L.drop (k + 1)) (hlt : k < L.length) : at2 L R k o := ⟨hlt, by rw [← h.2, hk, M.close_shut]⟩
theorem at2_on {L : List UInt8} {R : Option (List UInt8)} {k o : Nat} (h : at2 L R k o) (h0 : 0 < o) : at1 L R (k + 1) o := ⟨h0, h.2⟩
theorem at2_end {L : List UInt8} {k : Nat} (h : at2 L (M.piece L) k 0) : M.pieceT L = L.take (k + 1) := by
  have h2 := h.2
  rw [M.close_zero] at h2
  rw [M.pieceT_some h2.symm, List.length_drop]
  congr 1
  have := h.1
  omega
theorem ne_byte {b c : UInt8} (h : b ≠ c) : ((b.toNat : Int) != (c.toNat : Int)) = true := bne_iff_ne.2 fun e => h (UInt8.toNat_inj.1 (by omega))
theorem byte_here (s : ByteArray) {k : Nat} (h : k < s.size) : s.data.toList.drop k = s[k] :: s.data.toList.drop (k + 1) := by
  have h2 : k < s.data.toList.length := by rw [← Lib.size_eq]; exact h
  rw [List.drop_eq_getElem_cons h2]
  congr 1
theorem take_str (s : ByteArray) (k : Nat) : s.extract 0 k = M.bs (s.data.toList.take k) := by
  rw [Lib.extract_eq, List.drop_zero]
  rfl

/-- what holds at a label: 0 where a piece begins, 2 inside a piece, 1 at a piece's last byte -/
def atL (L : List UInt8) (R : Option (List UInt8)) (l k o : Nat) : Prop := (l = 0 ∧ at0 L R k o) ∨ (l = 2 ∧ at1 L R k o) ∨ (l = 1 ∧ at2 L R k o)
theorem atL0 {L : List UInt8} {R : Option (List UInt8)} {k o : Nat} (h : at0 L R k o) : atL L R 0 k o := .inl ⟨rfl, h⟩
theorem atL2 {L : List UInt8} {R : Option (List UInt8)} {k o : Nat} (h : at1 L R k o) : atL L R 2 k o := .inr (.inl ⟨rfl, h⟩)
theorem atL1 {L : List UInt8} {R : Option (List UInt8)} {k o : Nat} (h : at2 L R k o) : atL L R 1 k o := .inr (.inr ⟨rfl, h⟩)
/-- the frame at a jump -/
def Fr (s : ByteArray) (i j : Int) (a : Act) : Prop := ∃ u1 u2 u5 u6 u7 u8 u9 u10 u11 u12 u13 u14 u15 u16 u17 u18 u19 u20 u21 u22 u23 u24 u25 u26 u27 u28 u29 u30 u31 u32 u33 u34 u35 u36 u37 u38 u39 : Value, a = { tmps := #[.string s, u1, u2, .int .i64 i, .int .i64 j, u5, u6, u7, u8, u9, u10, u11, u12, u13, u14, u15, u16, u17, u18, u19, u20, u21, u22, u23, u24, u25, u26, u27, u28, u29, u30, u31, u32, u33, u34, u35, u36, u37, u38, u39], defers := [] }

set_option maxRecDepth 100000 in
set_option maxHeartbeats 4000000 in
theorem pieceOf (s : ByteArray) (w : World) (hs : s.size ≤ 1048576) :
    Calls Try.prog 107 #[.string s] w fun e w' => e = .returned (.string (M.bs (M.pieceT s.data.toList))) ∧ w' = w := by
  have hL : Hid (s.data.toList.length = s.size) := (Lib.size_eq s).symm
  have hby : Hid (∀ k (h : k < s.size), s.data.toList.drop k = s[k] :: s.data.toList.drop (k + 1)) := fun k h => byte_here s h
  have hat : Hid (∀ k (h : k < s.size), s.data.toList[k]? = some s[k]) := fun k h => by
    rw [← List.head?_drop, byte_here s h]; rfl
  have hIs : Hid (∀ c W, Calls Try.prog 98 #[.int .u8 ((c : UInt8).toNat : Int)] W fun e w' => e = .returned (.bool (M.isL c)) ∧ w' = W) := isLetter
  have hTk : Hid (∀ k, s.extract 0 k = M.bs (s.data.toList.take k)) := take_str s
  have hEnd : Hid (∀ k, at2 s.data.toList (M.piece s.data.toList) k 0 → M.pieceT s.data.toList = s.data.toList.take (k + 1)) := fun k h => at2_end h
  have hNo : Hid (M.piece s.data.toList = none → M.bs (M.pieceT s.data.toList) = ⟨#[]⟩) := fun h => by rw [M.pieceT_none h]; rfl
  have hB0 : Hid (at0 s.data.toList (M.piece s.data.toList) 0 0) := .inl ⟨rfl, rfl, rfl⟩
  generalize s.data.toList = L at *
  go_enter Try.func107, Try.ntmps107
  go_wp2
  refine wp_scope_labels (fun l a' w' => w' = w ∧ ∃ (k o : Nat) (i j : Int), i = (k : Int) ∧ j = (o : Int) ∧ k ≤ s.size ∧ o ≤ k + 1 ∧ Fr s i j a' ∧ Hid (atL L (M.piece L) l k o)) (fun l a' _ => 3 * (s.size - (intOf (a'.tmps.getD 3 undef)).toNat) + rankOf l) (3 * s.size + 3) ?_ ?_
  · go_wp2
    go_step3
    by_cases hlt : 0 < s.size
    · have hi0 : (((0 : Nat) : Int) == (s.size : Int)) = false := beq_eq_false_iff_ne.2 (by omega)
      have hd0 := Lib.hid (hby.out (0) hlt)
      have hg0 := Lib.hid (hat.out (0) hlt)
      cases hc : M.isL s[0]
      · have hI := fun W => Lib.hid (hIs.out s[0] W)
        rw [hc] at hI
        by_cases h40 : s[0] = 40
        · have e40 : ((s[0].toNat : Int) != 40) = false := by rw [h40]; rfl
          have h2 : Hid (at1 L (M.piece L) (0 + 1) (0 + 1)) := at0_open hB0.out (by rw [hd0.out, h40])
          clear hd0 hg0 h40 hc
          go_wp2_with (go_at_call 98; refine (hI _).out.mono ?_; rintro e w' ⟨rfl, hw⟩; subst hw)
          go_step3
          by_cases hle : 0 + 1 < s.size
          · have hi1 : (((0 + 1 : Nat) : Int) == (s.size : Int)) = false := beq_eq_false_iff_ne.2 (by omega)
            have hd := Lib.hid (hby.out (0 + 1) hle)
            have hg := Lib.hid (hat.out (0 + 1) hle)
            by_cases h41 : s[0 + 1] = 41
            · have e41 : ((s[0 + 1].toNat : Int) != 41) = false := by rw [h41]; rfl
              obtain ⟨m, hm⟩ : ∃ m, 0 + 1 = m + 1 := ⟨0 + 1 - 1, by have := h2.out.1; omega⟩
              have hJ2 : Hid (at2 L (M.piece L) (0 + 1) m) := at1_shut (hm ▸ h2.out) (by rw [hd.out, h41]) (by have := hL.out; omega)
              have hw1 : IntKind.i64.wrap (((0 + 1 : Nat) : Int) - 1) = (m : Int) := by rw [IntWalk.i64_in _ (by omega)]; omega
              clear h41 hd hg
              by_cases h0 : 0 < m
              · have hoi : (0 : Int) < ((m : Nat) : Int) := by omega
                have hJ := Lib.hid (atL2 (at2_on hJ2.out h0))
                clear hEnd hNo hTk hby
                go_wp2
                all_goals go_step3
                all_goals go_wp2
                all_goals go_step3
                all_goals refine ⟨⟨rfl, 0 + 1 + 1, m, _, _, ?_, ?_, by omega, by omega, ⟨_, _, _, _, _, _, _, _, _, _, _, _, _, _, _, _, _, _, _, _, _, _, _, _, _, _, _, _, _, _, _, _, _, _, _, _, _, rfl⟩, hJ⟩, ?_⟩
                all_goals (first | omega | (simp [intOf, rankOf]; done) | (simp [intOf, rankOf]; omega))
              · obtain rfl : m = 0 := by omega
                have hE := Lib.hid (hEnd.out _ hJ2.out)
                clear hEnd hNo hby
                have hx := Lib.hid (hTk.out (0 + 1 + 1))
                go_wp2
                all_goals go_step3
                all_goals go_wp2
                all_goals simp only [jumpsTo]
                all_goals go_ret
                all_goals rw [hE.out, ← hx.out]
                all_goals exact ⟨rfl, rfl⟩
            · have e41 : ((s[0 + 1].toNat : Int) != 41) = true := ne_byte h41
              have hJ := Lib.hid (atL0 (at1_on h2.out fun c hc => by rw [hg.out] at hc; injection hc with hc; rw [← hc]; exact h41))
              clear hEnd hNo hTk hby h41 hd hg
              go_wp2
              all_goals go_step3
              all_goals refine ⟨⟨rfl, 0 + 1, 0 + 1, _, _, ?_, ?_, by omega, by omega, ⟨_, _, _, _, _, _, _, _, _, _, _, _, _, _, _, _, _, _, _, _, _, _, _, _, _, _, _, _, _, _, _, _, _, _, _, _, _, rfl⟩, hJ⟩, ?_⟩
              all_goals (first | omega | (simp [intOf, rankOf]; done) | (simp [intOf, rankOf]; omega))
          · have hi1 : (((0 + 1 : Nat) : Int) == (s.size : Int)) = true := beq_iff_eq.2 (by omega)
            have hJ := Lib.hid (atL0 (at1_on h2.out fun c hc => by have := (List.getElem?_eq_some_iff.1 hc).1; have := hL.out; omega))
            clear hEnd hNo hTk hby
            go_wp2
            all_goals go_step3
            all_goals refine ⟨⟨rfl, 0 + 1, 0 + 1, _, _, ?_, ?_, by omega, by omega, ⟨_, _, _, _, _, _, _, _, _, _, _, _, _, _, _, _, _, _, _, _, _, _, _, _, _, _, _, _, _, _, _, _, _, _, _, _, _, rfl⟩, hJ⟩, ?_⟩
            all_goals (first | omega | (simp [intOf, rankOf]; done) | (simp [intOf, rankOf]; omega))
        · have e40 : ((s[0].toNat : Int) != 40) = true := ne_byte h40
          have hE := Lib.hid (hNo.out (at0_bad hB0.out hd0.out hg0.out hc h40))
          clear hEnd hNo hTk hby hd0 hg0 hc h40
          go_wp2_with (go_at_call 98; refine (hI _).out.mono ?_; rintro e w' ⟨rfl, hw⟩; subst hw)
          simp only [jumpsTo]
          go_ret
          rw [hE.out]
          exact ⟨rfl, rfl⟩
      · have hI := fun W => Lib.hid (hIs.out s[0] W)
        rw [hc] at hI
        have hJ := Lib.hid (atL1 (at0_let hB0.out hd0.out (by have := hL.out; omega) hc))
        clear hEnd hNo hTk hby hd0 hg0 hc
        go_wp2_with (go_at_call 98; refine (hI _).out.mono ?_; rintro e w' ⟨rfl, hw⟩; subst hw)
        all_goals go_step3
        all_goals refine ⟨⟨rfl, 0, 0, _, _, ?_, ?_, by omega, by omega, ⟨_, _, _, _, _, _, _, _, _, _, _, _, _, _, _, _, _, _, _, _, _, _, _, _, _, _, _, _, _, _, _, _, _, _, _, _, _, rfl⟩, hJ⟩, ?_⟩
        all_goals (first | omega | (simp [intOf, rankOf]; done) | (simp [intOf, rankOf]; omega))
    · have hi0 : (((0 : Nat) : Int) == (s.size : Int)) = true := beq_iff_eq.2 (by omega)
      have hE := Lib.hid (hNo.out (at0_end hB0.out (List.drop_of_length_le (by have := hL.out; omega))))
      clear hEnd hNo hTk hby
      go_wp2
      simp only [jumpsTo]
      go_ret
      rw [hE.out]
      exact ⟨rfl, rfl⟩
  · rintro l a' w' ⟨rfl, k, o, i, j, rfl, rfl, hk, ho, ⟨u1, u2, u5, u6, u7, u8, u9, u10, u11, u12, u13, u14, u15, u16, u17, u18, u19, u20, u21, u22, u23, u24, u25, u26, u27, u28, u29, u30, u31, u32, u33, u34, u35, u36, u37, u38, u39, rfl⟩, hj⟩
    rcases hj.out with ⟨rfl, h⟩ | ⟨rfl, h⟩ | ⟨rfl, h⟩
    · refine ⟨_, rfl, ?_⟩
      replace h := Lib.hid h
      clear hj hB0
      by_cases hlt : k < s.size
      · have hi0 : (((k : Nat) : Int) == (s.size : Int)) = false := beq_eq_false_iff_ne.2 (by omega)
        have hd0 := Lib.hid (hby.out (k) hlt)
        have hg0 := Lib.hid (hat.out (k) hlt)
        cases hc : M.isL s[k]
        · have hI := fun W => Lib.hid (hIs.out s[k] W)
          rw [hc] at hI
          by_cases h40 : s[k] = 40
          · have e40 : ((s[k].toNat : Int) != 40) = false := by rw [h40]; rfl
            have h2 : Hid (at1 L (M.piece L) (k + 1) (o + 1)) := at0_open h.out (by rw [hd0.out, h40])
            clear hd0 hg0 h40 hc
            go_wp2_with (go_at_call 98; refine (hI _).out.mono ?_; rintro e w' ⟨rfl, hw⟩; subst hw)
            go_step3
            by_cases hle : k + 1 < s.size
            · have hi1 : (((k + 1 : Nat) : Int) == (s.size : Int)) = false := beq_eq_false_iff_ne.2 (by omega)
              have hd := Lib.hid (hby.out (k + 1) hle)
              have hg := Lib.hid (hat.out (k + 1) hle)
              by_cases h41 : s[k + 1] = 41
              · have e41 : ((s[k + 1].toNat : Int) != 41) = false := by rw [h41]; rfl
                obtain ⟨m, hm⟩ : ∃ m, o + 1 = m + 1 := ⟨o + 1 - 1, by have := h2.out.1; omega⟩
                have hJ2 : Hid (at2 L (M.piece L) (k + 1) m) := at1_shut (hm ▸ h2.out) (by rw [hd.out, h41]) (by have := hL.out; omega)
                have hw1 : IntKind.i64.wrap (((o + 1 : Nat) : Int) - 1) = (m : Int) := by rw [IntWalk.i64_in _ (by omega)]; omega
                clear h41 hd hg
                by_cases h0 : 0 < m
                · have hoi : (0 : Int) < ((m : Nat) : Int) := by omega
                  have hJ := Lib.hid (atL2 (at2_on hJ2.out h0))
                  clear hEnd hNo hTk hby
                  go_wp2
                  all_goals go_step3
                  all_goals go_wp2
                  all_goals go_step3
                  all_goals refine ⟨⟨rfl, k + 1 + 1, m, _, _, ?_, ?_, by omega, by omega, ⟨_, _, _, _, _, _, _, _, _, _, _, _, _, _, _, _, _, _, _, _, _, _, _, _, _, _, _, _, _, _, _, _, _, _, _, _, _, rfl⟩, hJ⟩, ?_⟩
                  all_goals (first | omega | (simp [intOf, rankOf]; done) | (simp [intOf, rankOf]; omega))
                · obtain rfl : m = 0 := by omega
                  have hE := Lib.hid (hEnd.out _ hJ2.out)
                  clear hEnd hNo hby
                  have hx := Lib.hid (hTk.out (k + 1 + 1))
                  go_wp2
                  all_goals go_step3
                  all_goals go_wp2
                  all_goals simp only [jumpsTo]
                  all_goals go_ret
                  all_goals rw [hE.out, ← hx.out]
                  all_goals exact ⟨rfl, rfl⟩
              · have e41 : ((s[k + 1].toNat : Int) != 41) = true := ne_byte h41
                have hJ := Lib.hid (atL0 (at1_on h2.out fun c hc => by rw [hg.out] at hc; injection hc with hc; rw [← hc]; exact h41))
                clear hEnd hNo hTk hby h41 hd hg
                go_wp2
                all_goals go_step3
                all_goals refine ⟨⟨rfl, k + 1, o + 1, _, _, ?_, ?_, by omega, by omega, ⟨_, _, _, _, _, _, _, _, _, _, _, _, _, _, _, _, _, _, _, _, _, _, _, _, _, _, _, _, _, _, _, _, _, _, _, _, _, rfl⟩, hJ⟩, ?_⟩
                all_goals (first | omega | (simp [intOf, rankOf]; done) | (simp [intOf, rankOf]; omega))
            · have hi1 : (((k + 1 : Nat) : Int) == (s.size : Int)) = true := beq_iff_eq.2 (by omega)
              have hJ := Lib.hid (atL0 (at1_on h2.out fun c hc => by have := (List.getElem?_eq_some_iff.1 hc).1; have := hL.out; omega))
              clear hEnd hNo hTk hby
              go_wp2
              all_goals go_step3
              all_goals refine ⟨⟨rfl, k + 1, o + 1, _, _, ?_, ?_, by omega, by omega, ⟨_, _, _, _, _, _, _, _, _, _, _, _, _, _, _, _, _, _, _, _, _, _, _, _, _, _, _, _, _, _, _, _, _, _, _, _, _, rfl⟩, hJ⟩, ?_⟩
              all_goals (first | omega | (simp [intOf, rankOf]; done) | (simp [intOf, rankOf]; omega))
          · have e40 : ((s[k].toNat : Int) != 40) = true := ne_byte h40
            have hE := Lib.hid (hNo.out (at0_bad h.out hd0.out hg0.out hc h40))
            clear hEnd hNo hTk hby hd0 hg0 hc h40
            go_wp2_with (go_at_call 98; refine (hI _).out.mono ?_; rintro e w' ⟨rfl, hw⟩; subst hw)
            simp only [jumpsTo]
            go_ret
            rw [hE.out]
            exact ⟨rfl, rfl⟩
        · have hI := fun W => Lib.hid (hIs.out s[k] W)
          rw [hc] at hI
          have hJ := Lib.hid (atL1 (at0_let h.out hd0.out (by have := hL.out; omega) hc))
          clear hEnd hNo hTk hby hd0 hg0 hc
          go_wp2_with (go_at_call 98; refine (hI _).out.mono ?_; rintro e w' ⟨rfl, hw⟩; subst hw)
          all_goals go_step3
          all_goals refine ⟨⟨rfl, k, o, _, _, ?_, ?_, by omega, by omega, ⟨_, _, _, _, _, _, _, _, _, _, _, _, _, _, _, _, _, _, _, _, _, _, _, _, _, _, _, _, _, _, _, _, _, _, _, _, _, rfl⟩, hJ⟩, ?_⟩
          all_goals (first | omega | (simp [intOf, rankOf]; done) | (simp [intOf, rankOf]; omega))
      · have hi0 : (((k : Nat) : Int) == (s.size : Int)) = true := beq_iff_eq.2 (by omega)
        have hE := Lib.hid (hNo.out (at0_end h.out (List.drop_of_length_le (by have := hL.out; omega))))
        clear hEnd hNo hTk hby
        go_wp2
        simp only [jumpsTo]
        go_ret
        rw [hE.out]
        exact ⟨rfl, rfl⟩
    · refine ⟨_, rfl, ?_⟩
      replace h := Lib.hid h
      clear hj hB0
      by_cases hle : k < s.size
      · have hi1 : (((k : Nat) : Int) == (s.size : Int)) = false := beq_eq_false_iff_ne.2 (by omega)
        have hd := Lib.hid (hby.out (k) hle)
        have hg := Lib.hid (hat.out (k) hle)
        by_cases h41 : s[k] = 41
        · have e41 : ((s[k].toNat : Int) != 41) = false := by rw [h41]; rfl
          obtain ⟨m, hm⟩ : ∃ m, o = m + 1 := ⟨o - 1, by have := h.out.1; omega⟩
          have hJ2 : Hid (at2 L (M.piece L) (k) m) := at1_shut (hm ▸ h.out) (by rw [hd.out, h41]) (by have := hL.out; omega)
          have hw1 : IntKind.i64.wrap (((o : Nat) : Int) - 1) = (m : Int) := by rw [IntWalk.i64_in _ (by omega)]; omega
          clear h41 hd hg
          by_cases h0 : 0 < m
          · have hoi : (0 : Int) < ((m : Nat) : Int) := by omega
            have hJ := Lib.hid (atL2 (at2_on hJ2.out h0))
            clear hEnd hNo hTk hby
            go_wp2
            all_goals go_step3
            all_goals go_wp2
            all_goals go_step3
            all_goals refine ⟨⟨rfl, k + 1, m, _, _, ?_, ?_, by omega, by omega, ⟨_, _, _, _, _, _, _, _, _, _, _, _, _, _, _, _, _, _, _, _, _, _, _, _, _, _, _, _, _, _, _, _, _, _, _, _, _, rfl⟩, hJ⟩, ?_⟩
            all_goals (first | omega | (simp [intOf, rankOf]; done) | (simp [intOf, rankOf]; omega))
          · obtain rfl : m = 0 := by omega
            have hE := Lib.hid (hEnd.out _ hJ2.out)
            clear hEnd hNo hby
            have hx := Lib.hid (hTk.out (k + 1))
            go_wp2
            all_goals go_step3
            all_goals go_wp2
            all_goals simp only [jumpsTo]
            all_goals go_ret
            all_goals rw [hE.out, ← hx.out]
            all_goals exact ⟨rfl, rfl⟩
        · have e41 : ((s[k].toNat : Int) != 41) = true := ne_byte h41
          have hJ := Lib.hid (atL0 (at1_on h.out fun c hc => by rw [hg.out] at hc; injection hc with hc; rw [← hc]; exact h41))
          clear hEnd hNo hTk hby h41 hd hg
          go_wp2
          all_goals go_step3
          all_goals refine ⟨⟨rfl, k, o, _, _, ?_, ?_, by omega, by omega, ⟨_, _, _, _, _, _, _, _, _, _, _, _, _, _, _, _, _, _, _, _, _, _, _, _, _, _, _, _, _, _, _, _, _, _, _, _, _, rfl⟩, hJ⟩, ?_⟩
          all_goals (first | omega | (simp [intOf, rankOf]; done) | (simp [intOf, rankOf]; omega))
      · have hi1 : (((k : Nat) : Int) == (s.size : Int)) = true := beq_iff_eq.2 (by omega)
        have hJ := Lib.hid (atL0 (at1_on h.out fun c hc => by have := (List.getElem?_eq_some_iff.1 hc).1; have := hL.out; omega))
        clear hEnd hNo hTk hby
        go_wp2
        all_goals go_step3
        all_goals refine ⟨⟨rfl, k, o, _, _, ?_, ?_, by omega, by omega, ⟨_, _, _, _, _, _, _, _, _, _, _, _, _, _, _, _, _, _, _, _, _, _, _, _, _, _, _, _, _, _, _, _, _, _, _, _, _, rfl⟩, hJ⟩, ?_⟩
        all_goals (first | omega | (simp [intOf, rankOf]; done) | (simp [intOf, rankOf]; omega))
    · refine ⟨_, rfl, ?_⟩
      replace h := Lib.hid h
      clear hj hB0
      have hlt : k < s.size := by have := h.out.1; have := hL.out; omega
      by_cases h0 : 0 < o
      · have hoi : (0 : Int) < ((o : Nat) : Int) := by omega
        have hJ := Lib.hid (atL2 (at2_on h.out h0))
        clear hEnd hNo hTk hby
        go_wp2
        all_goals go_step3
        all_goals refine ⟨⟨rfl, k + 1, o, _, _, ?_, ?_, by omega, by omega, ⟨_, _, _, _, _, _, _, _, _, _, _, _, _, _, _, _, _, _, _, _, _, _, _, _, _, _, _, _, _, _, _, _, _, _, _, _, _, rfl⟩, hJ⟩, ?_⟩
        all_goals (first | omega | (simp [intOf, rankOf]; done) | (simp [intOf, rankOf]; omega))
      · obtain rfl : o = 0 := by omega
        have hE := Lib.hid (hEnd.out _ h.out)
        clear hEnd hNo hby
        have hx := Lib.hid (hTk.out (k + 1))
        go_wp2
        all_goals simp only [jumpsTo]
        all_goals go_ret
        all_goals rw [hE.out, ← hx.out]
        all_goals exact ⟨rfl, rfl⟩
end Go.Proofs.Ytbdmmeoelagdcaa

/- Rows of texts that a call owns: an empty one, append of one text. -/
namespace Go.Proofs.Ytbdmmeoelagdcaa
open Go.RowKit

/-- the slice value v owns a row of texts -/
abbrev OwnS (w : World) (B : Nat) (v : Value) (ts : List ByteArray) : Prop := w.ownsRow B 9 1 v ts.length (ts.map Value.string)
theorem infoStr : (Try.prog.info? 9).map (fun i => (i.zero, i.size, i.bytes)) = some (some (.string ⟨#[]⟩), 1, 16) := by kernel_rfl
theorem ownS_len {w : World} {B n c : Nat} {A : Option Addr} {ts : List ByteArray} (h : OwnS w B (.slice A n c) ts) : n = ts.length := by
  rcases h.2 with ⟨h1, h2⟩ | ⟨g, cap, cur, hv, _⟩
  · injection h1 with _ h1 _; omega
  · injection hv
theorem ownS_nil (w : World) (B : Nat) : OwnS w B (.slice none 0 0) [] := World.ownsRow_nil _ _ _ _
theorem ownS_empty {w : World} {B : Nat} (hB : B ≤ w.heap.size) : OwnS (w.alloc (.cells #[] 9)) B (.slice (some ⟨w.heap.size, 0, none⟩) 0 0) [] := by
  have := World.ownsRow_made (e := 9) (size := 1) w #[] 0 hB (by simp [maxLen]) (by simp)
  exact this
theorem ownS_eq {w : World} {B : Nat} {v : Value} {zs ys : List ByteArray} (h : OwnS w B v zs) (e : zs = ys) : OwnS w B v ys := e ▸ h
/-- a row of the call's own is as it was after what writes above alone -/
theorem ownS_be {w w' : World} {B : Nat} {v : Value} {ts : List ByteArray} (h : OwnS w B v ts) (hb : Below w.heap.size w w') : OwnS w' B v ts := by
  refine ⟨h.1, ?_⟩
  rcases h.2 with h2 | ⟨g, cap, cur, hv, hg, hh, r⟩
  · exact .inl h2
  · exact .inr ⟨g, cap, cur, hv, hg, (hb.block g (Array.getElem?_eq_some_iff.1 hh).1).trans hh, r⟩
theorem ownS_cell {w : World} {B n c k : Nat} {A : Option Addr} {ts : List ByteArray} {x : ByteArray} (h : OwnS w B (.slice A n c) ts) (hx : ts[k]? = some x) :
    ∃ g, A = some ⟨g, 0, none⟩ ∧ w.cell? ⟨g, k, none⟩ = some (.string x) ∧ g < w.heap.size := by
  have hn := ownS_len h
  have hk := (List.getElem?_eq_some_iff.1 hx).1
  subst hn
  rcases h.2 with ⟨h1, h2⟩ | ⟨g, cap, cur, hv, _⟩
  · injection h1 with e1 e2 e3; omega
  · injection hv with e1
    subst e1
    have hl := World.ownsRow.lt h g rfl
    exact ⟨g, rfl, (World.ownsRow.cellAt h k (by omega)).trans (by simp [hx]), hl.2⟩

theorem pushS {ops : Array Oper} {rest : List Oper} {o : Oper} {a : Act} {Q : Exit → Act → World → Prop} (hgd : o.guard = none) (s x : Operand)
    (ho : o.op = .call { callee := .builtin .append, args := #[s, x], argTypes := #[78, 78] }) (w : World) (B : Nat) (A : Option Addr) (n c : Nat) (ts : List ByteArray) (y : ByteArray)
    (hs : a.eval s = .slice A n c) (hx : a.eval x = .slice (some ⟨w.heap.size, 0, none⟩) 1 1) (hown : Hid (OwnS w B (.slice A n c) ts)) (hB : B ≤ w.heap.size) (hlen : n ≤ 1000000)
    (h : ∀ A' c' w', Hid (OwnS w' B (.slice A' (n + 1) c') (ts ++ [y])) → Hid (Below B w w') → wpList Try.prog ops Q rest (a.put o.dst (.slice A' (n + 1) c')) w') :
    wpList Try.prog ops Q (o :: rest) a (w.alloc (.cells #[.string y] 9)) := by
  obtain ⟨i0, hi0, hz0, hz1, hz2⟩ := info_parts infoStr
  have hown := hown.out
  have hn := ownS_len hown
  subst hn
  refine wpList_append_own _ hgd s x 78 ho B 9 i0 (.string ⟨#[]⟩) 1 16 Try.underlying78 hi0 hz0 hz1 hz2 rfl (by decide) _ ts.length (ts.map Value.string) hs (hown.alloc _) ⟨w.heap.size, 0, none⟩ 1 1 [.string y] hx rfl ?_ ?_ ?_ ?_ ?_ ?_
  · intro j u hj
    match j, hj with
    | 0, hj => simp at hj; subst hj; simp [Addr.add]
  · intro u hu; simp at hu; subst hu; rfl
  · unfold maxLen; omega
  · omega
  · simp; omega
  · intro v' w1 hown1 hg1 _
    obtain ⟨A, c, rfl⟩ : ∃ A c, v' = .slice A (ts.length + 1) c := by
      rcases hown1.2 with ⟨rfl, h0⟩ | ⟨g, cap, _, rfl, _⟩
      · omega
      · exact ⟨_, _, rfl⟩
    refine h A c w1 ?_ ?_
    · have e : (ts ++ [y]).length = ts.length + 1 := by simp
      show OwnS _ _ _ _
      unfold OwnS
      rw [e]
      simpa using hown1
    · exact ((Below.refl B w).alloc hB _).grown hg1 (by simp; omega) (fun k hk => (hown.lt k hk).1)
end Go.Proofs.Ytbdmmeoelagdcaa

/- piecesAtLetters: what has to stand at the letters of a pattern. -/
namespace Go.Proofs.Ytbdmmeoelagdcaa
open Go.RowKit

/-- what both readers hand back -/
def MtQ (R : Option (List (List UInt8))) (w : World) (e : Ending) (w' : World) : Prop :=
  ∃ (A : Option Addr) (n c : Nat), e = .returned (.tuple #[.slice A n c, .bool R.isSome]) ∧ Hid (Below w.heap.size w w') ∧ Hid (OwnS w' w.heap.size (.slice A n c) ((R.getD []).map M.bs))
theorem cut_one (s : ByteArray) {k : Nat} (h : k < s.size) : s.extract k (k + 1) = M.bs [s[k]] := by
  rw [Lib.extract_eq, byte_here s h, show k + 1 - k = 1 by omega]
  rfl
theorem cut_from (s : ByteArray) (k : Nat) : s.extract k s.size = M.bs (s.data.toList.drop k) := by
  rw [Lib.extract_eq, Lib.size_eq, List.take_of_length_le (by rw [List.length_drop]; omega)]
  rfl
theorem bs_eq_nil (l : List UInt8) : ((M.bs l).toList == []) = l.isEmpty := by
  rw [Lib.toList_data, M.bs_data]
  cases l <;> rfl
theorem prefix_one (c : UInt8) (T : List UInt8) : Lib.hasPrefix T [c] = match T with | [] => false | d :: _ => d == c := by
  cases T with
  | nil => rfl
  | cons d T => simp only [Lib.hasPrefix, List.isPrefixOf, Bool.and_true]; exact Bool.beq_comm
theorem prefix_take (T : List UInt8) (m : Nat) : Lib.hasPrefix T (T.take m) = true := by
  rw [Lib.hasPrefix, List.isPrefixOf_iff_prefix]
  exact List.take_prefix m T
theorem map_app {α : Type} (R : Option (List α)) (a b : List α) : (R.map (a ++ ·)).map (b ++ ·) = R.map ((b ++ a) ++ ·) := by cases R <;> simp
theorem map_cons {α : Type} (R : Option (List α)) (a : List α) (x : α) : (R.map (x :: ·)).map (a ++ ·) = R.map ((a ++ [x]) ++ ·) := by cases R <;> simp

set_option maxRecDepth 100000 in
set_option maxHeartbeats 4000000 in
theorem piecesAtLetters (p t : ByteArray) (w : World) (hp : p.size ≤ 1000000) (ht : t.size ≤ 1048576) :
    Calls Try.prog 78 #[.string p, .string t] w (MtQ (M.mt p.data.toList t.data.toList) w) := by
  have hL : Hid (p.data.toList.length = p.size) := (Lib.size_eq p).symm
  have hby : Hid (∀ k (h : k < p.size), p.data.toList.drop k = p[k] :: p.data.toList.drop (k + 1)) := fun _ h => byte_here p h
  have hcut : Hid (∀ (k : Nat) (h : k < p.size) (W : World), (Instr.slice 9 (.string p) (some (.int .i64 (k : Int))) (some (.int .i64 ((k : Int) + 1))) none).run Try.prog W = .ok (.string (M.bs [p[k]])) W) := fun k h W => by
    have := run_slice_string (P := Try.prog) W 9 p .i64 .i64 (k : Int) ((k : Int) + 1) Try.underlying9 (by omega) (by omega) (by omega)
    rw [this, show ((k : Int)).toNat = k by omega, show ((k : Int) + 1).toNat = k + 1 by omega, cut_one p h]
  obtain ⟨R, hR⟩ : ∃ R, M.mt p.data.toList t.data.toList = R := ⟨_, rfl⟩
  obtain ⟨Q, hQ⟩ : ∃ Q, MtQ R w = Q := ⟨_, rfl⟩
  have hNone : Hid (R = none → ∀ w', Hid (Below w.heap.size w w') → Q (.returned (.tuple #[.slice none 0 0, .bool false])) w') := fun h w' hb => by
    rw [← hQ, h]
    exact ⟨none, 0, 0, rfl, hb, Lib.hid (ownS_nil _ _)⟩
  have hSome : Hid (∀ ts w' A n c, R = some ts → Hid (Below w.heap.size w w') → Hid (OwnS w' w.heap.size (.slice A n c) (ts.map M.bs)) → Q (.returned (.tuple #[.slice A n c, .bool true])) w') := fun ts w' A n c h hb ho => by
    rw [← hQ, h]
    exact ⟨A, n, c, rfl, hb, ho⟩
  have hIs : Hid (∀ c W, Calls Try.prog 98 #[.int .u8 ((c : UInt8).toNat : Int)] W fun e w' => e = .returned (.bool (M.isL c)) ∧ w' = W) := isLetter
  have hst : Hid ((M.mt (p.data.toList.drop 0) t.data.toList).map (([] : List (List UInt8)) ++ ·) = R) := by
    show _ = _
    rw [List.drop_zero, hR]
    cases R <;> rfl
  have hb0 := Lib.hid (b0 w)
  have ho0 := Lib.hid (ownS_nil w w.heap.size)
  rw [hR, hQ]
  clear hR hQ
  generalize p.data.toList = P at *
  go_enter Try.func78, Try.ntmps78
  go_wp2
  go_loopw [1, 6, 11] (fun qt qs qi wr => ∃ (k n c : Nat) (A : Option Addr) (u : ByteArray) (ts : List (List UInt8)), k ≤ p.size ∧ qi = .int .i64 (k : Int) ∧ qt = .string u ∧ u.size ≤ 1048576 ∧ n ≤ k ∧ qs = .slice A n c ∧ Hid (OwnS wr w.heap.size (.slice A n c) (ts.map M.bs)) ∧ Hid (Below w.heap.size w wr) ∧ Hid ((M.mt (P.drop k) u.data.toList).map (ts ++ ·) = R)) (fun _ _ qi _ => p.size - (intOf qi).toNat)
  case atStart => exact ⟨0, 0, 0, none, t, [], by omega, rfl, rfl, ht, by omega, rfl, ho0, hb0, hst⟩
  case round =>
    obtain ⟨k, n, c, A, u, ts, hk, rfl, rfl, hu, hn, rfl, hO, hB, hM⟩ := hrel
    clear hst ho0 hb0
    by_cases hlt : k < p.size
    · have hki : (k : Int) < (p.size : Int) := by omega
      have hd := Lib.hid (hby.out k hlt)
      have hsl := hcut.out k hlt
      have hU : Hid (u.data.toList.length = u.size) := (Lib.size_eq u).symm
      have hHP : Hid (∀ (S : List UInt8) W, Calls Try.prog 134 #[.string u, .string (M.bs S)] W fun e w' => e = .returned (.bool (Lib.hasPrefix u.data.toList S)) ∧ w' = W) := fun S W => Try.strings_HasPrefix u (M.bs S) W
      have hrest : Hid (∀ (S : List UInt8) (m : Nat) W, S.length = m → m ≤ u.size → (Instr.slice 9 (.string u) (some (.int .i64 ((M.bs S).size : Int))) none none).run Try.prog W = .ok (.string (M.bs (u.data.toList.drop m))) W) := fun S m W h1 h2 => by
        have := run_slice_string_l (P := Try.prog) W 9 u Try.underlying9 .i64 ((M.bs S).size : Int) (by omega) (by rw [M.bs_size]; omega)
        rw [this, M.bs_size, h1, show ((m : Int)).toNat = m by omega, cut_from]
      have hIK := fun W => Lib.hid (hIs.out p[k] W)
      cases hc : M.isL p[k]
      · rw [hc] at hIK
        have hZ0 : ((M.bs [p[k]]).toList == []) = false := by rw [bs_eq_nil]; rfl
        have hpre := fun W => Lib.hid (hHP.out [p[k]] W)
        cases hT : u.data.toList with
        | nil =>
          rw [hT] at hpre hM
          have hN := Lib.hid (hNone.out (by rw [← hM.out, hd.out, M.mt_end]; rfl) wr hB)
          rw [show Lib.hasPrefix [] [p[k]] = false from rfl] at hpre
          clear hd hNone hSome hHP hrest hM hT hby hcut hIs hc hO
          generalize M.bs [p[k]] = Z at *
          go_wp2_with (first | (go_at_call 98; refine (hIK _).out.mono ?_; rintro e w' ⟨rfl, hw⟩; subst hw) | (go_at_call 134; refine (hpre _).out.mono ?_; rintro e w' ⟨rfl, hw⟩; subst hw))
          exact hN.out
        | cons d T =>
          by_cases hdc : d = p[k]
          · have hpr : Lib.hasPrefix u.data.toList [p[k]] = true := by rw [hT, prefix_one]; simp [hdc]
            rw [hpr] at hpre
            have hu1 : 1 ≤ u.size := by rw [← hU.out, hT]; simp
            have hnx : u.data.toList.drop 1 = T := by rw [hT]; rfl
            have hr1 := fun W => hrest.out [p[k]] 1 W rfl hu1
            rw [hnx] at hr1
            have hTs : (M.bs T).size ≤ 1048576 := by rw [M.bs_size]; have := hU.out; rw [hT, List.length_cons] at this; omega
            have hM' : Hid ((M.mt (P.drop (k + 1)) (M.bs T).data.toList).map (ts ++ ·) = R) := by
              show _ = _
              rw [← hM.out, hd.out, hT, hdc, M.mt_same hc, M.bs_data]
            clear hd hNone hSome hHP hrest hM hT hby hcut hIs hc hpr hnx hdc
            generalize M.bs [p[k]] = Z at *
            generalize M.bs T = u' at *
            go_wp2_with (first | (go_at_call 98; refine (hIK _).out.mono ?_; rintro e w' ⟨rfl, hw⟩; subst hw) | (go_at_call 134; refine (hpre _).out.mono ?_; rintro e w' ⟨rfl, hw⟩; subst hw))
            go_roundw
            case rel => exact ⟨k + 1, n, c, A, u', ts, by omega, by go_num, rfl, hTs, by omega, rfl, hO, hB, hM'⟩
            case measure => simp [intOf]; omega
          · have hpr : Lib.hasPrefix u.data.toList [p[k]] = false := by rw [hT, prefix_one]; exact beq_eq_false_iff_ne.2 hdc
            rw [hpr] at hpre
            have hN := Lib.hid (hNone.out (by rw [← hM.out, hd.out, hT, M.mt_other hc _ _ hdc]; rfl) wr hB)
            clear hd hNone hSome hHP hrest hM hT hby hcut hIs hc hO hpr hdc
            generalize M.bs [p[k]] = Z at *
            go_wp2_with (first | (go_at_call 98; refine (hIK _).out.mono ?_; rintro e w' ⟨rfl, hw⟩; subst hw) | (go_at_call 134; refine (hpre _).out.mono ?_; rintro e w' ⟨rfl, hw⟩; subst hw))
            exact hN.out
      · rw [hc] at hIK
        have hPc := fun W => Lib.hid (pieceOf u W hu)
        have hn6 : n ≤ 1000000 := by omega
        have hzr := hB.out.size
        cases hr : M.piece u.data.toList with
        | none =>
          have hN : Hid (∀ w', Hid (Below w.heap.size w w') → Q (.returned (.tuple #[.slice none 0 0, .bool false])) w') := hNone.out (by rw [← hM.out, hd.out, M.mt_none hc _ hr]; rfl)
          have hZ0 : ((M.bs ([] : List UInt8)).toList == []) = true := by rw [bs_eq_nil]; rfl
          rw [M.pieceT_none hr] at hPc
          clear hd hNone hSome hHP hrest hM hby hcut hIs hc hr
          generalize M.bs [] = Z at *
          go_wp2_with (first | (go_at_call 98; refine (hIK _).out.mono ?_; rintro e w' ⟨rfl, hw⟩; subst hw) | (go_at_call 107; refine (hPc _).out.mono ?_; rintro e w' ⟨rfl, hw⟩; subst hw) | (at_builtin; refine pushS rfl (.tmp 25) (.tmp 27) rfl _ w.heap.size A n c (ts.map M.bs) Z rfl rfl hO hzr hn6 ?_; intro A2 c2 w2 ho2 hb2))
          have hb3 := Lib.hid (hB.out.trans hb2.out)
          exact hN.out _ hb3
        | some r =>
          have hrl := M.piece_drop hr
          obtain ⟨m, hm⟩ : ∃ m, u.data.toList.length - r.length = m := ⟨_, rfl⟩
          have hm1 : 1 ≤ m := by omega
          have hmu : m ≤ u.size := by rw [← hU.out]; omega
          have hrm : u.data.toList.drop m = r := by rw [← hm]; exact hrl.2
          have hrs : (M.bs r).size ≤ 1048576 := by rw [M.bs_size]; have := hU.out; omega
          have hlen : (u.data.toList.take m).length = m := by rw [List.length_take, hU.out]; omega
          rw [M.pieceT_some hr, hm] at hPc
          have hpre := fun W => Lib.hid (hHP.out (u.data.toList.take m) W)
          rw [prefix_take] at hpre
          have hr1 := fun W => hrest.out (u.data.toList.take m) m W hlen hmu
          rw [hrm] at hr1
          have hZ0 : ((M.bs (u.data.toList.take m)).toList == []) = false := by
            rw [bs_eq_nil]
            cases h : u.data.toList.take m with
            | nil => rw [h] at hlen; simp at hlen; omega
            | cons x y => rfl
          have hM' : Hid ((M.mt (P.drop (k + 1)) (M.bs r).data.toList).map ((ts ++ [u.data.toList.take m]) ++ ·) = R) := by
            show _ = _
            rw [← hM.out, hd.out, M.mt_let hc _ hr, hm, map_cons, M.bs_data]
          have hts : Hid ((ts ++ [u.data.toList.take m]).map M.bs = ts.map M.bs ++ [M.bs (u.data.toList.take m)]) := by simp [Hid]
          clear hd hNone hSome hHP hrest hM hby hcut hIs hc hr hrm hm hrl hlen hU
          generalize M.bs r = u' at *
          generalize u.data.toList.take m = Y at *
          generalize ts ++ [Y] = ts' at *
          generalize M.bs Y = Z at *
          go_wp2_with (first | (go_at_call 98; refine (hIK _).out.mono ?_; rintro e w' ⟨rfl, hw⟩; subst hw) | (go_at_call 107; refine (hPc _).out.mono ?_; rintro e w' ⟨rfl, hw⟩; subst hw) | (at_builtin; refine pushS rfl (.tmp 25) (.tmp 27) rfl _ w.heap.size A n c (ts.map M.bs) Z rfl rfl hO hzr hn6 ?_; intro A2 c2 w2 ho2 hb2) | (go_at_call 134; refine (hpre _).out.mono ?_; rintro e w' ⟨rfl, hw⟩; subst hw))
          have hb3 := Lib.hid (hB.out.trans hb2.out)
          rw [← hts.out] at ho2
          clear hb2 hB hO hts
          go_roundw
          case rel => exact ⟨k + 1, n + 1, c2, A2, u', ts', by omega, by go_num, rfl, hrs, by omega, rfl, ho2, hb3, hM'⟩
          case measure => simp [intOf]; omega
    · obtain rfl : k = p.size := by omega
      have hR1 : R = some ts := by rw [← hM.out, List.drop_of_length_le (by have := hL.out; omega), M.mt_nil]; simp
      have hF := Lib.hid (hSome.out ts wr A n c hR1 hB hO)
      clear hNone hSome hM hby hcut hIs hR1
      go_wp2
      exact hF.out
end Go.Proofs.Ytbdmmeoelagdcaa

/- The model's reader of what stands at the letters of a pattern: l04Behind, l04Match. -/
namespace Go.Proofs.Ytbdmmeoelagdcaa
open Go.RowKit

set_option maxRecDepth 100000 in
set_option maxHeartbeats 4000000 in
theorem l04Behind (s : ByteArray) (j m : Nat) (r : List UInt8) (w : World) (hs : s.size ≤ 1048576) (hj : j ≤ s.size) (hr : Hid (M.piece (s.data.toList.drop j) = some r)) (hm : Hid (s.size - r.length = m)) :
    Calls Try.prog 105 #[.string s, .int .i64 (j : Int)] w fun e w' => e = .returned (.int .i64 (m : Int)) ∧ w' = w := by
  have hL : Hid (s.data.toList.length = s.size) := (Lib.size_eq s).symm
  have hby : Hid (∀ k (h : k < s.size), s.data.toList.drop k = s[k] :: s.data.toList.drop (k + 1)) := fun _ h => byte_here s h
  have hfin : Hid (∀ k, k ≤ s.size → s.data.toList.drop k = r → k = m) := fun k hk h => by
    have := congrArg List.length h
    rw [List.length_drop, hL.out] at this
    rw [← hm.out, ← this]
    omega
  generalize s.data.toList = L at *
  go_enter Try.func105, Try.ntmps105
  go_wp2
  go_loopw [1, 5] (fun qa qo wr => ∃ (k o : Nat), k ≤ s.size ∧ o ≤ k ∧ qa = .int .i64 (k : Int) ∧ qo = .int .i64 (o : Int) ∧ wr = w ∧ Hid ((o = 0 ∧ M.piece (L.drop k) = some r) ∨ (0 < o ∧ M.close (L.drop k) o = some r))) (fun qa _ _ => s.size - (intOf qa).toNat)
  case atStart => exact ⟨j, 0, hj, by omega, rfl, rfl, rfl, .inl ⟨rfl, hr.out⟩⟩
  case round =>
    obtain ⟨k, o, hk, ho, rfl, rfl, rfl, hst⟩ := hrel
    have hlt : k < s.size := by
      apply Nat.lt_of_not_le
      intro h
      have h0 : L.drop k = [] := List.drop_of_length_le (by have := hL.out; omega)
      rcases hst.out with ⟨_, h2⟩ | ⟨h1, h2⟩
      · rw [h0] at h2; cases h2
      · obtain ⟨q, rfl⟩ : ∃ q, o = q + 1 := ⟨o - 1, by omega⟩
        rw [h0] at h2; cases h2
    have hd := Lib.hid (hby.out k hlt)
    by_cases h40 : s[k] = 40
    · have e40 : ((s[k].toNat : Int) == 40) = true := by rw [h40]; rfl
      have e41 : ((s[k].toNat : Int) == 41) = false := by rw [h40]; rfl
      have hN : Hid ((o + 1 = 0 ∧ M.piece (L.drop (k + 1)) = some r) ∨ (0 < o + 1 ∧ M.close (L.drop (k + 1)) (o + 1) = some r)) := by
        refine .inr ⟨by omega, ?_⟩
        rcases hst.out with ⟨rfl, h2⟩ | ⟨h1, h2⟩
        · rwa [hd.out, h40, M.piece_open] at h2
        · obtain ⟨q, rfl⟩ : ∃ q, o = q + 1 := ⟨o - 1, by omega⟩
          rwa [hd.out, h40, M.close_open] at h2
      have hne : ((o : Int) + 1 == 0) = false := beq_eq_false_iff_ne.2 (by omega)
      clear hst hd hby hfin h40
      go_wp2
      go_roundw
      case rel => exact ⟨k + 1, o + 1, by omega, by omega, by go_num, by go_num, trivial, hN⟩
      case measure => simp [intOf]; omega
    · have e40 : ((s[k].toNat : Int) == 40) = false := beq_eq_false_iff_ne.2 (by simpa using ne_byte h40)
      by_cases h41 : s[k] = 41
      · have e41 : ((s[k].toNat : Int) == 41) = true := by rw [h41]; rfl
        have ho0 : 0 < o := by
          rcases hst.out with ⟨_, h2⟩ | ⟨h1, _⟩
          · rw [hd.out, h41, M.piece_shut] at h2; cases h2
          · exact h1
        obtain ⟨q, rfl⟩ : ∃ q, o = q + 1 := ⟨o - 1, by omega⟩
        have hc1 : M.close (L.drop (k + 1)) q = some r := by
          rcases hst.out with ⟨h1, _⟩ | ⟨_, h2⟩
          · omega
          · rwa [hd.out, h41, M.close_shut] at h2
        by_cases hq : q = 0
        · subst hq
          rw [M.close_zero] at hc1
          injection hc1 with hc1
          have hmk := Lib.hid (hfin.out (k + 1) (by omega) hc1)
          clear hst hd hby hfin h40 h41 hc1
          go_wp2
          go_ret
          exact ⟨by rw [← hmk.out]; rfl, rfl⟩
        · have hN : Hid ((q = 0 ∧ M.piece (L.drop (k + 1)) = some r) ∨ (0 < q ∧ M.close (L.drop (k + 1)) q = some r)) := .inr ⟨by omega, hc1⟩
          have hw1 : IntKind.i64.wrap (((q + 1 : Nat) : Int) - 1) = (q : Int) := by rw [IntWalk.i64_in _ (by omega)]; omega
          have hne : ((q : Int) == 0) = false := beq_eq_false_iff_ne.2 (by omega)
          clear hst hd hby hfin h40 h41 hc1
          go_wp2
          go_roundw
          case rel => exact ⟨k + 1, q, by omega, by omega, by go_num, by first | rfl | go_num, trivial, hN⟩
          case measure => simp [intOf]; omega
      · have e41 : ((s[k].toNat : Int) == 41) = false := beq_eq_false_iff_ne.2 (by simpa using ne_byte h41)
        by_cases ho0 : o = 0
        · subst ho0
          have hc1 : L.drop (k + 1) = r := by
            rcases hst.out with ⟨_, h2⟩ | ⟨h1, _⟩
            · rw [hd.out] at h2
              cases hc : M.isL s[k]
              · rw [M.piece_bad hc h40] at h2; cases h2
              · rw [M.piece_let hc] at h2; injection h2
            · omega
          have hmk := Lib.hid (hfin.out (k + 1) (by omega) hc1)
          clear hst hd hby hfin h40 h41 hc1
          go_wp2
          go_ret
          exact ⟨by rw [← hmk.out]; rfl, rfl⟩
        · obtain ⟨q, rfl⟩ : ∃ q, o = q + 1 := ⟨o - 1, by omega⟩
          have hN : Hid ((q + 1 = 0 ∧ M.piece (L.drop (k + 1)) = some r) ∨ (0 < q + 1 ∧ M.close (L.drop (k + 1)) (q + 1) = some r)) := by
            refine .inr ⟨by omega, ?_⟩
            rcases hst.out with ⟨h1, _⟩ | ⟨_, h2⟩
            · omega
            · rw [hd.out] at h2
              cases hc : M.isL s[k]
              · rw [M.close_bad hc h40 h41] at h2; cases h2
              · rwa [M.close_let hc] at h2
          have hne : (((q + 1 : Nat) : Int) == 0) = false := beq_eq_false_iff_ne.2 (by omega)
          clear hst hd hby hfin h40 h41
          go_wp2
          go_roundw
          case rel => exact ⟨k + 1, q + 1, by omega, by omega, by go_num, by first | rfl | go_num, trivial, hN⟩
          case measure => simp [intOf]; omega

theorem ownS_drewN {w : World} {B : Nat} {v : Value} {ts : List ByteArray} (h : OwnS w B v ts) (n : Nat) : OwnS (w.drewN n) B v ts := h
theorem byte_eq {b c : UInt8} (h : b = c) : ((b.toNat : Int) != (c.toNat : Int)) = false := by rw [h]; simp

set_option maxRecDepth 100000 in
set_option maxHeartbeats 8000000 in
theorem l04Match (p t : ByteArray) (w : World) (hp : p.size ≤ 1000000) (ht : t.size ≤ 1048576) (hb2 : Hid (M.both p.data.toList t.data.toList)) :
    Calls Try.prog 70 #[.string p, .string t] w (MtQ (M.mt p.data.toList t.data.toList) w) := by
  have hL : Hid (p.data.toList.length = p.size) := (Lib.size_eq p).symm
  have hLt : Hid (t.data.toList.length = t.size) := (Lib.size_eq t).symm
  have hby : Hid (∀ k (h : k < p.size), p.data.toList.drop k = p[k] :: p.data.toList.drop (k + 1)) := fun _ h => byte_here p h
  have hbt : Hid (∀ k (h : k < t.size), t.data.toList.drop k = t[k] :: t.data.toList.drop (k + 1)) := fun _ h => byte_here t h
  have hcut : Hid (∀ (k m : Nat) (_ : k ≤ m) (_ : m ≤ t.size) (W : World), (Instr.slice 9 (.string t) (some (.int .i64 (k : Int))) (some (.int .i64 (m : Int))) none).run Try.prog W = .ok (.string (M.bs ((t.data.toList.drop k).take (m - k)))) W) := fun k m h1 h2 W => by
    have := run_slice_string (P := Try.prog) W 9 t .i64 .i64 (k : Int) (m : Int) Try.underlying9 (by omega) (by omega) (by omega)
    rw [this, show ((k : Int)).toNat = k by omega, show ((m : Int)).toNat = m by omega, Lib.extract_eq]
    rfl
  have hBe : Hid (∀ (j m : Nat) (r : List UInt8) (W : World), j ≤ t.size → M.piece (t.data.toList.drop j) = some r → t.size - r.length = m → Calls Try.prog 105 #[.string t, .int .i64 (j : Int)] W fun e w' => e = .returned (.int .i64 (m : Int)) ∧ w' = W) := fun j m r W h1 h2 h3 => l04Behind t j m r W ht h1 (Lib.hid h2) (Lib.hid h3)
  obtain ⟨R, hR⟩ : ∃ R, M.mt p.data.toList t.data.toList = R := ⟨_, rfl⟩
  obtain ⟨Q, hQ⟩ : ∃ Q, MtQ R w = Q := ⟨_, rfl⟩
  have hNone : Hid (R = none → ∀ w', Hid (Below w.heap.size w w') → Q (.returned (.tuple #[.slice none 0 0, .bool false])) w') := fun h w' hb => by
    rw [← hQ, h]
    exact ⟨none, 0, 0, rfl, hb, Lib.hid (ownS_nil _ _)⟩
  have hSome : Hid (∀ ts w' A n c, R = some ts → Hid (Below w.heap.size w w') → Hid (OwnS w' w.heap.size (.slice A n c) (ts.map M.bs)) → Q (.returned (.tuple #[.slice A n c, .bool true])) w') := fun ts w' A n c h hb ho => by
    rw [← hQ, h]
    exact ⟨A, n, c, rfl, hb, ho⟩
  have hst : Hid ((M.mt (p.data.toList.drop 0) (t.data.toList.drop 0)).map (([] : List (List UInt8)) ++ ·) = R) := by
    show _ = _
    rw [List.drop_zero, List.drop_zero, hR]
    cases R <;> rfl
  have hbo : Hid (M.both (p.data.toList.drop 0) (t.data.toList.drop 0)) := hb2.out
  have hb0 := Lib.hid (bal (b0 w) (.cells #[] 9))
  have ho0 := Lib.hid (ownS_empty (w := w) (B := w.heap.size) (Nat.le_refl _))
  rw [hR, hQ]
  clear hR hQ hb2
  generalize p.data.toList = P at *
  generalize t.data.toList = T at *
  go_enter Try.func70, Try.ntmps70
  go_wp2
  go_loopw [6, 7, 8] (fun qs qa qi wr => ∃ (k j n c : Nat) (A : Option Addr) (ts : List (List UInt8)), k ≤ p.size ∧ j ≤ t.size ∧ qi = .int .i64 (k : Int) ∧ qa = .int .i64 (j : Int) ∧ n ≤ k ∧ qs = .slice A n c ∧ Hid (OwnS wr w.heap.size (.slice A n c) (ts.map M.bs)) ∧ Hid (Below w.heap.size w wr) ∧ Hid (M.both (P.drop k) (T.drop j)) ∧ Hid ((M.mt (P.drop k) (T.drop j)).map (ts ++ ·) = R)) (fun _ _ qi _ => p.size - (intOf qi).toNat)
  case atStart => exact ⟨0, 0, 0, 0, _, [], by omega, by omega, rfl, rfl, by omega, rfl, ho0, hb0, hbo, hst⟩
  case round =>
    obtain ⟨k, j, n, c, A, ts, hk, hj, rfl, rfl, hn, rfl, hO, hB, hBo, hM⟩ := hrel
    clear hst ho0 hb0 hbo
    by_cases hlt : k < p.size
    · have hki : (k : Int) < (p.size : Int) := by omega
      have hd := Lib.hid (hby.out k hlt)
      by_cases hjt : j < t.size
      · have hji : ¬ (t.size : Int) ≤ (j : Int) := by omega
        have hdt := Lib.hid (hbt.out j hjt)
        have hkind := Lib.hid (M.both_kind (by rw [← hd.out]; exact hBo.out))
        cases hc : M.isL p[k]
        · have hkk : p[k] = 40 ∨ p[k] = 41 := hkind.out.resolve_left (by rw [hc]; decide)
          by_cases heq : p[k] = t[j]
          · have hM' : Hid ((M.mt (P.drop (k + 1)) (T.drop (j + 1))).map (ts ++ ·) = R) := by
              show _ = _
              rw [← hM.out, hd.out, hdt.out, ← heq, M.mt_same hc]
            have hBo' : Hid (M.both (P.drop (k + 1)) (T.drop (j + 1))) := M.both_same (by rw [← hd.out]; rw [heq, ← hdt.out]; exact hBo.out) hc
            have eq1 := byte_eq heq
            clear hNone hSome hby hbt hcut hBe hd hdt hM hBo hkind hL hLt
            rcases hkk with h40 | h41
            · have e40 : ((p[k].toNat : Int) != 40) = false := by rw [h40]; rfl
              clear hc heq h40
              go_wp2
              go_quiet (fail)
              go_wp2
              go_roundw
              case rel => exact ⟨k + 1, j + 1, n, c, A, ts, by omega, by omega, by go_num, by go_num, by omega, rfl, Lib.hid (ownS_drewN hO.out _), below_drewN hB.out _, hBo', hM'⟩
              case measure => simp [intOf]; omega
            · have e40 : ((p[k].toNat : Int) != 40) = true := by rw [h41]; rfl
              have e41 : ((p[k].toNat : Int) != 41) = false := by rw [h41]; rfl
              clear hc heq h41
              go_wp2
              go_quiet (fail)
              go_wp2
              go_roundw
              case rel => exact ⟨k + 1, j + 1, n, c, A, ts, by omega, by omega, by go_num, by go_num, by omega, rfl, Lib.hid (ownS_drewN hO.out _), below_drewN hB.out _, hBo', hM'⟩
              case measure => simp [intOf]; omega
          · have hN := Lib.hid (fun W => hNone.out (by rw [← hM.out, hd.out, hdt.out, M.mt_other hc _ _ (Ne.symm heq)]; rfl) W)
            have eq1 := ne_byte heq
            clear hNone hSome hby hbt hcut hBe hd hdt hM hBo hkind hL hLt
            rcases hkk with h40 | h41
            · have e40 : ((p[k].toNat : Int) != 40) = false := by rw [h40]; rfl
              clear hc heq h40
              go_wp2
              go_quiet (fail)
              go_wp2
              exact hN.out _ (below_drewN hB.out _)
            · have e40 : ((p[k].toNat : Int) != 40) = true := by rw [h41]; rfl
              have e41 : ((p[k].toNat : Int) != 41) = false := by rw [h41]; rfl
              clear hc heq h41
              go_wp2
              go_quiet (fail)
              go_wp2
              exact hN.out _ (below_drewN hB.out _)
        · have e40 : ((p[k].toNat : Int) != 40) = true := ne_byte (M.ne_open hc)
          have e41 : ((p[k].toNat : Int) != 41) = true := ne_byte (M.ne_shut hc)
          by_cases h41 : t[j] = 41
          · have f41 : ((t[j].toNat : Int) == 41) = true := by rw [h41]; rfl
            have hN := Lib.hid (hNone.out (by rw [← hM.out, hd.out, hdt.out, h41, M.mt_shut hc]; rfl) wr hB)
            clear hNone hSome hby hbt hcut hBe hd hdt hM hBo hkind hL hLt hc h41
            go_wp2
            exact hN.out
          · have f41 : ((t[j].toNat : Int) == 41) = false := beq_eq_false_iff_ne.2 (by simpa using ne_byte h41)
            obtain ⟨r, hr, hbr⟩ := M.both_let (c := p[k]) (d := t[j]) (P := P.drop (k + 1)) (T := T.drop (j + 1)) (by rw [← hd.out, ← hdt.out]; exact hBo.out) hc h41
            rw [← hdt.out] at hr
            have hrl := M.piece_drop hr
            rw [List.length_drop, hLt.out] at hrl
            obtain ⟨m, hm⟩ : ∃ m, t.size - r.length = m := ⟨_, rfl⟩
            have hm1 : j < m := by omega
            have hm2 : m ≤ t.size := by omega
            have hrm : T.drop m = r := by
              have := hrl.2
              rw [List.drop_drop] at this
              rw [← this]
              congr 1
              omega
            have hC := fun W => Lib.hid (hBe.out j m r W hj hr hm)
            have hsl := fun W => hcut.out j m (by omega) hm2 W
            obtain ⟨Y, hY⟩ : ∃ Y, (T.drop j).take (m - j) = Y := ⟨_, rfl⟩
            have hM' : Hid ((M.mt (P.drop (k + 1)) (T.drop m)).map ((ts ++ [Y]) ++ ·) = R) := by
              show _ = _
              have e1 : t.size - j - r.length = m - j := by omega
              rw [← hM.out, hd.out, M.mt_let hc _ hr, map_cons, hrm, ← hY, List.length_drop, hLt.out, e1]
            have hBo' : Hid (M.both (P.drop (k + 1)) (T.drop m)) := by rw [hrm]; exact hbr
            have hts : Hid ((ts ++ [Y]).map M.bs = ts.map M.bs ++ [M.bs Y]) := by simp [Hid]
            rw [hY] at hsl
            have hzr := hB.out.size
            have hn6 : n ≤ 1000000 := by omega
            clear hNone hSome hby hbt hcut hBe hd hdt hM hBo hkind hL hLt hc h41 hr hbr hrl hm hrm hY
            generalize ts ++ [Y] = ts' at *
            generalize M.bs Y = Z at *
            go_wp2_with (first | (go_at_call 105; refine (hC _).out.mono ?_; rintro e w' ⟨rfl, hw⟩; subst hw) | (at_builtin; refine pushS rfl (.tmp 42) (.tmp 47) rfl _ w.heap.size A n c (ts.map M.bs) Z rfl rfl hO hzr hn6 ?_; intro A2 c2 w2 ho2 hb2))
            have hb3 := Lib.hid (hB.out.trans hb2.out)
            rw [← hts.out] at ho2
            clear hb2 hB hO hts
            go_roundw
            case rel => exact ⟨k + 1, m, n + 1, c2, A2, ts', by omega, by omega, by go_num, rfl, by omega, rfl, ho2, hb3, hBo', hM'⟩
            case measure => simp [intOf]; omega
      · have hji : (t.size : Int) ≤ (j : Int) := by omega
        have hN := Lib.hid (hNone.out (by rw [← hM.out, hd.out, List.drop_of_length_le (by have := hLt.out; omega : T.length ≤ j), M.mt_end]; rfl) wr hB)
        clear hNone hSome hby hbt hcut hBe hd hM hBo hL hLt
        go_wp2
        exact hN.out
    · obtain rfl : k = p.size := by omega
      have hP0 : P.drop p.size = [] := List.drop_of_length_le (by have := hL.out; omega)
      have hR1 : R = some ts := by rw [← hM.out, hP0, M.mt_nil]; simp
      have hT0 : T.drop j = [] := M.both_end (by rw [← hP0]; exact hBo.out)
      have hje : j = t.size := by
        have := congrArg List.length hT0
        rw [List.length_drop, hLt.out] at this
        simp at this
        omega
      have hji : ((j : Int) == (t.size : Int)) = true := beq_iff_eq.2 (by omega)
      have hF := Lib.hid (hSome.out ts wr A n c hR1 hB hO)
      clear hNone hSome hM hby hbt hcut hBe hR1 hP0 hT0 hBo
      go_wp2
      exact hF.out
end Go.Proofs.Ytbdmmeoelagdcaa

/- The model's reader of patterns: l04End, l04Is. -/
namespace Go.Proofs.Ytbdmmeoelagdcaa
open Go.RowKit

/-- the slice value v owns a row of bools -/
abbrev OwnB (w : World) (B : Nat) (v : Value) (U : List Bool) : Prop := w.ownsRow B 4 1 v U.length (U.map Value.bool)
theorem ownB_set {w : World} {B g n c : Nat} {U : List Bool} (h : OwnB w B (.slice (some ⟨g, 0, none⟩) n c) U) (hn : U.length = n) (k : Nat) (x : Bool) :
    OwnB (w.setCell ⟨g, k, none⟩ (.bool x)) B (.slice (some ⟨g, 0, none⟩) n c) (U.set k x) := by
  subst hn
  have := (World.ownsRow.stored h k (.bool x)).1
  simpa [OwnB, List.map_set] using this
theorem ownB_cell {w : World} {B g n c : Nat} {U : List Bool} (h : OwnB w B (.slice (some ⟨g, 0, none⟩) n c) U) (hn : U.length = n) {k : Nat} {x : Bool} (hx : U[k]? = some x) :
    w.cell? ⟨g, k, none⟩ = some (.bool x) ∧ w.frozen? ⟨g, k, none⟩ = false := by
  subst hn
  have hk : k < U.length := (List.getElem?_eq_some_iff.1 hx).1
  exact ⟨(World.ownsRow.cellAt h k (by omega)).trans (by simp [hx]), World.ownsRow.frozenAt h k⟩
theorem ownB_made {w : World} {B n : Nat} (hB : B ≤ w.heap.size) (hn : n ≤ maxLen) :
    OwnB (w.alloc (.cells (madeCells #[.bool false] n) 4)) B (.slice (some ⟨w.heap.size, 0, none⟩) n n) (List.replicate n false) := by
  have h := World.ownsRow_lit (e := 4) (size := 1) w (madeCells #[.bool false] n) n hB hn (by simp [size_madeCells])
  rw [toList_madeCells_one] at h
  simpa [OwnB] using h

/-- the place behind what has been read, or none -/
def endOf (n : Nat) (R : Option (List UInt8 × List Bool)) : Int := match R with | some x => ((n - x.1.length : Nat) : Int) | none => -1
theorem getD_at {U : List Bool} {k : Nat} {x : Bool} (h : U.getD k true = x) (hk : k < U.length) : U[k]? = some x := by
  rw [List.getD_eq_getElem?_getD, List.getElem?_eq_getElem hk] at h
  rw [List.getElem?_eq_getElem hk, ← h]; rfl

/-- what has been told of the letters that have stood -/
def Told (R : Option (List UInt8 × List Bool)) (V : List Bool) : Prop := ∀ x, R = some x → x.2 = V
theorem told_none (V : List Bool) : Told none V := fun x h => by cases h
theorem told_some (r : List UInt8) (V : List Bool) : Told (some (r, V)) V := fun x h => by injection h with h; rw [← h]
/-- what l04End hands back -/
def EndQ (g n : Nat) (R : Option (List UInt8 × List Bool)) (w : World) (e : Ending) (w' : World) : Prop :=
  e = .returned (.int .i64 (endOf n R)) ∧ Hid (Below g w w') ∧ ∃ V, Hid (V.length = 8) ∧ Hid (OwnB w' g (.slice (some ⟨g, 0, none⟩) 8 8) V) ∧ Hid (Told R V)
theorem endQ_at (g n : Nat) (R : Option (List UInt8 × List Bool)) (w : World) {i : Int} (h : endOf n R = i) : EndQ g n R w = fun e w' => e = .returned (.int .i64 i) ∧ Hid (Below g w w') ∧ ∃ V, Hid (V.length = 8) ∧ Hid (OwnB w' g (.slice (some ⟨g, 0, none⟩) 8 8) V) ∧ Hid (Told R V) := by
  funext e w'
  rw [EndQ, h]
/-- what l04End must do with texts of less than f bytes -/
def EndUAt (s : ByteArray) (L : List UInt8) (f : Nat) : Prop := ∀ (j g : Nat) (U : List Bool) (w : World), s.size - j < f → j ≤ s.size → Hid (U.length = 8) → Hid (OwnB w g (.slice (some ⟨g, 0, none⟩) 8 8) U) →
  Calls Try.prog 124 #[.string s, .int .i64 (j : Int), .slice (some ⟨g, 0, none⟩) 8 8] w (EndQ g s.size (M.pieceU (L.drop j) U) w)
theorem drop_rest {L : List UInt8} {j : Nat} {U : List Bool} {x : List UInt8 × List Bool} (h : M.pieceU (L.drop j) U = some x) (hj : j ≤ L.length) : j < L.length - x.1.length ∧ L.length - x.1.length ≤ L.length ∧ L.drop (L.length - x.1.length) = x.1 ∧ x.2.length = U.length := by
  obtain ⟨h1, h2, h3⟩ := M.pieceU_len h
  rw [List.length_drop] at h2 h3
  rw [List.drop_drop] at h3
  refine ⟨by omega, by omega, ?_, h1⟩
  rw [show L.length - x.1.length = j + (L.length - j - x.1.length) by omega]
  exact h3

set_option maxRecDepth 100000 in
set_option maxHeartbeats 4000000 in
theorem l04End_step (s : ByteArray) (L : List UInt8) (hs : s.size ≤ 1000) (hL : Hid (L.length = s.size)) (hby : Hid (∀ k (h : k < s.size), L.drop k = s[k] :: L.drop (k + 1))) (f : Nat) (ih : Hid (EndUAt s L f)) : EndUAt s L (f + 1) := by
  intro j g U w hf hj hU hO
  obtain ⟨R, hR⟩ : ∃ R, M.pieceU (L.drop j) U = R := ⟨_, rfl⟩
  have HR := Lib.hid hR
  obtain ⟨Q, hQ⟩ : ∃ Q, EndQ g s.size R w = Q := ⟨_, rfl⟩
  have hEnd : Hid (∀ (i : Int) (w' : World) (V : List Bool), endOf s.size R = i → Hid (Below g w w') → Hid (V.length = 8) → Hid (OwnB w' g (.slice (some ⟨g, 0, none⟩) 8 8) V) → Told R V → Q (.returned (.int .i64 i)) w') := fun i w' V h1 h2 h3 h4 h5 => by
    rw [← hQ]
    exact ⟨by rw [h1], h2, V, h3, h4, Lib.hid h5⟩
  rw [hR, hQ]
  clear hQ hR
  have hB := Lib.hid (Below.refl g w)
  by_cases hlt : j < s.size
  · have hi : ¬ (s.size : Int) ≤ (j : Int) := by omega
    have hd := Lib.hid (hby.out j hlt)
    cases hc : M.isL s[j]
    · have hn : ¬ (97 ≤ (s[j].toNat : Int) ∧ (s[j].toNat : Int) ≤ 104) := fun h => by have := M.isL_iff (c := s[j]); rw [hc] at this; exact absurd (this.2 (by omega)) (by decide)
      by_cases h40 : s[j] = 40
      · have e40 : (s[j].toNat : Int) = 40 := by rw [h40]; rfl
        have hR0 : Hid (M.closeU (L.drop (j + 1)) 1 U = R) := by show _ = _; rw [← HR.out, hd.out, h40, M.pieceU_open]
        clear hd hc HR h40 hn
        go_enter Try.func124, Try.ntmps124
        go_wp2
        go_loopw [1] (fun qa wr => ∃ (k : Nat) (V : List Bool), j < k ∧ k ≤ s.size ∧ qa = .int .i64 (k : Int) ∧ Hid (V.length = 8) ∧ Hid (OwnB wr g (.slice (some ⟨g, 0, none⟩) 8 8) V) ∧ Hid (Below g w wr) ∧ Hid (M.closeU (L.drop k) 1 V = R)) (fun qa _ => s.size - (intOf qa).toNat)
        case atStart => exact ⟨j + 1, U, by omega, by omega, by go_num, hU, hO, hB, hR0⟩
        case round =>
          obtain ⟨k, V, hjk, hk, rfl, hV, hOV, hBV, hRV⟩ := hrel
          clear hU hO hB hR0
          by_cases hkl : k < s.size
          · have hki : (k : Int) < (s.size : Int) := by omega
            have hdk := Lib.hid (hby.out k hkl)
            by_cases h41 : s[k] = 41
            · have e41 : ((s[k].toNat : Int) != 41) = false := by rw [h41]; rfl
              have hRk : R = some (L.drop (k + 1), V) := by rw [← hRV.out, hdk.out, h41, M.closeU_shut, M.closeU_zero]
              have hfin := Lib.hid (hEnd.out ((k : Int) + 1) wr V (by
                rw [hRk]
                show (((s.size - (L.drop (k + 1)).length : Nat)) : Int) = _
                rw [List.length_drop, hL.out]; omega) hBV hV hOV (by rw [hRk]; exact told_some _ _))
              clear hEnd ih hdk hRk h41 hRV
              go_wp2
              exact hfin.out
            · have e41 : ((s[k].toNat : Int) != 41) = true := ne_byte h41
              have hC := Lib.hid (ih.out k g V wr (by omega) (by omega) hV hOV)
              have hst : M.closeU (L.drop k) 1 V = (M.pieceU (L.drop k) V).bind fun x => M.closeU x.1 1 x.2 := by rw [hdk.out]; exact M.closeU_piece h41 _ 0 V
              cases hp : M.pieceU (L.drop k) V with
              | none =>
                have hR1 : R = none := by rw [← hRV.out, hst, hp]; rfl
                have hE : Hid (∀ w', Hid (Below g w w') → ∀ V', Hid (V'.length = 8) → Hid (OwnB w' g (.slice (some ⟨g, 0, none⟩) 8 8) V') → Q (.returned (.int .i64 (-1))) w') := fun w' h1 V' h2 h3 => hEnd.out (-1) w' V' (by rw [hR1]; rfl) h1 h2 h3 (by rw [hR1]; exact told_none _)
                rw [hp, endQ_at g s.size none wr (i := -1) rfl] at hC
                clear hEnd ih hdk hst hR1 h41 hRV hp
                go_wp2_with (go_at_call 124; with_reducible refine hC.out.mono ?_; rintro e w2 ⟨rfl, hb2, V2, hV2, hO2, hT2⟩)
                have hfin := Lib.hid (hE.out w2 (Lib.hid (hBV.out.trans hb2.out)) V2 hV2 hO2)
                exact hfin.out
              | some x =>
                obtain ⟨r, V'⟩ := x
                have hr := drop_rest hp (by rw [hL.out]; omega)
                rw [hL.out] at hr
                simp only at hr
                obtain ⟨m, hm⟩ : ∃ m, s.size - r.length = m := ⟨_, rfl⟩
                have hR1 : Hid (M.closeU (L.drop m) 1 V' = R) := by show _ = _; rw [← hRV.out, hst, hp, ← hm, hr.2.2.1]; rfl
                rw [hm] at hr
                have hkm := hr.1
                have hms := hr.2.1
                rw [hp] at hC
                have he : endOf s.size (some (r, V')) = (m : Int) := by rw [endOf, hm]
                rw [endQ_at g s.size _ wr he] at hC
                have hmi : ¬ (m : Int) < 0 := by omega
                clear hEnd ih hdk hst h41 hRV hp hr he hm
                go_wp2_with (go_at_call 124; with_reducible refine hC.out.mono ?_; rintro e w2 ⟨rfl, hb2, V2, hV2, hO2, hT2⟩)
                have hVe : V' = V2 := hT2.out _ rfl
                subst hVe
                have hb3 := Lib.hid (hBV.out.trans hb2.out)
                clear hT2 hb2 hC
                go_roundw
                case rel => exact ⟨m, V', by omega, by omega, rfl, hV2, hO2, hb3, hR1⟩
                case measure => simp [intOf]; omega
          · obtain rfl : k = s.size := by omega
            have hRk : R = none := by rw [← hRV.out, List.drop_of_length_le (by have := hL.out; omega)]; rfl
            have hfin := Lib.hid (hEnd.out (-1) wr V (by rw [hRk]; rfl) hBV hV hOV (by rw [hRk]; exact told_none _))
            clear hEnd ih hRk hRV
            go_wp2
            exact hfin.out
      · have e40 : ((s[j].toNat : Int) != 40) = true := ne_byte h40
        have hP : R = none := by rw [← HR.out, hd.out]; exact M.pieceU_bad hc h40 _ U
        have hfin := Lib.hid (hEnd.out (-1) w U (by rw [hP]; rfl) hB hU hO (by rw [hP]; exact told_none _))
        clear hd hP hc hEnd ih HR
        by_cases hn1 : 97 ≤ (s[j].toNat : Int)
        · have hn2 : ¬ (s[j].toNat : Int) ≤ 104 := fun h => hn ⟨hn1, h⟩
          clear hn
          go_enter Try.func124, Try.ntmps124
          go_wp2
          exact hfin.out
        · clear hn
          go_enter Try.func124, Try.ntmps124
          go_wp2
          exact hfin.out
    · have hcc := M.isL_iff.1 hc
      obtain ⟨q, hq⟩ : ∃ q, s[j].toNat = 97 + q := ⟨s[j].toNat - 97, by omega⟩
      have hq8 : q < 8 := by omega
      have hz1 : (97 : Int) ≤ (s[j].toNat : Int) := by omega
      have hz2 : (s[j].toNat : Int) ≤ 104 := by omega
      have hw : IntKind.u8.wrap ((s[j].toNat : Int) - 97) = (q : Int) := by rw [IntWalk.u8_in _ (by omega)]; omega
      have hq' : s[j].toNat - 97 = q := by omega
      cases hb : U.getD q true
      · have hP : R = some (L.drop (j + 1), U.set q true) := by rw [← HR.out, hd.out, M.pieceU_let hc _ (by rw [hq']; exact hb), hq']
        have hcell := ownB_cell hO.out hU.out (getD_at hb (by rw [hU.out]; exact hq8))
        have hc1 := hcell.1
        have hc2 := hcell.2
        have hfin := Lib.hid (hEnd.out ((j : Int) + 1) (w.setCell ⟨g, q, none⟩ (.bool true)) (U.set q true) (by
          rw [hP]
          show (((s.size - (L.drop (j + 1)).length : Nat)) : Int) = _
          rw [List.length_drop, hL.out]; omega) (Lib.hid (below_setCell hB.out (Nat.le_refl g) _)) (by show _ = _; rw [List.length_set]; exact hU.out) (Lib.hid (ownB_set hO.out hU.out q true)) (by rw [hP]; exact told_some _ _))
        clear hd hP hb hc hcell hEnd ih HR hcc hq' hq
        go_enter Try.func124, Try.ntmps124
        go_wp2
        exact hfin.out
      · have hP : R = none := by rw [← HR.out, hd.out]; exact M.pieceU_used hc _ (by rw [hq']; exact hb)
        have hcell := (ownB_cell hO.out hU.out (getD_at hb (by rw [hU.out]; exact hq8))).1
        have hfin := Lib.hid (hEnd.out (-1) w U (by rw [hP]; rfl) hB hU hO (by rw [hP]; exact told_none _))
        clear hd hP hb hc hEnd ih HR hcc hq' hq
        go_enter Try.func124, Try.ntmps124
        go_wp2
        exact hfin.out
  · have hi : (s.size : Int) ≤ (j : Int) := by omega
    have hP : R = none := by rw [← HR.out, List.drop_of_length_le (by have := hL.out; omega)]; rfl
    have hfin := Lib.hid (hEnd.out (-1) w U (by rw [hP]; rfl) hB hU hO (by rw [hP]; exact told_none _))
    clear hP hEnd ih HR
    go_enter Try.func124, Try.ntmps124
    go_wp2
    exact hfin.out

theorem l04End (s : ByteArray) (hs : s.size ≤ 1000) : ∀ f, EndUAt s s.data.toList f
  | 0 => fun _ _ _ _ h => absurd h (Nat.not_lt_zero _)
  | f + 1 => l04End_step s s.data.toList hs (Lib.size_eq s).symm (Lib.hid fun _ h => byte_here s h) f (Lib.hid (l04End s hs f))

set_option maxRecDepth 100000 in
set_option maxHeartbeats 1000000 in
theorem l04Is (s : ByteArray) (w : World) (hs : s.size ≤ 1048576) : Calls Try.prog 65 #[.string s] w fun e w' => e = .returned (.bool (M.isPat s.data.toList)) ∧ Hid (Below w.heap.size w w') := by
  have hL : Hid (s.data.toList.length = s.size) := (Lib.size_eq s).symm
  by_cases h0 : s.size = 0
  · have hF : M.isPat s.data.toList = false := by
      rw [List.eq_nil_of_length_eq_zero (by rw [hL.out, h0] : s.data.toList.length = 0)]
      rfl
    have hi : ¬ (0 : Int) < (s.size : Int) := by omega
    rw [hF]
    clear hF
    go_enter Try.func65, Try.ntmps65
    go_wp2
    go_ret
    exact ⟨rfl, Lib.hid (b0 w)⟩
  · have hi : (0 : Int) < (s.size : Int) := by omega
    by_cases h60 : s.size ≤ 60
    · have hi6 : (s.size : Int) ≤ 60 := by omega
      have hC : Hid (∀ W, Hid (OwnB W w.heap.size (.slice (some ⟨w.heap.size, 0, none⟩) 8 8) (List.replicate 8 false)) → Calls Try.prog 124 #[.string s, .int .i64 0, .slice (some ⟨w.heap.size, 0, none⟩) 8 8] W (EndQ w.heap.size s.size (M.pieceU s.data.toList (List.replicate 8 false)) W)) := fun W hO => by
        have := l04End s (by omega) (s.size + 1) 0 w.heap.size (List.replicate 8 false) W (by omega) (by omega) (by simp [Hid]) hO
        rw [List.drop_zero] at this
        exact this
      have hF : Hid (M.isPat s.data.toList = (endOf s.size (M.pieceU s.data.toList (List.replicate 8 false)) == (s.size : Int))) := by
        show _ = _
        rw [Bool.eq_iff_iff, M.isPat_U (by rw [hL.out]; exact h60), beq_iff_eq]
        cases hp : M.pieceU s.data.toList (List.replicate 8 false) with
        | none => exact ⟨fun ⟨_, h⟩ => (by cases h), fun h => (by have h2 : (-1 : Int) = (s.size : Int) := h; omega)⟩
        | some x =>
          obtain ⟨r, V⟩ := x
          have h1 := (M.pieceU_len hp).2.1
          rw [hL.out] at h1
          simp only at h1
          constructor
          · rintro ⟨V', h⟩
            injection h with h
            injection h with h2 h3
            rw [h2]
            simp [endOf]
          · intro h
            have h2 : ((s.size - r.length : Nat) : Int) = (s.size : Int) := h
            have h3 : r = [] := List.eq_nil_of_length_eq_zero (by omega)
            exact ⟨V, by rw [h3]⟩
      rw [hF.out]
      clear hF
      obtain ⟨R, hR⟩ : ∃ R, M.pieceU s.data.toList (List.replicate 8 false) = R := ⟨_, rfl⟩
      obtain ⟨z, hz⟩ : ∃ z, endOf s.size R = z := ⟨_, rfl⟩
      have hC' : Hid (∀ W, Hid (OwnB W w.heap.size (.slice (some ⟨w.heap.size, 0, none⟩) 8 8) (List.replicate 8 false)) → Calls Try.prog 124 #[.string s, .int .i64 0, .slice (some ⟨w.heap.size, 0, none⟩) 8 8] W fun e w' => e = .returned (.int .i64 z) ∧ Hid (Below w.heap.size W w')) := fun W hO => by
        have := hC.out W hO
        rw [hR, endQ_at _ _ R W hz] at this
        exact this.mono fun e w' h => ⟨h.1, h.2.1⟩
      rw [hR, hz]
      clear hC hR hz
      have hM := Lib.hid (ownB_made (w := w) (B := w.heap.size) (n := 8) (Nat.le_refl _) (by decide))
      have hmk : ∀ W, (Instr.makeSlice 134 (.int .i64 8) (.int .i64 8)).run Try.prog W = .ok (.slice (some ⟨W.heap.size, 0, none⟩) 8 8) (W.alloc (.cells (madeCells #[.bool false] 8) 4)) := run_make_row' (P := Try.prog) 134 4 (.bool false) 1 Try.underlying134 (by kernel_rfl) rfl .i64 .i64 8 (by omega) (by omega)
      go_enter Try.func65, Try.ntmps65
      go_wp2_with fail
      refine (hC'.out _ hM).mono ?_
      rintro e w1 ⟨rfl, hb⟩
      have hB := Lib.hid ((bal (b0 w) (.cells (madeCells #[.bool false] 8) 4)).trans hb.out)
      clear hb hM hC'
      go_wp2
      go_ret
      exact ⟨rfl, hB⟩
    · have hi6 : ¬ (s.size : Int) ≤ 60 := by omega
      have hF : M.isPat s.data.toList = false := by
        rw [M.isPat, decide_eq_false (by rw [hL.out]; omega : ¬ s.data.toList.length ≤ 60)]
        simp
      rw [hF]
      clear hF
      go_enter Try.func65, Try.ntmps65
      go_wp2
      go_ret
      exact ⟨rfl, Lib.hid (b0 w)⟩
end Go.Proofs.Ytbdmmeoelagdcaa

/- IsPattern, the program's and the model's. -/
namespace Go.Proofs.Ytbdmmeoelagdcaa
open Go.RowKit

def F_IsPattern (s : ByteArray) : Bool := M.isPat s.data.toList
theorem letters_cut (k : Nat) (h : k < 8) : (⟨#[97, 98, 99, 100, 101, 102, 103, 104]⟩ : ByteArray).extract k (k + 1) = ⟨#[UInt8.ofNat (97 + k)]⟩ := by
  have : ∀ k : Fin 8, (⟨#[97, 98, 99, 100, 101, 102, 103, 104]⟩ : ByteArray).extract k.1 (k.1 + 1) = ⟨#[UInt8.ofNat (97 + k.1)]⟩ := by decide +kernel
  exact this ⟨k, h⟩
theorem count_cnt (l : List UInt8) (k : Nat) (h : k < 8) : Lib.countByte l (UInt8.ofNat (97 + k)) = M.cntL l k := by
  rw [Lib.countByte, M.cntL, List.count]
  congr 1
  funext c
  have h1 : (UInt8.ofNat (97 + k)).toNat = 97 + k := by rw [UInt8.toNat_ofNat']; omega
  rw [Bool.eq_iff_iff, beq_iff_eq, beq_iff_eq]
  exact ⟨fun e => by rw [e, h1], fun e => UInt8.toNat_inj.1 (by rw [e, h1])⟩
theorem piece_self (l : List UInt8) (h : l ≠ []) : (M.pieceT l == l) = (M.piece l == some []) := by
  cases hp : M.piece l with
  | none => rw [M.pieceT_none hp, beq_eq_false_iff_ne.2 (Ne.symm h)]; rfl
  | some r =>
    rw [M.pieceT_some hp]
    have h1 := (M.piece_drop hp).1
    cases r with
    | nil => simp
    | cons c r =>
      have : (l.take (l.length - (c :: r).length) == l) = false := beq_eq_false_iff_ne.2 fun e => by
        have := congrArg List.length e
        rw [List.length_take] at this
        simp only [List.length_cons] at *
        omega
      rw [this]
      rfl
theorem isPat_parts (l : List UInt8) (h : l ≠ []) (h60 : l.length ≤ 60) : M.isPat l = ((M.pieceT l == l) && ((List.range 8).all fun i => decide (M.cntL l i ≤ 1))) := by
  rw [M.isPat, piece_self l h, decide_eq_true h60, decide_eq_true (List.length_pos_iff.2 h)]
  simp

theorem slice_at (S : ByteArray) (i j : Int) (w : World) (h0 : 0 ≤ i) (h1 : i ≤ j) (h2 : j ≤ (S.size : Int)) : (Instr.slice 9 (.string S) (some (.int .i64 i)) (some (.int .i64 j)) none).run Try.prog w = .ok (.string (S.extract i.toNat j.toNat)) w :=
  run_slice_string (P := Try.prog) w 9 S .i64 .i64 i j Try.underlying9 h0 h1 h2

namespace M
/-- a piece of 1 to 60 bytes -/
def isPiece (l : List UInt8) : Bool := decide (0 < l.length) && decide (l.length ≤ 60) && (piece l == some [])
theorem isPat_piece (l : List UInt8) : isPat l = (isPiece l && ((List.range 8).all fun i => decide (cntL l i ≤ 1))) := rfl
end M

set_option maxRecDepth 100000 in
set_option maxHeartbeats 2000000 in
theorem isPieceIn (s : ByteArray) (w : World) (hs : s.size ≤ 1048576) : Calls Try.prog 66 #[.string s] w fun e w' => e = .returned (.bool (M.isPiece s.data.toList)) ∧ w' = w := by
  have hL : Hid (s.data.toList.length = s.size) := (Lib.size_eq s).symm
  by_cases h0 : s.size = 0
  · have hl0 : s.data.toList = [] := List.eq_nil_of_length_eq_zero (by rw [hL.out, h0])
    have e0 : (s.toList == []) = true := by rw [Lib.toList_data, hl0]; rfl
    rw [hl0, show M.isPiece [] = false from rfl]
    clear hl0
    go_enter Try.func66, Try.ntmps66
    go_wp2
    go_ret
    exact ⟨rfl, rfl⟩
  · have hne : s.data.toList ≠ [] := fun e => h0 (by rw [← hL.out, e]; rfl)
    have e0 : (s.toList == []) = false := by rw [Lib.toList_data]; exact beq_eq_false_iff_ne.2 hne
    by_cases h60 : s.size ≤ 60
    · have hi : (s.size : Int) ≤ 60 := by omega
      have hP := Lib.hid (pieceOf s w hs)
      have hF : Hid (M.isPiece s.data.toList = (M.pieceT s.data.toList == s.data.toList)) := by
        show _ = _
        rw [M.isPiece, piece_self s.data.toList hne, decide_eq_true (by rw [hL.out]; omega : s.data.toList.length ≤ 60), decide_eq_true (List.length_pos_iff.2 hne)]
        simp
      have hcmp : Hid (((M.bs (M.pieceT s.data.toList)).toList == s.toList) = (M.pieceT s.data.toList == s.data.toList)) := by
        show _ = _
        rw [Lib.toList_data, Lib.toList_data, M.bs_data]
      rw [hF.out, ← hcmp.out]
      clear hF hcmp h60 h0 hne
      obtain ⟨q, hq⟩ : ∃ q, ((M.bs (M.pieceT s.data.toList)).toList == s.toList) = q := ⟨_, rfl⟩
      rw [hq]
      go_enter Try.func66, Try.ntmps66
      go_wp2_with (go_at_call 107; refine hP.out.mono ?_; rintro e w' ⟨rfl, hw⟩; subst hw)
      go_ret
      exact ⟨rfl, rfl⟩
    · have hi : ¬ (s.size : Int) ≤ 60 := by omega
      have hF : M.isPiece s.data.toList = false := by
        rw [M.isPiece, decide_eq_false (by rw [hL.out]; omega : ¬ s.data.toList.length ≤ 60)]
        simp
      rw [hF]
      clear hF
      go_enter Try.func66, Try.ntmps66
      go_wp2
      go_ret
      exact ⟨rfl, rfl⟩

set_option maxRecDepth 100000 in
set_option maxHeartbeats 2000000 in
theorem impl_IsPattern : GivesP1 19 F_IsPattern := by
  intro s w hs
  rw [F_IsPattern, M.isPat_piece]
  have hP := Lib.hid (isPieceIn s w hs)
  cases hq : M.isPiece s.data.toList
  · rw [hq] at hP
    rw [Bool.false_and]
    clear hq
    go_enter Try.func19, Try.ntmps19
    go_wp2_with (go_at_call 66; refine hP.out.mono ?_; rintro e w' ⟨rfl, hw⟩; subst hw)
    go_ret
    exact ⟨rfl, Lib.hid (b0 _)⟩
  · rw [hq] at hP
    rw [Bool.true_and]
    clear hq
    have hall : Hid (∀ k : Nat, k < 8 → ¬ M.cntL s.data.toList k ≤ 1 → ((List.range 8).all fun i => decide (M.cntL s.data.toList i ≤ 1)) = false) := fun k hk h => List.all_eq_false.2 ⟨k, List.mem_range.2 hk, by simp; omega⟩
    have hCt : Hid (∀ (k : Nat) W, k < 8 → Calls Try.prog 67 #[.string s, .string ⟨#[UInt8.ofNat (97 + k)]⟩] W fun e w' => e = .returned (.int .i64 (M.cntL s.data.toList k : Int)) ∧ w' = W) := fun k W hk => by
      have := Try.strings_Count_one s (UInt8.ofNat (97 + k)) W
      rwa [count_cnt _ k hk] at this
    have hSl : Hid (∀ k : Nat, k < 8 → ∀ W, (Instr.slice 9 (.string ⟨#[97, 98, 99, 100, 101, 102, 103, 104]⟩) (some (.int .i64 (k : Int))) (some (.int .i64 ((k : Int) + 1))) none).run Try.prog W = .ok (.string ⟨#[UInt8.ofNat (97 + k)]⟩) W) := fun k hk W => by
      have := slice_at ⟨#[97, 98, 99, 100, 101, 102, 103, 104]⟩ k ((k : Int) + 1) W (by omega) (by omega) (by show (k : Int) + 1 ≤ 8; omega)
      rw [this, show ((k : Int)).toNat = k by omega, show ((k : Int) + 1).toNat = k + 1 by omega, letters_cut k hk]
    have hst : Hid ((List.range 0).all (fun i => decide (M.cntL s.data.toList i ≤ 1)) = true) := rfl
    generalize s.data.toList = L at *
    go_enter Try.func19, Try.ntmps19
    go_wp2_with (go_at_call 66; refine hP.out.mono ?_; rintro e w' ⟨rfl, hw⟩; subst hw)
    clear hP
    go_loopw [7] (fun qi wr => ∃ (k : Nat), k ≤ 8 ∧ qi = .int .i64 (k : Int) ∧ wr = w' ∧ Hid ((List.range k).all (fun i => decide (M.cntL L i ≤ 1)) = true)) (fun qi _ => 8 - (intOf qi).toNat)
    case atStart => exact ⟨0, by omega, rfl, rfl, hst⟩
    case round =>
      obtain ⟨k, hk, rfl, rfl, hg⟩ := hrel
      by_cases hlt : k < 8
      · have hki : (k : Int) < 8 := by omega
        have H1 := Lib.hid (hCt.out k wr hlt)
        have H2 := hSl.out k hlt
        generalize (⟨#[UInt8.ofNat (97 + k)]⟩ : ByteArray) = C at H1 H2
        by_cases hc : M.cntL L k ≤ 1
        · have hci : ¬ (1 : Int) < (M.cntL L k : Int) := by omega
          have hN : Hid ((List.range (k + 1)).all (fun i => decide (M.cntL L i ≤ 1)) = true) := by
            show _ = _
            rw [List.range_succ, List.all_append, hg.out]
            simp [hc]
          clear hall hc
          go_wp2_with (go_at_call 67; refine H1.out.mono ?_; rintro e w' ⟨rfl, hw⟩; subst hw)
          go_roundw
          case rel => exact ⟨k + 1, by omega, by go_num, trivial, hN⟩
          case measure => simp [intOf]; omega
        · have hci : (1 : Int) < (M.cntL L k : Int) := by omega
          have hE := Lib.hid (hall.out k hlt hc)
          clear hall hc
          go_wp2_with (go_at_call 67; refine H1.out.mono ?_; rintro e w' ⟨rfl, hw⟩; subst hw)
          go_ret
          rw [hE.out]
          exact ⟨rfl, Lib.hid (b0 _)⟩
      · obtain rfl : k = 8 := by omega
        go_wp2
        go_ret
        rw [hg.out]
        exact ⟨rfl, Lib.hid (b0 _)⟩

set_option maxRecDepth 100000 in
theorem spec_IsPattern : GivesP1 18 F_IsPattern := by
  intro s w hs
  have hC := Lib.hid (l04Is s w hs)
  rw [F_IsPattern]
  generalize M.isPat s.data.toList = b at *
  go_enter Try.func18, Try.ntmps18
  go_wp2_with (go_at_call 65; refine hC.out.mono ?_; rintro e w' ⟨rfl, hb⟩)
  go_ret
  exact ⟨rfl, hb⟩
end Go.Proofs.Ytbdmmeoelagdcaa

/- Texts of trees: the mathematics. No program is named here. -/
namespace Go.Proofs.Ytbdmmeoelagdcaa.M
theorem go_span : ∀ (l : List Int) (o : Int), 0 ≤ o → ok o l → isGo o (l.take (span o l)) = true := by
  intro l
  induction l with
  | nil => intro o h0 h; simp only [ok] at h; simp [span, isGo]; omega
  | cons d r ih =>
    intro o h0 h
    by_cases ho : o ≤ 0
    · rw [span_stop ho]; simp [isGo]; omega
    · rcases h with h | ⟨h1, h2, h3⟩
      · omega
      · rw [span, if_neg ho, List.take_succ_cons, isGo, if_neg (by simp [h1, h2]; omega)]
        exact ih _ (by omega) h3
theorem sub_tree {xs : List Int} (h : isTree xs = true) {v : Nat} (hv : v < xs.length) : isTree (sub xs v) = true := by
  have h1 := go_span _ 1 (by omega) (tree_ok h hv)
  have h2 := span_pos hv
  have h3 := end_le (xs := xs) (v := v) (by omega)
  have h4 := (tree_len h).2
  simp only [isTree, Bool.and_eq_true, decide_eq_true_eq, sub_length]
  exact ⟨⟨h2, by omega⟩, h1⟩
/-- the text of a tree, f levels deep at most -/
def textL : Nat → List Int → ByteArray
  | 0, _ => ByteArray.empty
  | f + 1, xs => (List.range (xs[0]?.getD 0).toNat).foldl (fun a i => a ++ textL f (sub xs (kidAt xs 0 i))) (ByteArray.mk #[40]) ++ ByteArray.mk #[41]
/-- that of the first k children, with what opens it -/
def textK (f : Nat) (xs : List Int) (k : Nat) : ByteArray := (List.range k).foldl (fun a i => a ++ textL f (sub xs (kidAt xs 0 i))) (ByteArray.mk #[40])
theorem textK_zero (f : Nat) (xs : List Int) : textK f xs 0 = ByteArray.mk #[40] := rfl
theorem textK_succ (f : Nat) (xs : List Int) (k : Nat) : textK f xs (k + 1) = textK f xs k ++ textL f (sub xs (kidAt xs 0 k)) := by simp [textK, List.range_succ, List.foldl_append]
theorem textL_at {f : Nat} {xs : List Int} {d : Nat} (h : xs[0]? = some (d : Int)) : textL (f + 1) xs = textK f xs d ++ ByteArray.mk #[41] := by rw [textL, h]; rfl
/-- the subtrees below the root end the list -/
theorem kids_all {xs : List Int} (ht : isTree xs = true) {d : Nat} (hd : xs[0]? = some (d : Int)) : kidAt xs 0 d = xs.length := by
  have h := kid_due ht hd d (by omega)
  have h2 : due xs 0 = 1 := by simp [due, bal]
  rcases Nat.lt_or_ge (kidAt xs 0 d) xs.length with h3 | h3
  · have := due_pos ht h3; omega
  · omega
theorem sub_short {xs : List Int} (ht : isTree xs = true) {d : Nat} (hd : xs[0]? = some (d : Int)) {i : Nat} (hi : i < d) : (sub xs (kidAt xs 0 i)).length < xs.length := by
  have h1 := (kid_due ht hd i (by omega)).2.2
  have h2 := kid_lt ht hd (i := i) (by omega)
  have h3 := end_le (xs := xs) (v := kidAt xs 0 i) (by omega)
  rw [sub_length]; omega
theorem open_size : (ByteArray.mk #[40]).size = 1 := by decide
theorem close_size : (ByteArray.mk #[41]).size = 1 := by decide
theorem textL_size : ∀ (f : Nat) (xs : List Int), isTree xs = true → xs.length ≤ f → (textL f xs).size = 2 * xs.length := by
  intro f
  induction f with
  | zero => intro xs ht h; have := (tree_len ht).1; omega
  | succ f ih =>
    intro xs ht hf
    have hl := tree_len ht
    obtain ⟨d, hd, _⟩ := tree_degN ht (v := 0) (by omega)
    have hK : ∀ k, k ≤ d → (textK f xs k).size + 1 = 2 * kidAt xs 0 k := by
      intro k
      induction k with
      | zero => intro _; rw [textK_zero, open_size]; simp [kidAt]
      | succ k ihk =>
        intro hk
        have h1 := sub_short ht hd (i := k) (by omega)
        have h2 := kid_lt ht hd (i := k) (by omega)
        rw [textK_succ, ByteArray.size_append, ih _ (sub_tree ht h2) (by omega), sub_length]
        have := ihk (by omega)
        simp only [kidAt]
        omega
    have h1 := hK d (Nat.le_refl _)
    rw [kids_all ht hd] at h1
    rw [textL_at hd, ByteArray.size_append, close_size]
    omega
theorem textK_size {f : Nat} {xs : List Int} (ht : isTree xs = true) (hf : xs.length ≤ f + 1) {d : Nat} (hd : xs[0]? = some (d : Int)) : ∀ k, k ≤ d → (textK f xs k).size + 1 = 2 * kidAt xs 0 k := by
  intro k
  induction k with
  | zero => intro _; rw [textK_zero, open_size]; simp [kidAt]
  | succ k ihk =>
    intro hk
    have h1 := sub_short ht hd (i := k) (by omega)
    have h2 := kid_lt ht hd (i := k) (by omega)
    rw [textK_succ, ByteArray.size_append, textL_size f _ (sub_tree ht h2) (by omega), sub_length]
    have := ihk (by omega)
    simp only [kidAt]
    omega
end Go.Proofs.Ytbdmmeoelagdcaa.M

/- eachChild: the iterator over the places and the children of a node: for every loop body that keeps what lay below a block and the box of the degrees. -/
namespace Go.Proofs.Ytbdmmeoelagdcaa
open Go.RowKit Go.Shelf
attribute [local go_sem] Oper.semAt_some

/-- what a round of a loop over the children must keep: all below n₀, and the box of the degrees -/
def KeepK (n₀ Bd : Nat) (W W' : World) : Prop := Below n₀ W W' ∧ W'.heap[Bd]? = W.heap[Bd]?
theorem KeepK.t {n₀ Bd : Nat} {A B C : World} (h : KeepK n₀ Bd A B) (k : KeepK n₀ Bd B C) : KeepK n₀ Bd A C := ⟨h.1.trans k.1, k.2.trans h.2⟩
theorem KeepK.b {n₀ Bd : Nat} {w : World} (hn : n₀ ≤ w.heap.size) (hB : Bd < w.heap.size) (W : World) (l : Nat) (o o' : Obj) (hl : w.heap.size ≤ l) (h : W.heap[l]? = some o) (h1 : o.isCells = false) (h2 : o.isWalk = false) : KeepK n₀ Bd W (W.putObj l o') :=
  ⟨belowK_b hn W l o o' hl h h1 h2, (grownBy_putObj' W l o').block Bd (by have := (Array.getElem?_eq_some_iff.1 h).1; omega) (fun e => by cases e; omega)⟩

/-- the places and the children that have come behind k rounds -/
def kids (xs : List Int) (v k : Nat) : List (Nat × Nat) := (List.range k).map fun i => (i, M.kidAt xs v i)
theorem kids_succ (xs : List Int) (v k : Nat) : kids xs v (k + 1) = kids xs v k ++ [(k, M.kidAt xs v k)] := by simp [kids, List.range_succ]
theorem kids_length (xs : List Int) (v k : Nat) : (kids xs v k).length = k := by simp [kids]

set_option maxRecDepth 100000 in
set_option maxHeartbeats 2000000 in
theorem each1 {α : Type} (mk : Nat → α) (encs : α → Array Value) (n : Nat) (hn : 1 ≤ n) (l Bv Bd n₀ : Nat) (A : Option Addr) (xs : List Int) (c v d : Nat) (hx : xs.length ≤ 24) (hcl : xs.length ≤ c) (hcu : c ≤ 9223372036854775807) (ht : Hid (M.isTree xs = true)) (hd : Hid (xs[v]? = some (d : Int)))
    (hmk : ∀ k, k < d → encs (mk k) = #[.int .i64 (k : Int), .int .i64 (M.kidAt xs v k : Int)]) (J Jx : List α → World → Prop)
    (hY : ∀ pre x W, J pre W → pre.length < d → YieldAt Fence.wide (n - 1) Try.prog l (encs x) W fun e W' =>
      (e = .returned (.bool true) ∧ J (pre ++ [x]) W' ∧ KeepK n₀ Bd W W') ∨ (e = .returned (.bool false) ∧ Jx (pre ++ [x]) W'))
    (W : World) (hBv : W.cell? ⟨Bv, 0, none⟩ = some (.int .i64 v)) (hBd : Boxed W Bd 23 (.slice A xs.length c)) (hI : Ints W n₀ A xs) (hn0 : n₀ ≤ W.heap.size) (h0 : J [] W) :
    CallsIn Fence.wide n Try.prog 162 #[.func (.yield l) #[] #[], .pointer (some ⟨Bv, 0, none⟩), .pointer (some ⟨Bd, 0, none⟩)] W fun e W' => (∃ u, e = .returned u) ∧
      ((∃ ys, ys = (List.range d).map mk ∧ J ys W') ∨ (∃ pre, (∃ k, k ≤ d ∧ pre = (List.range k).map mk) ∧ Jx pre W')) := by
  have hv : v < xs.length := (List.getElem?_eq_some_iff.1 hd.out).1
  have hd24 : d ≤ 24 := by have := M.tree_deg ht.out hd.out; omega
  obtain ⟨b, off, rfl, hbB, hcells⟩ := hI (by omega)
  have Hcells := Lib.hid hcells
  have hc0 := hcells v _ hd.out
  have hcd := hBd.cell
  have HBd := Lib.hid hBd
  have HI := Lib.hid hI
  clear hcells hI hBd
  refine callsIn_of_wp Try.func162 rfl trivial ?_ rfl
  simp only [Try.ntmps162, List.size_toArray, List.length_cons, List.length_nil, Nat.reduceAdd, Nat.reduceSub, Array.replicate_succ, Array.replicate_zero, List.push_toArray, List.append_toArray, List.nil_append, List.cons_append]
  gi_wp2
  gi_loopw [4, 5, 12] (fun q _ i wr => ∃ k : Nat, k ≤ d ∧ i = .int .i64 k ∧ q = .int .i64 (M.kidAt xs v k) ∧ J ((List.range k).map mk) wr ∧ Hid (KeepK n₀ Bd W wr))
    (fun _ _ i _ => d - (intOf i).toNat)
  case atStart => exact ⟨0, Nat.zero_le _, rfl, by simp [M.kidAt], h0, ⟨Below.refl _ _, rfl⟩⟩
  case round =>
    obtain ⟨k, hk, rfl, rfl, hJs, hnx⟩ := hrel
    clear hc0 hcd
    by_cases hlt : k < d
    · have hYk := hY _ (mk k) wr hJs (by simpa using hlt)
      rw [hmk k hlt] at hYk
      obtain ⟨fn, tmps, assign, body, hy, hR⟩ := hYk
      have hkl := M.kid_lt ht.out hd.out (i := k) (by omega)
      have hsp := M.span_le (xs.drop (M.kidAt xs v k)) 1
      have hsp2 : (xs.drop (M.kidAt xs v k)).length ≤ xs.length := by simp
      have hok := Lib.hid (M.tree_ok ht.out hkl)
      have hks : Hid (M.kidAt xs v (k + 1) = M.kidAt xs v k + M.span 1 (xs.drop (M.kidAt xs v k))) := rfl
      generalize hC : M.kidAt xs v k = C at *
      obtain ⟨S, hS⟩ : ∃ S, Hid (M.span 1 (xs.drop C) = S) := ⟨_, rfl⟩
      have hS2 : S ≤ 24 := by have := hS.out; omega
      have HC := Lib.hid hC
      clear hsp hsp2 hC
      gi_wp2
      refine hR.mono ?_
      rintro e W3 (⟨rfl, hJ3, hk3⟩ | ⟨rfl, hJx3⟩)
      · have hk4 : Hid (KeepK n₀ Bd W W3) := hnx.out.t hk3
        have hbd3 : Boxed W3 Bd 23 (.slice (some ⟨b, off, none⟩) xs.length c) := hk4.out.2.trans HBd.out
        have hc3 := hbd3.cell
        have hI3 := Lib.hid ((HI.out.below hk4.out.1 (Nat.le_refl _)).more (Nat.le_trans hn0 hk4.out.1.size))
        have hK3 := Lib.hid hk3
        clear hk3 hbd3
        gi_wp2_with (refine ⟨trivial, ?_⟩; gi_at_call 150; refine (callsIn_wide.2 (sizeAt _ xs c C S _ hS hx hcl hcu hok hI3.out)).mono ?_; rintro e w' ⟨rfl, rfl⟩)
        have hks2 : Hid (M.kidAt xs v (k + 1) = C + S) := by show _ = _; rw [hks.out, hS.out]
        go_roundw
        case rel => exact ⟨k + 1, by omega, by go_num, by rw [hks2.out]; go_num, by rw [List.range_succ, List.map_append]; exact hJ3, hk4⟩
        case measure => simp [intOf]; omega
      · gi_wp2
        refine bodyPost_ret (results_none rfl _ _ _) rfl ?_
        exact ⟨⟨_, rfl⟩, .inr ⟨_, ⟨k + 1, by omega, by rw [List.range_succ, List.map_append]; rfl⟩, hJx3⟩⟩
    · obtain rfl : k = d := by omega
      gi_wp2
      go_end0
      exact ⟨⟨_, rfl⟩, .inl ⟨_, rfl, hJs⟩⟩

set_option maxHeartbeats 1000000 in
/-- eachChild: both arguments are boxed; the function value captures the boxes -/
theorem eachIn (n : Nat) (A : Option Addr) (m c : Nat) (v : Int) (w : World) :
    CallsIn Fence.wide n Try.prog 135 #[.slice A m c, .int .i64 v] w fun e w' => e = .returned (.func (.func 162) #[] #[.pointer (some ⟨w.heap.size + 1, 0, none⟩), .pointer (some ⟨w.heap.size, 0, none⟩)]) ∧
      w' = (w.alloc (.cells #[.slice A m c] 23)).alloc (.cells #[.int .i64 v] 2) := by
  refine callsIn_of_wp Try.func135 rfl trivial ?_ rfl
  simp only [Try.ntmps135, List.size_toArray, List.length_cons, List.length_nil, Nat.reduceAdd, Nat.reduceSub, Array.replicate_succ, Array.replicate_zero, List.push_toArray, List.append_toArray, List.nil_append, List.cons_append]
  gi_wp2
  go_ret
  exact ⟨rfl, rfl⟩

/-- what a range over the children of v gives: all of them in order, or a beginning where a round has said 'no more'; the elements as the caller names them -/
theorem each_stopsF {α : Type} (mk : Nat → α) (encs : α → Array Value) (n : Nat) (hn : 1 ≤ n) (Bv Bd n₀ : Nat) (A : Option Addr) (xs : List Int) (c v d : Nat) (hx : xs.length ≤ 24) (hcl : xs.length ≤ c) (hcu : c ≤ 9223372036854775807) (ht : Hid (M.isTree xs = true)) (hd : Hid (xs[v]? = some (d : Int)))
    (hmk : ∀ k, k < d → encs (mk k) = #[.int .i64 (k : Int), .int .i64 (M.kidAt xs v k : Int)]) (w : World) (hBv : w.cell? ⟨Bv, 0, none⟩ = some (.int .i64 v)) (hBd : Boxed w Bd 23 (.slice A xs.length c)) (hI : Ints w n₀ A xs) (hn0 : n₀ ≤ w.heap.size) :
    SeqStopsK Fence.wide n Try.prog 162 #[.pointer (some ⟨Bv, 0, none⟩), .pointer (some ⟨Bd, 0, none⟩)] encs (KeepK n₀ Bd)
      (fun ys => ys = (List.range d).map mk) (fun pre => ∃ k, k ≤ d ∧ pre = (List.range k).map mk) d w := fun l J Jx W hW _ _ hY h0 =>
  each1 mk encs n hn l Bv Bd n₀ A xs c v d hx hcl hcu ht hd hmk J Jx hY W ((hW.cell (p := ⟨Bv, 0, none⟩) (World.block_lt_of_cell? _ _ hBv)).trans hBv) ((hW.block Bd hBd.lt).trans hBd) (hI.below hW hn0) (Nat.le_trans hn0 hW.size) h0

/-- what a range over the children of v gives: all of them in order, or a beginning where a round has said 'no more' -/
theorem each_stops (n : Nat) (hn : 1 ≤ n) (Bv Bd n₀ : Nat) (A : Option Addr) (xs : List Int) (c v d : Nat) (hx : xs.length ≤ 24) (hcl : xs.length ≤ c) (hcu : c ≤ 9223372036854775807) (ht : Hid (M.isTree xs = true)) (hd : Hid (xs[v]? = some (d : Int)))
    (w : World) (hBv : w.cell? ⟨Bv, 0, none⟩ = some (.int .i64 v)) (hBd : Boxed w Bd 23 (.slice A xs.length c)) (hI : Ints w n₀ A xs) (hn0 : n₀ ≤ w.heap.size) :
    SeqStopsK Fence.wide n Try.prog 162 #[.pointer (some ⟨Bv, 0, none⟩), .pointer (some ⟨Bd, 0, none⟩)] (fun x : Nat × Nat => #[Value.int .i64 (x.1 : Int), Value.int .i64 (x.2 : Int)]) (KeepK n₀ Bd)
      (fun ys => ys = kids xs v d) (fun pre => ∃ k, k ≤ d ∧ pre = kids xs v k) d w :=
  each_stopsF (fun i => (i, M.kidAt xs v i)) _ n hn Bv Bd n₀ A xs c v d hx hcl hcu ht hd (fun _ _ => rfl) w hBv hBd hI hn0
end Go.Proofs.Ytbdmmeoelagdcaa

/- childrenIn: the children of a node in a row of its own; l01Children: the same. -/
namespace Go.Proofs.Ytbdmmeoelagdcaa
open Go.RowKit Go.Shelf
attribute [local go_sem] Oper.semAt_some

/-- the children, as numbers -/
def kidsI (pre : List (Nat × Nat)) : List Int := pre.map fun x => (x.2 : Int)
theorem kidsI_snoc (pre : List (Nat × Nat)) (x : Nat × Nat) : kidsI (pre ++ [x]) = kidsI pre ++ [(x.2 : Int)] := by simp [kidsI]
theorem kidsI_length (pre : List (Nat × Nat)) : (kidsI pre).length = pre.length := by simp [kidsI]

theorem keepK_appended {W w1 : World} {n₀ B Bd : Nat} {tmp : Obj} {v v' : Value} {u : Value} {n : Nat} {xs : List Value} (hB : Below n₀ W (w1.setCell ⟨B, 0, none⟩ v')) (hgrow : (W.alloc tmp).grownBy w1 v.ownBlock)
    (hrow : W.ownsRow n₀ 2 1 v n xs) (hd : Boxed W Bd 23 u) (hne : Bd ≠ B) : KeepK n₀ Bd W (w1.setCell ⟨B, 0, none⟩ v') := by
  have h1 : Boxed w1 Bd 23 u := (hd.alloc tmp).kept hgrow (hd.not_row (by decide) hrow)
  exact ⟨hB, (show Boxed _ Bd _ u from h1.other hne v').trans (show W.heap[Bd]? = _ from hd).symm⟩

theorem kidsI_kids (xs : List Int) (v k : Nat) : kidsI (kids xs v k) = M.childs xs v k := by simp [kidsI, kids, M.childs]

set_option maxHeartbeats 2000000 in
theorem l01Children (A : Option Addr) (xs : List Int) (c v d : Nat) (w : World) (hx : xs.length ≤ 24) (ht : Hid (M.isTree xs = true)) (hd : Hid (xs[v]? = some (d : Int))) (h : Ints w w.heap.size A xs) :
    Calls Try.prog 129 #[.agg #[.slice A xs.length c], .int .i64 v] w fun e w' => ∃ A' c', e = .returned (.slice A' d c') ∧ Own64 w' w.heap.size (.slice A' d c') (M.childs xs v d) ∧ Below w.heap.size w w' := by
  have hv : v < xs.length := (List.getElem?_eq_some_iff.1 hd.out).1
  have hd24 : d ≤ 24 := by have := (M.tree_deg ht.out hd.out).2; omega
  have Hh := Lib.hid h
  obtain ⟨b, off, rfl, hbB, hcells⟩ := h (by omega)
  have hc0 := hcells v _ hd.out
  clear hcells
  go_enter Try.func129, Try.ntmps129
  go_wp2
  go_loopw [5, 6, 7] (fun q at_ i wr => ∃ (k : Nat) (A' : Option Addr) (n c' : Nat), k ≤ d ∧ i = .int .i64 ((d : Int) - k) ∧ at_ = .int .i64 (M.kidAt xs v k) ∧ q = .slice A' n c' ∧ Hid (Own64 wr (w.heap.size + 1) (.slice A' n c') (M.childs xs v k)) ∧ Hid (Below (w.heap.size + 1) (w.alloc (.cells #[.slice (some ⟨b, off, none⟩) xs.length c] 29)) wr)) (fun _ _ i _ => (intOf i).toNat)
  case atStart => exact ⟨0, some ⟨w.heap.size + 1, 0, none⟩, 0, 0, Nat.zero_le _, by go_num, by simp [M.kidAt], rfl, by have := own64_empty (w := w.alloc (.cells #[.slice (some ⟨b, off, none⟩) xs.length c] 29)) (B := w.heap.size + 1) (by simp); exact Lib.hid (by simpa [M.childs] using this), (Below.refl _ _).alloc (by simp) _⟩
  case round =>
    obtain ⟨k, A', n, c', hk, rfl, rfl, rfl, ho, hbr⟩ := hrel
    have hnr : n ≤ 1000000 := by have h1 := own64_len ho.out; rw [M.childs_length] at h1; omega
    clear hc0
    have hB1 := hbr.out.size
    by_cases hlt : k < d
    · have hkl := M.kid_lt ht.out hd.out (i := k) (by omega)
      have hok := Lib.hid (M.tree_ok ht.out hkl)
      have hsp := M.span_le (xs.drop (M.kidAt xs v k)) 1
      have hsp2 : (xs.drop (M.kidAt xs v k)).length ≤ xs.length := by simp
      obtain ⟨C2, hC2e⟩ : ∃ C2, Hid (M.kidAt xs v (k + 1) = C2) := ⟨_, rfl⟩
      have hks : Hid (M.kidAt xs v k + M.span 1 (xs.drop (M.kidAt xs v k)) = C2) := hC2e
      have hcs := Lib.hid (M.childs_succ xs v k)
      generalize M.kidAt xs v k = C at *
      have hC2 : C2 ≤ 48 := by have := hks.out; omega
      clear hsp hsp2
      have hB2 : w.heap.size + 1 ≤ wr.heap.size := by simpa using hB1
      have HbB := Lib.hid hbB
      clear hB1 hbB
      go_wp2_with (at_builtin; refine push64 rfl (.tmp 20) (.tmp 22) rfl wr (w.heap.size + 1) A' n c' (M.childs xs v k) (C : Int) rfl rfl ho hB2 hnr ?_; intro A2 c2 w2 ho2 hb2; have hb3 := Lib.hid (hbr.out.trans hb2.out); have hcell2 := (hb3.out.cell (p := ⟨w.heap.size, 0, none⟩) (Nat.lt_succ_self _)).trans (World.cell?_alloc_new w #[.slice (some ⟨b, off, none⟩) xs.length c] 29 0))
      have hsz2 : w.heap.size ≤ w2.heap.size := by have := hb3.out.size; simp at this; omega
      have hI2 := Lib.hid (((Hh.out.alloc (Nat.le_refl _) (.cells #[.slice (some ⟨b, off, none⟩) xs.length c] 29)).below hb3.out (Nat.le_succ _)).more hsz2)
      refine (l01End _ xs c C C2 _ hks hx hok hI2.out).mono ?_
      rintro e w3 ⟨rfl, hb⟩
      have hb4 := Lib.hid (hb3.out.trans (hb.mono (by have := hb3.out.size; simp at this; omega)))
      have ho4 := Lib.hid (own_be (own64_eq ho2.out hcs.out.symm) hb)
      clear hb
      go_wp2
      go_roundw
      case rel => exact ⟨k + 1, A2, _, c2, by omega, by go_num, by rw [hC2e.out], rfl, ho4, hb4⟩
      case measure => simp [intOf]; omega
    · obtain rfl : k = d := by omega
      go_wp2
      go_ret
      have hn := own64_len ho.out
      rw [M.childs_length] at hn
      subst hn
      exact ⟨A', c', rfl, own_mono ho.out (by omega), (bal (b0 w) _).trans (hbr.out.mono (by omega))⟩
end Go.Proofs.Ytbdmmeoelagdcaa

/- The order by levels as mathematics: nodes met are never more than the tree has, since their subtrees' sizes add up. -/
namespace Go.Proofs.Ytbdmmeoelagdcaa.M

theorem span_add : ∀ (l : List Int) (a b : Int), (∀ x ∈ l, 0 ≤ x) → 0 ≤ a → 0 ≤ b → span (a + b) l = span a l + span b (l.drop (span a l)) := by
  intro l
  induction l with
  | nil => intro a b _ _ _; simp [span]
  | cons x r ih =>
    intro a b h ha hb
    have hx := h x (by simp)
    by_cases h0 : a ≤ 0
    · obtain rfl : a = 0 := by omega
      rw [span_stop (Int.le_refl 0)]
      simp
    · have e1 : span (a + b) (x :: r) = span (a + b - 1 + x) r + 1 := by rw [span, if_neg (by omega)]
      have e2 : span a (x :: r) = span (a - 1 + x) r + 1 := by rw [span, if_neg (by omega)]
      have e3 : a + b - 1 + x = (a - 1 + x) + b := by omega
      rw [e1, e2, e3, ih _ _ (fun y hy => h y (by simp [hy])) (by omega) hb]
      simp only [List.drop_succ_cons]
      omega

theorem tree_nonneg {xs : List Int} (h : isTree xs = true) : ∀ x ∈ xs, 0 ≤ x := by
  intro x hx
  obtain ⟨i, hi, e⟩ := List.getElem_of_mem hx
  exact (tree_deg h (v := i) (x := x) (by rw [List.getElem?_eq_getElem hi, e])).1

theorem kid_span {xs : List Int} (h : isTree xs = true) (v : Nat) : ∀ k : Nat, kidAt xs v k = v + 1 + span k (xs.drop (v + 1)) := by
  intro k
  induction k with
  | zero => simp only [kidAt]; rw [span_stop (by simp)]
  | succ k ih =>
    simp only [kidAt]
    have e := span_add (xs.drop (v + 1)) k 1 (fun x hx => tree_nonneg h x (List.mem_of_mem_drop hx)) (by omega) (by omega)
    rw [List.drop_drop] at e
    have e2 : ((k + 1 : Nat) : Int) = (k : Int) + 1 := by omega
    rw [ih, e2, e]
    omega

theorem kid_end {xs : List Int} (h : isTree xs = true) {v d : Nat} (hd : xs[v]? = some (d : Int)) : kidAt xs v d = v + span 1 (xs.drop v) := by
  rw [kid_span h, span_step hd (by omega)]
  have e : (1 : Int) - 1 + d = d := by omega
  rw [e]
  omega

def szs (xs l : List Int) : Nat := (l.map fun v => span 1 (xs.drop v.toNat)).sum
theorem szs_append (xs a b : List Int) : szs xs (a ++ b) = szs xs a + szs xs b := by simp [szs]
theorem szs_childs (xs : List Int) (v k : Nat) : v + 1 + szs xs (childs xs v k) = kidAt xs v k := by
  induction k with
  | zero => simp [childs, szs, kidAt]
  | succ k ih =>
    rw [childs_succ, szs_append]
    simp only [kidAt]
    have : szs xs [(kidAt xs v k : Int)] = span 1 (xs.drop (kidAt xs v k)) := by simp [szs]
    omega
theorem szs_len {xs : List Int} : ∀ l : List Int, (∀ v ∈ l, 0 ≤ v ∧ v.toNat < xs.length) → l.length ≤ szs xs l := by
  intro l
  induction l with
  | nil => intro _; simp
  | cons a r ih =>
    intro h
    have h1 := ih (fun v hv => h v (by simp [hv]))
    have h2 := span_pos (xs := xs) (h a (by simp)).2
    simp only [szs, List.map_cons, List.sum_cons, List.length_cons] at *
    omega

def lev (xs : List Int) : Nat → List Int → Nat → List Int
  | 0, out, _ => out
  | f + 1, out, i => match out[i]? with
    | none => out
    | some v => lev xs f (out ++ childs xs v.toNat (xs[v.toNat]?.getD 0).toNat) (i + 1)
def level (xs : List Int) : List Int := lev xs xs.length [0] 0
def lgood (xs : List Int) (i : Nat) (out : List Int) : Prop := i ≤ out.length ∧ i + szs xs (out.drop i) = xs.length ∧ ∀ v ∈ out, 0 ≤ v ∧ v.toNat < xs.length

theorem lgood_len {xs out : List Int} {i : Nat} (h : lgood xs i out) : out.length ≤ xs.length := by
  obtain ⟨h1, h2, h3⟩ := h
  have := szs_len (xs := xs) (out.drop i) (fun v hv => h3 v (List.mem_of_mem_drop hv))
  simp only [List.length_drop] at this
  omega
theorem childs_in {xs : List Int} (h : isTree xs = true) {v d : Nat} (hd : xs[v]? = some (d : Int)) : ∀ u ∈ childs xs v d, 0 ≤ u ∧ u.toNat < xs.length := by
  intro u hu
  simp only [childs, List.mem_map, List.mem_range] at hu
  obtain ⟨i, hi, rfl⟩ := hu
  exact ⟨by omega, by simpa using kid_lt h hd (i := i) (by omega)⟩
theorem lgood_step {xs out : List Int} {i v d : Nat} (ht : isTree xs = true) (h : lgood xs i out) (hv : out[i]? = some (v : Int)) (hd : xs[v]? = some (d : Int)) : lgood xs (i + 1) (out ++ childs xs v d) := by
  obtain ⟨h1, h2, h3⟩ := h
  have hi := (List.getElem?_eq_some_iff.1 hv).1
  refine ⟨by simp; omega, ?_, fun u hu => ?_⟩
  · rw [List.drop_append_of_le_length (by omega), szs_append]
    rw [drop_at hv] at h2
    have e1 : szs xs ((v : Int) :: out.drop (i + 1)) = span 1 (xs.drop v) + szs xs (out.drop (i + 1)) := by simp [szs]
    have e2 := szs_childs xs v d
    have e3 := kid_end ht hd
    omega
  · rcases List.mem_append.1 hu with hu | hu
    · exact h3 u hu
    · exact childs_in ht hd u hu
theorem lgood_start {xs : List Int} (ht : isTree xs = true) : lgood xs 0 [0] := by
  have hl := (tree_len ht).1
  refine ⟨by simp, ?_, fun v hv => by simp at hv; subst hv; simp; omega⟩
  have h0 : due xs 0 = 1 := by simp [due, bal]
  have h1 := due_span ht (v := 0) hl
  have h2 := end_le (xs := xs) (v := 0) (by omega)
  simp only [List.drop_zero, Nat.zero_add] at h1 h2
  have h3 : ¬ span 1 xs < xs.length := fun hlt => by have := due_pos ht hlt; omega
  simp [szs]
  omega
theorem lev_step {xs out : List Int} {n i v d : Nat} (hn : i < n) (hv : out[i]? = some (v : Int)) (hd : xs[v]? = some (d : Int)) : lev xs (n - i) out i = lev xs (n - (i + 1)) (out ++ childs xs v d) (i + 1) := by
  have e : n - i = (n - (i + 1)) + 1 := by omega
  rw [e, lev, hv]
  simp [hd]
theorem lev_end {xs out : List Int} {f i : Nat} (h : out.length ≤ i) : lev xs f out i = out := by
  cases f with
  | zero => rfl
  | succ f => rw [lev, List.getElem?_eq_none h]
theorem lev_len {xs : List Int} (ht : isTree xs = true) : ∀ (f : Nat) (out : List Int) (i : Nat), lgood xs i out → (lev xs f out i).length ≤ xs.length := by
  intro f
  induction f with
  | zero => intro out i h; exact lgood_len h
  | succ f ih =>
    intro out i h
    rw [lev]
    split
    · exact lgood_len h
    · rename_i v hv
      obtain ⟨h0, h1⟩ := h.2.2 v (List.mem_of_getElem? hv)
      obtain ⟨n, rfl⟩ := Int.eq_ofNat_of_zero_le h0
      obtain ⟨d, hd, _⟩ := tree_degN ht h1
      simp only [Int.toNat_natCast] at hd h1 ⊢
      rw [hd]
      exact ih _ _ (by simpa using lgood_step ht h hv hd)
end Go.Proofs.Ytbdmmeoelagdcaa.M

/- Parents and meets as mathematics: subtrees are nested, each node but the root is a child of one node, and the meet is the greatest node that has both below it. -/
namespace Go.Proofs.Ytbdmmeoelagdcaa.M

def fin (xs : List Int) (v : Nat) : Nat := v + span 1 (xs.drop v)
theorem span_min : ∀ (l : List Int) (o : Int) (k : Nat), k < span o l → 1 ≤ o + bal (l.take k) := by
  intro l
  induction l with
  | nil => intro o k h; simp [span] at h
  | cons x r ih =>
    intro o k h
    rw [span] at h
    split at h
    · omega
    · cases k with
      | zero => simp only [List.take_zero, bal]; omega
      | succ k =>
        have := ih (o - 1 + x) k (by omega)
        simp only [List.take_succ_cons, bal]
        omega
theorem due_in {xs : List Int} {v q : Nat} (h1 : v ≤ q) (h2 : q < fin xs v) : due xs v ≤ due xs q := by
  have h := span_min (xs.drop v) 1 (q - v) (by simp only [fin] at h2; omega)
  have e : xs.take q = xs.take v ++ (xs.drop v).take (q - v) := by
    have := List.take_add (l := xs) (i := v) (j := q - v)
    rw [← this]
    congr 1
    omega
  simp only [due]
  rw [e, bal_append]
  omega
theorem fin_gt {xs : List Int} {v : Nat} (h : v < xs.length) : v < fin xs v := by have := span_pos h; simp only [fin]; omega
theorem fin_le {xs : List Int} {v : Nat} (h : v ≤ xs.length) : fin xs v ≤ xs.length := end_le h
theorem fin_root {xs : List Int} (ht : isTree xs = true) : fin xs 0 = xs.length := by
  have := (lgood_start ht).2.1
  simpa [szs, fin] using this
theorem nest {xs : List Int} (ht : isTree xs = true) {v q : Nat} (hv : v < xs.length) (h1 : v ≤ q) (h2 : q < fin xs v) : fin xs q ≤ fin xs v := by
  have hl := fin_le (xs := xs) (v := v) (by omega)
  rcases Nat.lt_or_ge (fin xs v) (fin xs q) with h | h
  · have e1 := due_in (xs := xs) (v := q) (q := fin xs v) (by omega) h
    have e2 := due_span ht hv
    have e3 := due_in h1 h2
    simp only [fin] at e1
    omega
  · exact h
theorem kid_le {xs : List Int} {v i j : Nat} (h : i ≤ j) : kidAt xs v i ≤ kidAt xs v j := by
  induction j with
  | zero => obtain rfl : i = 0 := by omega
            exact Nat.le_refl _
  | succ j ih =>
    rcases Nat.lt_or_ge i (j + 1) with h1 | h1
    · have := ih (by omega)
      simp only [kidAt]
      omega
    · obtain rfl : i = j + 1 := by omega
      exact Nat.le_refl _
theorem kid_tile {xs : List Int} {v at_ : Nat} (h : v < at_) : ∀ i, at_ < kidAt xs v i → ∃ j, j < i ∧ kidAt xs v j ≤ at_ ∧ at_ < kidAt xs v (j + 1) := by
  intro i
  induction i with
  | zero => intro h1; simp only [kidAt] at h1; omega
  | succ i ih =>
    intro h1
    rcases Nat.lt_or_ge at_ (kidAt xs v i) with h2 | h2
    · obtain ⟨j, hj, h3⟩ := ih h2
      exact ⟨j, by omega, h3⟩
    · exact ⟨i, by omega, h2, h1⟩
def IsKid (xs : List Int) (u c : Nat) : Prop := ∃ (d : Nat) (i : Nat), xs[u]? = some (d : Int) ∧ i < d ∧ kidAt xs u i = c
theorem kid_bounds {xs : List Int} (ht : isTree xs = true) {u c : Nat} (h : IsKid xs u c) : u < c ∧ c < fin xs u ∧ c < xs.length := by
  obtain ⟨d, i, hd, hi, rfl⟩ := h
  have h1 := kid_due ht hd i (by omega)
  have h2 := kid_lt ht hd (i := i) (by omega)
  have h3 := kid_end ht hd
  have h4 := kid_le (xs := xs) (v := u) (i := i + 1) (j := d) (by omega)
  have h5 := span_pos h2
  simp only [kidAt] at h4
  simp only [fin]
  omega
theorem kid_up {xs : List Int} (ht : isTree xs = true) {p c r : Nat} (h : IsKid xs p c) (h1 : r < c) (h2 : c < fin xs r) : r ≤ p := by
  obtain ⟨hb1, hb2, hb3⟩ := kid_bounds ht h
  rcases Nat.lt_or_ge p r with hlt | hge
  · obtain ⟨d, i, hd, hi, hk⟩ := h
    have he := kid_end ht hd
    obtain ⟨j, hj, hj1, hj2⟩ := kid_tile (xs := xs) (v := p) (at_ := r) hlt d (by simp only [fin] at hb2; omega)
    have hjl := kid_lt ht hd (i := j) (by omega)
    have hn := nest ht hjl hj1 (by simp only [kidAt] at hj2; exact hj2)
    have hn2 : fin xs (kidAt xs p j) = kidAt xs p (j + 1) := by simp only [fin, kidAt]
    rcases Nat.lt_or_ge i (j + 1) with hij | hij
    · have := kid_le (xs := xs) (v := p) (i := i) (j := j) (by omega)
      omega
    · have := kid_le (xs := xs) (v := p) (i := j + 1) (j := i) hij
      omega
  · exact hge
theorem kid_unique {xs : List Int} (ht : isTree xs = true) {p q c : Nat} (h : IsKid xs p c) (h' : IsKid xs q c) : p = q := by
  have a := kid_bounds ht h
  have b := kid_bounds ht h'
  have := kid_up ht h b.1 b.2.1
  have := kid_up ht h' a.1 a.2.1
  omega
theorem kid_exists {xs : List Int} (ht : isTree xs = true) {c : Nat} (hc : c < xs.length) : ∀ (m u : Nat), c - u ≤ m → u < c → c < fin xs u → ∃ p, IsKid xs p c := by
  intro m
  induction m with
  | zero => intro u h1 h2; omega
  | succ m ih =>
    intro u h1 h2 h3
    obtain ⟨d, hd, _⟩ := tree_degN ht (v := u) (by omega)
    have he := kid_end ht hd
    obtain ⟨j, hj, hj1, hj2⟩ := kid_tile (xs := xs) h2 d (by simp only [fin] at h3; omega)
    rcases Nat.lt_or_ge (kidAt xs u j) c with h4 | h4
    · have h5 := (kid_due ht hd j (by omega)).2.2
      exact ih (kidAt xs u j) (by omega) h4 (by simp only [kidAt] at hj2; exact hj2)
    · exact ⟨u, d, j, hd, hj, by omega⟩
theorem kid_has {xs : List Int} (ht : isTree xs = true) {c : Nat} (h0 : 0 < c) (hc : c < xs.length) : ∃ p, IsKid xs p c :=
  kid_exists ht hc c 0 (by omega) h0 (by rw [fin_root ht]; exact hc)

/-- v stands at u or below it -/
def bel (xs : List Int) (v u : Nat) : Bool := decide (u ≤ v) && decide (v < fin xs u)
theorem bel_iff {xs : List Int} {v u : Nat} : bel xs v u = true ↔ u ≤ v ∧ v < fin xs u := by simp [bel]
def meetDown (xs : List Int) (v w : Nat) : Nat → Nat
  | 0 => 0
  | u + 1 => if bel xs v (u + 1) && bel xs w (u + 1) then u + 1 else meetDown xs v w u
theorem meetDown_hit {xs : List Int} {v w u : Nat} (h : (bel xs v u && bel xs w u) = true) : meetDown xs v w u = u := by
  cases u with
  | zero => rfl
  | succ u => rw [meetDown, if_pos h]
theorem meetDown_miss {xs : List Int} {v w u : Nat} (h : (bel xs v (u + 1) && bel xs w (u + 1)) = false) : meetDown xs v w (u + 1) = meetDown xs v w u := by rw [meetDown, if_neg (by simp [h])]
theorem meetDown_le (xs : List Int) (v w : Nat) : ∀ u, meetDown xs v w u ≤ u := by
  intro u
  induction u with
  | zero => exact Nat.le_refl _
  | succ u ih => rw [meetDown]; split <;> omega
theorem meetDown_bel {xs : List Int} (ht : isTree xs = true) {v w : Nat} (hv : v < xs.length) (hw : w < xs.length) : ∀ u, bel xs v (meetDown xs v w u) = true ∧ bel xs w (meetDown xs v w u) = true := by
  intro u
  induction u with
  | zero => simp only [meetDown, bel_iff, fin_root ht]; omega
  | succ u ih =>
    rw [meetDown]
    split
    · rename_i h; simpa using h
    · exact ih
theorem meetDown_max {xs : List Int} {v w : Nat} : ∀ u r, r ≤ u → bel xs v r = true → bel xs w r = true → r ≤ meetDown xs v w u := by
  intro u
  induction u with
  | zero => intro r h _ _; omega
  | succ u ih =>
    intro r h h1 h2
    rcases Nat.lt_or_ge r (u + 1) with h3 | h3
    · have := ih r (by omega) h1 h2
      rw [meetDown]
      split <;> omega
    · obtain rfl : r = u + 1 := by omega
      rw [meetDown_hit (by simp [h1, h2])]
      exact Nat.le_refl _
def meet (xs : List Int) (v w : Nat) : Nat := meetDown xs v w (min v w)
/-- the model's walk: at the stop -/
theorem meet_stop {xs : List Int} {v w a : Nat} (h1 : bel xs v a = true) (h2 : bel xs w a = true) (h3 : meet xs v w ≤ a) : a = meet xs v w := by
  have b1 := bel_iff.1 h1
  have b2 := bel_iff.1 h2
  have := meetDown_max (xs := xs) (v := v) (w := w) (min v w) a (by omega) h1 h2
  simp only [meet] at *
  omega
/-- the model's walk: a step to the parent -/
theorem meet_step {xs : List Int} (ht : isTree xs = true) {v w a p : Nat} (hv : v < xs.length) (hw : w < xs.length) (h1 : bel xs v a = true) (h2 : bel xs w a = false) (h3 : meet xs v w ≤ a) (hp : IsKid xs p a) :
    bel xs v p = true ∧ meet xs v w ≤ p := by
  obtain ⟨m1, m2⟩ := meetDown_bel ht hv hw (min v w)
  have b1 := bel_iff.1 h1
  have hb := kid_bounds ht hp
  have hn := nest ht (v := p) (q := a) (by omega) (by omega) hb.2.1
  refine ⟨bel_iff.2 (by omega), ?_⟩
  have hm : meet xs v w ≠ a := fun e => by
    rw [← e] at h2
    simp only [meet] at h2
    rw [m2] at h2
    cases h2
  have b2 := bel_iff.1 m1
  exact kid_up ht hp (by omega) (by simp only [meet]; omega)
theorem meet_start {xs : List Int} {v w : Nat} (hv : v < xs.length) : bel xs v v = true ∧ meet xs v w ≤ v := by
  have := meetDown_le xs v w (min v w)
  have h2 := fin_gt hv
  exact ⟨bel_iff.2 ⟨Nat.le_refl _, h2⟩, by simp only [meet]; omega⟩
end Go.Proofs.Ytbdmmeoelagdcaa.M

/- Addresses, their mathematics: the place of the child toward a node, again and again. No program is named here. -/
namespace Go.Proofs.Ytbdmmeoelagdcaa.M
/-- the last of the first k places whose child is not behind v -/
def lastP (xs : List Int) (a v : Nat) : Nat → Nat
  | 0 => 0
  | k + 1 => if kidAt xs a k ≤ v then k else lastP xs a v k
theorem lastP_hit {xs : List Int} {a v k : Nat} (h : kidAt xs a k ≤ v) : lastP xs a v (k + 1) = k := by rw [lastP, if_pos h]
theorem lastP_miss {xs : List Int} {a v k : Nat} (h : v < kidAt xs a k) : ∀ j, k ≤ j → lastP xs a v j = lastP xs a v k := by
  intro j
  induction j with
  | zero => intro hj; obtain rfl : k = 0 := by omega
            rfl
  | succ j ih =>
    intro hj
    rcases Nat.lt_or_ge k (j + 1) with h1 | h1
    · have := kid_le (xs := xs) (v := a) (i := k) (j := j) (by omega)
      rw [lastP, if_neg (by omega), ih (by omega)]
    · obtain rfl : k = j + 1 := by omega
      rfl
/-- the number of children -/
def deg (xs : List Int) (a : Nat) : Nat := (xs[a]?.getD 0).toNat
theorem deg_at {xs : List Int} {a d : Nat} (h : xs[a]? = some (d : Int)) : deg xs a = d := by simp [deg, h]
def place (xs : List Int) (a v : Nat) : Nat := lastP xs a v (deg xs a)
theorem place_is {xs : List Int} {a v d j : Nat} (hd : xs[a]? = some (d : Int)) (hj : j < d) (h1 : kidAt xs a j ≤ v) (h2 : v < kidAt xs a (j + 1)) : place xs a v = j := by
  rw [place, deg_at hd]
  rcases Nat.lt_or_ge (j + 1) d with h3 | h3
  · rw [lastP_miss h2 d (by omega), lastP_hit h1]
  · obtain rfl : d = j + 1 := by omega
    exact lastP_hit h1
/-- there is one: a is above v, and is not v -/
theorem place_at {xs : List Int} (ht : isTree xs = true) {a v : Nat} (h1 : a < v) (h2 : v < fin xs a) (hv : v < xs.length) : ∃ d : Nat, xs[a]? = some (d : Int) ∧ d ≤ 24 ∧ place xs a v < d ∧ kidAt xs a (place xs a v) ≤ v ∧ v < kidAt xs a (place xs a v + 1) := by
  obtain ⟨d, hd, h24⟩ := tree_degN ht (v := a) (by omega)
  have he := kid_end ht hd
  obtain ⟨j, hj, hj1, hj2⟩ := kid_tile (xs := xs) h1 d (by simp only [fin] at h2; omega)
  have hp := place_is hd hj hj1 hj2
  exact ⟨d, hd, h24, by omega, by rw [hp]; exact hj1, by rw [hp]; exact hj2⟩
def next (xs : List Int) (a v : Nat) : Nat := kidAt xs a (place xs a v)
theorem next_ok {xs : List Int} (ht : isTree xs = true) {a v : Nat} (h1 : a < v) (h2 : v < fin xs a) (hv : v < xs.length) : a < next xs a v ∧ next xs a v ≤ v ∧ v < fin xs (next xs a v) := by
  obtain ⟨d, hd, _, hp, h3, h4⟩ := place_at ht h1 h2 hv
  exact ⟨(kid_due ht hd _ (by omega)).2.2, h3, by simp only [kidAt] at h4; exact h4⟩
def addrGo (xs : List Int) (v : Nat) : Nat → Nat → List Int
  | 0, _ => []
  | f + 1, a => if a = v then [] else (place xs a v : Int) :: addrGo xs v f (next xs a v)
theorem addrGo_len (xs : List Int) (v : Nat) : ∀ f a, (addrGo xs v f a).length ≤ f := by
  intro f
  induction f with
  | zero => intro a; exact Nat.le_refl _
  | succ f ih =>
    intro a
    rw [addrGo]
    split
    · simp
    · simp only [List.length_cons]; have := ih (next xs a v); omega
def address (xs : List Int) (v : Nat) : List Int := addrGo xs v xs.length 0
/-- the walk down: what has come, and where it stands -/
def AddrAt (xs : List Int) (v a : Nat) (pre R : List Int) : Prop := a ≤ v ∧ v < fin xs a ∧ pre.length ≤ a ∧ ∃ f, v - a ≤ f ∧ pre ++ addrGo xs v f a = R
theorem addr_start {xs : List Int} (ht : isTree xs = true) {v : Nat} (hv : v < xs.length) : AddrAt xs v 0 [] (address xs v) :=
  ⟨Nat.zero_le _, by rw [fin_root ht]; exact hv, Nat.le_refl _, xs.length, by omega, rfl⟩
theorem addr_end {xs : List Int} {v : Nat} {pre R : List Int} (h : AddrAt xs v v pre R) : pre = R := by
  obtain ⟨_, _, _, f, _, h⟩ := h
  cases f with
  | zero => simpa [addrGo] using h
  | succ f => simpa [addrGo] using h
theorem addr_step {xs : List Int} (ht : isTree xs = true) {v a : Nat} {pre R : List Int} (hv : v < xs.length) (h : AddrAt xs v a pre R) (hn : a ≠ v) : AddrAt xs v (next xs a v) (pre ++ [(place xs a v : Int)]) R := by
  obtain ⟨h1, h2, h3, f, hf, h⟩ := h
  obtain ⟨k1, k2, k3⟩ := next_ok ht (a := a) (v := v) (by omega) h2 hv
  cases f with
  | zero => omega
  | succ f =>
    rw [addrGo, if_neg hn] at h
    exact ⟨k2, k3, by simp; omega, f, by omega, by rw [List.append_assoc]; exact h⟩
end Go.Proofs.Ytbdmmeoelagdcaa.M

/- Postorder: the mathematics, and appendPostorder (a call of itself in the body of a range over a function). -/
namespace Go.Proofs.Ytbdmmeoelagdcaa
open Go.RowKit Go.Shelf Go.Maps
attribute [local go_sem] Oper.semAt_some

namespace M
/-- the nodes of v's subtree in postorder, f levels deep at most -/
def postGo (xs : List Int) : Nat → Nat → List Int
  | 0, _ => []
  | f + 1, v => ((List.range (deg xs v)).flatMap fun i => postGo xs f (kidAt xs v i)) ++ [(v : Int)]
/-- those of the first k children -/
def postK (xs : List Int) (f v k : Nat) : List Int := (List.range k).flatMap fun i => postGo xs f (kidAt xs v i)
theorem postK_succ (xs : List Int) (f v k : Nat) : postK xs f v (k + 1) = postK xs f v k ++ postGo xs f (kidAt xs v k) := by simp [postK, List.range_succ]
theorem postGo_at {xs : List Int} {f v d : Nat} (h : xs[v]? = some (d : Int)) : postGo xs (f + 1) v = postK xs f v d ++ [(v : Int)] := by rw [postGo, deg_at h]; rfl
theorem postGo_len {xs : List Int} (ht : isTree xs = true) : ∀ f v, v < xs.length → 24 - v ≤ f → (postGo xs f v).length = span 1 (xs.drop v) := by
  intro f
  induction f with
  | zero => intro v hv h; have := (tree_len ht).2; omega
  | succ f ih =>
    intro v hv hf
    obtain ⟨d, hd, _⟩ := tree_degN ht hv
    have hK : ∀ k, k ≤ d → (postK xs f v k).length + (v + 1) = kidAt xs v k := by
      intro k
      induction k with
      | zero => intro _; simp [postK, kidAt]
      | succ k ihk =>
        intro hk
        have hkl := kid_lt ht hd (i := k) (by omega)
        have hkv := (kid_due ht hd k (by omega)).2.2
        rw [postK_succ, List.length_append, ih _ hkl (by omega)]
        have := ihk (by omega)
        simp only [kidAt]
        omega
    have h1 := hK d (Nat.le_refl _)
    have h2 := kid_end ht hd
    rw [postGo_at hd, List.length_append, List.length_singleton]
    omega
theorem postGo_le {xs : List Int} (ht : isTree xs = true) {f v : Nat} (hv : v < xs.length) (hf : 24 - v ≤ f) : (postGo xs f v).length ≤ 24 := by
  rw [postGo_len ht f v hv hf]
  have := span_le (xs.drop v) 1
  have := (tree_len ht).2
  simp at *
  omega
end M

/-- a child, whatever the place -/
def kidO (xs : List Int) (v d x : Nat) : Nat := M.kidAt xs v (min x (d - 1))
theorem kidO_at (xs : List Int) {v d x : Nat} (h : x < d) : kidO xs v d x = M.kidAt xs v x := by rw [kidO, show min x (d - 1) = x by omega]

theorem grown_trans {X Y Z : World} {r1 r2 : Option Nat} (h : X.grownBy Y r1) (k : Y.grownBy Z r2) (hr : ∀ g, r2 = some g → some g = r1 ∨ X.heap.size ≤ g) : X.grownBy Z r1 :=
  ⟨k.os.trans h.os, k.tape.trans h.tape, k.output.trans h.output, Nat.le_trans h.size k.size, fun j hj hne =>
    (k.block j (Nat.lt_of_lt_of_le hj h.size) (fun e => by
      rcases hr j e.symm with h1 | h1
      · exact hne h1
      · omega)).trans (h.block j hj hne)⟩
theorem row_cells {W : World} {base e size k : Nat} {v : Value} {xs : List Value} (h : W.ownsRow base e size v k xs) (j : Nat) (o : Obj) (hj : v.ownBlock = some j) (ho : W.heap[j]? = some o) : o.isCells = true := by
  rcases h.2 with ⟨rfl, _⟩ | ⟨g, cap, cur, rfl, _, hg, _⟩
  · simp [Value.ownBlock] at hj
  · obtain rfl : g = j := by simpa [Value.ownBlock] using hj
    rw [hg] at ho
    cases ho
    rfl
theorem row_kept {W W' : World} {base e size k B : Nat} {v : Value} {xs : List Value} {row : Option Nat} (h : W.ownsRow base e size v k xs) (hg : W.grownBy W' row) (hr : ∀ r, row = some r → B ≤ r ∧ ∃ o : Obj, W.heap[r]? = some o ∧ o.isCells = false) : W'.ownsRow base e size v k xs := by
  refine h.kept hg ?_
  cases hv : v.ownBlock with
  | none => exact .inl rfl
  | some g =>
    refine .inr fun e' => ?_
    obtain ⟨_, o, ho, hc⟩ := hr g e'.symm
    rw [row_cells h g o hv ho] at hc
    cases hc

end Go.Proofs.Ytbdmmeoelagdcaa

/- textOf: the text of a tree (a call of itself in the body of a range over a function). -/
namespace Go.Proofs.Ytbdmmeoelagdcaa
open Go.RowKit Go.Shelf Go.Maps
attribute [local go_sem] Oper.semAt_some

theorem keepsOthers_below {W W' : World} (h : Below W.heap.size W W') : KeepsOthers W W' := ⟨h.size, fun k _ hk _ => (h.block k (Array.getElem?_eq_some_iff.1 hk).1).trans hk⟩

/-- what textOf must do with trees of at most f nodes -/
def TextAt (f : Nat) : Prop := ∀ (A : Option Addr) (xs : List Int) (c : Nat) (w : World), Hid (M.isTree xs = true) → xs.length ≤ f → xs.length ≤ c → c ≤ 9223372036854775807 → Hid (Ints w w.heap.size A xs) →
  Calls Try.prog 79 #[.slice A xs.length c] w fun e w' => e = .returned (.string (M.textL f xs)) ∧ Hid (Below w.heap.size w w')

set_option maxRecDepth 100000 in
set_option maxHeartbeats 4000000 in
theorem textOf_step (f : Nat) (ih : Hid (TextAt f)) (A : Option Addr) (xs : List Int) (c d : Nat) (w : World) (ht : Hid (M.isTree xs = true)) (hf : xs.length ≤ f + 1) (hcl : xs.length ≤ c) (hcu : c ≤ 9223372036854775807) (hd : Hid (xs[0]? = some (d : Int))) (hI : Hid (Ints w w.heap.size A xs)) :
    CallsIn Fence.wide 5 Try.prog 79 #[.slice A xs.length c] w fun e w' => e = .returned (.string (M.textL (f + 1) xs)) ∧ Hid (Below w.heap.size w w') := by
  have hx := (M.tree_len ht.out).2
  have hd24 : d ≤ 24 := by have := (M.tree_deg ht.out hd.out).2; omega
  obtain ⟨b, off, rfl, _⟩ := hI.out (by have := (M.tree_len ht.out).1; omega)
  refine callsIn_of_wp_marks Try.func79 rfl trivial ?_ rfl
  simp only [Try.ntmps79, List.size_toArray, List.length_cons, List.length_nil, Nat.reduceAdd, Nat.reduceSub, Array.replicate_succ, Array.replicate_zero, List.push_toArray, List.append_toArray, List.nil_append, List.cons_append]
  gi_wp2_with (refine ⟨trivial, ?_⟩; gi_at_call 135; refine (eachIn 4 (some ⟨b, off, none⟩) xs.length c 0 _).mono ?_; rintro e w' ⟨rfl, rfl⟩)
  have bG0 := Boxed.new w 23 (.slice (some ⟨b, off, none⟩) xs.length c)
  have bT0 := Boxed.new (w.alloc (.cells #[.slice (some ⟨b, off, none⟩) xs.length c] 23)) 9 (.string ⟨#[40]⟩)
  have bD0 := Boxed.new ((w.alloc (.cells #[.slice (some ⟨b, off, none⟩) xs.length c] 23)).alloc (.cells #[.string ⟨#[40]⟩] 9)) 23 (.slice (some ⟨b, off, none⟩) xs.length c)
  have bA0 := Boxed.new (((w.alloc (.cells #[.slice (some ⟨b, off, none⟩) xs.length c] 23)).alloc (.cells #[.string ⟨#[40]⟩] 9)).alloc (.cells #[.slice (some ⟨b, off, none⟩) xs.length c] 23)) 2 (.int .i64 0)
  simp only [World.size_alloc] at bT0 bD0 bA0
  have bG := ((bG0.alloc (.cells #[.string ⟨#[40]⟩] 9)).alloc (.cells #[.slice (some ⟨b, off, none⟩) xs.length c] 23)).alloc (.cells #[.int .i64 0] 2)
  have bT := (bT0.alloc (.cells #[.slice (some ⟨b, off, none⟩) xs.length c] 23)).alloc (.cells #[.int .i64 0] 2)
  have bD := bD0.alloc (.cells #[.int .i64 0] 2)
  have hB0 := bal (bal (bal (bal (b0 w) (.cells #[.slice (some ⟨b, off, none⟩) xs.length c] 23)) (.cells #[.string ⟨#[40]⟩] 9)) (.cells #[.slice (some ⟨b, off, none⟩) xs.length c] 23)) (.cells #[.int .i64 0] 2)
  obtain ⟨W0, hW0⟩ : ∃ W0, W0 = ((((w.alloc (.cells #[.slice (some ⟨b, off, none⟩) xs.length c] 23)).alloc (.cells #[.string ⟨#[40]⟩] 9)).alloc (.cells #[.slice (some ⟨b, off, none⟩) xs.length c] 23)).alloc (.cells #[.int .i64 0] 2)) := ⟨_, rfl⟩
  have hsz : W0.heap.size = w.heap.size + 1 + 1 + 1 + 1 := by rw [hW0]; simp
  rw [← hW0] at bG bT bD bA0 hB0 ⊢
  clear hW0 bG0 bT0 bD0
  have hKb := KeepK.b (n₀ := w.heap.size) (Bd := w.heap.size + 1 + 1) (w := W0) (by omega) (by omega)
  have h15 : 1 ≤ 5 := by omega
  refine wpIn_rangeFunc_ownG (α := Nat) rfl h15 (gf := 162) (lb := #[.pointer (some ⟨w.heap.size + 1 + 1 + 1, 0, none⟩), .pointer (some ⟨w.heap.size + 1 + 1, 0, none⟩)]) rfl trivial (enters_of Try.func162 (by kernel_rfl) rfl)
    (each_stopsF (fun i => i) (fun x => #[.int .i64 (x : Int), .int .i64 (kidO xs 0 d x : Int)]) 4 (by omega) (w.heap.size + 1 + 1 + 1) (w.heap.size + 1 + 1) w.heap.size (some ⟨b, off, none⟩) xs c 0 d hx hcl hcu ht hd (fun k hk => by rw [kidO_at xs hk]) W0 bA0.cell bD (hI.out.below hB0 (Nat.le_refl _)) (by omega)) (fun h k => h.t k) hKb (Below.refl _ _) (fun _ => rfl)
    (fun pre W => (∃ s : ByteArray, Boxed W (w.heap.size + 1) 9 (.string s) ∧ (pre = List.range pre.length → pre.length ≤ d → s = M.textK f xs pre.length) ∧ s.size ≤ 1 + 50 * pre.length) ∧
      Boxed W w.heap.size 23 (.slice (some ⟨b, off, none⟩) xs.length c) ∧ Boxed W (w.heap.size + 1 + 1) 23 (.slice (some ⟨b, off, none⟩) xs.length c) ∧ Below w.heap.size w W)
    (fun _ _ _ => False)
    (fun pre X Y r' ⟨⟨s, h1, h2, h3⟩, h6, h7, h8⟩ hg hr =>
      ⟨⟨s, h1.kept hg (fun e => by have := (hr _ e.symm).1; omega), h2, h3⟩, h6.kept hg (fun e => by have := (hr _ e.symm).1; omega), h7.kept hg (fun e => by have := (hr _ e.symm).1; omega), h8.grown hg h8.size (fun k e => by have := (hr _ e).1; omega)⟩)
    (fun _ _ _ _ _ hs _ _ => hs)
    ⟨⟨_, bT, fun _ _ => rfl, by decide⟩, bG, bD, hB0⟩
    (fun x => { tmps := #[.slice (some ⟨b, off, none⟩) xs.length c, .pointer (some ⟨w.heap.size, 0, none⟩), .string ⟨#[]⟩, .pointer (some ⟨w.heap.size + 1, 0, none⟩), undef, .int .i64 (kidO xs 0 d x : Int), .slice (some ⟨b, off, none⟩) xs.length c, .func (.func 162) #[] #[.pointer (some ⟨w.heap.size + 1 + 1 + 1, 0, none⟩), .pointer (some ⟨w.heap.size + 1 + 1, 0, none⟩)], .int .i64 (x : Int), .int .i64 (kidO xs 0 d x : Int), undef, undef, undef, undef, undef, undef, undef, undef], defers := [] }) ?assign ?body ?done ?stop
  case assign =>
    intro l x W K hK
    gi_wp2
    exact hK
  case body =>
    rintro l pre x W ⟨⟨s, h1, h2, h3⟩, h6, h7, h8⟩ hlt
    have hmin : min x (d - 1) < d := by omega
    have hCl : kidO xs 0 d x < xs.length := M.kid_lt ht.out hd.out (i := min x (d - 1)) (by omega)
    have hCs : (M.sub xs (kidO xs 0 d x)).length < xs.length := M.sub_short ht.out hd.out (i := min x (d - 1)) hmin
    have hWsz := h8.size
    have hkey : Hid (pre ++ [x] = List.range (pre ++ [x]).length → (pre ++ [x]).length ≤ d → s ++ M.textL f (M.sub xs (kidO xs 0 d x)) = M.textK f xs (pre ++ [x]).length) := fun e hd' => by
      simp only [List.length_append, List.length_cons, List.length_nil, Nat.zero_add] at e hd' ⊢
      rw [List.range_succ] at e
      obtain ⟨e1, e2⟩ := List.append_inj' e rfl
      injection e2 with e2
      rw [h2 e1 (by omega), M.textK_succ, ← kidO_at xs (by omega), ← e2]
    generalize kidO xs 0 d x = C at *
    have hW : Hid (Ints W W.heap.size (some ⟨b, off, none⟩) xs) := (hI.out.below h8 (Nat.le_refl _)).more hWsz
    obtain ⟨S, hS⟩ : ∃ S, Hid ((M.sub xs C).length = S) := ⟨_, rfl⟩
    obtain ⟨T, hT⟩ : ∃ T, Hid (M.textL f (M.sub xs C) = T) := ⟨_, rfl⟩
    rw [hT.out] at hkey
    have HP : Hid (∀ W', Hid (Below W.heap.size W W') → Calls Try.prog 80 #[.slice (some ⟨b, off, none⟩) xs.length c, .int .i64 (C : Int)] W' fun e w' => e = .returned (.slice (some ⟨b, off + C, none⟩) S S) ∧ W' = w') := fun W' hW' =>
      (partAt _ xs c C (C + S) W' (by show _ = _; rw [← hS.out, M.sub_length]) hx hcl hcu (Lib.hid (M.tree_ok ht.out hCl)) (hW.out.be hW'.out)).mono fun e w' ⟨⟨b', off', hA, he⟩, hw⟩ => ⟨by
        injection hA with hA
        injection hA with e1 e2
        rw [he, Nat.add_sub_cancel_left, e1, e2], hw⟩
    have HX : Hid (∀ W', Hid (Below W.heap.size W W') → Calls Try.prog 79 #[.slice (some ⟨b, off + C, none⟩) S S] W' fun e w' => e = .returned (.string T) ∧ Hid (Below W.heap.size W w')) := fun W' hW' => by
      have := ih.out (some ⟨b, off + C, none⟩) (M.sub xs C) S W' (Lib.hid (M.sub_tree ht.out hCl)) (by omega) (by have := hS.out; omega) (by have := hS.out; omega) (ints_sub (hW.out.be hW'.out) C _)
      rw [hS.out, hT.out] at this
      exact this.mono fun e w' ⟨he, hb⟩ => ⟨he, hW'.out.trans (hb.out.mono hW'.out.size)⟩
    have HB : Hid (∀ W', Hid (Below W.heap.size W W') → Boxed W' (w.heap.size + 1) 9 (.string s) ∧ Boxed W' w.heap.size 23 (.slice (some ⟨b, off, none⟩) xs.length c)) := fun W' hW' => ⟨(hW'.out.block _ h1.lt).trans h1, (hW'.out.block _ h6.lt).trans h6⟩
    have c1' := h1.cell
    have c2' := h6.cell
    have hTs : T.size ≤ 50 := by have := M.textL_size f _ (M.sub_tree ht.out hCl) (by omega); rw [hT.out] at this; omega
    have hsT : ¬ 9223372036854775807 < s.size + T.size := by omega
    have hmix : Try.prog.follows .mixedOrders = true := by kernel_rfl
    clear hT hS h2
    gi_wp2
    gi_region_with_o (first | (refine ⟨trivial, ?_⟩; gi_at_call 80; refine (CallsIn.inRound l (callsIn_wide.2 (HP.out _ ((Below.refl _ _).drew)))).mono ?_; rintro e W1 ⟨rfl, rfl⟩) | (refine ⟨trivial, ?_⟩; gi_at_call 79; refine (CallsIn.inRound l (callsIn_wide.2 (HX.out _ ((Below.refl _ _).drew)))).mono ?_; rintro e W2 ⟨rfl, hb2⟩; have k1 := (HB.out _ hb2).1.cell; have f1 := (HB.out _ hb2).1.frozen))
    all_goals
      have h7b : Boxed W2 (w.heap.size + 1 + 1) 23 (.slice (some ⟨b, off, none⟩) xs.length c) := (hb2.out.block _ h7.lt).trans h7
      have k7 : Boxed (W2.setCell ⟨w.heap.size + 1, 0, none⟩ (.string (s ++ T))) (w.heap.size + 1 + 1) 23 (.slice (some ⟨b, off, none⟩) xs.length c) := h7b.other (by omega) _
      have kB : Below w.heap.size W (W2.setCell ⟨w.heap.size + 1, 0, none⟩ (.string (s ++ T))) := below_setCell (hb2.out.mono hWsz) (by omega) _
      refine ⟨((keepsOthers_below hb2.out).trans (KeepsOthers.setCell _ _ _)).from _, ⟨kB, k7.trans (show W.heap[_]? = _ from h7).symm⟩, ⟨_, (HB.out _ hb2).1.set _, hkey.out, ?_⟩, (HB.out _ hb2).2.other (by omega) _, k7, h8.trans kB⟩
      simp only [ByteArray.size_append, List.length_append, List.length_cons, List.length_nil]
      omega
  case done =>
    rintro D ys0 W hD rfl ⟨⟨s, h1, h2, h3⟩, h6, h7, h8⟩ hK
    have hs := h2 (by simp) (by simp)
    simp only [List.length_range, List.map_id'] at hs
    have hpo : Hid (M.textL (f + 1) xs = s ++ ⟨#[41]⟩) := by show _ = _; rw [M.textL_at hd.out, hs]
    have c1' := h1.cell
    have HK := Lib.hid hK
    have H8 := Lib.hid h8
    have hs1 : ¬ 9223372036854775807 < s.size + 1 := by simp at h3; omega
    clear hs h1 h2 h3 h6 h7 hK h8
    gi_wp2
    refine ⟨by simp, .inl ⟨_, _, rfl, run_takeDeferred HK.out, ?_⟩⟩
    refine ⟨_, results_tmp rfl _ _ _, ?_, H8.out.trans (belowK_b (w := w) (Nat.le_refl _) W D _ _ (by omega) HK.out rfl rfl)⟩
    rw [hpo.out]
    rfl
  case stop =>
    rintro D cc pre W _ _ h _
    exact h.elim

theorem textOf (A : Option Addr) (xs : List Int) (c : Nat) (w : World) (f : Nat) (ht : Hid (M.isTree xs = true)) (hf : xs.length ≤ f) (hcl : xs.length ≤ c) (hcu : c ≤ 9223372036854775807) (hI : Hid (Ints w w.heap.size A xs)) :
    Calls Try.prog 79 #[.slice A xs.length c] w fun e w' => e = .returned (.string (M.textL f xs)) ∧ Hid (Below w.heap.size w w') := by
  have h : ∀ f, TextAt f := by
    intro f
    induction f with
    | zero => intro A xs c w ht hf; have := (M.tree_len ht.out).1; omega
    | succ f ih =>
      intro A xs c w ht hf hcl hcu hI
      obtain ⟨d, hd, _⟩ := M.tree_degN ht.out (v := 0) (by have := (M.tree_len ht.out).1; omega)
      exact (callsIn_wide (n := 5)).1 (textOf_step f (Lib.hid ih) A xs c d w ht hf hcl hcu hd hI)
  exact h f A xs c w ht hf hcl hcu hI
end Go.Proofs.Ytbdmmeoelagdcaa

/- The code of a tree, a pattern and nodes; whether a pattern matches at a node. -/
namespace Go.Proofs.Ytbdmmeoelagdcaa
open Go.RowKit

/-- texts of trees are read as pieces -/
theorem M.text_close : ∀ (f : Nat) (xs : List Int), M.isTree xs = true → xs.length ≤ f → ∀ (r : List UInt8), (∀ o, M.close ((M.textL f xs).data.toList ++ r) (o + 1) = M.close r (o + 1)) ∧ M.piece ((M.textL f xs).data.toList ++ r) = some r := by
  intro f
  induction f with
  | zero => intro xs ht h; have := (M.tree_len ht).1; omega
  | succ f ih =>
    intro xs ht hf r
    have hl := M.tree_len ht
    obtain ⟨d, hd, _⟩ := M.tree_degN ht (v := 0) (by omega)
    have hK : ∀ k, k ≤ d → ∃ q, (M.textK f xs k).data.toList = 40 :: q ∧ ∀ (r : List UInt8) o, M.close (q ++ r) (o + 1) = M.close r (o + 1) := by
      intro k
      induction k with
      | zero => intro _; exact ⟨[], by rw [M.textK_zero], fun r o => rfl⟩
      | succ k ihk =>
        intro hk
        obtain ⟨q, h1, h2⟩ := ihk (by omega)
        have h3 := M.sub_short ht hd (i := k) (by omega)
        have h4 := M.kid_lt ht hd (i := k) (by omega)
        refine ⟨q ++ (M.textL f (M.sub xs (M.kidAt xs 0 k))).data.toList, ?_, fun r o => ?_⟩
        · rw [M.textK_succ, ByteArray.data_append, Array.toList_append, h1]; rfl
        · rw [List.append_assoc, h2, (ih _ (M.sub_tree ht h4) (by omega) r).1]
    obtain ⟨q, h1, h2⟩ := hK d (Nat.le_refl _)
    have ht2 : (M.textL (f + 1) xs).data.toList ++ r = 40 :: (q ++ (41 :: r)) := by
      rw [M.textL_at hd, ByteArray.data_append, Array.toList_append, h1]
      simp
    rw [ht2]
    exact ⟨fun o => by rw [M.close_open, h2, M.close_shut], by rw [M.piece_open, h2, M.close_shut, M.close_zero]⟩
theorem M.text_piece {f : Nat} {xs : List Int} (ht : M.isTree xs = true) (hf : xs.length ≤ f) : M.piece (M.textL f xs).data.toList = some [] := by
  have := (M.text_close f xs ht hf []).2
  rwa [List.append_nil] at this

/-- the code of a tree, a pattern and nodes -/
def codeP (xs : List Int) (b : Bool) (ns : List Int) : Int := if M.isTree xs then (if b then M.code xs ns else 6) else 1
theorem codeP_zero {xs : List Int} {b : Bool} {ns : List Int} (h : codeP xs b ns = 0) : M.isTree xs = true ∧ b = true ∧ M.code xs ns = 0 := by
  rw [codeP] at h
  cases ht : M.isTree xs
  · rw [ht] at h; simp at h
  · cases b
    · rw [ht] at h; simp at h
    · rw [ht] at h; simpa using h
theorem code_range {xs ns : List Int} (ht : M.isTree xs = true) : M.code xs ns = 0 ∨ M.code xs ns = 2 := by
  rw [M.code, if_pos ht]
  generalize (xs.length : Int) = n
  induction ns with
  | nil => exact .inl rfl
  | cons v r ih =>
    rw [M.codeGo]
    split
    · exact .inr rfl
    · exact ih

set_option maxHeartbeats 1000000 in
theorem codeOfMatch (A An : Option Addr) (xs ns : List Int) (c cn : Nat) (p : ByteArray) (w : World) (hx : xs.length ≤ 1000000000000) (hns : ns.length ≤ 1000) (hp : p.size ≤ 1048576) (h : Ints w w.heap.size A xs) (hn : Ints w w.heap.size An ns) :
    Calls Try.prog 73 #[.agg #[.slice A xs.length c], .string p, .slice An ns.length cn] w fun e w' => e = .returned (.int .i64 (codeP xs (M.isPat p.data.toList) ns)) ∧ Hid (Below w.heap.size w w') := by
  have hT := Lib.hid (implIsTree A xs c (w.alloc (.cells #[.slice A xs.length c] 29)) hx (h.al _))
  have hP : Hid (∀ W, Calls Try.prog 19 #[.string p] W fun e w' => e = .returned (.bool (M.isPat p.data.toList)) ∧ Hid (Below W.heap.size W w')) := fun W => impl_IsPattern p W hp
  have hC : Hid (∀ W, Below w.heap.size w W → Calls Try.prog 132 #[.agg #[.slice A xs.length c], .slice An ns.length cn] W fun e w' => e = .returned (.int .i64 (M.code xs ns)) ∧ Below W.heap.size W w') := fun W hb => codeOf A An xs ns c cn W hx hns (h.be hb) (hn.be hb) _ rfl
  rw [codeP]
  generalize M.isPat p.data.toList = b at *
  generalize M.code xs ns = r at *
  generalize M.isTree xs = t at *
  clear h hn
  cases t
  · go_enter Try.func73, Try.ntmps73
    go_wp2_with fail
    refine hT.out.mono ?_
    rintro e w1 ⟨rfl, hb1⟩
    have hB := Lib.hid (btr (bal (b0 w) _) hb1)
    go_wp2
    go_ret
    exact ⟨rfl, hB⟩
  · cases b
    · go_enter Try.func73, Try.ntmps73
      go_wp2_with fail
      refine hT.out.mono ?_
      rintro e w1 ⟨rfl, hb1⟩
      have hB := Lib.hid (btr (bal (b0 w) _) hb1)
      clear hb1
      go_wp2_with fail
      refine (hP.out _).mono ?_
      rintro e w2 ⟨rfl, hb2⟩
      have hB2 := Lib.hid (btr hB.out hb2.out)
      go_wp2
      go_ret
      exact ⟨rfl, hB2⟩
    · go_enter Try.func73, Try.ntmps73
      go_wp2_with fail
      refine hT.out.mono ?_
      rintro e w1 ⟨rfl, hb1⟩
      have hB := Lib.hid (btr (bal (b0 w) _) hb1)
      have hcell : w1.cell? ⟨w.heap.size, 0, none⟩ = some (.slice A xs.length c) := cell_be (by simp) hb1
      clear hb1
      go_wp2_with fail
      refine (hP.out _).mono ?_
      rintro e w2 ⟨rfl, hb2⟩
      have hB2 := Lib.hid (btr hB.out hb2.out)
      have hcell2 := cell_be hcell hb2.out
      clear hb2 hB hcell
      go_wp2_with fail
      refine (hC.out _ hB2.out).mono ?_
      rintro e w3 ⟨rfl, hb3⟩
      have hB3 := Lib.hid (btr hB2.out hb3)
      go_wp2
      go_ret
      exact ⟨rfl, hB3⟩

set_option maxHeartbeats 1000000 in
theorem l04Code (A An : Option Addr) (xs ns : List Int) (c cn : Nat) (p : ByteArray) (w : World) (hx : xs.length ≤ 1000000000000) (hns : ns.length ≤ 1000) (hp : p.size ≤ 1048576) (h : Ints w w.heap.size A xs) (hn : Ints w w.heap.size An ns) :
    Calls Try.prog 69 #[.agg #[.slice A xs.length c], .string p, .slice An ns.length cn] w fun e w' => e = .returned (.int .i64 (codeP xs (M.isPat p.data.toList) ns)) ∧ Hid (Below w.heap.size w w') := by
  obtain ⟨r, hr⟩ : ∃ r, Hid (M.code xs ns = r) := ⟨_, rfl⟩
  have hC := Lib.hid (l01Nodes A An xs ns c cn (w.alloc (.cells #[.slice A xs.length c] 29)) hx hns (h.al _) (hn.al _) r hr)
  have hP : Hid (∀ W, Calls Try.prog 65 #[.string p] W fun e w' => e = .returned (.bool (M.isPat p.data.toList)) ∧ Hid (Below W.heap.size W w')) := fun W => l04Is p W hp
  rw [codeP, hr.out]
  generalize M.isPat p.data.toList = b at *
  clear h hn
  cases ht : M.isTree xs
  · have h1 : r = 1 := by rw [← hr.out, M.code, ht]; rfl
    subst h1
    go_enter Try.func69, Try.ntmps69
    go_wp2_with fail
    refine hC.out.mono ?_
    rintro e w1 ⟨rfl, hb1⟩
    have hB := Lib.hid (btr (bal (b0 w) _) hb1)
    go_wp2
    go_ret
    exact ⟨rfl, hB⟩
  · have h2 : (r != 1) = true := by
      rcases code_range (ns := ns) ht with h | h
      · rw [hr.out] at h; rw [h]; rfl
      · rw [hr.out] at h; rw [h]; rfl
    clear ht hr
    go_enter Try.func69, Try.ntmps69
    go_wp2_with fail
    refine hC.out.mono ?_
    rintro e w1 ⟨rfl, hb1⟩
    have hB := Lib.hid (btr (bal (b0 w) _) hb1)
    clear hb1
    cases b
    · go_wp2_with fail
      refine (hP.out _).mono ?_
      rintro e w2 ⟨rfl, hb2⟩
      have hB2 := Lib.hid (btr hB.out hb2.out)
      go_wp2
      go_ret
      exact ⟨rfl, hB2⟩
    · go_wp2_with fail
      refine (hP.out _).mono ?_
      rintro e w2 ⟨rfl, hb2⟩
      have hB2 := Lib.hid (btr hB.out hb2.out)
      go_wp2
      go_ret
      exact ⟨rfl, hB2⟩

/-- what a pattern has at its letters at a node, if it matches there -/
def atNode (P : List UInt8) (xs : List Int) (v : Nat) : Option (List (List UInt8)) := M.mt P (M.textL 24 (M.sub xs v)).data.toList
set_option maxRecDepth 100000 in
set_option maxHeartbeats 1000000 in
theorem matchesAt (A : Option Addr) (xs : List Int) (c v : Nat) (p : ByteArray) (w : World) (ht : Hid (M.isTree xs = true)) (hv : v < xs.length) (hcl : xs.length ≤ c) (hcu : c ≤ 9223372036854775807) (hp : p.size ≤ 60) (h : Hid (Ints w w.heap.size A xs)) :
    Calls Try.prog 74 #[.slice A xs.length c, .int .i64 (v : Int), .string p] w fun e w' => e = .returned (.bool (atNode p.data.toList xs v).isSome) ∧ Hid (Below w.heap.size w w') := by
  have hx := (M.tree_len ht.out).2
  obtain ⟨b, off, rfl, hbB, _⟩ := h.out (by omega)
  obtain ⟨E, hE⟩ : ∃ E, Hid (v + M.span 1 (xs.drop v) = E) := ⟨_, rfl⟩
  have hsl : (M.sub xs v).length = E - v := by rw [M.sub_length]; have := hE.out; omega
  have hst := M.sub_tree ht.out hv
  have hse := M.end_le (xs := xs) (v := v) (by omega)
  have hs24 : (M.sub xs v).length ≤ 24 := by have := (M.tree_len hst).2; exact this
  have hPa := Lib.hid (partAt (some ⟨b, off, none⟩) xs c v E w hE hx hcl hcu (Lib.hid (M.tree_ok ht.out hv)) h.out)
  have hTx : Hid (Calls Try.prog 79 #[.slice (some ⟨b, off + v, none⟩) (E - v) (E - v)] w fun e w' => e = .returned (.string (M.textL 24 (M.sub xs v))) ∧ Hid (Below w.heap.size w w')) := by
    have := textOf (some ⟨b, off + v, none⟩) (M.sub xs v) (E - v) w 24 (Lib.hid hst) hs24 (by omega) (by omega) (Lib.hid (ints_sub h.out v _))
    rwa [hsl] at this
  have hts : (M.textL 24 (M.sub xs v)).size ≤ 48 := by rw [M.textL_size 24 _ hst hs24]; omega
  have hMt : Hid (∀ W, Calls Try.prog 78 #[.string p, .string (M.textL 24 (M.sub xs v))] W fun e w' => ∃ (A : Option Addr) (n c : Nat), e = .returned (.tuple #[.slice A n c, .bool (atNode p.data.toList xs v).isSome]) ∧ Hid (Below W.heap.size W w')) := fun W =>
    (piecesAtLetters p _ W (by omega) (by omega)).mono fun e w' ⟨A, n, c, h1, h2, _⟩ => ⟨A, n, c, h1, h2⟩
  generalize atNode p.data.toList xs v = R at *
  clear hts hs24 hst hsl
  generalize M.textL 24 (M.sub xs v) = T at *
  clear h
  go_enter Try.func74, Try.ntmps74
  go_wp2_with fail
  refine hPa.out.mono ?_
  rintro e w1 ⟨⟨b', off', hA, rfl⟩, rfl⟩
  injection hA with hA
  injection hA with e1 e2
  subst e1 e2
  go_wp2_with fail
  refine hTx.out.mono ?_
  rintro e w2 ⟨rfl, hb2⟩
  go_wp2_with fail
  refine (hMt.out _).mono ?_
  rintro e w3 ⟨A3, n3, c3, rfl, hb3⟩
  have hB := Lib.hid (btr hb2.out hb3.out)
  go_wp2
  go_ret
  exact ⟨rfl, hB⟩
end Go.Proofs.Ytbdmmeoelagdcaa

/- TreeText, the program's and the model's: the text of a tree, or a code. -/
namespace Go.Proofs.Ytbdmmeoelagdcaa
open Go.RowKit

def F_TreeText (xs : List Int) : ByteArray × Int := if M.isTree xs then (M.textL 24 xs, 0) else (⟨#[]⟩, 1)
theorem own_cap {w : World} {B n c : Nat} {A : Option Addr} {zs : List Int} (h : Own64 w B (.slice A n c) zs) : n ≤ c := by
  rcases h.2 with ⟨e, _⟩ | ⟨g, cap, cur, hv, _, _, h4, _⟩
  · injection e with e1 e2 e3; omega
  · injection hv with e1 e2 e3; omega

/-- what the model's text must be for trees of at most f nodes -/
def TextOf (f : Nat) : Prop := ∀ (A : Option Addr) (xs : List Int) (c : Nat) (w : World), Hid (M.isTree xs = true) → xs.length ≤ f → xs.length ≤ c → Hid (Ints w w.heap.size A xs) →
  Calls Try.prog 71 #[.agg #[.slice A xs.length c]] w fun e w' => e = .returned (.string (M.textL f xs)) ∧ Hid (Below w.heap.size w w')

set_option maxRecDepth 100000 in
set_option maxHeartbeats 4000000 in
theorem l01Text_step (f : Nat) (ih : Hid (TextOf f)) : TextOf (f + 1) := by
  intro A xs c w ht hf hcl h
  have hx := (M.tree_len ht.out).2
  obtain ⟨d, hd0, hd24⟩ := M.tree_degN ht.out (v := 0) (by have := (M.tree_len ht.out).1; omega)
  have hd := Lib.hid hd0
  obtain ⟨Wb, hWb⟩ : ∃ Wb, w.alloc (.cells #[.slice A xs.length c] 29) = Wb := ⟨_, rfl⟩
  have hWs : Wb.heap.size = w.heap.size + 1 := by rw [← hWb]; simp
  have Hct : Hid (Wb.cell? ⟨w.heap.size, 0, none⟩ = some (.slice A xs.length c)) := by rw [← hWb]; simp [Hid]
  have hIb : Hid (Ints Wb Wb.heap.size A xs) := by rw [← hWb]; exact h.out.al _
  have hBb : Hid (Below w.heap.size w Wb) := by rw [← hWb]; exact bal (b0 w) _
  have hch := Lib.hid (l01Children A xs c 0 d Wb hx ht hd hIb.out)
  have hct := Hct.out
  clear hd0
  go_enter Try.func71, Try.ntmps71
  go_wp2_with fail
  refine hch.out.mono ?_
  rintro e w2 ⟨A3, c3, rfl, hok, hb2⟩
  have Hok := Lib.hid hok
  have hbW2 := Lib.hid hb2
  clear hch hct hWb h hok hb2
  go_wp2
  go_loopw [3, 5] (fun q i wr => ∃ (k : Nat), k ≤ d ∧ i = .int .i64 (k : Int) ∧ q = .string (M.textK f xs k) ∧ Hid (Own64 wr Wb.heap.size (.slice A3 d c3) (M.childs xs 0 d)) ∧ Hid (Below Wb.heap.size Wb wr)) (fun _ i _ => d - (intOf i).toNat)
  case atStart => exact ⟨0, Nat.zero_le _, rfl, rfl, Hok, hbW2⟩
  case round =>
    obtain ⟨k, hk, rfl, rfl, hrow, hbr⟩ := hrel
    have hzr := hbr.out.size
    clear Hok hbW2
    by_cases hlt : k < d
    · have hkd : (k : Int) < (d : Int) := by omega
      have hki0 : (0 : Int) ≤ (k : Int) := by omega
      obtain ⟨g3, rfl⟩ : ∃ g3, A3 = some ⟨g3, 0, none⟩ := by
        rcases hrow.out.2 with ⟨_, h0⟩ | ⟨g, cap, cur, hv, _⟩
        · rw [M.childs_length] at h0; omega
        · injection hv with e1; exact ⟨g, e1⟩
      have hkl := M.kid_lt ht.out hd.out (i := k) (by omega)
      have hks := M.sub_short ht.out hd.out hlt
      have hpk := Lib.hid (M.textK_succ f xs k)
      have hpz := M.textK_size ht.out hf hd.out k (by omega)
      have hTz := M.textL_size f _ (M.sub_tree ht.out hkl) (by omega)
      have hat := Lib.hid (M.childs_at xs 0 hlt)
      generalize M.kidAt xs 0 k = C at *
      obtain ⟨P, hP⟩ : ∃ P, M.textK f xs k = P := ⟨_, rfl⟩
      obtain ⟨T, hT⟩ : ∃ T, Hid (M.textL f (M.sub xs C) = T) := ⟨_, rfl⟩
      obtain ⟨S, hS⟩ : ∃ S, Hid ((M.sub xs C).length = S) := ⟨_, rfl⟩
      rw [hP] at hpz hpk ⊢
      rw [hT.out] at hpk hTz
      rw [hS.out] at hTz hks
      have hsz : ¬ 9223372036854775807 < P.size + T.size := by omega
      have hsub : Hid (C + M.span 1 (xs.drop C) = C + S) := by show _ = _; rw [← hS.out, M.sub_length]
      obtain ⟨g, hfz, _, hgl⟩ := own64_cell hrow.out (M.childs_length xs 0 d) hat.out
      have hct := cell_be Hct.out hbr.out
      have hK0 : Hid (Below wr.heap.size wr wr.drew) := (Below.refl _ _).drew
      have g0 : wr.drew.cell? ⟨g3, k, none⟩ = some (.int .i64 (C : Int)) := g
      have hct0 : wr.drew.cell? ⟨w.heap.size, 0, none⟩ = some (.slice A xs.length c) := hct
      have HSub : Hid (∀ W', Hid (Below wr.heap.size wr W') → Calls Try.prog 72 #[.agg #[.slice A xs.length c], .int .i64 (C : Int)] W' fun e w' => ∃ A' c', e = .returned (.agg #[.slice A' S c']) ∧ Hid (Own64 w' wr.heap.size (.slice A' S c') (M.sub xs C)) ∧ Hid (Below wr.heap.size wr w')) := fun W' hW' => by
        have := l01Subtree A xs c C (C + S) W' hx hcl ht hkl hsub ((hIb.out.be hbr.out).be hW'.out)
        rw [Nat.add_sub_cancel_left] at this
        exact this.mono fun e w' ⟨A', c', he, ho, hb⟩ => ⟨A', c', he, own_mono ho hW'.out.size, btr hW'.out hb⟩
      have HTx : Hid (∀ (A' : Option Addr) (c' : Nat) W', Hid (Below wr.heap.size wr W') → Hid (Own64 W' wr.heap.size (.slice A' S c') (M.sub xs C)) → Calls Try.prog 71 #[.agg #[.slice A' S c']] W' fun e w' => e = .returned (.string T) ∧ Hid (Below wr.heap.size wr w')) := fun A' c' W' hW' ho => by
        have := ih.out A' (M.sub xs C) c' W' (Lib.hid (M.sub_tree ht.out hkl)) (by rw [hS.out]; omega) (by rw [hS.out]; exact own_cap ho.out) (ints_of_own64 ho.out)
        rw [hS.out, hT.out] at this
        exact this.mono fun e w' ⟨he, hb⟩ => ⟨he, btr hW'.out hb.out⟩
      have HC2 : Hid (∀ W', Hid (Below wr.heap.size wr W') → W'.cell? ⟨w.heap.size, 0, none⟩ = some (.slice A xs.length c) ∧ W'.cell? ⟨g3, k, none⟩ = some (.int .i64 (C : Int))) := fun W' hW' => ⟨cell_be hct hW'.out, (hW'.out.cell (p := ⟨g3, k, none⟩) hgl).trans g⟩
      clear hP hT hS hsub hfz hks hTz hpz hkl
      go_wp2
      go_region_held3 (fun w' => w'.cell? ⟨w.heap.size, 0, none⟩ = some (.slice A xs.length c) ∧ w'.cell? ⟨g3, k, none⟩ = some (.int .i64 (C : Int))) (first | exact ⟨hct0, g0⟩ | exact HC2.out _ (by assumption)) (first | (go_at_call 72; refine (HSub.out _ hK0).mono ?_; rintro e w7 ⟨A7, c7, rfl, ho7, hb7⟩) | (go_at_call 71; refine (HTx.out _ _ _ hb7 ho7).mono ?_; rintro e w8 ⟨rfl, hb8⟩))
      have hrow8 : Hid (Own64 w8 Wb.heap.size (.slice (some ⟨g3, 0, none⟩) d c3) (M.childs xs 0 d)) := own_be hrow.out hb8.out
      have hb9 : Hid (Below Wb.heap.size Wb w8) := btr hbr.out hb8.out
      clear HSub HTx HC2 g0 hct0 g hct hK0 hb7 ho7 hrow hbr
      go_wp2
      go_roundw
      case rel => exact ⟨k + 1, by omega, by go_num, by rw [hpk.out], hrow8, hb9⟩
      case measure => simp [intOf]; omega
    · obtain rfl : k = d := by omega
      have hpo : Hid (M.textL (f + 1) xs = M.textK f xs k ++ ⟨#[41]⟩) := M.textL_at hd.out
      have hfin := Lib.hid (btr hBb.out hbr.out)
      have hge : ¬ (k : Int) < (k : Int) := by omega
      have hsz1 : ¬ 9223372036854775807 < (M.textK f xs k).size + 1 := by have := M.textK_size ht.out hf hd.out k (by omega); have := M.kids_all ht.out hd.out; omega
      generalize M.textK f xs k = P at *
      go_wp2
      go_ret
      exact ⟨by rw [hpo.out]; rfl, hfin⟩

theorem l01Text : ∀ f, TextOf f := by
  intro f
  induction f with
  | zero => intro A xs c w ht hf; have := (M.tree_len ht.out).1; omega
  | succ f ih => exact l01Text_step f (Lib.hid ih)

end Go.Proofs.Ytbdmmeoelagdcaa

/- MatchesAt, the program's and the model's. -/
namespace Go.Proofs.Ytbdmmeoelagdcaa
open Go.RowKit

def F_MatchesAt (xs : List Int) (v : Int) (p : ByteArray) : Bool × Int := if codeP xs (M.isPat p.data.toList) [v] = 0 then ((atNode p.data.toList xs v.toNat).isSome, 0) else (false, codeP xs (M.isPat p.data.toList) [v])
theorem F_MatchesAt_yes {xs : List Int} {v : Int} {p : ByteArray} (h : codeP xs (M.isPat p.data.toList) [v] = 0) : F_MatchesAt xs v p = ((atNode p.data.toList xs v.toNat).isSome, 0) := if_pos h
theorem F_MatchesAt_no {xs : List Int} {v : Int} {p : ByteArray} (h : codeP xs (M.isPat p.data.toList) [v] ≠ 0) : F_MatchesAt xs v p = (false, codeP xs (M.isPat p.data.toList) [v]) := if_neg h
/-- a tree, a number and a text to a bool and a code -/
def GivesTNS (f : Nat) (F : List Int → Int → ByteArray → Bool × Int) : Prop :=
  ∀ (A : Option Addr) (xs : List Int) (c : Nat) (v : Int) (p : ByteArray) (w : World), xs.length ≤ 1048576 → xs.length ≤ c ∧ c ≤ 1000000000000 → p.size ≤ 1048576 → Ints w w.heap.size A xs →
    Calls Try.prog f #[.agg #[.slice A xs.length c], .int .i64 v, .string p] w fun e w' => e = .returned (.tuple #[.bool (F xs v p).1, .int .i64 (F xs v p).2]) ∧ Below w.heap.size w w'
theorem pat_60 {p : ByteArray} (h : M.isPat p.data.toList = true) : p.size ≤ 60 := by rw [Lib.size_eq]; exact (M.isPat_iff.1 h).1

set_option maxRecDepth 100000 in
set_option maxHeartbeats 2000000 in
theorem impl_MatchesAt : GivesTNS 23 F_MatchesAt := by
  intro A xs c v p w hx hcc hp h
  have hC := Lib.hid (codeOfMatch A (some ⟨w.heap.size + 1, 0, none⟩) xs [v] c 1 p ((w.alloc (.cells #[.slice A xs.length c] 29)).alloc (.cells #[.int .i64 v] 2)) (by omega) (by simp) hp ((h.al _).al _) (by have := ints_new (w.alloc (.cells #[.slice A xs.length c] 29)) #[.int .i64 v] [v] rfl; simpa using this))
  simp only [List.length_cons, List.length_nil, Nat.zero_add] at hC
  obtain ⟨r, hr⟩ : ∃ r, Hid (codeP xs (M.isPat p.data.toList) [v] = r) := ⟨_, rfl⟩
  rw [hr.out] at hC
  by_cases h0 : r = 0
  · subst h0
    obtain ⟨ht, hpt, hcd⟩ := codeP_zero hr.out
    have hn := M.code_node hcd
    have hp6 := pat_60 hpt
    rw [F_MatchesAt_yes hr.out]
    obtain ⟨n, rfl⟩ := Int.eq_ofNat_of_zero_le hn.1
    have hnl : n < xs.length := by simpa using hn.2.1
    have hM : Hid (∀ W, Below w.heap.size w W → Calls Try.prog 74 #[.slice A xs.length c, .int .i64 (n : Int), .string p] W fun e w' => e = .returned (.bool (atNode p.data.toList xs n).isSome) ∧ Hid (Below W.heap.size W w')) := fun W hb =>
      matchesAt A xs c n p W (Lib.hid ht) hnl hcc.1 (by omega) hp6 (Lib.hid (h.be hb))
    simp only [Int.toNat_natCast]
    generalize (atNode p.data.toList xs n).isSome = b at *
    clear hr hn hcd ht hpt h
    go_enter Try.func23, Try.ntmps23
    go_wp2_with fail
    refine hC.out.mono ?_
    rintro e w1 ⟨rfl, hb⟩
    have hB := Lib.hid (btr (bal (bal (b0 w) _) _) hb.out)
    have hcell : w1.cell? ⟨w.heap.size, 0, none⟩ = some (.slice A xs.length c) := cell_be (cell_al (by simp) _) hb.out
    clear hb hC
    go_wp2_with fail
    refine (hM.out _ hB.out).mono ?_
    rintro e w2 ⟨rfl, hb2⟩
    have hB2 := btr hB.out hb2.out
    go_wp2
    go_ret2
    exact ⟨rfl, hB2⟩
  · rw [F_MatchesAt_no (by rw [hr.out]; exact h0), hr.out]
    have hq : (r != 0) = true := by simp [h0]
    clear hr h0 h
    go_enter Try.func23, Try.ntmps23
    go_wp2_with fail
    refine hC.out.mono ?_
    rintro e w1 ⟨rfl, hb⟩
    have hB := btr (bal (bal (b0 w) _) _) hb.out
    go_wp2
    go_ret2
    exact ⟨rfl, hB⟩

/-- the text at a node, as the model has it -/
theorem textAtNode (A : Option Addr) (xs : List Int) (c v : Nat) (w : World) (ht : Hid (M.isTree xs = true)) (hv : v < xs.length) (hcl : xs.length ≤ c) (h : Hid (Ints w w.heap.size A xs)) :
    Calls Try.prog 72 #[.agg #[.slice A xs.length c], .int .i64 (v : Int)] w fun e w' => ∃ A' n' c', e = .returned (.agg #[.slice A' n' c']) ∧ Hid (Below w.heap.size w w') ∧
      Hid (∀ W, Below w'.heap.size w' W → Calls Try.prog 71 #[.agg #[.slice A' n' c']] W fun e w2 => e = .returned (.string (M.textL 24 (M.sub xs v))) ∧ Hid (Below W.heap.size W w2)) := by
  have hx := (M.tree_len ht.out).2
  obtain ⟨E, hE⟩ : ∃ E, Hid (v + M.span 1 (xs.drop v) = E) := ⟨_, rfl⟩
  have hsl : (M.sub xs v).length = E - v := by rw [M.sub_length]; have := hE.out; omega
  have hst := M.sub_tree ht.out hv
  have hs24 := (M.tree_len hst).2
  refine (l01Subtree A xs c v E w hx hcl ht hv hE h.out).mono ?_
  rintro e w1 ⟨A', c', rfl, ho, hb⟩
  refine ⟨A', E - v, c', rfl, hb, fun W hbW => ?_⟩
  have hcap := own_cap ho
  have := l01Text 24 A' (M.sub xs v) c' W (Lib.hid hst) hs24 (by omega) (Lib.hid ((ints_of_own64 ho).be hbW))
  rwa [hsl] at this
theorem match_at (xs : List Int) (v : Nat) (p : ByteArray) (W : World) (ht : M.isTree xs = true) (hv : v < xs.length) (hpt : M.isPat p.data.toList = true) :
    Calls Try.prog 70 #[.string p, .string (M.textL 24 (M.sub xs v))] W (MtQ (atNode p.data.toList xs v) W) := by
  have hst := M.sub_tree ht hv
  have hs24 := (M.tree_len hst).2
  have hp6 := pat_60 hpt
  exact l04Match p _ W (by omega) (by rw [M.textL_size 24 _ hst hs24]; omega) (Lib.hid (.inl ⟨(M.isPat_iff.1 hpt).2.1, M.text_piece hst hs24⟩))

set_option maxRecDepth 100000 in
set_option maxHeartbeats 2000000 in
theorem spec_MatchesAt : GivesTNS 21 F_MatchesAt := by
  intro A xs c v p w hx hcc hp h
  have hC := Lib.hid (l04Code A (some ⟨w.heap.size + 1, 0, none⟩) xs [v] c 1 p ((w.alloc (.cells #[.slice A xs.length c] 29)).alloc (.cells #[.int .i64 v] 2)) (by omega) (by simp) hp ((h.al _).al _) (by have := ints_new (w.alloc (.cells #[.slice A xs.length c] 29)) #[.int .i64 v] [v] rfl; simpa using this))
  simp only [List.length_cons, List.length_nil, Nat.zero_add] at hC
  obtain ⟨r, hr⟩ : ∃ r, Hid (codeP xs (M.isPat p.data.toList) [v] = r) := ⟨_, rfl⟩
  rw [hr.out] at hC
  by_cases h0 : r = 0
  · subst h0
    obtain ⟨ht, hpt, hcd⟩ := codeP_zero hr.out
    have hn := M.code_node hcd
    rw [F_MatchesAt_yes hr.out]
    obtain ⟨n, rfl⟩ := Int.eq_ofNat_of_zero_le hn.1
    have hnl : n < xs.length := by simpa using hn.2.1
    have hT := fun W (hb : Below w.heap.size w W) => Lib.hid (textAtNode A xs c n W (Lib.hid ht) hnl hcc.1 (Lib.hid (h.be hb)))
    have hM : Hid (∀ W, Calls Try.prog 70 #[.string p, .string (M.textL 24 (M.sub xs n))] W fun e w' => ∃ (A : Option Addr) (n' c : Nat), e = .returned (.tuple #[.slice A n' c, .bool (atNode p.data.toList xs n).isSome]) ∧ Hid (Below W.heap.size W w')) := fun W =>
      (match_at xs n p W ht hnl hpt).mono fun e w' ⟨A, n, c, h1, h2, _⟩ => ⟨A, n, c, h1, h2⟩
    simp only [Int.toNat_natCast]
    generalize (atNode p.data.toList xs n).isSome = b at *
    generalize M.textL 24 (M.sub xs n) = T at *
    clear hr hn hcd ht hpt h
    go_enter Try.func21, Try.ntmps21
    go_wp2_with fail
    refine hC.out.mono ?_
    rintro e w1 ⟨rfl, hb⟩
    have hB := Lib.hid (btr (bal (bal (b0 w) _) _) hb.out)
    have hcell : w1.cell? ⟨w.heap.size, 0, none⟩ = some (.slice A xs.length c) := cell_be (cell_al (by simp) _) hb.out
    clear hb hC
    go_wp2_with fail
    refine (hT _ hB.out).out.mono ?_
    rintro e w2 ⟨A2, n2, c2, rfl, hb2, hT2⟩
    go_wp2_with fail
    refine (hT2.out _ (b0 _)).mono ?_
    rintro e w3 ⟨rfl, hb3⟩
    go_wp2_with fail
    refine (hM.out _).mono ?_
    rintro e w4 ⟨A4, n4, c4, rfl, hb4⟩
    have hB2 := btr hB.out (btr hb2.out (btr hb3.out hb4.out))
    go_wp2
    go_ret2
    exact ⟨rfl, hB2⟩
  · rw [F_MatchesAt_no (by rw [hr.out]; exact h0), hr.out]
    have hq : (r != 0) = true := by simp [h0]
    clear hr h0 h
    go_enter Try.func21, Try.ntmps21
    go_wp2_with fail
    refine hC.out.mono ?_
    rintro e w1 ⟨rfl, hb⟩
    have hB := btr (bal (bal (b0 w) _) _) hb.out
    go_wp2
    go_ret2
    exact ⟨rfl, hB⟩
end Go.Proofs.Ytbdmmeoelagdcaa
