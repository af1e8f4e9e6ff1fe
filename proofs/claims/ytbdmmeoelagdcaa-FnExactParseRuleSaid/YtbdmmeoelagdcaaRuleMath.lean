/- Rules: what their right sides are; letters of a text replaced by trees of one node. Mathematics, no conditions. -/
import Derived.Test.YtbdmmeoelagdcaaPat
namespace Go.Proofs.Ytbdmmeoelagdcaa
namespace M
/-- a byte of a piece -/
def okByte (c : UInt8) : Bool := isL c || c == 40 || c == 41
theorem closeU_open (r : List UInt8) (o : Nat) (U : List Bool) : closeU (40 :: r) (o + 1) U = closeU r (o + 2) U := by
  rw [closeU_piece (by decide), pieceU_open, show o + 2 = 1 + (o + 1) by omega, closeU_add]
/-- letters replaced by trees of one node -/
def bare (l : List UInt8) : List UInt8 := l.flatMap fun c => if c = 40 ∨ c = 41 then [c] else [40, 41]
theorem bare_nil : bare [] = [] := rfl
theorem bare_open (r : List UInt8) : bare (40 :: r) = 40 :: bare r := rfl
theorem bare_shut (r : List UInt8) : bare (41 :: r) = 41 :: bare r := rfl
theorem bare_let {c : UInt8} (h : isL c = true) (r : List UInt8) : bare (c :: r) = 40 :: 41 :: bare r := by
  have h1 : ¬ (c = 40 ∨ c = 41) := fun e => by rcases e with e | e <;> (rw [e] at h; cases h)
  rw [bare, List.flatMap_cons, if_neg h1]; rfl
theorem bare_snoc (l : List UInt8) (c : UInt8) : bare (l ++ [c]) = bare l ++ (if c = 40 ∨ c = 41 then [c] else [40, 41]) := by
  rw [bare, bare, List.flatMap_append, List.flatMap_singleton]
theorem bare_len (l : List UInt8) : (bare l).length ≤ 2 * l.length := by
  induction l with
  | nil => simp [bare]
  | cons c r ih =>
    rw [bare, List.flatMap_cons, List.length_append]
    rw [bare] at ih
    split <;> simp only [List.length_cons, List.length_nil] <;> omega
theorem bare_none {l : List UInt8} (h : bare l = []) : l = [] := by
  cases l with
  | nil => rfl
  | cons c r =>
    rw [bare, List.flatMap_cons] at h
    split at h <;> simp at h
theorem ok_kind {c : UInt8} (h : okByte c = true) : isL c = true ∨ c = 40 ∨ c = 41 := by
  simp only [okByte, Bool.or_eq_true, beq_iff_eq] at h
  rcases h with (h | h) | h
  · exact .inl h
  · exact .inr (.inl h)
  · exact .inr (.inr h)
theorem closeU_bare : ∀ (l : List UInt8) (o : Nat) (U : List Bool), l.all okByte = true → closeU (bare l) o U = (close l o).map fun r => (bare r, U) := by
  intro l
  induction l with
  | nil =>
    intro o U _
    cases o with
    | zero => rw [closeU_zero, close_zero]; rfl
    | succ o => rw [bare_nil, closeU_nil, close_nil]; rfl
  | cons c r ih =>
    intro o U h
    rw [List.all_cons, Bool.and_eq_true] at h
    cases o with
    | zero => rw [closeU_zero, close_zero]; rfl
    | succ o =>
      rcases ok_kind h.1 with e | e | e
      · rw [bare_let e, closeU_open, closeU_shut, close_let e, ih (o + 1) U h.2]
      · subst e; rw [bare_open, closeU_open, close_open, ih (o + 2) U h.2]
      · subst e; rw [bare_shut, closeU_shut, close_shut, ih o U h.2]
theorem pieceU_bare (l : List UInt8) (U : List Bool) (h : l.all okByte = true) : pieceU (bare l) U = (piece l).map fun r => (bare r, U) := by
  cases l with
  | nil => rfl
  | cons c r =>
    rw [List.all_cons, Bool.and_eq_true] at h
    rcases ok_kind h.1 with e | e | e
    · rw [bare_let e, pieceU_open, closeU_shut, closeU_zero, piece_let e]; rfl
    · subst e; rw [bare_open, pieceU_open, piece_open, closeU_bare r 1 U h.2]
    · subst e; rw [bare_shut, pieceU_bad (by decide) (by decide), piece_shut]; rfl
theorem close_okB : ∀ (l : List UInt8) (o : Nat), close l o = some [] → l.all okByte = true := by
  intro l
  induction l with
  | nil => intro _ _; rfl
  | cons c r ih =>
    intro o h
    cases o with
    | zero => rw [close_zero] at h; injection h with h; cases h
    | succ o =>
      rw [List.all_cons, Bool.and_eq_true]
      by_cases h41 : c = 41
      · subst h41; rw [close_shut] at h; exact ⟨by decide, ih _ h⟩
      · by_cases h40 : c = 40
        · subst h40; rw [close_open] at h; exact ⟨by decide, ih _ h⟩
        · cases hc : isL c
          · rw [close_bad hc h40 h41] at h; cases h
          · rw [close_let hc] at h; exact ⟨by simp [okByte, hc], ih _ h⟩
theorem piece_okB {l : List UInt8} (h : piece l = some []) : l.all okByte = true := by
  cases l with
  | nil => rfl
  | cons c r =>
    rw [List.all_cons, Bool.and_eq_true]
    by_cases h40 : c = 40
    · subst h40; rw [piece_open] at h; exact ⟨by decide, close_okB _ _ h⟩
    · cases hc : isL c
      · rw [piece_bad hc h40] at h; cases h
      · rw [piece_let hc] at h; injection h with h; subst h; exact ⟨by simp [okByte, hc], rfl⟩
/-- a pattern of more than a letter begins with a bracket and has both -/
theorem close_shutIn : ∀ (l : List UInt8) (o : Nat), close l (o + 1) = some [] → (41 : UInt8) ∈ l := by
  intro l
  induction l with
  | nil => intro o h; rw [close_nil] at h; cases h
  | cons c r ih =>
    intro o h
    by_cases h41 : c = 41
    · subst h41; exact List.mem_cons_self
    · by_cases h40 : c = 40
      · subst h40; rw [close_open] at h; exact List.mem_cons_of_mem _ (ih _ h)
      · cases hc : isL c
        · rw [close_bad hc h40 h41] at h; cases h
        · rw [close_let hc] at h; exact List.mem_cons_of_mem _ (ih _ h)
theorem piece_head {c : UInt8} {r : List UInt8} (h : piece (c :: r) = some []) : (isL c = true ∧ r = []) ∨ (c = 40 ∧ (41 : UInt8) ∈ r) := by
  by_cases h40 : c = 40
  · subst h40; rw [piece_open] at h; exact .inr ⟨rfl, close_shutIn _ _ h⟩
  · cases hc : isL c
    · rw [piece_bad hc h40] at h; cases h
    · rw [piece_let hc] at h; injection h with h; exact .inl ⟨rfl, h⟩
/-- the Right of a rule with a Left -/
def isRight (l r : List UInt8) : Bool := decide (0 < r.length) && decide (r.length ≤ 60) && (piece r == some []) && r.all fun c => l.contains c
def isRule (l r : List UInt8) : Bool := isPat l && decide (1 < l.length) && isRight l r
theorem pat_long {l : List UInt8} (h : isPat l = true) (h1 : 1 < l.length) : (40 : UInt8) ∈ l ∧ (41 : UInt8) ∈ l ∧ l.all okByte = true ∧ l[0]? = some 40 := by
  have hp := (isPat_iff.1 h).2.1
  refine ⟨?_, ?_, piece_okB hp, ?_⟩
  all_goals
    cases l with
    | nil => simp at h1
    | cons c r =>
      rcases piece_head hp with ⟨_, e⟩ | ⟨e, e2⟩
      · rw [e] at h1; simp at h1
      · subst e; simp [e2]
theorem pat_short {l : List UInt8} (h : isPat l = true) (h1 : ¬ 1 < l.length) : ∃ c, l = [c] ∧ isL c = true := by
  have hp := (isPat_iff.1 h).2.1
  cases l with
  | nil => cases hp
  | cons c r =>
    have hr : r = [] := List.eq_nil_of_length_eq_zero (by simp at h1; exact List.length_eq_zero_iff.2 h1)
    subst hr
    rcases piece_head hp with ⟨e, _⟩ | ⟨_, e2⟩
    · exact ⟨c, rfl, e⟩
    · simp at e2
/-- what the program asks of the Right -/
theorem right_prog (l r : List UInt8) : isRight l r = ((decide (0 < r.length) && decide (r.length ≤ 60) && (piece r == some [])) && !(r.any fun c => !l.contains c)) := by
  rw [isRight]
  congr 1
  rw [Bool.eq_iff_iff, Bool.not_eq_true', List.all_eq_true, List.any_eq_false]
  exact forall_congr' fun c => forall_congr' fun _ => by simp
/-- what the model asks of the Right -/
def known (l : List UInt8) (c : UInt8) : Bool := c == 40 || c == 41 || l.contains c
theorem right_model {l r : List UInt8} (h40 : (40 : UInt8) ∈ l) (h41 : (41 : UInt8) ∈ l) (hl : l.all okByte = true) (h0 : 0 < r.length) (h60 : r.length ≤ 60) (U : List Bool) (hk : r.all (known l) = true) : isRight l r = true ↔ ∃ V, pieceU (bare r) U = some ([], V) := by
  have hin : ∀ c ∈ r, c ∈ l := fun c hc => by
    have := List.all_eq_true.1 hk c hc
    simp only [known, Bool.or_eq_true, beq_iff_eq, List.contains_iff_mem] at this
    rcases this with (e | e) | e
    · rw [e]; exact h40
    · rw [e]; exact h41
    · exact e
  have hok : r.all okByte = true := List.all_eq_true.2 fun c hc => List.all_eq_true.1 hl c (hin c hc)
  have hall : (r.all fun c => l.contains c) = true := List.all_eq_true.2 fun c hc => by rw [List.contains_iff_mem]; exact hin c hc
  rw [isRight, hall, pieceU_bare r U hok, decide_eq_true h0, decide_eq_true h60]
  simp only [Bool.and_true, Bool.true_and, beq_iff_eq]
  cases hp : piece r with
  | none => simp
  | some q =>
    simp only [Option.some.injEq, Option.map_some, Prod.mk.injEq]
    exact ⟨fun e => ⟨U, by rw [e]; exact ⟨rfl, rfl⟩⟩, fun ⟨V, e, _⟩ => bare_none e⟩
theorem right_miss {l r : List UInt8} (hk : r.all (known l) = false) : isRight l r = false := by
  obtain ⟨c, hc, h⟩ := List.all_eq_false.1 hk
  have : (r.all fun c => l.contains c) = false := List.all_eq_false.2 ⟨c, hc, by
    intro h2
    apply h
    simp only [known, Bool.or_eq_true]
    exact .inr h2⟩
  rw [isRight, this, Bool.and_false]
end M
end Go.Proofs.Ytbdmmeoelagdcaa
