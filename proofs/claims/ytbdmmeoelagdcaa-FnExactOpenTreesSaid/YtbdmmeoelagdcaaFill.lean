/- Patterns filled with texts: the mathematics. -/
import Derived.Test.YtbdmmeoelagdcaaBrack
namespace Go.Proofs.Ytbdmmeoelagdcaa.M
/-- a pattern with texts in the place of its letters -/
def fillT : List UInt8 → List (List UInt8) → List UInt8
  | [], _ => []
  | c :: P, ts => if isL c then ts.headD [] ++ fillT P ts.tail else c :: fillT P ts
def nL (P : List UInt8) : Nat := P.countP isL
theorem nL_nil : nL [] = 0 := rfl
theorem nL_let {c : UInt8} (h : isL c = true) (P : List UInt8) : nL (c :: P) = nL P + 1 := by rw [nL, nL, List.countP_cons_of_pos h]
theorem nL_other {c : UInt8} (h : isL c = false) (P : List UInt8) : nL (c :: P) = nL P := by rw [nL, nL, List.countP_cons_of_neg (by simp [h])]
theorem nL_le (P : List UInt8) : nL P ≤ P.length := List.countP_le_length
theorem fillT_let {c : UInt8} (h : isL c = true) (P Y : List UInt8) (ts : List (List UInt8)) : fillT (c :: P) (Y :: ts) = Y ++ fillT P ts := by rw [fillT, if_pos h]; rfl
theorem fillT_other {c : UInt8} (h : isL c = false) (P : List UInt8) (ts : List (List UInt8)) : fillT (c :: P) ts = c :: fillT P ts := by rw [fillT, if_neg (by simp [h])]
/-- a text that reads as one piece wherever it stands -/
def Whole (Y : List UInt8) : Prop := piece Y = some [] ∧ (∀ (r : List UInt8) o, close (Y ++ r) (o + 1) = close r (o + 1)) ∧ ∀ c ∈ Y, isB c
theorem fill_close : ∀ (P : List UInt8) (o : Nat) (ts : List (List UInt8)), close P o = some [] → nL P = ts.length → (∀ Y ∈ ts, Whole Y) → close (fillT P ts) o = some [] ∧ ∀ c ∈ fillT P ts, isB c := by
  intro P
  induction P with
  | nil => intro o ts h _ _; exact ⟨h, fun c hc => by cases hc⟩
  | cons c P ih =>
    intro o ts h hn hw
    cases o with
    | zero => rw [close_zero] at h; injection h with h; cases h
    | succ o =>
      by_cases h41 : c = 41
      · subst h41
        rw [nL_other (by decide)] at hn
        rw [close_shut] at h
        obtain ⟨a, b⟩ := ih o ts h hn hw
        rw [fillT_other (by decide), close_shut]
        exact ⟨a, fun d hd => by rcases List.mem_cons.1 hd with rfl | hd; exact .inr rfl; exact b d hd⟩
      · cases hL : isL c
        · by_cases h40 : c = 40
          · subst h40
            rw [nL_other (by decide)] at hn
            rw [close_open] at h
            obtain ⟨a, b⟩ := ih (o + 2) ts h hn hw
            rw [fillT_other (by decide), close_open]
            exact ⟨a, fun d hd => by rcases List.mem_cons.1 hd with rfl | hd; exact .inl rfl; exact b d hd⟩
          · rw [close_bad hL h40 h41] at h; cases h
        · rw [nL_let hL] at hn
          rw [close_let hL] at h
          cases ts with
          | nil => simp at hn
          | cons Y ts =>
            obtain ⟨w1, w2, w3⟩ := hw Y (List.mem_cons_self ..)
            obtain ⟨a, b⟩ := ih (o + 1) ts h (by simpa using hn) (fun Y h => hw Y (List.mem_cons_of_mem _ h))
            rw [fillT_let hL, w2]
            exact ⟨a, fun d hd => by rcases List.mem_append.1 hd with hd | hd; exact w3 d hd; exact b d hd⟩
theorem fill_piece {P : List UInt8} {ts : List (List UInt8)} (h : piece P = some []) (hn : nL P = ts.length) (hw : ∀ Y ∈ ts, Whole Y) : piece (fillT P ts) = some [] ∧ ∀ c ∈ fillT P ts, isB c := by
  cases P with
  | nil => cases h
  | cons c P =>
    cases hL : isL c
    · by_cases h40 : c = 40
      · subst h40
        rw [nL_other (by decide)] at hn
        rw [piece_open] at h
        obtain ⟨a, b⟩ := fill_close P 1 ts h hn hw
        rw [fillT_other (by decide), piece_open]
        exact ⟨a, fun d hd => by rcases List.mem_cons.1 hd with rfl | hd; exact .inl rfl; exact b d hd⟩
      · rw [piece_bad hL h40] at h; cases h
    · rw [piece_let hL] at h
      injection h with h
      subst h
      rw [nL_let hL, nL_nil] at hn
      cases ts with
      | nil => simp at hn
      | cons Y ts =>
        cases ts with
        | cons _ _ => simp at hn
        | nil =>
          obtain ⟨w1, w2, w3⟩ := hw Y (List.mem_cons_self ..)
          rw [fillT_let hL]
          simp only [fillT, List.append_nil]
          exact ⟨w1, w3⟩
theorem fill_len : ∀ (P : List UInt8) (ts : List (List UInt8)), (∀ Y ∈ ts, Y.length ≤ 48) → (fillT P ts).length ≤ 48 * P.length := by
  intro P
  induction P with
  | nil => intro ts _; simp [fillT]
  | cons c P ih =>
    intro ts h
    cases hL : isL c
    · rw [fillT_other hL]
      have := ih ts h
      simp only [List.length_cons]; omega
    · cases ts with
      | nil =>
        rw [fillT, if_pos hL]
        have := ih [] h
        simp only [List.length_cons, List.headD_nil, List.nil_append, List.tail_nil]; omega
      | cons Y ts =>
        rw [fillT_let hL, List.length_append]
        have := ih ts (fun Y h' => h Y (List.mem_cons_of_mem _ h'))
        have := h Y (List.mem_cons_self ..)
        simp only [List.length_cons]; omega
end Go.Proofs.Ytbdmmeoelagdcaa.M
