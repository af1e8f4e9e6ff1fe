/- pieceOf: the piece with which a text begins (a machine with three labels). -/
import Derived.Test.YtbdmmeoelagdcaaLet
import Derived.Test.YtbdmmeoelagdcaaJumps
import Derived.WalkMore
namespace Go.Proofs.Ytbdmmeoelagdcaa
open Go.RowKit

/-- the piece with which a text begins, or nothing -/
def M.pieceT (l : List UInt8) : List UInt8 := match M.piece l with | none => [] | some r => l.take (l.length - r.length)
theorem M.pieceT_none {l : List UInt8} (h : M.piece l = none) : M.pieceT l = [] := by rw [M.pieceT, h]
theorem M.pieceT_some {l r : List UInt8} (h : M.piece l = some r) : M.pieceT l = l.take (l.length - r.length) := by rw [M.pieceT, h]
/-- what the machine's numbers tell at its labels -/
def at0 (L : List UInt8) (R : Option (List UInt8)) (k o : Nat) : Prop := (o = 0 ∧ k = 0 ∧ M.piece L = R) ∨ (0 < o ∧ (∀ c, L[k]? = some c → c ≠ 41) ∧ M.close (L.drop k) o = R)
def at1 (L : List UInt8) (R : Option (List UInt8)) (k o : Nat) : Prop := 0 < o ∧ M.close (L.drop k) o = R
def at2 (L : List UInt8) (R : Option (List UInt8)) (k o : Nat) : Prop := k < L.length ∧ M.close (L.drop (k + 1)) o = R
def rankOf : Nat → Nat
  | 0 => 1
  | 1 => 0
  | _ => 2
theorem at0_end {L : List UInt8} {R : Option (List UInt8)} {k o : Nat} (h : at0 L R k o) (hk : L.drop k = []) : R = none := by
  rcases h with ⟨rfl, rfl, h⟩ | ⟨h0, _, h⟩
  · rw [List.drop_zero] at hk; rw [← h, hk]; rfl
  · obtain ⟨m, rfl⟩ : ∃ m, o = m + 1 := ⟨o - 1, by omega⟩
    rw [← h, hk]; rfl
theorem at0_let {L : List UInt8} {R : Option (List UInt8)} {k o : Nat} {c : UInt8} (h : at0 L R k o) (hk : L.drop k = c :: L.drop (k + 1)) (hlt : k < L.length) (hc : M.isL c = true) : at2 L R k o := by
  refine ⟨hlt, ?_⟩
  rcases h with ⟨rfl, rfl, h⟩ | ⟨h0, _, h⟩
  · rw [List.drop_zero] at hk
    have e : M.piece L = M.piece (c :: L.drop 1) := congrArg M.piece hk
    rw [← h, e, M.piece_let hc, M.close_zero]
  · obtain ⟨m, rfl⟩ : ∃ m, o = m + 1 := ⟨o - 1, by omega⟩
    rw [← h, hk, M.close_let hc]
theorem at0_open {L : List UInt8} {R : Option (List UInt8)} {k o : Nat} (h : at0 L R k o) (hk : L.drop k = 40 :: L.drop (k + 1)) : at1 L R (k + 1) (o + 1) := by
  refine ⟨by omega, ?_⟩
  rcases h with ⟨rfl, rfl, h⟩ | ⟨h0, _, h⟩
  · rw [List.drop_zero] at hk
    have e : M.piece L = M.piece (40 :: L.drop 1) := congrArg M.piece hk
    rw [← h, e, M.piece_open]
  · obtain ⟨m, rfl⟩ : ∃ m, o = m + 1 := ⟨o - 1, by omega⟩
    rw [← h, hk, M.close_open]
theorem at0_bad {L : List UInt8} {R : Option (List UInt8)} {k o : Nat} {c : UInt8} (h : at0 L R k o) (hk : L.drop k = c :: L.drop (k + 1)) (hkc : L[k]? = some c) (hc : M.isL c = false) (h40 : c ≠ 40) : R = none := by
  rcases h with ⟨rfl, rfl, h⟩ | ⟨h0, h1, h⟩
  · rw [List.drop_zero] at hk; rw [← h, hk, M.piece_bad hc h40]
  · obtain ⟨m, rfl⟩ : ∃ m, o = m + 1 := ⟨o - 1, by omega⟩
    rw [← h, hk, M.close_bad hc h40 (h1 c hkc)]
theorem at1_on {L : List UInt8} {R : Option (List UInt8)} {k o : Nat} (h : at1 L R k o) (h1 : ∀ c, L[k]? = some c → c ≠ 41) : at0 L R k o := .inr ⟨h.1, h1, h.2⟩
theorem at1_shut {L : List UInt8} {R : Option (List UInt8)} {k o : Nat} (h : at1 L R k (o + 1)) (hk : L.drop k = 41 :: L.drop (k + 1)) (hlt : k < L.length) : at2 L R k o := ⟨hlt, by rw [← h.2, hk, M.close_shut]⟩
theorem at2_on {L : List UInt8} {R : Option (List UInt8)} {k o : Nat} (h : at2 L R k o) (h0 : 0 < o) : at1 L R (k + 1) o := ⟨h0, h.2⟩
theorem at2_end {L : List UInt8} {k : Nat} (h : at2 L (M.piece L) k 0) : M.pieceT L = L.take (k + 1) := by
  have h2 := h.2
  rw [M.close_zero] at h2
  rw [M.pieceT_some h2.symm, List.length_drop]
  congr 1
  have := h.1
  omega
theorem ne_byte {b c : UInt8} (h : b ≠ c) : ((b.toNat : Int) != (c.toNat : Int)) = true := bne_iff_ne.2 fun e => h (UInt8.toNat_inj.1 (by omega))
theorem byte_here (s : ByteArray) {k : Nat} (h : k < s.size) : s.data.toList.drop k = s[k] :: s.data.toList.drop (k + 1) := by
  have h2 : k < s.data.toList.length := by rw [← Lib.size_eq]; exact h
  rw [List.drop_eq_getElem_cons h2]
  congr 1
theorem take_str (s : ByteArray) (k : Nat) : s.extract 0 k = M.bs (s.data.toList.take k) := by
  rw [Lib.extract_eq, List.drop_zero]
  rfl

/-- what holds at a label: 0 where a piece begins, 2 inside a piece, 1 at a piece's last byte -/
def atL (L : List UInt8) (R : Option (List UInt8)) (l k o : Nat) : Prop := (l = 0 ∧ at0 L R k o) ∨ (l = 2 ∧ at1 L R k o) ∨ (l = 1 ∧ at2 L R k o)
theorem atL0 {L : List UInt8} {R : Option (List UInt8)} {k o : Nat} (h : at0 L R k o) : atL L R 0 k o := .inl ⟨rfl, h⟩
theorem atL2 {L : List UInt8} {R : Option (List UInt8)} {k o : Nat} (h : at1 L R k o) : atL L R 2 k o := .inr (.inl ⟨rfl, h⟩)
theorem atL1 {L : List UInt8} {R : Option (List UInt8)} {k o : Nat} (h : at2 L R k o) : atL L R 1 k o := .inr (.inr ⟨rfl, h⟩)
/-- the frame at a jump -/
def Fr (s : ByteArray) (i j : Int) (a : Act) : Prop := ∃ u1 u2 u5 u6 u7 u8 u9 u10 u11 u12 u13 u14 u15 u16 u17 u18 u19 u20 u21 u22 u23 u24 u25 u26 u27 u28 u29 u30 u31 u32 u33 u34 u35 u36 u37 u38 u39 : Value, a = { tmps := #[.string s, u1, u2, .int .i64 i, .int .i64 j, u5, u6, u7, u8, u9, u10, u11, u12, u13, u14, u15, u16, u17, u18, u19, u20, u21, u22, u23, u24, u25, u26, u27, u28, u29, u30, u31, u32, u33, u34, u35, u36, u37, u38, u39], defers := [] }

set_option maxRecDepth 100000 in
set_option maxHeartbeats 4000000 in
theorem pieceOf (s : ByteArray) (w : World) (hs : s.size ≤ 1048576) :
    Calls Try.prog 107 #[.string s] w fun e w' => e = .returned (.string (M.bs (M.pieceT s.data.toList))) ∧ w' = w := by
  have hL : Hid (s.data.toList.length = s.size) := (Lib.size_eq s).symm
  have hby : Hid (∀ k (h : k < s.size), s.data.toList.drop k = s[k] :: s.data.toList.drop (k + 1)) := fun k h => byte_here s h
  have hat : Hid (∀ k (h : k < s.size), s.data.toList[k]? = some s[k]) := fun k h => by
    rw [← List.head?_drop, byte_here s h]; rfl
  have hIs : Hid (∀ c W, Calls Try.prog 98 #[.int .u8 ((c : UInt8).toNat : Int)] W fun e w' => e = .returned (.bool (M.isL c)) ∧ w' = W) := isLetter
  have hTk : Hid (∀ k, s.extract 0 k = M.bs (s.data.toList.take k)) := take_str s
  have hEnd : Hid (∀ k, at2 s.data.toList (M.piece s.data.toList) k 0 → M.pieceT s.data.toList = s.data.toList.take (k + 1)) := fun k h => at2_end h
  have hNo : Hid (M.piece s.data.toList = none → M.bs (M.pieceT s.data.toList) = ⟨#[]⟩) := fun h => by rw [M.pieceT_none h]; rfl
  have hB0 : Hid (at0 s.data.toList (M.piece s.data.toList) 0 0) := .inl ⟨rfl, rfl, rfl⟩
  generalize s.data.toList = L at *
  go_enter Try.func107, Try.ntmps107
  go_wp2
  refine wp_scope_labels (fun l a' w' => w' = w ∧ ∃ (k o : Nat) (i j : Int), i = (k : Int) ∧ j = (o : Int) ∧ k ≤ s.size ∧ o ≤ k + 1 ∧ Fr s i j a' ∧ Hid (atL L (M.piece L) l k o)) (fun l a' _ => 3 * (s.size - (intOf (a'.tmps.getD 3 undef)).toNat) + rankOf l) (3 * s.size + 3) ?_ ?_
  · go_wp2
    go_step3
    by_cases hlt : 0 < s.size
    · have hi0 : (((0 : Nat) : Int) == (s.size : Int)) = false := beq_eq_false_iff_ne.2 (by omega)
      have hd0 := Lib.hid (hby.out (0) hlt)
      have hg0 := Lib.hid (hat.out (0) hlt)
      cases hc : M.isL s[0]
      · have hI := fun W => Lib.hid (hIs.out s[0] W)
        rw [hc] at hI
        by_cases h40 : s[0] = 40
        · have e40 : ((s[0].toNat : Int) != 40) = false := by rw [h40]; rfl
          have h2 : Hid (at1 L (M.piece L) (0 + 1) (0 + 1)) := at0_open hB0.out (by rw [hd0.out, h40])
          clear hd0 hg0 h40 hc
          go_wp2_with (go_at_call 98; refine (hI _).out.mono ?_; rintro e w' ⟨rfl, hw⟩; subst hw)
          go_step3
          by_cases hle : 0 + 1 < s.size
          · have hi1 : (((0 + 1 : Nat) : Int) == (s.size : Int)) = false := beq_eq_false_iff_ne.2 (by omega)
            have hd := Lib.hid (hby.out (0 + 1) hle)
            have hg := Lib.hid (hat.out (0 + 1) hle)
            by_cases h41 : s[0 + 1] = 41
            · have e41 : ((s[0 + 1].toNat : Int) != 41) = false := by rw [h41]; rfl
              obtain ⟨m, hm⟩ : ∃ m, 0 + 1 = m + 1 := ⟨0 + 1 - 1, by have := h2.out.1; omega⟩
              have hJ2 : Hid (at2 L (M.piece L) (0 + 1) m) := at1_shut (hm ▸ h2.out) (by rw [hd.out, h41]) (by have := hL.out; omega)
              have hw1 : IntKind.i64.wrap (((0 + 1 : Nat) : Int) - 1) = (m : Int) := by rw [IntWalk.i64_in _ (by omega)]; omega
              clear h41 hd hg
              by_cases h0 : 0 < m
              · have hoi : (0 : Int) < ((m : Nat) : Int) := by omega
                have hJ := Lib.hid (atL2 (at2_on hJ2.out h0))
                clear hEnd hNo hTk hby
                go_wp2
                all_goals go_step3
                all_goals go_wp2
                all_goals go_step3
                all_goals refine ⟨⟨rfl, 0 + 1 + 1, m, _, _, ?_, ?_, by omega, by omega, ⟨_, _, _, _, _, _, _, _, _, _, _, _, _, _, _, _, _, _, _, _, _, _, _, _, _, _, _, _, _, _, _, _, _, _, _, _, _, rfl⟩, hJ⟩, ?_⟩
                all_goals (first | omega | (simp [intOf, rankOf]; done) | (simp [intOf, rankOf]; omega))
              · obtain rfl : m = 0 := by omega
                have hE := Lib.hid (hEnd.out _ hJ2.out)
                clear hEnd hNo hby
                have hx := Lib.hid (hTk.out (0 + 1 + 1))
                go_wp2
                all_goals go_step3
                all_goals go_wp2
                all_goals simp only [jumpsTo]
                all_goals go_ret
                all_goals rw [hE.out, ← hx.out]
                all_goals exact ⟨rfl, rfl⟩
            · have e41 : ((s[0 + 1].toNat : Int) != 41) = true := ne_byte h41
              have hJ := Lib.hid (atL0 (at1_on h2.out fun c hc => by rw [hg.out] at hc; injection hc with hc; rw [← hc]; exact h41))
              clear hEnd hNo hTk hby h41 hd hg
              go_wp2
              all_goals go_step3
              all_goals refine ⟨⟨rfl, 0 + 1, 0 + 1, _, _, ?_, ?_, by omega, by omega, ⟨_, _, _, _, _, _, _, _, _, _, _, _, _, _, _, _, _, _, _, _, _, _, _, _, _, _, _, _, _, _, _, _, _, _, _, _, _, rfl⟩, hJ⟩, ?_⟩
              all_goals (first | omega | (simp [intOf, rankOf]; done) | (simp [intOf, rankOf]; omega))
          · have hi1 : (((0 + 1 : Nat) : Int) == (s.size : Int)) = true := beq_iff_eq.2 (by omega)
            have hJ := Lib.hid (atL0 (at1_on h2.out fun c hc => by have := (List.getElem?_eq_some_iff.1 hc).1; have := hL.out; omega))
            clear hEnd hNo hTk hby
            go_wp2
            all_goals go_step3
            all_goals refine ⟨⟨rfl, 0 + 1, 0 + 1, _, _, ?_, ?_, by omega, by omega, ⟨_, _, _, _, _, _, _, _, _, _, _, _, _, _, _, _, _, _, _, _, _, _, _, _, _, _, _, _, _, _, _, _, _, _, _, _, _, rfl⟩, hJ⟩, ?_⟩
            all_goals (first | omega | (simp [intOf, rankOf]; done) | (simp [intOf, rankOf]; omega))
        · have e40 : ((s[0].toNat : Int) != 40) = true := ne_byte h40
          have hE := Lib.hid (hNo.out (at0_bad hB0.out hd0.out hg0.out hc h40))
          clear hEnd hNo hTk hby hd0 hg0 hc h40
          go_wp2_with (go_at_call 98; refine (hI _).out.mono ?_; rintro e w' ⟨rfl, hw⟩; subst hw)
          simp only [jumpsTo]
          go_ret
          rw [hE.out]
          exact ⟨rfl, rfl⟩
      · have hI := fun W => Lib.hid (hIs.out s[0] W)
        rw [hc] at hI
        have hJ := Lib.hid (atL1 (at0_let hB0.out hd0.out (by have := hL.out; omega) hc))
        clear hEnd hNo hTk hby hd0 hg0 hc
        go_wp2_with (go_at_call 98; refine (hI _).out.mono ?_; rintro e w' ⟨rfl, hw⟩; subst hw)
        all_goals go_step3
        all_goals refine ⟨⟨rfl, 0, 0, _, _, ?_, ?_, by omega, by omega, ⟨_, _, _, _, _, _, _, _, _, _, _, _, _, _, _, _, _, _, _, _, _, _, _, _, _, _, _, _, _, _, _, _, _, _, _, _, _, rfl⟩, hJ⟩, ?_⟩
        all_goals (first | omega | (simp [intOf, rankOf]; done) | (simp [intOf, rankOf]; omega))
    · have hi0 : (((0 : Nat) : Int) == (s.size : Int)) = true := beq_iff_eq.2 (by omega)
      have hE := Lib.hid (hNo.out (at0_end hB0.out (List.drop_of_length_le (by have := hL.out; omega))))
      clear hEnd hNo hTk hby
      go_wp2
      simp only [jumpsTo]
      go_ret
      rw [hE.out]
      exact ⟨rfl, rfl⟩
  · rintro l a' w' ⟨rfl, k, o, i, j, rfl, rfl, hk, ho, ⟨u1, u2, u5, u6, u7, u8, u9, u10, u11, u12, u13, u14, u15, u16, u17, u18, u19, u20, u21, u22, u23, u24, u25, u26, u27, u28, u29, u30, u31, u32, u33, u34, u35, u36, u37, u38, u39, rfl⟩, hj⟩
    rcases hj.out with ⟨rfl, h⟩ | ⟨rfl, h⟩ | ⟨rfl, h⟩
    · refine ⟨_, rfl, ?_⟩
      replace h := Lib.hid h
      clear hj hB0
      by_cases hlt : k < s.size
      · have hi0 : (((k : Nat) : Int) == (s.size : Int)) = false := beq_eq_false_iff_ne.2 (by omega)
        have hd0 := Lib.hid (hby.out (k) hlt)
        have hg0 := Lib.hid (hat.out (k) hlt)
        cases hc : M.isL s[k]
        · have hI := fun W => Lib.hid (hIs.out s[k] W)
          rw [hc] at hI
          by_cases h40 : s[k] = 40
          · have e40 : ((s[k].toNat : Int) != 40) = false := by rw [h40]; rfl
            have h2 : Hid (at1 L (M.piece L) (k + 1) (o + 1)) := at0_open h.out (by rw [hd0.out, h40])
            clear hd0 hg0 h40 hc
            go_wp2_with (go_at_call 98; refine (hI _).out.mono ?_; rintro e w' ⟨rfl, hw⟩; subst hw)
            go_step3
            by_cases hle : k + 1 < s.size
            · have hi1 : (((k + 1 : Nat) : Int) == (s.size : Int)) = false := beq_eq_false_iff_ne.2 (by omega)
              have hd := Lib.hid (hby.out (k + 1) hle)
              have hg := Lib.hid (hat.out (k + 1) hle)
              by_cases h41 : s[k + 1] = 41
              · have e41 : ((s[k + 1].toNat : Int) != 41) = false := by rw [h41]; rfl
                obtain ⟨m, hm⟩ : ∃ m, o + 1 = m + 1 := ⟨o + 1 - 1, by have := h2.out.1; omega⟩
                have hJ2 : Hid (at2 L (M.piece L) (k + 1) m) := at1_shut (hm ▸ h2.out) (by rw [hd.out, h41]) (by have := hL.out; omega)
                have hw1 : IntKind.i64.wrap (((o + 1 : Nat) : Int) - 1) = (m : Int) := by rw [IntWalk.i64_in _ (by omega)]; omega
                clear h41 hd hg
                by_cases h0 : 0 < m
                · have hoi : (0 : Int) < ((m : Nat) : Int) := by omega
                  have hJ := Lib.hid (atL2 (at2_on hJ2.out h0))
                  clear hEnd hNo hTk hby
                  go_wp2
                  all_goals go_step3
                  all_goals go_wp2
                  all_goals go_step3
                  all_goals refine ⟨⟨rfl, k + 1 + 1, m, _, _, ?_, ?_, by omega, by omega, ⟨_, _, _, _, _, _, _, _, _, _, _, _, _, _, _, _, _, _, _, _, _, _, _, _, _, _, _, _, _, _, _, _, _, _, _, _, _, rfl⟩, hJ⟩, ?_⟩
                  all_goals (first | omega | (simp [intOf, rankOf]; done) | (simp [intOf, rankOf]; omega))
                · obtain rfl : m = 0 := by omega
                  have hE := Lib.hid (hEnd.out _ hJ2.out)
                  clear hEnd hNo hby
                  have hx := Lib.hid (hTk.out (k + 1 + 1))
                  go_wp2
                  all_goals go_step3
                  all_goals go_wp2
                  all_goals simp only [jumpsTo]
                  all_goals go_ret
                  all_goals rw [hE.out, ← hx.out]
                  all_goals exact ⟨rfl, rfl⟩
              · have e41 : ((s[k + 1].toNat : Int) != 41) = true := ne_byte h41
                have hJ := Lib.hid (atL0 (at1_on h2.out fun c hc => by rw [hg.out] at hc; injection hc with hc; rw [← hc]; exact h41))
                clear hEnd hNo hTk hby h41 hd hg
                go_wp2
                all_goals go_step3
                all_goals refine ⟨⟨rfl, k + 1, o + 1, _, _, ?_, ?_, by omega, by omega, ⟨_, _, _, _, _, _, _, _, _, _, _, _, _, _, _, _, _, _, _, _, _, _, _, _, _, _, _, _, _, _, _, _, _, _, _, _, _, rfl⟩, hJ⟩, ?_⟩
                all_goals (first | omega | (simp [intOf, rankOf]; done) | (simp [intOf, rankOf]; omega))
            · have hi1 : (((k + 1 : Nat) : Int) == (s.size : Int)) = true := beq_iff_eq.2 (by omega)
              have hJ := Lib.hid (atL0 (at1_on h2.out fun c hc => by have := (List.getElem?_eq_some_iff.1 hc).1; have := hL.out; omega))
              clear hEnd hNo hTk hby
              go_wp2
              all_goals go_step3
              all_goals refine ⟨⟨rfl, k + 1, o + 1, _, _, ?_, ?_, by omega, by omega, ⟨_, _, _, _, _, _, _, _, _, _, _, _, _, _, _, _, _, _, _, _, _, _, _, _, _, _, _, _, _, _, _, _, _, _, _, _, _, rfl⟩, hJ⟩, ?_⟩
              all_goals (first | omega | (simp [intOf, rankOf]; done) | (simp [intOf, rankOf]; omega))
          · have e40 : ((s[k].toNat : Int) != 40) = true := ne_byte h40
            have hE := Lib.hid (hNo.out (at0_bad h.out hd0.out hg0.out hc h40))
            clear hEnd hNo hTk hby hd0 hg0 hc h40
            go_wp2_with (go_at_call 98; refine (hI _).out.mono ?_; rintro e w' ⟨rfl, hw⟩; subst hw)
            simp only [jumpsTo]
            go_ret
            rw [hE.out]
            exact ⟨rfl, rfl⟩
        · have hI := fun W => Lib.hid (hIs.out s[k] W)
          rw [hc] at hI
          have hJ := Lib.hid (atL1 (at0_let h.out hd0.out (by have := hL.out; omega) hc))
          clear hEnd hNo hTk hby hd0 hg0 hc
          go_wp2_with (go_at_call 98; refine (hI _).out.mono ?_; rintro e w' ⟨rfl, hw⟩; subst hw)
          all_goals go_step3
          all_goals refine ⟨⟨rfl, k, o, _, _, ?_, ?_, by omega, by omega, ⟨_, _, _, _, _, _, _, _, _, _, _, _, _, _, _, _, _, _, _, _, _, _, _, _, _, _, _, _, _, _, _, _, _, _, _, _, _, rfl⟩, hJ⟩, ?_⟩
          all_goals (first | omega | (simp [intOf, rankOf]; done) | (simp [intOf, rankOf]; omega))
      · have hi0 : (((k : Nat) : Int) == (s.size : Int)) = true := beq_iff_eq.2 (by omega)
        have hE := Lib.hid (hNo.out (at0_end h.out (List.drop_of_length_le (by have := hL.out; omega))))
        clear hEnd hNo hTk hby
        go_wp2
        simp only [jumpsTo]
        go_ret
        rw [hE.out]
        exact ⟨rfl, rfl⟩
    · refine ⟨_, rfl, ?_⟩
      replace h := Lib.hid h
      clear hj hB0
      by_cases hle : k < s.size
      · have hi1 : (((k : Nat) : Int) == (s.size : Int)) = false := beq_eq_false_iff_ne.2 (by omega)
        have hd := Lib.hid (hby.out (k) hle)
        have hg := Lib.hid (hat.out (k) hle)
        by_cases h41 : s[k] = 41
        · have e41 : ((s[k].toNat : Int) != 41) = false := by rw [h41]; rfl
          obtain ⟨m, hm⟩ : ∃ m, o = m + 1 := ⟨o - 1, by have := h.out.1; omega⟩
          have hJ2 : Hid (at2 L (M.piece L) (k) m) := at1_shut (hm ▸ h.out) (by rw [hd.out, h41]) (by have := hL.out; omega)
          have hw1 : IntKind.i64.wrap (((o : Nat) : Int) - 1) = (m : Int) := by rw [IntWalk.i64_in _ (by omega)]; omega
          clear h41 hd hg
          by_cases h0 : 0 < m
          · have hoi : (0 : Int) < ((m : Nat) : Int) := by omega
            have hJ := Lib.hid (atL2 (at2_on hJ2.out h0))
            clear hEnd hNo hTk hby
            go_wp2
            all_goals go_step3
            all_goals go_wp2
            all_goals go_step3
            all_goals refine ⟨⟨rfl, k + 1, m, _, _, ?_, ?_, by omega, by omega, ⟨_, _, _, _, _, _, _, _, _, _, _, _, _, _, _, _, _, _, _, _, _, _, _, _, _, _, _, _, _, _, _, _, _, _, _, _, _, rfl⟩, hJ⟩, ?_⟩
            all_goals (first | omega | (simp [intOf, rankOf]; done) | (simp [intOf, rankOf]; omega))
          · obtain rfl : m = 0 := by omega
            have hE := Lib.hid (hEnd.out _ hJ2.out)
            clear hEnd hNo hby
            have hx := Lib.hid (hTk.out (k + 1))
            go_wp2
            all_goals go_step3
            all_goals go_wp2
            all_goals simp only [jumpsTo]
            all_goals go_ret
            all_goals rw [hE.out, ← hx.out]
            all_goals exact ⟨rfl, rfl⟩
        · have e41 : ((s[k].toNat : Int) != 41) = true := ne_byte h41
          have hJ := Lib.hid (atL0 (at1_on h.out fun c hc => by rw [hg.out] at hc; injection hc with hc; rw [← hc]; exact h41))
          clear hEnd hNo hTk hby h41 hd hg
          go_wp2
          all_goals go_step3
          all_goals refine ⟨⟨rfl, k, o, _, _, ?_, ?_, by omega, by omega, ⟨_, _, _, _, _, _, _, _, _, _, _, _, _, _, _, _, _, _, _, _, _, _, _, _, _, _, _, _, _, _, _, _, _, _, _, _, _, rfl⟩, hJ⟩, ?_⟩
          all_goals (first | omega | (simp [intOf, rankOf]; done) | (simp [intOf, rankOf]; omega))
      · have hi1 : (((k : Nat) : Int) == (s.size : Int)) = true := beq_iff_eq.2 (by omega)
        have hJ := Lib.hid (atL0 (at1_on h.out fun c hc => by have := (List.getElem?_eq_some_iff.1 hc).1; have := hL.out; omega))
        clear hEnd hNo hTk hby
        go_wp2
        all_goals go_step3
        all_goals refine ⟨⟨rfl, k, o, _, _, ?_, ?_, by omega, by omega, ⟨_, _, _, _, _, _, _, _, _, _, _, _, _, _, _, _, _, _, _, _, _, _, _, _, _, _, _, _, _, _, _, _, _, _, _, _, _, rfl⟩, hJ⟩, ?_⟩
        all_goals (first | omega | (simp [intOf, rankOf]; done) | (simp [intOf, rankOf]; omega))
    · refine ⟨_, rfl, ?_⟩
      replace h := Lib.hid h
      clear hj hB0
      have hlt : k < s.size := by have := h.out.1; have := hL.out; omega
      by_cases h0 : 0 < o
      · have hoi : (0 : Int) < ((o : Nat) : Int) := by omega
        have hJ := Lib.hid (atL2 (at2_on h.out h0))
        clear hEnd hNo hTk hby
        go_wp2
        all_goals go_step3
        all_goals refine ⟨⟨rfl, k + 1, o, _, _, ?_, ?_, by omega, by omega, ⟨_, _, _, _, _, _, _, _, _, _, _, _, _, _, _, _, _, _, _, _, _, _, _, _, _, _, _, _, _, _, _, _, _, _, _, _, _, rfl⟩, hJ⟩, ?_⟩
        all_goals (first | omega | (simp [intOf, rankOf]; done) | (simp [intOf, rankOf]; omega))
      · obtain rfl : o = 0 := by omega
        have hE := Lib.hid (hEnd.out _ h.out)
        clear hEnd hNo hby
        have hx := Lib.hid (hTk.out (k + 1))
        go_wp2
        all_goals simp only [jumpsTo]
        all_goals go_ret
        all_goals rw [hE.out, ← hx.out]
        all_goals exact ⟨rfl, rfl⟩
end Go.Proofs.Ytbdmmeoelagdcaa
