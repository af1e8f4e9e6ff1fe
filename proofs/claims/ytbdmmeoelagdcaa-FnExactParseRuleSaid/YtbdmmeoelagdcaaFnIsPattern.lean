/- IsPattern, the program's and the model's. -/
import Derived.Test.YtbdmmeoelagdcaaPieceOf
import Derived.Test.YtbdmmeoelagdcaaEndU
namespace Go.Proofs.Ytbdmmeoelagdcaa
open Go.RowKit

def F_IsPattern (s : ByteArray) : Bool := M.isPat s.data.toList
theorem letters_cut (k : Nat) (h : k < 8) : (⟨#[97, 98, 99, 100, 101, 102, 103, 104]⟩ : ByteArray).extract k (k + 1) = ⟨#[UInt8.ofNat (97 + k)]⟩ := by
  have : ∀ k : Fin 8, (⟨#[97, 98, 99, 100, 101, 102, 103, 104]⟩ : ByteArray).extract k.1 (k.1 + 1) = ⟨#[UInt8.ofNat (97 + k.1)]⟩ := by decide +kernel
  exact this ⟨k, h⟩
theorem count_cnt (l : List UInt8) (k : Nat) (h : k < 8) : Lib.countByte l (UInt8.ofNat (97 + k)) = M.cntL l k := by
  rw [Lib.countByte, M.cntL, List.count]
  congr 1
  funext c
  have h1 : (UInt8.ofNat (97 + k)).toNat = 97 + k := by rw [UInt8.toNat_ofNat']; omega
  rw [Bool.eq_iff_iff, beq_iff_eq, beq_iff_eq]
  exact ⟨fun e => by rw [e, h1], fun e => UInt8.toNat_inj.1 (by rw [e, h1])⟩
theorem piece_self (l : List UInt8) (h : l ≠ []) : (M.pieceT l == l) = (M.piece l == some []) := by
  cases hp : M.piece l with
  | none => rw [M.pieceT_none hp, beq_eq_false_iff_ne.2 (Ne.symm h)]; rfl
  | some r =>
    rw [M.pieceT_some hp]
    have h1 := (M.piece_drop hp).1
    cases r with
    | nil => simp
    | cons c r =>
      have : (l.take (l.length - (c :: r).length) == l) = false := beq_eq_false_iff_ne.2 fun e => by
        have := congrArg List.length e
        rw [List.length_take] at this
        simp only [List.length_cons] at *
        omega
      rw [this]
      rfl
theorem isPat_parts (l : List UInt8) (h : l ≠ []) (h60 : l.length ≤ 60) : M.isPat l = ((M.pieceT l == l) && ((List.range 8).all fun i => decide (M.cntL l i ≤ 1))) := by
  rw [M.isPat, piece_self l h, decide_eq_true h60, decide_eq_true (List.length_pos_iff.2 h)]
  simp

theorem slice_at (S : ByteArray) (i j : Int) (w : World) (h0 : 0 ≤ i) (h1 : i ≤ j) (h2 : j ≤ (S.size : Int)) : (Instr.slice 9 (.string S) (some (.int .i64 i)) (some (.int .i64 j)) none).run Try.prog w = .ok (.string (S.extract i.toNat j.toNat)) w :=
  run_slice_string (P := Try.prog) w 9 S .i64 .i64 i j Try.underlying9 h0 h1 h2

namespace M
/-- a piece of 1 to 60 bytes -/
def isPiece (l : List UInt8) : Bool := decide (0 < l.length) && decide (l.length ≤ 60) && (piece l == some [])
theorem isPat_piece (l : List UInt8) : isPat l = (isPiece l && ((List.range 8).all fun i => decide (cntL l i ≤ 1))) := rfl
end M

set_option maxRecDepth 100000 in
set_option maxHeartbeats 2000000 in
theorem isPieceIn (s : ByteArray) (w : World) (hs : s.size ≤ 1048576) : Calls Try.prog 66 #[.string s] w fun e w' => e = .returned (.bool (M.isPiece s.data.toList)) ∧ w' = w := by
  have hL : Hid (s.data.toList.length = s.size) := (Lib.size_eq s).symm
  by_cases h0 : s.size = 0
  · have hl0 : s.data.toList = [] := List.eq_nil_of_length_eq_zero (by rw [hL.out, h0])
    have e0 : (s.toList == []) = true := by rw [Lib.toList_data, hl0]; rfl
    rw [hl0, show M.isPiece [] = false from rfl]
    clear hl0
    go_enter Try.func66, Try.ntmps66
    go_wp2
    go_ret
    exact ⟨rfl, rfl⟩
  · have hne : s.data.toList ≠ [] := fun e => h0 (by rw [← hL.out, e]; rfl)
    have e0 : (s.toList == []) = false := by rw [Lib.toList_data]; exact beq_eq_false_iff_ne.2 hne
    by_cases h60 : s.size ≤ 60
    · have hi : (s.size : Int) ≤ 60 := by omega
      have hP := Lib.hid (pieceOf s w hs)
      have hF : Hid (M.isPiece s.data.toList = (M.pieceT s.data.toList == s.data.toList)) := by
        show _ = _
        rw [M.isPiece, piece_self s.data.toList hne, decide_eq_true (by rw [hL.out]; omega : s.data.toList.length ≤ 60), decide_eq_true (List.length_pos_iff.2 hne)]
        simp
      have hcmp : Hid (((M.bs (M.pieceT s.data.toList)).toList == s.toList) = (M.pieceT s.data.toList == s.data.toList)) := by
        show _ = _
        rw [Lib.toList_data, Lib.toList_data, M.bs_data]
      rw [hF.out, ← hcmp.out]
      clear hF hcmp h60 h0 hne
      obtain ⟨q, hq⟩ : ∃ q, ((M.bs (M.pieceT s.data.toList)).toList == s.toList) = q := ⟨_, rfl⟩
      rw [hq]
      go_enter Try.func66, Try.ntmps66
      go_wp2_with (go_at_call 107; refine hP.out.mono ?_; rintro e w' ⟨rfl, hw⟩; subst hw)
      go_ret
      exact ⟨rfl, rfl⟩
    · have hi : ¬ (s.size : Int) ≤ 60 := by omega
      have hF : M.isPiece s.data.toList = false := by
        rw [M.isPiece, decide_eq_false (by rw [hL.out]; omega : ¬ s.data.toList.length ≤ 60)]
        simp
      rw [hF]
      clear hF
      go_enter Try.func66, Try.ntmps66
      go_wp2
      go_ret
      exact ⟨rfl, rfl⟩

set_option maxRecDepth 100000 in
set_option maxHeartbeats 2000000 in
theorem impl_IsPattern : GivesP1 19 F_IsPattern := by
  intro s w hs
  rw [F_IsPattern, M.isPat_piece]
  have hP := Lib.hid (isPieceIn s w hs)
  cases hq : M.isPiece s.data.toList
  · rw [hq] at hP
    rw [Bool.false_and]
    clear hq
    go_enter Try.func19, Try.ntmps19
    go_wp2_with (go_at_call 66; refine hP.out.mono ?_; rintro e w' ⟨rfl, hw⟩; subst hw)
    go_ret
    exact ⟨rfl, Lib.hid (b0 _)⟩
  · rw [hq] at hP
    rw [Bool.true_and]
    clear hq
    have hall : Hid (∀ k : Nat, k < 8 → ¬ M.cntL s.data.toList k ≤ 1 → ((List.range 8).all fun i => decide (M.cntL s.data.toList i ≤ 1)) = false) := fun k hk h => List.all_eq_false.2 ⟨k, List.mem_range.2 hk, by simp; omega⟩
    have hCt : Hid (∀ (k : Nat) W, k < 8 → Calls Try.prog 67 #[.string s, .string ⟨#[UInt8.ofNat (97 + k)]⟩] W fun e w' => e = .returned (.int .i64 (M.cntL s.data.toList k : Int)) ∧ w' = W) := fun k W hk => by
      have := Try.strings_Count_one s (UInt8.ofNat (97 + k)) W
      rwa [count_cnt _ k hk] at this
    have hSl : Hid (∀ k : Nat, k < 8 → ∀ W, (Instr.slice 9 (.string ⟨#[97, 98, 99, 100, 101, 102, 103, 104]⟩) (some (.int .i64 (k : Int))) (some (.int .i64 ((k : Int) + 1))) none).run Try.prog W = .ok (.string ⟨#[UInt8.ofNat (97 + k)]⟩) W) := fun k hk W => by
      have := slice_at ⟨#[97, 98, 99, 100, 101, 102, 103, 104]⟩ k ((k : Int) + 1) W (by omega) (by omega) (by show (k : Int) + 1 ≤ 8; omega)
      rw [this, show ((k : Int)).toNat = k by omega, show ((k : Int) + 1).toNat = k + 1 by omega, letters_cut k hk]
    have hst : Hid ((List.range 0).all (fun i => decide (M.cntL s.data.toList i ≤ 1)) = true) := rfl
    generalize s.data.toList = L at *
    go_enter Try.func19, Try.ntmps19
    go_wp2_with (go_at_call 66; refine hP.out.mono ?_; rintro e w' ⟨rfl, hw⟩; subst hw)
    clear hP
    go_loopw [7] (fun qi wr => ∃ (k : Nat), k ≤ 8 ∧ qi = .int .i64 (k : Int) ∧ wr = w' ∧ Hid ((List.range k).all (fun i => decide (M.cntL L i ≤ 1)) = true)) (fun qi _ => 8 - (intOf qi).toNat)
    case atStart => exact ⟨0, by omega, rfl, rfl, hst⟩
    case round =>
      obtain ⟨k, hk, rfl, rfl, hg⟩ := hrel
      by_cases hlt : k < 8
      · have hki : (k : Int) < 8 := by omega
        have H1 := Lib.hid (hCt.out k wr hlt)
        have H2 := hSl.out k hlt
        generalize (⟨#[UInt8.ofNat (97 + k)]⟩ : ByteArray) = C at H1 H2
        by_cases hc : M.cntL L k ≤ 1
        · have hci : ¬ (1 : Int) < (M.cntL L k : Int) := by omega
          have hN : Hid ((List.range (k + 1)).all (fun i => decide (M.cntL L i ≤ 1)) = true) := by
            show _ = _
            rw [List.range_succ, List.all_append, hg.out]
            simp [hc]
          clear hall hc
          go_wp2_with (go_at_call 67; refine H1.out.mono ?_; rintro e w' ⟨rfl, hw⟩; subst hw)
          go_roundw
          case rel => exact ⟨k + 1, by omega, by go_num, trivial, hN⟩
          case measure => simp [intOf]; omega
        · have hci : (1 : Int) < (M.cntL L k : Int) := by omega
          have hE := Lib.hid (hall.out k hlt hc)
          clear hall hc
          go_wp2_with (go_at_call 67; refine H1.out.mono ?_; rintro e w' ⟨rfl, hw⟩; subst hw)
          go_ret
          rw [hE.out]
          exact ⟨rfl, Lib.hid (b0 _)⟩
      · obtain rfl : k = 8 := by omega
        go_wp2
        go_ret
        rw [hg.out]
        exact ⟨rfl, Lib.hid (b0 _)⟩

set_option maxRecDepth 100000 in
theorem spec_IsPattern : GivesP1 18 F_IsPattern := by
  intro s w hs
  have hC := Lib.hid (l04Is s w hs)
  rw [F_IsPattern]
  generalize M.isPat s.data.toList = b at *
  go_enter Try.func18, Try.ntmps18
  go_wp2_with (go_at_call 65; refine hC.out.mono ?_; rintro e w' ⟨rfl, hb⟩)
  go_ret
  exact ⟨rfl, hb⟩
end Go.Proofs.Ytbdmmeoelagdcaa
