/- piecesAtLetters: what has to stand at the letters of a pattern. -/
import Derived.Test.YtbdmmeoelagdcaaPieceOf
import Derived.Test.YtbdmmeoelagdcaaStrs
namespace Go.Proofs.Ytbdmmeoelagdcaa
open Go.RowKit

/-- what both readers hand back -/
def MtQ (R : Option (List (List UInt8))) (w : World) (e : Ending) (w' : World) : Prop :=
  ∃ (A : Option Addr) (n c : Nat), e = .returned (.tuple #[.slice A n c, .bool R.isSome]) ∧ Hid (Below w.heap.size w w') ∧ Hid (OwnS w' w.heap.size (.slice A n c) ((R.getD []).map M.bs))
theorem cut_one (s : ByteArray) {k : Nat} (h : k < s.size) : s.extract k (k + 1) = M.bs [s[k]] := by
  rw [Lib.extract_eq, byte_here s h, show k + 1 - k = 1 by omega]
  rfl
theorem cut_from (s : ByteArray) (k : Nat) : s.extract k s.size = M.bs (s.data.toList.drop k) := by
  rw [Lib.extract_eq, Lib.size_eq, List.take_of_length_le (by rw [List.length_drop]; omega)]
  rfl
theorem bs_eq_nil (l : List UInt8) : ((M.bs l).toList == []) = l.isEmpty := by
  rw [Lib.toList_data, M.bs_data]
  cases l <;> rfl
theorem prefix_one (c : UInt8) (T : List UInt8) : Lib.hasPrefix T [c] = match T with | [] => false | d :: _ => d == c := by
  cases T with
  | nil => rfl
  | cons d T => simp only [Lib.hasPrefix, List.isPrefixOf, Bool.and_true]; exact Bool.beq_comm
theorem prefix_take (T : List UInt8) (m : Nat) : Lib.hasPrefix T (T.take m) = true := by
  rw [Lib.hasPrefix, List.isPrefixOf_iff_prefix]
  exact List.take_prefix m T
theorem map_app {α : Type} (R : Option (List α)) (a b : List α) : (R.map (a ++ ·)).map (b ++ ·) = R.map ((b ++ a) ++ ·) := by cases R <;> simp
theorem map_cons {α : Type} (R : Option (List α)) (a : List α) (x : α) : (R.map (x :: ·)).map (a ++ ·) = R.map ((a ++ [x]) ++ ·) := by cases R <;> simp

set_option maxRecDepth 100000 in
set_option maxHeartbeats 4000000 in
theorem piecesAtLetters (p t : ByteArray) (w : World) (hp : p.size ≤ 1000000) (ht : t.size ≤ 1048576) :
    Calls Try.prog 78 #[.string p, .string t] w (MtQ (M.mt p.data.toList t.data.toList) w) := by
  have hL : Hid (p.data.toList.length = p.size) := (Lib.size_eq p).symm
  have hby : Hid (∀ k (h : k < p.size), p.data.toList.drop k = p[k] :: p.data.toList.drop (k + 1)) := fun _ h => byte_here p h
  have hcut : Hid (∀ (k : Nat) (h : k < p.size) (W : World), (Instr.slice 9 (.string p) (some (.int .i64 (k : Int))) (some (.int .i64 ((k : Int) + 1))) none).run Try.prog W = .ok (.string (M.bs [p[k]])) W) := fun k h W => by
    have := run_slice_string (P := Try.prog) W 9 p .i64 .i64 (k : Int) ((k : Int) + 1) Try.underlying9 (by omega) (by omega) (by omega)
    rw [this, show ((k : Int)).toNat = k by omega, show ((k : Int) + 1).toNat = k + 1 by omega, cut_one p h]
  obtain ⟨R, hR⟩ : ∃ R, M.mt p.data.toList t.data.toList = R := ⟨_, rfl⟩
  obtain ⟨Q, hQ⟩ : ∃ Q, MtQ R w = Q := ⟨_, rfl⟩
  have hNone : Hid (R = none → ∀ w', Hid (Below w.heap.size w w') → Q (.returned (.tuple #[.slice none 0 0, .bool false])) w') := fun h w' hb => by
    rw [← hQ, h]
    exact ⟨none, 0, 0, rfl, hb, Lib.hid (ownS_nil _ _)⟩
  have hSome : Hid (∀ ts w' A n c, R = some ts → Hid (Below w.heap.size w w') → Hid (OwnS w' w.heap.size (.slice A n c) (ts.map M.bs)) → Q (.returned (.tuple #[.slice A n c, .bool true])) w') := fun ts w' A n c h hb ho => by
    rw [← hQ, h]
    exact ⟨A, n, c, rfl, hb, ho⟩
  have hIs : Hid (∀ c W, Calls Try.prog 98 #[.int .u8 ((c : UInt8).toNat : Int)] W fun e w' => e = .returned (.bool (M.isL c)) ∧ w' = W) := isLetter
  have hst : Hid ((M.mt (p.data.toList.drop 0) t.data.toList).map (([] : List (List UInt8)) ++ ·) = R) := by
    show _ = _
    rw [List.drop_zero, hR]
    cases R <;> rfl
  have hb0 := Lib.hid (b0 w)
  have ho0 := Lib.hid (ownS_nil w w.heap.size)
  rw [hR, hQ]
  clear hR hQ
  generalize p.data.toList = P at *
  go_enter Try.func78, Try.ntmps78
  go_wp2
  go_loopw [1, 6, 11] (fun qt qs qi wr => ∃ (k n c : Nat) (A : Option Addr) (u : ByteArray) (ts : List (List UInt8)), k ≤ p.size ∧ qi = .int .i64 (k : Int) ∧ qt = .string u ∧ u.size ≤ 1048576 ∧ n ≤ k ∧ qs = .slice A n c ∧ Hid (OwnS wr w.heap.size (.slice A n c) (ts.map M.bs)) ∧ Hid (Below w.heap.size w wr) ∧ Hid ((M.mt (P.drop k) u.data.toList).map (ts ++ ·) = R)) (fun _ _ qi _ => p.size - (intOf qi).toNat)
  case atStart => exact ⟨0, 0, 0, none, t, [], by omega, rfl, rfl, ht, by omega, rfl, ho0, hb0, hst⟩
  case round =>
    obtain ⟨k, n, c, A, u, ts, hk, rfl, rfl, hu, hn, rfl, hO, hB, hM⟩ := hrel
    clear hst ho0 hb0
    by_cases hlt : k < p.size
    · have hki : (k : Int) < (p.size : Int) := by omega
      have hd := Lib.hid (hby.out k hlt)
      have hsl := hcut.out k hlt
      have hU : Hid (u.data.toList.length = u.size) := (Lib.size_eq u).symm
      have hHP : Hid (∀ (S : List UInt8) W, Calls Try.prog 134 #[.string u, .string (M.bs S)] W fun e w' => e = .returned (.bool (Lib.hasPrefix u.data.toList S)) ∧ w' = W) := fun S W => Try.strings_HasPrefix u (M.bs S) W
      have hrest : Hid (∀ (S : List UInt8) (m : Nat) W, S.length = m → m ≤ u.size → (Instr.slice 9 (.string u) (some (.int .i64 ((M.bs S).size : Int))) none none).run Try.prog W = .ok (.string (M.bs (u.data.toList.drop m))) W) := fun S m W h1 h2 => by
        have := run_slice_string_l (P := Try.prog) W 9 u Try.underlying9 .i64 ((M.bs S).size : Int) (by omega) (by rw [M.bs_size]; omega)
        rw [this, M.bs_size, h1, show ((m : Int)).toNat = m by omega, cut_from]
      have hIK := fun W => Lib.hid (hIs.out p[k] W)
      cases hc : M.isL p[k]
      · rw [hc] at hIK
        have hZ0 : ((M.bs [p[k]]).toList == []) = false := by rw [bs_eq_nil]; rfl
        have hpre := fun W => Lib.hid (hHP.out [p[k]] W)
        cases hT : u.data.toList with
        | nil =>
          rw [hT] at hpre hM
          have hN := Lib.hid (hNone.out (by rw [← hM.out, hd.out, M.mt_end]; rfl) wr hB)
          rw [show Lib.hasPrefix [] [p[k]] = false from rfl] at hpre
          clear hd hNone hSome hHP hrest hM hT hby hcut hIs hc hO
          generalize M.bs [p[k]] = Z at *
          go_wp2_with (first | (go_at_call 98; refine (hIK _).out.mono ?_; rintro e w' ⟨rfl, hw⟩; subst hw) | (go_at_call 134; refine (hpre _).out.mono ?_; rintro e w' ⟨rfl, hw⟩; subst hw))
          exact hN.out
        | cons d T =>
          by_cases hdc : d = p[k]
          · have hpr : Lib.hasPrefix u.data.toList [p[k]] = true := by rw [hT, prefix_one]; simp [hdc]
            rw [hpr] at hpre
            have hu1 : 1 ≤ u.size := by rw [← hU.out, hT]; simp
            have hnx : u.data.toList.drop 1 = T := by rw [hT]; rfl
            have hr1 := fun W => hrest.out [p[k]] 1 W rfl hu1
            rw [hnx] at hr1
            have hTs : (M.bs T).size ≤ 1048576 := by rw [M.bs_size]; have := hU.out; rw [hT, List.length_cons] at this; omega
            have hM' : Hid ((M.mt (P.drop (k + 1)) (M.bs T).data.toList).map (ts ++ ·) = R) := by
              show _ = _
              rw [← hM.out, hd.out, hT, hdc, M.mt_same hc, M.bs_data]
            clear hd hNone hSome hHP hrest hM hT hby hcut hIs hc hpr hnx hdc
            generalize M.bs [p[k]] = Z at *
            generalize M.bs T = u' at *
            go_wp2_with (first | (go_at_call 98; refine (hIK _).out.mono ?_; rintro e w' ⟨rfl, hw⟩; subst hw) | (go_at_call 134; refine (hpre _).out.mono ?_; rintro e w' ⟨rfl, hw⟩; subst hw))
            go_roundw
            case rel => exact ⟨k + 1, n, c, A, u', ts, by omega, by go_num, rfl, hTs, by omega, rfl, hO, hB, hM'⟩
            case measure => simp [intOf]; omega
          · have hpr : Lib.hasPrefix u.data.toList [p[k]] = false := by rw [hT, prefix_one]; exact beq_eq_false_iff_ne.2 hdc
            rw [hpr] at hpre
            have hN := Lib.hid (hNone.out (by rw [← hM.out, hd.out, hT, M.mt_other hc _ _ hdc]; rfl) wr hB)
            clear hd hNone hSome hHP hrest hM hT hby hcut hIs hc hO hpr hdc
            generalize M.bs [p[k]] = Z at *
            go_wp2_with (first | (go_at_call 98; refine (hIK _).out.mono ?_; rintro e w' ⟨rfl, hw⟩; subst hw) | (go_at_call 134; refine (hpre _).out.mono ?_; rintro e w' ⟨rfl, hw⟩; subst hw))
            exact hN.out
      · rw [hc] at hIK
        have hPc := fun W => Lib.hid (pieceOf u W hu)
        have hn6 : n ≤ 1000000 := by omega
        have hzr := hB.out.size
        cases hr : M.piece u.data.toList with
        | none =>
          have hN : Hid (∀ w', Hid (Below w.heap.size w w') → Q (.returned (.tuple #[.slice none 0 0, .bool false])) w') := hNone.out (by rw [← hM.out, hd.out, M.mt_none hc _ hr]; rfl)
          have hZ0 : ((M.bs ([] : List UInt8)).toList == []) = true := by rw [bs_eq_nil]; rfl
          rw [M.pieceT_none hr] at hPc
          clear hd hNone hSome hHP hrest hM hby hcut hIs hc hr
          generalize M.bs [] = Z at *
          go_wp2_with (first | (go_at_call 98; refine (hIK _).out.mono ?_; rintro e w' ⟨rfl, hw⟩; subst hw) | (go_at_call 107; refine (hPc _).out.mono ?_; rintro e w' ⟨rfl, hw⟩; subst hw) | (at_builtin; refine pushS rfl (.tmp 25) (.tmp 27) rfl _ w.heap.size A n c (ts.map M.bs) Z rfl rfl hO hzr hn6 ?_; intro A2 c2 w2 ho2 hb2))
          have hb3 := Lib.hid (hB.out.trans hb2.out)
          exact hN.out _ hb3
        | some r =>
          have hrl := M.piece_drop hr
          obtain ⟨m, hm⟩ : ∃ m, u.data.toList.length - r.length = m := ⟨_, rfl⟩
          have hm1 : 1 ≤ m := by omega
          have hmu : m ≤ u.size := by rw [← hU.out]; omega
          have hrm : u.data.toList.drop m = r := by rw [← hm]; exact hrl.2
          have hrs : (M.bs r).size ≤ 1048576 := by rw [M.bs_size]; have := hU.out; omega
          have hlen : (u.data.toList.take m).length = m := by rw [List.length_take, hU.out]; omega
          rw [M.pieceT_some hr, hm] at hPc
          have hpre := fun W => Lib.hid (hHP.out (u.data.toList.take m) W)
          rw [prefix_take] at hpre
          have hr1 := fun W => hrest.out (u.data.toList.take m) m W hlen hmu
          rw [hrm] at hr1
          have hZ0 : ((M.bs (u.data.toList.take m)).toList == []) = false := by
            rw [bs_eq_nil]
            cases h : u.data.toList.take m with
            | nil => rw [h] at hlen; simp at hlen; omega
            | cons x y => rfl
          have hM' : Hid ((M.mt (P.drop (k + 1)) (M.bs r).data.toList).map ((ts ++ [u.data.toList.take m]) ++ ·) = R) := by
            show _ = _
            rw [← hM.out, hd.out, M.mt_let hc _ hr, hm, map_cons, M.bs_data]
          have hts : Hid ((ts ++ [u.data.toList.take m]).map M.bs = ts.map M.bs ++ [M.bs (u.data.toList.take m)]) := by simp [Hid]
          clear hd hNone hSome hHP hrest hM hby hcut hIs hc hr hrm hm hrl hlen hU
          generalize M.bs r = u' at *
          generalize u.data.toList.take m = Y at *
          generalize ts ++ [Y] = ts' at *
          generalize M.bs Y = Z at *
          go_wp2_with (first | (go_at_call 98; refine (hIK _).out.mono ?_; rintro e w' ⟨rfl, hw⟩; subst hw) | (go_at_call 107; refine (hPc _).out.mono ?_; rintro e w' ⟨rfl, hw⟩; subst hw) | (at_builtin; refine pushS rfl (.tmp 25) (.tmp 27) rfl _ w.heap.size A n c (ts.map M.bs) Z rfl rfl hO hzr hn6 ?_; intro A2 c2 w2 ho2 hb2) | (go_at_call 134; refine (hpre _).out.mono ?_; rintro e w' ⟨rfl, hw⟩; subst hw))
          have hb3 := Lib.hid (hB.out.trans hb2.out)
          rw [← hts.out] at ho2
          clear hb2 hB hO hts
          go_roundw
          case rel => exact ⟨k + 1, n + 1, c2, A2, u', ts', by omega, by go_num, rfl, hrs, by omega, rfl, ho2, hb3, hM'⟩
          case measure => simp [intOf]; omega
    · obtain rfl : k = p.size := by omega
      have hR1 : R = some ts := by rw [← hM.out, List.drop_of_length_le (by have := hL.out; omega), M.mt_nil]; simp
      have hF := Lib.hid (hSome.out ts wr A n c hR1 hB hO)
      clear hNone hSome hM hby hcut hIs hR1
      go_wp2
      exact hF.out
end Go.Proofs.Ytbdmmeoelagdcaa
