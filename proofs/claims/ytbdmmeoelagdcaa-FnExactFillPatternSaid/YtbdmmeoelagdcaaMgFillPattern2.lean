/- piecesAtLetters: what has to stand at the letters of a pattern. -/
import Derived.Test.YtbdmmeoelagdcaaMgFillPattern1
import Derived.Laws.IdiomStrings
import Derived.Laws.AppendOwnNone
import Derived.WalkSpells
import Derived.RangeFuncRecord
import Derived.RangeFuncNested
import Derived.RangeFuncBound
import Derived.RangeFuncCalls
import Derived.RangeFuncLeaves
import Derived.Shelf.Abstract
import Derived.OwnWalkIn
import Derived.TacticsInMore
import Derived.LoopNIn
import Derived.LoopIn
import Derived.Maps.OwnIn
import Derived.Shelf.RegionOpen
namespace Go.Proofs.Ytbdmmeoelagdcaa
open Go.RowKit

/-- what both readers hand back -/
def MtQ (R : Option (List (List UInt8))) (w : World) (e : Ending) (w' : World) : Prop :=
  ∃ (A : Option Addr) (n c : Nat), e = .returned (.tuple #[.slice A n c, .bool R.isSome]) ∧ Hid (Below w.heap.size w w') ∧ Hid (OwnS w' w.heap.size (.slice A n c) ((R.getD []).map M.bs))
theorem cut_one (s : ByteArray) {k : Nat} (h : k < s.size) : s.extract k (k + 1) = M.bs [s[k]] := by
  rw [Lib.extract_eq, byte_here s h, show k + 1 - k = 1 by omega]
  rfl
theorem cut_from (s : ByteArray) (k : Nat) : s.extract k s.size = M.bs (s.data.toList.drop k) := by
  rw [Lib.extract_eq, Lib.size_eq, List.take_of_length_le (by rw [List.length_drop]; omega)]
  rfl
theorem bs_eq_nil (l : List UInt8) : ((M.bs l).toList == []) = l.isEmpty := by
  rw [Lib.toList_data, M.bs_data]
  cases l <;> rfl
theorem prefix_one (c : UInt8) (T : List UInt8) : Lib.hasPrefix T [c] = match T with | [] => false | d :: _ => d == c := by
  cases T with
  | nil => rfl
  | cons d T => simp only [Lib.hasPrefix, List.isPrefixOf, Bool.and_true]; exact Bool.beq_comm
theorem prefix_take (T : List UInt8) (m : Nat) : Lib.hasPrefix T (T.take m) = true := by
  rw [Lib.hasPrefix, List.isPrefixOf_iff_prefix]
  exact List.take_prefix m T
theorem map_app {α : Type} (R : Option (List α)) (a b : List α) : (R.map (a ++ ·)).map (b ++ ·) = R.map ((b ++ a) ++ ·) := by cases R <;> simp
theorem map_cons {α : Type} (R : Option (List α)) (a : List α) (x : α) : (R.map (x :: ·)).map (a ++ ·) = R.map ((a ++ [x]) ++ ·) := by cases R <;> simp

set_option maxRecDepth 100000 in
set_option maxHeartbeats 4000000 in
theorem piecesAtLetters (p t : ByteArray) (w : World) (hp : p.size ≤ 1000000) (ht : t.size ≤ 1048576) :
    Calls Try.prog 78 #[.string p, .string t] w (MtQ (M.mt p.data.toList t.data.toList) w) := by
  have hL : Hid (p.data.toList.length = p.size) := (Lib.size_eq p).symm
  have hby : Hid (∀ k (h : k < p.size), p.data.toList.drop k = p[k] :: p.data.toList.drop (k + 1)) := fun _ h => byte_here p h
  have hcut : Hid (∀ (k : Nat) (h : k < p.size) (W : World), (Instr.slice 9 (.string p) (some (.int .i64 (k : Int))) (some (.int .i64 ((k : Int) + 1))) none).run Try.prog W = .ok (.string (M.bs [p[k]])) W) := fun k h W => by
    have := run_slice_string (P := Try.prog) W 9 p .i64 .i64 (k : Int) ((k : Int) + 1) Try.underlying9 (by omega) (by omega) (by omega)
    rw [this, show ((k : Int)).toNat = k by omega, show ((k : Int) + 1).toNat = k + 1 by omega, cut_one p h]
  obtain ⟨R, hR⟩ : ∃ R, M.mt p.data.toList t.data.toList = R := ⟨_, rfl⟩
  obtain ⟨Q, hQ⟩ : ∃ Q, MtQ R w = Q := ⟨_, rfl⟩
  have hNone : Hid (R = none → ∀ w', Hid (Below w.heap.size w w') → Q (.returned (.tuple #[.slice none 0 0, .bool false])) w') := fun h w' hb => by
    rw [← hQ, h]
    exact ⟨none, 0, 0, rfl, hb, Lib.hid (ownS_nil _ _)⟩
  have hSome : Hid (∀ ts w' A n c, R = some ts → Hid (Below w.heap.size w w') → Hid (OwnS w' w.heap.size (.slice A n c) (ts.map M.bs)) → Q (.returned (.tuple #[.slice A n c, .bool true])) w') := fun ts w' A n c h hb ho => by
    rw [← hQ, h]
    exact ⟨A, n, c, rfl, hb, ho⟩
  have hIs : Hid (∀ c W, Calls Try.prog 98 #[.int .u8 ((c : UInt8).toNat : Int)] W fun e w' => e = .returned (.bool (M.isL c)) ∧ w' = W) := isLetter
  have hst : Hid ((M.mt (p.data.toList.drop 0) t.data.toList).map (([] : List (List UInt8)) ++ ·) = R) := by
    show _ = _
    rw [List.drop_zero, hR]
    cases R <;> rfl
  have hb0 := Lib.hid (b0 w)
  have ho0 := Lib.hid (ownS_nil w w.heap.size)
  rw [hR, hQ]
  clear hR hQ
  generalize p.data.toList = P at *
  go_enter Try.func78, Try.ntmps78
  go_wp2
  go_loopw [1, 6, 11] (fun qt qs qi wr => ∃ (k n c : Nat) (A : Option Addr) (u : ByteArray) (ts : List (List UInt8)), k ≤ p.size ∧ qi = .int .i64 (k : Int) ∧ qt = .string u ∧ u.size ≤ 1048576 ∧ n ≤ k ∧ qs = .slice A n c ∧ Hid (OwnS wr w.heap.size (.slice A n c) (ts.map M.bs)) ∧ Hid (Below w.heap.size w wr) ∧ Hid ((M.mt (P.drop k) u.data.toList).map (ts ++ ·) = R)) (fun _ _ qi _ => p.size - (intOf qi).toNat)
  case atStart => exact ⟨0, 0, 0, none, t, [], by omega, rfl, rfl, ht, by omega, rfl, ho0, hb0, hst⟩
  case round =>
    obtain ⟨k, n, c, A, u, ts, hk, rfl, rfl, hu, hn, rfl, hO, hB, hM⟩ := hrel
    clear hst ho0 hb0
    by_cases hlt : k < p.size
    · have hki : (k : Int) < (p.size : Int) := by omega
      have hd := Lib.hid (hby.out k hlt)
      have hsl := hcut.out k hlt
      have hU : Hid (u.data.toList.length = u.size) := (Lib.size_eq u).symm
      have hHP : Hid (∀ (S : List UInt8) W, Calls Try.prog 134 #[.string u, .string (M.bs S)] W fun e w' => e = .returned (.bool (Lib.hasPrefix u.data.toList S)) ∧ w' = W) := fun S W => Try.strings_HasPrefix u (M.bs S) W
      have hrest : Hid (∀ (S : List UInt8) (m : Nat) W, S.length = m → m ≤ u.size → (Instr.slice 9 (.string u) (some (.int .i64 ((M.bs S).size : Int))) none none).run Try.prog W = .ok (.string (M.bs (u.data.toList.drop m))) W) := fun S m W h1 h2 => by
        have := run_slice_string_l (P := Try.prog) W 9 u Try.underlying9 .i64 ((M.bs S).size : Int) (by omega) (by rw [M.bs_size]; omega)
        rw [this, M.bs_size, h1, show ((m : Int)).toNat = m by omega, cut_from]
      have hIK := fun W => Lib.hid (hIs.out p[k] W)
      cases hc : M.isL p[k]
      · rw [hc] at hIK
        have hZ0 : ((M.bs [p[k]]).toList == []) = false := by rw [bs_eq_nil]; rfl
        have hpre := fun W => Lib.hid (hHP.out [p[k]] W)
        cases hT : u.data.toList with
        | nil =>
          rw [hT] at hpre hM
          have hN := Lib.hid (hNone.out (by rw [← hM.out, hd.out, M.mt_end]; rfl) wr hB)
          rw [show Lib.hasPrefix [] [p[k]] = false from rfl] at hpre
          clear hd hNone hSome hHP hrest hM hT hby hcut hIs hc hO
          generalize M.bs [p[k]] = Z at *
          go_wp2_with (first | (go_at_call 98; refine (hIK _).out.mono ?_; rintro e w' ⟨rfl, hw⟩; subst hw) | (go_at_call 134; refine (hpre _).out.mono ?_; rintro e w' ⟨rfl, hw⟩; subst hw))
          exact hN.out
        | cons d T =>
          by_cases hdc : d = p[k]
          · have hpr : Lib.hasPrefix u.data.toList [p[k]] = true := by rw [hT, prefix_one]; simp [hdc]
            rw [hpr] at hpre
            have hu1 : 1 ≤ u.size := by rw [← hU.out, hT]; simp
            have hnx : u.data.toList.drop 1 = T := by rw [hT]; rfl
            have hr1 := fun W => hrest.out [p[k]] 1 W rfl hu1
            rw [hnx] at hr1
            have hTs : (M.bs T).size ≤ 1048576 := by rw [M.bs_size]; have := hU.out; rw [hT, List.length_cons] at this; omega
            have hM' : Hid ((M.mt (P.drop (k + 1)) (M.bs T).data.toList).map (ts ++ ·) = R) := by
              show _ = _
              rw [← hM.out, hd.out, hT, hdc, M.mt_same hc, M.bs_data]
            clear hd hNone hSome hHP hrest hM hT hby hcut hIs hc hpr hnx hdc
            generalize M.bs [p[k]] = Z at *
            generalize M.bs T = u' at *
            go_wp2_with (first | (go_at_call 98; refine (hIK _).out.mono ?_; rintro e w' ⟨rfl, hw⟩; subst hw) | (go_at_call 134; refine (hpre _).out.mono ?_; rintro e w' ⟨rfl, hw⟩; subst hw))
            go_roundw
            case rel => exact ⟨k + 1, n, c, A, u', ts, by omega, by go_num, rfl, hTs, by omega, rfl, hO, hB, hM'⟩
            case measure => simp [intOf]; omega
          · have hpr : Lib.hasPrefix u.data.toList [p[k]] = false := by rw [hT, prefix_one]; exact beq_eq_false_iff_ne.2 hdc
            rw [hpr] at hpre
            have hN := Lib.hid (hNone.out (by rw [← hM.out, hd.out, hT, M.mt_other hc _ _ hdc]; rfl) wr hB)
            clear hd hNone hSome hHP hrest hM hT hby hcut hIs hc hO hpr hdc
            generalize M.bs [p[k]] = Z at *
            go_wp2_with (first | (go_at_call 98; refine (hIK _).out.mono ?_; rintro e w' ⟨rfl, hw⟩; subst hw) | (go_at_call 134; refine (hpre _).out.mono ?_; rintro e w' ⟨rfl, hw⟩; subst hw))
            exact hN.out
      · rw [hc] at hIK
        have hPc := fun W => Lib.hid (pieceOf u W hu)
        have hn6 : n ≤ 1000000 := by omega
        have hzr := hB.out.size
        cases hr : M.piece u.data.toList with
        | none =>
          have hN : Hid (∀ w', Hid (Below w.heap.size w w') → Q (.returned (.tuple #[.slice none 0 0, .bool false])) w') := hNone.out (by rw [← hM.out, hd.out, M.mt_none hc _ hr]; rfl)
          have hZ0 : ((M.bs ([] : List UInt8)).toList == []) = true := by rw [bs_eq_nil]; rfl
          rw [M.pieceT_none hr] at hPc
          clear hd hNone hSome hHP hrest hM hby hcut hIs hc hr
          generalize M.bs [] = Z at *
          go_wp2_with (first | (go_at_call 98; refine (hIK _).out.mono ?_; rintro e w' ⟨rfl, hw⟩; subst hw) | (go_at_call 107; refine (hPc _).out.mono ?_; rintro e w' ⟨rfl, hw⟩; subst hw) | (at_builtin; refine pushS rfl (.tmp 25) (.tmp 27) rfl _ w.heap.size A n c (ts.map M.bs) Z rfl rfl hO hzr hn6 ?_; intro A2 c2 w2 ho2 hb2))
          have hb3 := Lib.hid (hB.out.trans hb2.out)
          exact hN.out _ hb3
        | some r =>
          have hrl := M.piece_drop hr
          obtain ⟨m, hm⟩ : ∃ m, u.data.toList.length - r.length = m := ⟨_, rfl⟩
          have hm1 : 1 ≤ m := by omega
          have hmu : m ≤ u.size := by rw [← hU.out]; omega
          have hrm : u.data.toList.drop m = r := by rw [← hm]; exact hrl.2
          have hrs : (M.bs r).size ≤ 1048576 := by rw [M.bs_size]; have := hU.out; omega
          have hlen : (u.data.toList.take m).length = m := by rw [List.length_take, hU.out]; omega
          rw [M.pieceT_some hr, hm] at hPc
          have hpre := fun W => Lib.hid (hHP.out (u.data.toList.take m) W)
          rw [prefix_take] at hpre
          have hr1 := fun W => hrest.out (u.data.toList.take m) m W hlen hmu
          rw [hrm] at hr1
          have hZ0 : ((M.bs (u.data.toList.take m)).toList == []) = false := by
            rw [bs_eq_nil]
            cases h : u.data.toList.take m with
            | nil => rw [h] at hlen; simp at hlen; omega
            | cons x y => rfl
          have hM' : Hid ((M.mt (P.drop (k + 1)) (M.bs r).data.toList).map ((ts ++ [u.data.toList.take m]) ++ ·) = R) := by
            show _ = _
            rw [← hM.out, hd.out, M.mt_let hc _ hr, hm, map_cons, M.bs_data]
          have hts : Hid ((ts ++ [u.data.toList.take m]).map M.bs = ts.map M.bs ++ [M.bs (u.data.toList.take m)]) := by simp [Hid]
          clear hd hNone hSome hHP hrest hM hby hcut hIs hc hr hrm hm hrl hlen hU
          generalize M.bs r = u' at *
          generalize u.data.toList.take m = Y at *
          generalize ts ++ [Y] = ts' at *
          generalize M.bs Y = Z at *
          go_wp2_with (first | (go_at_call 98; refine (hIK _).out.mono ?_; rintro e w' ⟨rfl, hw⟩; subst hw) | (go_at_call 107; refine (hPc _).out.mono ?_; rintro e w' ⟨rfl, hw⟩; subst hw) | (at_builtin; refine pushS rfl (.tmp 25) (.tmp 27) rfl _ w.heap.size A n c (ts.map M.bs) Z rfl rfl hO hzr hn6 ?_; intro A2 c2 w2 ho2 hb2) | (go_at_call 134; refine (hpre _).out.mono ?_; rintro e w' ⟨rfl, hw⟩; subst hw))
          have hb3 := Lib.hid (hB.out.trans hb2.out)
          rw [← hts.out] at ho2
          clear hb2 hB hO hts
          go_roundw
          case rel => exact ⟨k + 1, n + 1, c2, A2, u', ts', by omega, by go_num, rfl, hrs, by omega, rfl, ho2, hb3, hM'⟩
          case measure => simp [intOf]; omega
    · obtain rfl : k = p.size := by omega
      have hR1 : R = some ts := by rw [← hM.out, List.drop_of_length_le (by have := hL.out; omega), M.mt_nil]; simp
      have hF := Lib.hid (hSome.out ts wr A n c hR1 hB hO)
      clear hNone hSome hM hby hcut hIs hR1
      go_wp2
      exact hF.out
end Go.Proofs.Ytbdmmeoelagdcaa

/- Common patterns: the mathematics. No program is named here. -/
namespace Go.Proofs.Ytbdmmeoelagdcaa.M
set_option linter.unusedVariables false in
/-- what two texts have in common up to where o brackets are closed, and what stands behind in both -/
def com (o : Nat) (P Q : List UInt8) : Option (List UInt8 × List UInt8 × List UInt8) :=
  match o, P, Q with
  | 0, P, Q => some ([], P, Q)
  | o + 1, c :: P, d :: Q =>
    if c = 41 ∨ d = 41 then (if c = d then (com o P Q).map fun x => (41 :: x.1, x.2) else none)
    else if isL c then match piece (d :: Q) with
      | none => none
      | some r => (com (o + 1) P r).map fun x => ((d :: Q).take ((d :: Q).length - r.length) ++ x.1, x.2)
    else if isL d then match h : piece (c :: P) with
      | none => none
      | some r => (com (o + 1) r Q).map fun x => ((c :: P).take ((c :: P).length - r.length) ++ x.1, x.2)
    else if c = 40 ∧ d = 40 then (com (o + 2) P Q).map fun x => (40 :: x.1, x.2)
    else none
  | _ + 1, _, _ => none
  termination_by P.length
  decreasing_by
    all_goals simp_wf
    all_goals first | omega | (have := (piece_drop h).1; simpa using this)
/-- of the pieces that begin both texts -/
def com1 : List UInt8 → List UInt8 → Option (List UInt8 × List UInt8 × List UInt8)
  | c :: P, d :: Q => if isL c then (piece (d :: Q)).map fun r => ((d :: Q).take ((d :: Q).length - r.length), P, r)
    else if isL d then (piece (c :: P)).map fun r => ((c :: P).take ((c :: P).length - r.length), r, Q)
    else if c = 40 ∧ d = 40 then (com 1 P Q).map fun x => (40 :: x.1, x.2) else none
  | _, _ => none
theorem com_zero (P Q : List UInt8) : com 0 P Q = some ([], P, Q) := by rw [com]
theorem com_shut (o : Nat) (P Q : List UInt8) : com (o + 1) (41 :: P) (41 :: Q) = (com o P Q).map fun x => (41 :: x.1, x.2) := by rw [com]; simp
theorem com_half {c d : UInt8} (o : Nat) (P Q : List UInt8) (h : c = 41 ∨ d = 41) (hn : c ≠ d) : com (o + 1) (c :: P) (d :: Q) = none := by rw [com]; simp [h, hn]
theorem com_let {c d : UInt8} (o : Nat) (P Q : List UInt8) (h : isL c = true) (hd : d ≠ 41) {r : List UInt8} (hr : piece (d :: Q) = some r) :
    com (o + 1) (c :: P) (d :: Q) = (com (o + 1) P r).map fun x => ((d :: Q).take ((d :: Q).length - r.length) ++ x.1, x.2) := by
  rw [com, if_neg (by simp [ne_shut h, hd]), if_pos h, hr]
theorem com_let2 {c d : UInt8} (o : Nat) (P Q : List UInt8) (h : isL c = false) (hc : c ≠ 41) (h2 : isL d = true) {r : List UInt8} (hr : piece (c :: P) = some r) :
    com (o + 1) (c :: P) (d :: Q) = (com (o + 1) r Q).map fun x => ((c :: P).take ((c :: P).length - r.length) ++ x.1, x.2) := by
  rw [com, if_neg (by simp [hc, ne_shut h2]), if_neg (by simp [h]), if_pos h2]
  split
  · rename_i e; rw [hr] at e; cases e
  · rename_i r' e; rw [hr] at e; injection e with e; subst e; rfl
theorem com_same (o : Nat) (P Q : List UInt8) : com (o + 1) (40 :: P) (40 :: Q) = (com (o + 2) P Q).map fun x => (40 :: x.1, x.2) := by
  rw [com, if_neg (by decide), if_neg (by decide), if_neg (by decide), if_pos ⟨rfl, rfl⟩]
theorem com_other {c d : UInt8} (o : Nat) (P Q : List UInt8) (h : isL c = false) (h2 : isL d = false) (h41 : ¬ (c = 41 ∨ d = 41)) (hn : ¬ (c = 40 ∧ d = 40)) : com (o + 1) (c :: P) (d :: Q) = none := by
  rw [com, if_neg h41, if_neg (by simp [h]), if_neg (by simp [h2]), if_neg hn]
theorem com_no {c d : UInt8} (o : Nat) (P Q : List UInt8) (h : isL c = true) (hd : d ≠ 41) (hr : piece (d :: Q) = none) : com (o + 1) (c :: P) (d :: Q) = none := by
  rw [com, if_neg (by simp [ne_shut h, hd]), if_pos h, hr]
theorem com_no2 {c d : UInt8} (o : Nat) (P Q : List UInt8) (h : isL c = false) (hc : c ≠ 41) (h2 : isL d = true) (hr : piece (c :: P) = none) : com (o + 1) (c :: P) (d :: Q) = none := by
  rw [com, if_neg (by simp [hc, ne_shut h2]), if_neg (by simp [h]), if_pos h2]
  split
  · rfl
  · rename_i r' e; rw [hr] at e; cases e
theorem com_nilL (o : Nat) (Q : List UInt8) : com (o + 1) [] Q = none := by rw [com.eq_def]
theorem com_nilR (o : Nat) (P : List UInt8) : com (o + 1) P [] = none := by cases P <;> rw [com.eq_def]
/-- how two texts go on -/
theorem com_add : ∀ (n a b : Nat) (P Q : List UInt8), P.length ≤ n → com (a + b) P Q = (com a P Q).bind fun x => (com b x.2.1 x.2.2).map fun y => (x.1 ++ y.1, y.2) := by
  intro n
  induction n with
  | zero =>
    intro a b P Q h
    obtain rfl : P = [] := List.eq_nil_of_length_eq_zero (by omega)
    cases a with
    | zero => rw [com_zero, Nat.zero_add]; simp
    | succ a => rw [show a + 1 + b = (a + b) + 1 by omega, com_nilL, com_nilL]; rfl
  | succ n ih =>
    intro a b P Q hl
    cases a with
    | zero => rw [com_zero, Nat.zero_add]; simp
    | succ a =>
      rw [show a + 1 + b = (a + b) + 1 by omega]
      cases P with
      | nil => rw [com_nilL, com_nilL]; rfl
      | cons c P =>
        cases Q with
        | nil => rw [com_nilR, com_nilR]; rfl
        | cons d Q =>
          have hP : P.length ≤ n := by simp at hl; omega
          have key : ∀ (t : List UInt8) (m : Nat) (P' Q' : List UInt8), P'.length ≤ n → (com (m + b) P' Q').map (fun x => (t ++ x.1, x.2)) = ((com m P' Q').map fun x => (t ++ x.1, x.2)).bind fun x => (com b x.2.1 x.2.2).map fun y => (x.1 ++ y.1, y.2) := fun t m P' Q' h' => by
            rw [ih m b P' Q' h']
            cases com m P' Q' with
            | none => rfl
            | some x =>
              simp only [Option.bind_some, Option.map_some]
              cases com b x.2.1 x.2.2 with
              | none => rfl
              | some y => simp
          by_cases h41 : c = 41 ∨ d = 41
          · by_cases hcd : c = d
            · subst hcd
              obtain rfl : c = 41 := by rcases h41 with h | h <;> exact h
              rw [com_shut, com_shut]
              exact key [41] a P Q hP
            · rw [com_half _ P Q h41 hcd, com_half _ P Q h41 hcd]; rfl
          · have hc : c ≠ 41 := fun e => h41 (.inl e)
            have hd : d ≠ 41 := fun e => h41 (.inr e)
            cases hL : isL c
            · cases hM : isL d
              · by_cases hcd : c = 40 ∧ d = 40
                · obtain ⟨rfl, rfl⟩ := hcd
                  rw [com_same, com_same, show a + b + 2 = a + 2 + b by omega]
                  exact key [40] (a + 2) P Q hP
                · rw [com_other _ P Q hL hM h41 hcd, com_other _ P Q hL hM h41 hcd]; rfl
              · cases hr : piece (c :: P) with
                | none => rw [com_no2 _ P Q hL hc hM hr, com_no2 _ P Q hL hc hM hr]; rfl
                | some r =>
                  rw [com_let2 _ P Q hL hc hM hr, com_let2 _ P Q hL hc hM hr, show a + b + 1 = a + 1 + b by omega]
                  exact key _ (a + 1) r Q (by have := (piece_drop hr).1; simp at this; omega)
            · cases hr : piece (d :: Q) with
              | none => rw [com_no _ P Q hL hd hr, com_no _ P Q hL hd hr]; rfl
              | some r =>
                rw [com_let _ P Q hL hd hr, com_let _ P Q hL hd hr, show a + b + 1 = a + 1 + b by omega]
                exact key _ (a + 1) P r hP
theorem com_piece {c d : UInt8} (hc : c ≠ 41) (hd : d ≠ 41) (o : Nat) (P Q : List UInt8) : com (o + 1) (c :: P) (d :: Q) = (com1 (c :: P) (d :: Q)).bind fun x => (com (o + 1) x.2.1 x.2.2).map fun y => (x.1 ++ y.1, y.2) := by
  rw [com1]
  cases hL : isL c
  · cases hM : isL d
    · by_cases hcd : c = 40 ∧ d = 40
      · obtain ⟨rfl, rfl⟩ := hcd
        rw [com_same, if_neg (by decide), if_neg (by decide), if_pos ⟨rfl, rfl⟩, show o + 2 = 1 + (o + 1) by omega, com_add P.length 1 (o + 1) P Q (Nat.le_refl _)]
        cases com 1 P Q with
        | none => rfl
        | some x =>
          simp only [Option.bind_some, Option.map_some]
          cases com (o + 1) x.2.1 x.2.2 with
          | none => rfl
          | some y => simp
      · rw [com_other _ P Q hL hM (by simp [hc, hd]) hcd, if_neg (by decide), if_neg (by decide), if_neg hcd]; rfl
    · rw [if_neg (by decide), if_pos rfl]
      cases hr : piece (c :: P) with
      | none => rw [com_no2 _ P Q hL hc hM hr]; rfl
      | some r => rw [com_let2 _ P Q hL hc hM hr]; rfl
  · rw [if_pos rfl]
    cases hr : piece (d :: Q) with
    | none => rw [com_no _ P Q hL hd hr]; rfl
    | some r => rw [com_let _ P Q hL hd hr]; rfl
/-- both are read to their ends together, and the text is not longer than both -/
theorem com_len : ∀ (n o : Nat) (P Q : List UInt8) (x : List UInt8 × List UInt8 × List UInt8), P.length ≤ n → com o P Q = some x →
    x.1.length + x.2.1.length + x.2.2.length ≤ P.length + Q.length ∧ close P o = some x.2.1 ∧ close Q o = some x.2.2 := by
  intro n
  induction n with
  | zero =>
    intro o P Q x h e
    obtain rfl : P = [] := List.eq_nil_of_length_eq_zero (by omega)
    cases o with
    | zero => rw [com_zero] at e; injection e with e; subst e; simp [close_zero]
    | succ o => rw [com_nilL] at e; cases e
  | succ n ih =>
    intro o P Q x hl e
    cases o with
    | zero => rw [com_zero] at e; injection e with e; subst e; simp [close_zero]
    | succ o =>
      cases P with
      | nil => rw [com_nilL] at e; cases e
      | cons c P =>
        cases Q with
        | nil => rw [com_nilR] at e; cases e
        | cons d Q =>
          have hP : P.length ≤ n := by simp at hl; omega
          by_cases h41 : c = 41 ∨ d = 41
          · by_cases hcd : c = d
            · subst hcd
              obtain rfl : c = 41 := by rcases h41 with h | h <;> exact h
              rw [com_shut, Option.map_eq_some_iff] at e
              obtain ⟨y, hy, rfl⟩ := e
              obtain ⟨h1, h2, h3⟩ := ih o P Q y hP hy
              exact ⟨by simp; omega, by rw [close_shut]; exact h2, by rw [close_shut]; exact h3⟩
            · rw [com_half _ P Q h41 hcd] at e; cases e
          · have hc : c ≠ 41 := fun e => h41 (.inl e)
            have hd : d ≠ 41 := fun e => h41 (.inr e)
            cases hL : isL c
            · cases hM : isL d
              · by_cases hcd : c = 40 ∧ d = 40
                · obtain ⟨rfl, rfl⟩ := hcd
                  rw [com_same, Option.map_eq_some_iff] at e
                  obtain ⟨y, hy, rfl⟩ := e
                  obtain ⟨h1, h2, h3⟩ := ih (o + 2) P Q y hP hy
                  exact ⟨by simp; omega, by rw [close_open]; exact h2, by rw [close_open]; exact h3⟩
                · rw [com_other _ P Q hL hM h41 hcd] at e; cases e
              · cases hr : piece (c :: P) with
                | none => rw [com_no2 _ P Q hL hc hM hr] at e; cases e
                | some r =>
                  rw [com_let2 _ P Q hL hc hM hr, Option.map_eq_some_iff] at e
                  obtain ⟨y, hy, rfl⟩ := e
                  have hd1 := (piece_drop hr).1
                  obtain ⟨h1, h2, h3⟩ := ih (o + 1) r Q y (by simp at hd1; omega) hy
                  refine ⟨?_, by rw [close_piece hc, hr]; exact h2, by rw [close_let hM]; exact h3⟩
                  rw [List.length_append, List.length_take, List.length_cons, List.length_cons]
                  rw [List.length_cons] at hd1
                  show _ + _ + y.2.1.length + y.2.2.length ≤ _
                  omega
            · cases hr : piece (d :: Q) with
              | none => rw [com_no _ P Q hL hd hr] at e; cases e
              | some r =>
                rw [com_let _ P Q hL hd hr, Option.map_eq_some_iff] at e
                obtain ⟨y, hy, rfl⟩ := e
                have hd1 := (piece_drop hr).1
                obtain ⟨h1, h2, h3⟩ := ih (o + 1) P r y hP hy
                refine ⟨?_, by rw [close_let hL]; exact h2, by rw [close_piece hd, hr]; exact h3⟩
                rw [List.length_append, List.length_take, List.length_cons, List.length_cons]
                rw [List.length_cons] at hd1
                show _ + _ + y.2.1.length + y.2.2.length ≤ _
                omega
theorem com1_len {P Q : List UInt8} {x : List UInt8 × List UInt8 × List UInt8} (h : com1 P Q = some x) :
    x.1.length + x.2.1.length + x.2.2.length ≤ P.length + Q.length ∧ piece P = some x.2.1 ∧ piece Q = some x.2.2 := by
  cases P with
  | nil => cases h
  | cons c P =>
    cases Q with
    | nil => cases h
    | cons d Q =>
      rw [com1] at h
      cases hL : isL c
      · rw [hL, if_neg (by decide)] at h
        cases hM : isL d
        · rw [hM, if_neg (by decide)] at h
          by_cases hcd : c = 40 ∧ d = 40
          · obtain ⟨rfl, rfl⟩ := hcd
            rw [if_pos ⟨rfl, rfl⟩, Option.map_eq_some_iff] at h
            obtain ⟨y, hy, rfl⟩ := h
            obtain ⟨h1, h2, h3⟩ := com_len P.length 1 P Q y (Nat.le_refl _) hy
            exact ⟨by simp; omega, by rw [piece_open]; exact h2, by rw [piece_open]; exact h3⟩
          · rw [if_neg hcd] at h; cases h
        · rw [hM, if_pos rfl, Option.map_eq_some_iff] at h
          obtain ⟨r, hr, rfl⟩ := h
          have hd1 := (piece_drop hr).1
          refine ⟨?_, hr, by rw [piece_let hM]⟩
          rw [List.length_cons] at hd1
          simp only [List.length_take, List.length_cons]
          omega
      · rw [hL, if_pos rfl, Option.map_eq_some_iff] at h
        obtain ⟨r, hr, rfl⟩ := h
        have hd1 := (piece_drop hr).1
        refine ⟨?_, by rw [piece_let hL], hr⟩
        rw [List.length_cons] at hd1
        simp only [List.length_take, List.length_cons]
        omega
end Go.Proofs.Ytbdmmeoelagdcaa.M

/- commonText: the common pattern of two patterns. -/
namespace Go.Proofs.Ytbdmmeoelagdcaa
open Go.RowKit

/-- both texts from where they are read on, and what they will have in common behind C -/
def Ahead (Rt : Option (List UInt8)) (P Q C : List UInt8) : Prop :=
  (M.piece P = some [] ∧ M.piece Q = some [] ∧ (M.com1 P Q).map (fun x => C ++ x.1) = Rt) ∨ (∃ o, M.close P o = some [] ∧ M.close Q o = some [] ∧ (M.com o P Q).map (fun x => C ++ x.1) = Rt)
theorem ahead_end {Rt : Option (List UInt8)} {Q C : List UInt8} (h : Ahead Rt [] Q C) : Rt = some C := by
  rcases h with ⟨h, _⟩ | ⟨o, h1, h2, h3⟩
  · cases h
  · cases o with
    | zero => rw [← h3, M.com_zero]; simp
    | succ o => rw [M.close_nil] at h1; cases h1
theorem ahead_both {Rt : Option (List UInt8)} {c : UInt8} {P Q C : List UInt8} (h : Ahead Rt (c :: P) Q C) : ∃ d Q', Q = d :: Q' := by
  cases Q with
  | cons d Q' => exact ⟨d, Q', rfl⟩
  | nil =>
    rcases h with ⟨_, h, _⟩ | ⟨o, h1, h2, h3⟩
    · cases h
    · cases o with
      | zero => rw [M.close_zero] at h1; injection h1 with h1; cases h1
      | succ o => rw [M.close_nil] at h2; cases h2
theorem map_map_app (R : Option (List UInt8 × List UInt8 × List UInt8)) (C t : List UInt8) : (R.map fun x => (t ++ x.1, x.2)).map (fun x => C ++ x.1) = R.map (fun x => (C ++ t) ++ x.1) := by cases R <;> simp
theorem ahead_let {Rt : Option (List UInt8)} {c d : UInt8} {P Q C : List UInt8} (h : Ahead Rt (c :: P) (d :: Q) C) (hc : M.isL c = true) :
    (M.piece (d :: Q) = none ∧ Rt = none) ∨ (∃ r, M.piece (d :: Q) = some r ∧ Ahead Rt P r (C ++ (d :: Q).take ((d :: Q).length - r.length))) := by
  rcases h with ⟨h1, h2, h3⟩ | ⟨o, h1, h2, h3⟩
  · rw [M.piece_let hc] at h1
    injection h1 with h1
    subst h1
    refine .inr ⟨[], h2, .inr ⟨0, M.close_zero _, M.close_zero _, ?_⟩⟩
    rw [← h3, M.com1, if_pos hc, h2, M.com_zero]
    simp
  · cases o with
    | zero => rw [M.close_zero] at h1; injection h1 with h1; cases h1
    | succ o =>
      rw [M.close_let hc] at h1
      by_cases hd : d = 41
      · subst hd
        exact .inl ⟨M.piece_shut Q, by rw [← h3, M.com_half o P Q (.inr rfl) (M.ne_shut hc)]; rfl⟩
      · rw [M.close_piece hd] at h2
        cases hp : M.piece (d :: Q) with
        | none => rw [hp] at h2; cases h2
        | some r =>
          rw [hp] at h2
          exact .inr ⟨r, rfl, .inr ⟨o + 1, h1, h2, by rw [← h3, M.com_let o P Q hc hd hp, map_map_app]⟩⟩
theorem ahead_let2 {Rt : Option (List UInt8)} {c d : UInt8} {P Q C : List UInt8} (h : Ahead Rt (c :: P) (d :: Q) C) (hc : M.isL c = false) (hd : M.isL d = true) :
    (M.piece (c :: P) = none ∧ Rt = none) ∨ (∃ r, M.piece (c :: P) = some r ∧ Ahead Rt r Q (C ++ (c :: P).take ((c :: P).length - r.length))) := by
  rcases h with ⟨h1, h2, h3⟩ | ⟨o, h1, h2, h3⟩
  · rw [M.piece_let hd] at h2
    injection h2 with h2
    subst h2
    refine .inr ⟨[], h1, .inr ⟨0, M.close_zero _, M.close_zero _, ?_⟩⟩
    rw [← h3, M.com1, if_neg (by simp [hc]), if_pos hd, h1, M.com_zero]
    simp
  · cases o with
    | zero => rw [M.close_zero] at h1; injection h1 with h1; cases h1
    | succ o =>
      rw [M.close_let hd] at h2
      by_cases hc4 : c = 41
      · subst hc4
        exact .inl ⟨M.piece_shut P, by rw [← h3, M.com_half o P Q (.inl rfl) (Ne.symm (M.ne_shut hd))]; rfl⟩
      · rw [M.close_piece hc4] at h1
        cases hp : M.piece (c :: P) with
        | none => rw [hp] at h1; cases h1
        | some r =>
          rw [hp] at h1
          exact .inr ⟨r, rfl, .inr ⟨o + 1, h1, h2, by rw [← h3, M.com_let2 o P Q hc hc4 hd hp, map_map_app]⟩⟩
theorem ahead_same {Rt : Option (List UInt8)} {c d : UInt8} {P Q C : List UInt8} (h : Ahead Rt (c :: P) (d :: Q) C) (hc : M.isL c = false) (hd : M.isL d = false) :
    (c = d ∧ Ahead Rt P Q (C ++ [c])) ∨ (c ≠ d ∧ Rt = none) := by
  have hx : ∀ (t : List UInt8), (fun x : List UInt8 × List UInt8 × List UInt8 => (40 :: x.1, x.2)) = fun x => ([40] ++ x.1, x.2) := fun t => rfl
  rcases h with ⟨h1, h2, h3⟩ | ⟨o, h1, h2, h3⟩
  · by_cases hc0 : c = 40
    · by_cases hd0 : d = 40
      · subst hc0; subst hd0
        rw [M.piece_open] at h1 h2
        refine .inl ⟨rfl, .inr ⟨1, h1, h2, ?_⟩⟩
        rw [← h3, M.com1, if_neg (by decide), if_neg (by decide), if_pos ⟨rfl, rfl⟩, hx [], map_map_app]
      · rw [M.piece_bad hd hd0] at h2; cases h2
    · rw [M.piece_bad hc hc0] at h1; cases h1
  · cases o with
    | zero => rw [M.close_zero] at h1; injection h1 with h1; cases h1
    | succ o =>
      have hk : ∀ {b : UInt8} {L : List UInt8}, M.isL b = false → M.close (b :: L) (o + 1) = some [] → b = 40 ∨ b = 41 := fun {b L} hb h => by
        by_cases h0 : b = 40
        · exact .inl h0
        · by_cases h4 : b = 41
          · exact .inr h4
          · rw [M.close_bad hb h0 h4] at h; cases h
      rcases hk hc h1 with rfl | rfl
      · rcases hk hd h2 with rfl | rfl
        · rw [M.close_open] at h1 h2
          exact .inl ⟨rfl, .inr ⟨o + 2, h1, h2, by rw [← h3, M.com_same, hx [], map_map_app]⟩⟩
        · exact .inr ⟨by decide, by rw [← h3, M.com_half o P Q (.inr rfl) (by decide)]; rfl⟩
      · rcases hk hd h2 with rfl | rfl
        · exact .inr ⟨by decide, by rw [← h3, M.com_half o P Q (.inl rfl) (by decide)]; rfl⟩
        · rw [M.close_shut] at h1 h2
          exact .inl ⟨rfl, .inr ⟨o, h1, h2, by rw [← h3, M.com_shut, show (fun x : List UInt8 × List UInt8 × List UInt8 => (41 :: x.1, x.2)) = fun x => ([41] ++ x.1, x.2) from rfl, map_map_app]⟩⟩
end Go.Proofs.Ytbdmmeoelagdcaa

/- commonText: the common pattern of two patterns, the walk. -/
namespace Go.Proofs.Ytbdmmeoelagdcaa
open Go.RowKit

theorem byte_head {s : ByteArray} (h : 0 < s.size) : s.data.toList = s[0] :: s.data.toList.drop 1 := by
  have := byte_here s h
  rwa [List.drop_zero] at this
theorem cut_head (s : ByteArray) (h : 0 < s.size) (W : World) : (Instr.slice 9 (.string s) none (some (.int .i64 1)) none).run Try.prog W = .ok (.string (M.bs [s[0]])) W := by
  have := run_slice_string_h (P := Try.prog) W 9 s Try.underlying9 .i64 1 (by omega) (by omega)
  rw [this, show ((1 : Int)).toNat = 0 + 1 by rfl, cut_one s h]
theorem cut_rest (u : ByteArray) (S : List UInt8) (m : Nat) (W : World) (h1 : S.length = m) (h2 : m ≤ u.size) : (Instr.slice 9 (.string u) (some (.int .i64 ((M.bs S).size : Int))) none none).run Try.prog W = .ok (.string (M.bs (u.data.toList.drop m))) W := by
  have := run_slice_string_l (P := Try.prog) W 9 u Try.underlying9 .i64 ((M.bs S).size : Int) (by omega) (by rw [M.bs_size]; omega)
  rw [this, M.bs_size, h1, show ((m : Int)).toNat = m by omega, cut_from]
theorem bs_cat (z : ByteArray) (Y : List UInt8) : z ++ M.bs Y = M.bs (z.data.toList ++ Y) := by
  rw [← M.bs_append, M.bs_self]

set_option maxRecDepth 100000 in
set_option maxHeartbeats 8000000 in
theorem commonText (p q : ByteArray) (w : World) (hp : p.size ≤ 60) (hq : q.size ≤ 60) (hpp : M.piece p.data.toList = some []) (hqq : M.piece q.data.toList = some []) :
    Calls Try.prog 91 #[.string p, .string q] w fun e w' => e = .returned (.string (M.bs (((M.com1 p.data.toList q.data.toList).map fun x => x.1).getD []))) ∧ Hid (Below w.heap.size w w') := by
  obtain ⟨Rt, hRt⟩ : ∃ Rt, (M.com1 p.data.toList q.data.toList).map (fun x => x.1) = Rt := ⟨_, rfl⟩
  have hst : Hid (Ahead Rt p.data.toList q.data.toList (M.bs []).data.toList) := .inl ⟨hpp, hqq, by rw [← hRt]; rfl⟩
  obtain ⟨Q, hQ⟩ : ∃ Q : Ending → World → Prop, (fun e w' => e = .returned (.string (M.bs (Rt.getD []))) ∧ Hid (Below w.heap.size w w')) = Q := ⟨_, rfl⟩
  have hNone : Hid (Rt = none → ∀ w', Hid (Below w.heap.size w w') → Q (.returned (.string ⟨#[]⟩)) w') := fun h w' hb => by rw [← hQ, h]; exact ⟨rfl, hb⟩
  have hSome : Hid (∀ z : ByteArray, Rt = some z.data.toList → ∀ w', Hid (Below w.heap.size w w') → Q (.returned (.string z)) w') := fun z h w' hb => by rw [← hQ, h]; exact ⟨rfl, hb⟩
  have hIs : Hid (∀ c W, Calls Try.prog 98 #[.int .u8 ((c : UInt8).toNat : Int)] W fun e w' => e = .returned (.bool (M.isL c)) ∧ w' = W) := isLetter
  have hPc : Hid (∀ (u : ByteArray) W, u.size ≤ 60 → Calls Try.prog 107 #[.string u] W fun e w' => e = .returned (.string (M.bs (M.pieceT u.data.toList))) ∧ w' = W) := fun u W h => pieceOf u W (by omega)
  have hb0 := Lib.hid (b0 w)
  rw [hRt, hQ]
  clear hRt hQ hpp hqq
  go_enter Try.func91, Try.ntmps91
  go_wp2
  go_loopw [0, 1, 5] (fun qa qb qz wr => ∃ (a b z : ByteArray), qa = .string a ∧ qb = .string b ∧ qz = .string z ∧ a.size ≤ 60 ∧ b.size ≤ 60 ∧ a.size + b.size + z.size ≤ 120 ∧ Hid (Below w.heap.size w wr) ∧ Hid (Ahead Rt a.data.toList b.data.toList z.data.toList)) (fun qa _ _ _ => match qa with | .string a => a.size | _ => 0)
  case atStart => exact ⟨p, q, ⟨#[]⟩, rfl, rfl, rfl, hp, hq, by show p.size + q.size + 0 ≤ 120; omega, hb0, hst⟩
  case round =>
    obtain ⟨a, b, z, rfl, rfl, rfl, ha, hb, hz, hB, hA⟩ := hrel
    clear hst hb0
    by_cases h0 : a.size = 0
    · have hl0 : a.data.toList = [] := List.eq_nil_of_length_eq_zero (by rw [← Lib.size_eq, h0])
      have e0 : (a.toList == []) = true := by rw [Lib.toList_data, hl0]; rfl
      have hF := Lib.hid (hSome.out z (ahead_end (by rw [← hl0]; exact hA.out)) wr hB)
      clear hNone hSome hA hIs hPc hl0
      go_wp2
      exact hF.out
    · have ha0 : 0 < a.size := by omega
      have hla := byte_head ha0
      have e0 : (a.toList == []) = false := by rw [Lib.toList_data, hla]; rfl
      obtain ⟨d', Q', hlb⟩ := ahead_both (by rw [← hla]; exact hA.out)
      have hb0 : 0 < b.size := by rw [Lib.size_eq, hlb]; simp
      have hlb2 := byte_head hb0
      have hA' : Hid (Ahead Rt (a[0] :: a.data.toList.drop 1) (b[0] :: b.data.toList.drop 1) z.data.toList) := by rw [← hla, ← hlb2]; exact hA.out
      clear hlb hA
      have ca := cut_head a ha0
      have cb := cut_head b hb0
      cases hc : M.isL a[0]
      · cases hd : M.isL b[0]
        · have hI1 := fun W => Lib.hid (hIs.out a[0] W)
          rw [hc] at hI1
          have hI2 := fun W => Lib.hid (hIs.out b[0] W)
          rw [hd] at hI2
          have n1 : ((M.bs [a[0]]).toList == []) = false := by rw [bs_eq_nil]; rfl
          have n2 : ((M.bs [b[0]]).toList == []) = false := by rw [bs_eq_nil]; rfl
          rcases ahead_same hA'.out hc hd with ⟨he, hA2⟩ | ⟨he, hR0⟩
          · have n3 : ((M.bs [a[0]]).toList == (M.bs [b[0]]).toList) = true := by rw [he]; simp
            have r1 := fun W => cut_rest a [a[0]] 1 W rfl ha0
            have r2 := fun W => cut_rest b [b[0]] 1 W rfl hb0
            have s1 : Hid ((M.bs (a.data.toList.drop 1)).size = a.size - 1) := by show _ = _; rw [M.bs_size, List.length_drop, ← Lib.size_eq]
            have s2 : Hid ((M.bs (b.data.toList.drop 1)).size = b.size - 1) := by show _ = _; rw [M.bs_size, List.length_drop, ← Lib.size_eq]
            have sc : Hid ((z ++ M.bs [a[0]]).size = z.size + 1) := by show _ = _; rw [ByteArray.size_append]; rfl
            have hnb : ¬ 9223372036854775807 < z.size + (M.bs [a[0]]).size := by show ¬ 9223372036854775807 < z.size + 1; omega
            have hA3 : Hid (Ahead Rt (M.bs (a.data.toList.drop 1)).data.toList (M.bs (b.data.toList.drop 1)).data.toList (z ++ M.bs [a[0]]).data.toList) := by
              show Ahead _ _ _ _
              rw [M.bs_data, M.bs_data, ByteArray.data_append, Array.toList_append, M.bs_data]
              exact hA2
            clear hNone hSome hIs hPc hla hlb2 hA' hc hd hA2 he
            generalize M.bs (a.data.toList.drop 1) = a' at *
            generalize M.bs (b.data.toList.drop 1) = b' at *
            generalize M.bs [a[0]] = Z1 at *
            generalize M.bs [b[0]] = Z2 at *
            go_wp2
            go_quiet (fail)
            go_wp2_with (first | (go_at_call 98; refine (hI1 _).out.mono ?_; rintro e w' ⟨rfl, hw⟩; subst hw) | (go_at_call 98; refine (hI2 _).out.mono ?_; rintro e w' ⟨rfl, hw⟩; subst hw))
            go_quiet (fail)
            go_wp2
            have k1 : a'.size ≤ 60 ∧ b'.size ≤ 60 ∧ a'.size + b'.size + (z ++ Z1).size ≤ 120 ∧ a'.size < a.size := by have h1 := s1.out; have h2 := s2.out; have h3 := sc.out; omega
            go_roundw
            case rel => exact ⟨a', b', z ++ Z1, rfl, rfl, rfl, k1.1, k1.2.1, k1.2.2.1, below_drewN (below_drewN hB.out _) _, hA3⟩
            case measure => exact k1.2.2.2
          · have n3 : ((M.bs [a[0]]).toList == (M.bs [b[0]]).toList) = false := by
              rw [Lib.toList_data, Lib.toList_data, M.bs_data, M.bs_data]
              exact beq_eq_false_iff_ne.2 fun h => he (by injection h)
            have hF := Lib.hid (hNone.out hR0)
            clear hNone hSome hIs hPc hla hlb2 hA' hc hd hR0 he
            generalize M.bs [a[0]] = Z1 at *
            generalize M.bs [b[0]] = Z2 at *
            go_wp2
            go_quiet (fail)
            go_wp2_with (first | (go_at_call 98; refine (hI1 _).out.mono ?_; rintro e w' ⟨rfl, hw⟩; subst hw) | (go_at_call 98; refine (hI2 _).out.mono ?_; rintro e w' ⟨rfl, hw⟩; subst hw))
            exact hF.out _ (below_drewN hB.out _)
        · have hI1 := fun W => Lib.hid (hIs.out a[0] W)
          rw [hc] at hI1
          have hI2 := fun W => Lib.hid (hIs.out b[0] W)
          rw [hd] at hI2
          have hP1 := fun W => Lib.hid (hPc.out a W ha)
          have hP2 := fun W => Lib.hid (hPc.out b W hb)
          have hpb : M.pieceT b.data.toList = [b[0]] := by rw [hlb2, M.pieceT_some (M.piece_let hd _)]; simp
          rw [hpb] at hP2
          have n2 : ((M.bs [b[0]]).toList == []) = false := by rw [bs_eq_nil]; rfl
          rcases ahead_let2 hA'.out hc hd with ⟨hn, hR0⟩ | ⟨r, hr, hA2⟩
          · rw [← hla] at hn
            rw [M.pieceT_none hn] at hP1
            have n1 : ((M.bs ([] : List UInt8)).toList == []) = true := by rw [bs_eq_nil]; rfl
            have hF := Lib.hid (hNone.out hR0)
            clear hNone hSome hIs hPc hla hlb2 hA' hc hd hpb hn hR0
            generalize M.bs [a[0]] = Z0 at *
            generalize M.bs [b[0]] = Z2 at *
            generalize M.bs [] = Z1 at *
            go_wp2
            go_quiet (fail)
            go_wp2_with (first | (go_at_call 98; refine (hI1 _).out.mono ?_; rintro e w' ⟨rfl, hw⟩; subst hw) | (go_at_call 98; refine (hI2 _).out.mono ?_; rintro e w' ⟨rfl, hw⟩; subst hw) | (go_at_call_of 107 (Value.string a); refine (hP1 _).out.mono ?_; rintro e w' ⟨rfl, hw⟩; subst hw) | (go_at_call 107; refine (hP2 _).out.mono ?_; rintro e w' ⟨rfl, hw⟩; subst hw))
            exact hF.out _ (below_drewN hB.out _)
          · rw [← hla] at hr hA2
            have hrl := M.piece_drop hr
            have haL : a.data.toList.length = a.size := (Lib.size_eq a).symm
            obtain ⟨m, hm⟩ : ∃ m, a.data.toList.length - r.length = m := ⟨_, rfl⟩
            have hma : m ≤ a.size := by omega
            have hm1 : 0 < m := by omega
            rw [M.pieceT_some hr, hm] at hP1
            rw [hm] at hA2
            have hlen : (a.data.toList.take m).length = m := by rw [List.length_take]; omega
            have n1 : ((M.bs (a.data.toList.take m)).toList == []) = false := by
              rw [bs_eq_nil]
              cases h : a.data.toList.take m with
              | nil => rw [h] at hlen; simp at hlen; omega
              | cons x y => rfl
            have r1 := fun W => cut_rest a (a.data.toList.take m) m W hlen hma
            have r2 := fun W => cut_rest b [b[0]] 1 W rfl hb0
            have s1 : Hid ((M.bs (a.data.toList.drop m)).size = a.size - m) := by show _ = _; rw [M.bs_size, List.length_drop, haL]
            have s2 : Hid ((M.bs (b.data.toList.drop 1)).size = b.size - 1) := by show _ = _; rw [M.bs_size, List.length_drop, ← Lib.size_eq]
            have s3 : Hid ((M.bs (a.data.toList.take m)).size = m) := by show _ = _; rw [M.bs_size, hlen]
            have sc : Hid ((z ++ M.bs (a.data.toList.take m)).size = z.size + m) := by show _ = _; rw [ByteArray.size_append, s3.out]
            have hnb : ¬ 9223372036854775807 < z.size + (M.bs (a.data.toList.take m)).size := by have := s3.out; omega
            have hA3 : Hid (Ahead Rt (M.bs (a.data.toList.drop m)).data.toList (M.bs (b.data.toList.drop 1)).data.toList (z ++ M.bs (a.data.toList.take m)).data.toList) := by
              show Ahead _ _ _ _
              have hdr : a.data.toList.drop m = r := by rw [← hm]; exact hrl.2
              rw [M.bs_data, M.bs_data, hdr, ByteArray.data_append, Array.toList_append, M.bs_data]
              exact hA2
            clear hNone hSome hIs hPc hla hlb2 hA' hc hd hpb hA2 hr hrl hm hlen haL
            generalize M.bs (a.data.toList.drop m) = a' at *
            generalize M.bs (b.data.toList.drop 1) = b' at *
            generalize M.bs (a.data.toList.take m) = Z1 at *
            generalize M.bs [a[0]] = Z0 at *
            generalize M.bs [b[0]] = Z2 at *
            go_wp2
            go_quiet (fail)
            go_wp2_with (first | (go_at_call 98; refine (hI1 _).out.mono ?_; rintro e w' ⟨rfl, hw⟩; subst hw) | (go_at_call 98; refine (hI2 _).out.mono ?_; rintro e w' ⟨rfl, hw⟩; subst hw) | (go_at_call_of 107 (Value.string a); refine (hP1 _).out.mono ?_; rintro e w' ⟨rfl, hw⟩; subst hw) | (go_at_call 107; refine (hP2 _).out.mono ?_; rintro e w' ⟨rfl, hw⟩; subst hw))
            go_quiet (fail)
            go_wp2
            have k1 : a'.size ≤ 60 ∧ b'.size ≤ 60 ∧ a'.size + b'.size + (z ++ Z1).size ≤ 120 ∧ a'.size < a.size := by have h1 := s1.out; have h2 := s2.out; have h3 := sc.out; omega
            go_roundw
            case rel => exact ⟨a', b', z ++ Z1, rfl, rfl, rfl, k1.1, k1.2.1, k1.2.2.1, below_drewN (below_drewN hB.out _) _, hA3⟩
            case measure => exact k1.2.2.2
      · have hI1 := fun W => Lib.hid (hIs.out a[0] W)
        rw [hc] at hI1
        have hP1 := fun W => Lib.hid (hPc.out a W ha)
        have hpa : M.pieceT a.data.toList = [a[0]] := by rw [hla, M.pieceT_some (M.piece_let hc _)]; simp
        rw [hpa] at hP1
        have hP2 := fun W => Lib.hid (hPc.out b W hb)
        have n1 : ((M.bs [a[0]]).toList == []) = false := by rw [bs_eq_nil]; rfl
        rcases ahead_let hA'.out hc with ⟨hn, hR0⟩ | ⟨r, hr, hA2⟩
        · rw [← hlb2] at hn
          rw [M.pieceT_none hn] at hP2
          have n2 : ((M.bs ([] : List UInt8)).toList == []) = true := by rw [bs_eq_nil]; rfl
          have hF := Lib.hid (hNone.out hR0)
          clear hNone hSome hIs hPc hla hlb2 hA' hc hpa hn hR0
          generalize M.bs [a[0]] = Z1 at *
          generalize M.bs [b[0]] = Z0 at *
          generalize M.bs [] = Z2 at *
          go_wp2
          go_quiet (fail)
          go_wp2_with (first | (go_at_call 98; refine (hI1 _).out.mono ?_; rintro e w' ⟨rfl, hw⟩; subst hw) | (go_at_call_of 107 (Value.string a); refine (hP1 _).out.mono ?_; rintro e w' ⟨rfl, hw⟩; subst hw) | (go_at_call 107; refine (hP2 _).out.mono ?_; rintro e w' ⟨rfl, hw⟩; subst hw))
          exact hF.out _ (below_drewN hB.out _)
        · rw [← hlb2] at hr hA2
          have hrl := M.piece_drop hr
          have hbL : b.data.toList.length = b.size := (Lib.size_eq b).symm
          obtain ⟨m, hm⟩ : ∃ m, b.data.toList.length - r.length = m := ⟨_, rfl⟩
          have hmb : m ≤ b.size := by omega
          have hm1 : 0 < m := by omega
          rw [M.pieceT_some hr, hm] at hP2
          rw [hm] at hA2
          have hlen : (b.data.toList.take m).length = m := by rw [List.length_take]; omega
          have n2 : ((M.bs (b.data.toList.take m)).toList == []) = false := by
            rw [bs_eq_nil]
            cases h : b.data.toList.take m with
            | nil => rw [h] at hlen; simp at hlen; omega
            | cons x y => rfl
          have r1 := fun W => cut_rest a [a[0]] 1 W rfl ha0
          have r2 := fun W => cut_rest b (b.data.toList.take m) m W hlen hmb
          have s1 : Hid ((M.bs (a.data.toList.drop 1)).size = a.size - 1) := by show _ = _; rw [M.bs_size, List.length_drop, ← Lib.size_eq]
          have s2 : Hid ((M.bs (b.data.toList.drop m)).size = b.size - m) := by show _ = _; rw [M.bs_size, List.length_drop, hbL]
          have s3 : Hid ((M.bs (b.data.toList.take m)).size = m) := by show _ = _; rw [M.bs_size, hlen]
          have hA3 : Hid (Ahead Rt (M.bs (a.data.toList.drop 1)).data.toList (M.bs (b.data.toList.drop m)).data.toList (z ++ M.bs (b.data.toList.take m)).data.toList) := by
            show Ahead _ _ _ _
            have hdr : b.data.toList.drop m = r := by rw [← hm]; exact hrl.2
            rw [M.bs_data, M.bs_data, hdr, ByteArray.data_append, Array.toList_append, M.bs_data]
            exact hA2
          have sc : Hid ((z ++ M.bs (b.data.toList.take m)).size = z.size + m) := by show _ = _; rw [ByteArray.size_append, s3.out]
          have hnb : ¬ 9223372036854775807 < z.size + (M.bs (b.data.toList.take m)).size := by have := s3.out; omega
          clear hNone hSome hIs hPc hla hlb2 hA' hc hpa hA2 hr hrl hm hlen hbL
          generalize M.bs (a.data.toList.drop 1) = a' at *
          generalize M.bs (b.data.toList.drop m) = b' at *
          generalize M.bs (b.data.toList.take m) = Z2 at *
          generalize M.bs [a[0]] = Z1 at *
          generalize M.bs [b[0]] = Z0 at *
          go_wp2
          go_quiet (fail)
          go_wp2_with (first | (go_at_call 98; refine (hI1 _).out.mono ?_; rintro e w' ⟨rfl, hw⟩; subst hw) | (go_at_call_of 107 (Value.string a); refine (hP1 _).out.mono ?_; rintro e w' ⟨rfl, hw⟩; subst hw) | (go_at_call 107; refine (hP2 _).out.mono ?_; rintro e w' ⟨rfl, hw⟩; subst hw))
          go_quiet (fail)
          go_wp2
          have k1 : a'.size ≤ 60 ∧ b'.size ≤ 60 ∧ a'.size + b'.size + (z ++ Z2).size ≤ 120 ∧ a'.size < a.size := by have h1 := s1.out; have h2 := s2.out; have h3 := sc.out; omega
          go_roundw
          case rel => exact ⟨a', b', z ++ Z2, rfl, rfl, rfl, k1.1, k1.2.1, k1.2.2.1, below_drewN (below_drewN hB.out _) _, hA3⟩
          case measure => exact k1.2.2.2
end Go.Proofs.Ytbdmmeoelagdcaa

/- Letters named in their order: the mathematics. No program is named here. -/
namespace Go.Proofs.Ytbdmmeoelagdcaa.M
/-- how many letters stand in a text -/
def numL (l : List UInt8) : Nat := l.countP isL
/-- a text with its letters named in their order, from the number n on -/
def nameFrom : Nat → List UInt8 → List UInt8
  | _, [] => []
  | n, c :: l => if isL c then UInt8.ofNat (97 + n) :: nameFrom (n + 1) l else c :: nameFrom n l
theorem numL_len (l : List UInt8) : numL l ≤ l.length := List.countP_le_length
theorem numL_snoc (l : List UInt8) (c : UInt8) : numL (l ++ [c]) = numL l + (if isL c then 1 else 0) := by
  rw [numL, numL, List.countP_append, List.countP_singleton]
theorem nameFrom_len : ∀ (l : List UInt8) (n : Nat), (nameFrom n l).length = l.length := by
  intro l
  induction l with
  | nil => intro n; rfl
  | cons c l ih => intro n; rw [nameFrom]; split <;> simp [ih]
theorem nameFrom_snoc : ∀ (l : List UInt8) (n : Nat) (c : UInt8), nameFrom n (l ++ [c]) = nameFrom n l ++ [if isL c then UInt8.ofNat (97 + (n + numL l)) else c] := by
  intro l
  induction l with
  | nil =>
    intro n c
    cases h : isL c <;> simp [nameFrom, h, numL]
  | cons d l ih =>
    intro n c
    rw [List.cons_append, nameFrom, nameFrom]
    cases h : isL d
    · simp only [Bool.false_eq_true, if_false]
      rw [ih, show numL (d :: l) = numL l by simp [numL, h], List.cons_append]
    · simp only [if_true]
      rw [ih, show numL (d :: l) = numL l + 1 by simp [numL, h], List.cons_append, show n + 1 + numL l = n + (numL l + 1) by omega]
/-- named up to a place -/
def namedTo (l : List UInt8) (k : Nat) : List UInt8 := nameFrom 0 (l.take k) ++ l.drop k
theorem namedTo_zero (l : List UInt8) : namedTo l 0 = l := by simp [namedTo, nameFrom]
theorem namedTo_end (l : List UInt8) {k : Nat} (h : l.length ≤ k) : namedTo l k = nameFrom 0 l := by rw [namedTo, List.take_of_length_le h, List.drop_of_length_le h, List.append_nil]
theorem namedTo_len (l : List UInt8) (k : Nat) : (namedTo l k).length = l.length := by
  rw [namedTo, List.length_append, nameFrom_len, List.length_take, List.length_drop]; omega
theorem namedTo_at {l : List UInt8} {k : Nat} {c : UInt8} (h : l[k]? = some c) : (namedTo l k)[k]? = some c := by
  have hk := (List.getElem?_eq_some_iff.1 h).1
  rw [namedTo, List.getElem?_append_right (by rw [nameFrom_len, List.length_take]; omega), nameFrom_len, List.length_take, show k - min k l.length = 0 by omega, List.getElem?_drop, Nat.add_zero]
  exact h
theorem take_snoc {l : List UInt8} {k : Nat} {c : UInt8} (h : l[k]? = some c) : l.take (k + 1) = l.take k ++ [c] := by rw [List.take_add_one, h]; rfl
theorem numL_take {l : List UInt8} {k : Nat} {c : UInt8} (h : l[k]? = some c) : numL (l.take (k + 1)) = numL (l.take k) + (if isL c then 1 else 0) := by rw [take_snoc h, numL_snoc]
theorem numL_take_le (l : List UInt8) (k : Nat) : numL (l.take k) ≤ numL l := by
  have := List.take_append_drop k l
  have h2 : numL l = numL (l.take k) + numL (l.drop k) := by
    conv => lhs; rw [← this]
    rw [numL, List.countP_append]; rfl
  omega
theorem namedTo_let {l : List UInt8} {k : Nat} {c : UInt8} (h : l[k]? = some c) (hc : isL c = true) : namedTo l (k + 1) = (namedTo l k).set k (UInt8.ofNat (97 + numL (l.take k))) := by
  have hk := (List.getElem?_eq_some_iff.1 h).1
  have hd : l.drop k = c :: l.drop (k + 1) := by
    have h2 := List.drop_eq_getElem_cons hk
    rw [List.getElem?_eq_getElem hk] at h
    injection h with h
    rw [h2, h]
  have hl : (nameFrom 0 (l.take k)).length = k := by rw [nameFrom_len, List.length_take]; omega
  rw [namedTo, namedTo, take_snoc h, nameFrom_snoc, if_pos hc, hd, List.set_append_right _ _ (by omega), hl, Nat.sub_self, List.set_cons_zero, List.append_assoc, Nat.zero_add]
  rfl
theorem namedTo_other {l : List UInt8} {k : Nat} {c : UInt8} (h : l[k]? = some c) (hc : isL c = false) : namedTo l (k + 1) = namedTo l k := by
  have hk := (List.getElem?_eq_some_iff.1 h).1
  have hd : l.drop k = c :: l.drop (k + 1) := by
    have h2 := List.drop_eq_getElem_cons hk
    rw [List.getElem?_eq_getElem hk] at h
    injection h with h
    rw [h2, h]
  rw [namedTo, namedTo, take_snoc h, nameFrom_snoc, if_neg (by simp [hc]), hd, List.append_assoc]
  rfl
/-- the bytes of patterns -/
def okP (c : UInt8) : Prop := isL c = true ∨ c = 40 ∨ c = 41
theorem close_ok : ∀ (l : List UInt8) (o : Nat), close l o = some [] → ∀ c ∈ l, okP c := by
  intro l
  induction l with
  | nil => intro o _ c hc; cases hc
  | cons d l ih =>
    intro o h
    cases o with
    | zero => rw [close_zero] at h; injection h with h; cases h
    | succ o =>
      have key : ∀ o', close l o' = some [] → okP d → ∀ c ∈ d :: l, okP c := fun o' h' hd c hc => by
        rcases List.mem_cons.1 hc with rfl | hc
        · exact hd
        · exact ih o' h' c hc
      rw [close] at h
      split at h
      · rename_i e; exact key _ h (.inr (.inr e))
      · split at h
        · rename_i e; exact key _ h (.inl e)
        · split at h
          · rename_i e; exact key _ h (.inr (.inl e))
          · cases h
theorem piece_ok {l : List UInt8} (h : piece l = some []) : ∀ c ∈ l, okP c := by
  cases l with
  | nil => cases h
  | cons d l =>
    rw [piece] at h
    split at h
    · rename_i e
      injection h with h
      subst h
      intro c hc
      rcases List.mem_cons.1 hc with rfl | hc
      · exact .inl e
      · cases hc
    · split at h
      · rename_i e
        intro c hc
        rcases List.mem_cons.1 hc with rfl | hc
        · exact .inr (.inl e)
        · exact close_ok l 1 h c hc
      · cases h
theorem com_ok : ∀ (n o : Nat) (P Q : List UInt8) (x : List UInt8 × List UInt8 × List UInt8), P.length ≤ n → com o P Q = some x → (∀ c ∈ P, okP c) → (∀ c ∈ Q, okP c) → ∀ c ∈ x.1, okP c := by
  intro n
  induction n with
  | zero =>
    intro o P Q x h e hP hQ
    obtain rfl : P = [] := List.eq_nil_of_length_eq_zero (by omega)
    cases o with
    | zero => rw [com_zero] at e; injection e with e; subst e; intro c hc; cases hc
    | succ o => rw [com_nilL] at e; cases e
  | succ n ih =>
    intro o P Q x hl e hP hQ
    cases o with
    | zero => rw [com_zero] at e; injection e with e; subst e; intro c hc; cases hc
    | succ o =>
      cases P with
      | nil => rw [com_nilL] at e; cases e
      | cons c P =>
        cases Q with
        | nil => rw [com_nilR] at e; cases e
        | cons d Q =>
          have hPl : P.length ≤ n := by simp at hl; omega
          have hP' : ∀ c ∈ P, okP c := fun b hb => hP b (List.mem_cons_of_mem _ hb)
          have hQ' : ∀ c ∈ Q, okP c := fun b hb => hQ b (List.mem_cons_of_mem _ hb)
          have one : ∀ (b : UInt8) (y : List UInt8), okP b → (∀ c ∈ y, okP c) → ∀ c ∈ b :: y, okP c := fun b y hb hy c hc => by
            rcases List.mem_cons.1 hc with rfl | hc
            · exact hb
            · exact hy c hc
          have two : ∀ (a y : List UInt8), (∀ c ∈ a, okP c) → (∀ c ∈ y, okP c) → ∀ c ∈ a ++ y, okP c := fun a y ha hy c hc => by
            rcases List.mem_append.1 hc with hc | hc
            · exact ha c hc
            · exact hy c hc
          by_cases h41 : c = 41 ∨ d = 41
          · by_cases hcd : c = d
            · subst hcd
              obtain rfl : c = 41 := by rcases h41 with h | h <;> exact h
              rw [com_shut, Option.map_eq_some_iff] at e
              obtain ⟨y, hy, rfl⟩ := e
              exact one _ _ (.inr (.inr rfl)) (ih o P Q y hPl hy hP' hQ')
            · rw [com_half _ P Q h41 hcd] at e; cases e
          · have hc : c ≠ 41 := fun e => h41 (.inl e)
            have hd : d ≠ 41 := fun e => h41 (.inr e)
            cases hL : isL c
            · cases hM : isL d
              · by_cases hcd : c = 40 ∧ d = 40
                · obtain ⟨rfl, rfl⟩ := hcd
                  rw [com_same, Option.map_eq_some_iff] at e
                  obtain ⟨y, hy, rfl⟩ := e
                  exact one _ _ (.inr (.inl rfl)) (ih (o + 2) P Q y hPl hy hP' hQ')
                · rw [com_other _ P Q hL hM h41 hcd] at e; cases e
              · cases hr : piece (c :: P) with
                | none => rw [com_no2 _ P Q hL hc hM hr] at e; cases e
                | some r =>
                  rw [com_let2 _ P Q hL hc hM hr, Option.map_eq_some_iff] at e
                  obtain ⟨y, hy, rfl⟩ := e
                  have hd1 := piece_drop hr
                  exact two _ _ (fun b hb => hP b (List.mem_of_mem_take hb)) (ih (o + 1) r Q y (by have := hd1.1; simp at this; omega) hy (fun b hb => hP b (by rw [← hd1.2] at hb; exact List.mem_of_mem_drop hb)) hQ')
            · cases hr : piece (d :: Q) with
              | none => rw [com_no _ P Q hL hd hr] at e; cases e
              | some r =>
                rw [com_let _ P Q hL hd hr, Option.map_eq_some_iff] at e
                obtain ⟨y, hy, rfl⟩ := e
                have hd1 := piece_drop hr
                exact two _ _ (fun b hb => hQ b (List.mem_of_mem_take hb)) (ih (o + 1) P r y hPl hy hP' (fun b hb => hQ b (by rw [← hd1.2] at hb; exact List.mem_of_mem_drop hb)))
theorem com1_ok {P Q : List UInt8} {x : List UInt8 × List UInt8 × List UInt8} (h : com1 P Q = some x) (hP : ∀ c ∈ P, okP c) (hQ : ∀ c ∈ Q, okP c) : x.1 ≠ [] ∧ ∀ c ∈ x.1, okP c := by
  cases P with
  | nil => cases h
  | cons c P =>
    cases Q with
    | nil => cases h
    | cons d Q =>
      have ne : ∀ {L r : List UInt8}, piece L = some r → L.take (L.length - r.length) ≠ [] := fun {L r} h e => by
        have h1 := (piece_drop h).1
        have := congrArg List.length e
        rw [List.length_take] at this
        simp at this
        omega
      rw [com1] at h
      cases hL : isL c
      · rw [hL, if_neg (by decide)] at h
        cases hM : isL d
        · rw [hM, if_neg (by decide)] at h
          by_cases hcd : c = 40 ∧ d = 40
          · obtain ⟨rfl, rfl⟩ := hcd
            rw [if_pos ⟨rfl, rfl⟩, Option.map_eq_some_iff] at h
            obtain ⟨y, hy, rfl⟩ := h
            refine ⟨by simp, fun b hb => ?_⟩
            rcases List.mem_cons.1 hb with rfl | hb
            · exact .inr (.inl rfl)
            · exact com_ok P.length 1 P Q y (Nat.le_refl _) hy (fun b hb => hP b (List.mem_cons_of_mem _ hb)) (fun b hb => hQ b (List.mem_cons_of_mem _ hb)) b hb
          · rw [if_neg hcd] at h; cases h
        · rw [hM, if_pos rfl, Option.map_eq_some_iff] at h
          obtain ⟨r, hr, rfl⟩ := h
          exact ⟨ne hr, fun b hb => hP b (List.mem_of_mem_take hb)⟩
      · rw [hL, if_pos rfl, Option.map_eq_some_iff] at h
        obtain ⟨r, hr, rfl⟩ := h
        exact ⟨ne hr, fun b hb => hQ b (List.mem_of_mem_take hb)⟩
end Go.Proofs.Ytbdmmeoelagdcaa.M

/- Rows of bytes made from texts; lettersIn, namedInOrder. -/
namespace Go.Proofs.Ytbdmmeoelagdcaa
open Go.RowKit

/-- the block g holds the bytes of a text -/
def RowU (w : World) (g : Nat) (l : List UInt8) : Prop := g < w.heap.size ∧ ∀ (j : Nat) (c : UInt8), l[j]? = some c → w.cell? ⟨g, j, none⟩ = some (.int .u8 (c.toNat : Int)) ∧ w.frozen? ⟨g, j, none⟩ = false
theorem rowU_set {w : World} {g : Nat} {l : List UInt8} (h : RowU w g l) {k : Nat} (hk : k < l.length) (c : UInt8) : RowU (w.setCell ⟨g, k, none⟩ (.int .u8 (c.toNat : Int))) g (l.set k c) := by
  refine ⟨by simpa using h.1, fun j b hb => ?_⟩
  rw [List.getElem?_set] at hb
  by_cases e : k = j
  · subst e
    rw [if_pos rfl, if_pos hk] at hb
    injection hb with hb
    subst hb
    have h1 := h.2 k l[k] (List.getElem?_eq_getElem hk)
    exact ⟨World.cell?_setCell_same _ _ _ h1.1, by rw [World.frozen?_setCell]; exact h1.2⟩
  · rw [if_neg e] at hb
    have h1 := h.2 j b hb
    refine ⟨?_, by rw [World.frozen?_setCell]; exact h1.2⟩
    rw [World.cell?_setCell_other _ _ _ _ (by intro e2; injection e2 with _ e3 _; exact e e3)]
    exact h1.1
theorem rowU_be {w w' : World} {g : Nat} {l : List UInt8} (h : RowU w g l) (hb : Below w.heap.size w w') : RowU w' g l :=
  ⟨by have := h.1; have := hb.size; omega, fun j c hc => ⟨(hb.cell (p := ⟨g, j, none⟩) h.1).trans (h.2 j c hc).1, (hb.frozen (p := ⟨g, j, none⟩) h.1).trans (h.2 j c hc).2⟩⟩
/-- '[]byte(s)' -/
theorem bytes_of (s : ByteArray) (w : World) : ∃ cap w', (convert 9 98 (.string s)).run Try.prog w = .ok (.slice (some ⟨w.heap.size, 0, none⟩) s.size cap) w' ∧ RowU w' w.heap.size s.data.toList ∧ Below w.heap.size w w' := by
  have h := run_bytes_of_string (P := Try.prog) w 9 98 5 s Try.underlying9 Try.underlying98 Try.underlying5
  refine ⟨_, _, h, ⟨by simp, fun j c hc => ?_⟩, (b0 w).drew.alloc (by simp) _⟩
  have hj := (List.getElem?_eq_some_iff.1 hc).1
  have hj' : j < s.data.size := by simpa using hj
  have h1 := bytesRow_at s (grownCap w s.size 0 5) j hj'
  have hcc : s.data[j] = c := by
    rw [List.getElem?_eq_getElem hj] at hc
    injection hc with hc
  rw [hcc] at h1
  have hsz : j < (bytesRow s (grownCap w s.size 0 5)).size := by
    simp only [bytesRow, Array.size_append, Array.size_map]
    omega
  exact ⟨(World.cell?_alloc_mark w.drew _ _ _ j).trans h1, by
    have := World.frozen?_alloc_mark w.drew (bytesRow s (grownCap w s.size 0 5)) 5 (bytesRow s (grownCap w s.size 0 5)).size ((bytesRow s (grownCap w s.size 0 5)).size + 1) j
    rw [decide_eq_false (by omega : ¬ (bytesRow s (grownCap w s.size 0 5)).size ≤ j)] at this
    simpa using this⟩
/-- 'string(b)' -/
theorem bytes_back (l : List UInt8) (g n cap : Nat) (w : World) (hn : l.length = n) (h : RowU w g l) : (convert 98 9 (.slice (some ⟨g, 0, none⟩) n cap)).run Try.prog w = .ok (.string (M.bs l)) w := by
  subst hn
  refine run_convert_bytes_back (P := Try.prog) w 98 9 5 ⟨g, 0, none⟩ cap l Try.underlying98 Try.underlying5 Try.underlying9 fun j hj => ?_
  have := (h.2 j l[j] (List.getElem?_eq_getElem hj)).1
  rw [← this]
  have : (⟨g, 0, none⟩ : Addr).add j = ⟨g, j, none⟩ := by unfold Addr.add; split <;> simp_all
  rw [this]

set_option maxRecDepth 100000 in
set_option maxHeartbeats 1000000 in
theorem lettersIn (s : ByteArray) (w : World) (hs : s.size ≤ 1000000) : Calls Try.prog 88 #[.string s] w fun e w' => e = .returned (.int .i64 (M.numL s.data.toList : Int)) ∧ w' = w := by
  have hL : Hid (s.data.toList.length = s.size) := (Lib.size_eq s).symm
  have hat : Hid (∀ k (h : k < s.size), s.data.toList[k]? = some s[k]) := fun k h => by
    rw [← List.head?_drop, byte_here s h]; rfl
  have hIs : Hid (∀ c W, Calls Try.prog 98 #[.int .u8 ((c : UInt8).toNat : Int)] W fun e w' => e = .returned (.bool (M.isL c)) ∧ w' = W) := isLetter
  have hst : Hid (M.numL (s.data.toList.take 0) = 0) := rfl
  generalize s.data.toList = L at *
  go_enter Try.func88, Try.ntmps88
  go_wp2
  go_loopw [3, 7] (fun qc qi wr => ∃ (k n : Nat), k ≤ s.size ∧ n ≤ k ∧ qi = .int .i64 (k : Int) ∧ qc = .int .i64 (n : Int) ∧ wr = w ∧ Hid (M.numL (L.take k) = n)) (fun _ qi _ => s.size - (intOf qi).toNat)
  case atStart => exact ⟨0, 0, by omega, by omega, rfl, rfl, rfl, hst⟩
  case round =>
    obtain ⟨k, n, hk, hn, rfl, rfl, rfl, hN⟩ := hrel
    by_cases hlt : k < s.size
    · have hki : (k : Int) < (s.size : Int) := by omega
      have hI := fun W => Lib.hid (hIs.out s[k] W)
      have hx := M.numL_take (hat.out k hlt)
      rw [hN.out] at hx
      cases hc : M.isL s[k]
      · rw [hc] at hI hx
        have hx2 : Hid (M.numL (L.take (k + 1)) = n) := hx
        clear hat hIs hx hN hc hst
        go_wp2_with (go_at_call 98; refine (hI _).out.mono ?_; rintro e w' ⟨rfl, hw⟩; subst hw)
        go_roundw
        case rel => exact ⟨k + 1, n, by omega, by omega, by go_num, rfl, trivial, hx2⟩
        case measure => simp [intOf]; omega
      · rw [hc] at hI hx
        have hx2 : Hid (M.numL (L.take (k + 1)) = n + 1) := hx
        clear hat hIs hx hN hc hst
        go_wp2_with (go_at_call 98; refine (hI _).out.mono ?_; rintro e w' ⟨rfl, hw⟩; subst hw)
        go_roundw
        case rel => exact ⟨k + 1, n + 1, by omega, by omega, by go_num, by go_num, trivial, hx2⟩
        case measure => simp [intOf]; omega
    · obtain rfl : k = s.size := by omega
      have hx : M.numL L = n := by rw [← hN.out, List.take_of_length_le (by have := hL.out; omega)]
      clear hat hIs
      go_wp2
      go_ret
      exact ⟨by rw [hx]; rfl, rfl⟩

/-- the letters from the number n on -/
def lettersFrom (n : Nat) : ByteArray := M.bs (([97, 98, 99, 100, 101, 102, 103, 104] : List UInt8).drop n)
theorem lettersFrom_size (n : Nat) : (lettersFrom n).size = 8 - n := by rw [lettersFrom, M.bs_size, List.length_drop]; rfl
theorem lettersFrom_at : ∀ n : Fin 8, ∀ _h : 0 < (lettersFrom n.1).size, (lettersFrom n.1)[0].toNat = 97 + n.1 := by decide +kernel
theorem lettersFrom_next (n : Nat) : M.bs ((lettersFrom n).data.toList.drop 1) = lettersFrom (n + 1) := by
  rw [lettersFrom, lettersFrom, M.bs_data, List.drop_drop]
theorem ofNat_let {n : Nat} (h : n < 150) : ((UInt8.ofNat (97 + n)).toNat : Int) = 97 + (n : Int) := by rw [UInt8.toNat_ofNat']; omega

set_option maxRecDepth 100000 in
set_option maxHeartbeats 4000000 in
theorem namedInOrder (s : ByteArray) (w : World) (hs : s.size ≤ 1000) (h8 : M.numL s.data.toList ≤ 8) : Calls Try.prog 92 #[.string s] w fun e w' => e = .returned (.string (M.bs (M.nameFrom 0 s.data.toList))) ∧ Hid (Below w.heap.size w w') := by
  have hL : Hid (s.data.toList.length = s.size) := (Lib.size_eq s).symm
  have hIs : Hid (∀ c W, Calls Try.prog 98 #[.int .u8 ((c : UInt8).toNat : Int)] W fun e w' => e = .returned (.bool (M.isL c)) ∧ w' = W) := isLetter
  obtain ⟨cap, w1, hconv, hrow, hb⟩ := bytes_of s w
  have hrow' : Hid (RowU w1 w.heap.size (M.namedTo s.data.toList 0)) := by rw [M.namedTo_zero]; exact hrow
  have hb' := Lib.hid hb
  have hst : Hid (M.numL (s.data.toList.take 0) = 0) := rfl
  have hbk : Hid (∀ W, RowU W w.heap.size (M.nameFrom 0 s.data.toList) → (convert 98 9 (.slice (some ⟨w.heap.size, 0, none⟩) s.size cap)).run Try.prog W = .ok (.string (M.bs (M.nameFrom 0 s.data.toList))) W) := fun W h => bytes_back _ _ _ _ W (by rw [M.nameFrom_len, hL.out]) h
  clear hrow hb
  generalize s.data.toList = L at *
  go_enter Try.func92, Try.ntmps92
  go_wp2
  clear hconv
  go_loopw [4, 11] (fun qz qi wr => ∃ (k n : Nat), k ≤ s.size ∧ n ≤ 8 ∧ qi = .int .i64 (k : Int) ∧ qz = .string (lettersFrom n) ∧ Hid (Below w.heap.size w wr) ∧ Hid (M.numL (L.take k) = n) ∧ Hid (RowU wr w.heap.size (M.namedTo L k))) (fun _ qi _ => s.size - (intOf qi).toNat)
  case atStart => exact ⟨0, 0, by omega, by omega, rfl, rfl, hb', hst, hrow'⟩
  case round =>
    obtain ⟨k, n, hk, hn, rfl, rfl, hB, hN, hR⟩ := hrel
    clear hst hrow' hb'
    by_cases hlt : k < s.size
    · have hki : (k : Int) < (s.size : Int) := by omega
      obtain ⟨c, hc⟩ : ∃ c, L[k]? = some c := ⟨_, List.getElem?_eq_getElem (by rw [hL.out]; exact hlt)⟩
      have hcell := hR.out.2 k c (M.namedTo_at hc)
      have hc1 := hcell.1
      have hc2 := hcell.2
      have hI := fun W => Lib.hid (hIs.out c W)
      have hx := M.numL_take hc
      rw [hN.out] at hx
      cases hl : M.isL c
      · rw [hl] at hI hx
        have hx2 : Hid (M.numL (L.take (k + 1)) = n) := hx
        have hR2 : Hid (RowU wr w.heap.size (M.namedTo L (k + 1))) := by rw [M.namedTo_other hc hl]; exact hR.out
        clear hIs hx hN hl hcell hR hbk hc
        go_wp2_with (go_at_call 98; refine (hI _).out.mono ?_; rintro e w' ⟨rfl, hw⟩; subst hw)
        go_roundw
        case rel => exact ⟨k + 1, n, by omega, by omega, by go_num, rfl, hB, hx2, hR2⟩
        case measure => simp [intOf]; omega
      · rw [hl] at hI hx
        have hx2 : Hid (M.numL (L.take (k + 1)) = n + 1) := hx
        have hn8 : n < 8 := by have := M.numL_take_le L (k + 1); have := hx2.out; omega
        have hz0 : 0 < (lettersFrom n).size := by rw [lettersFrom_size n]; omega
        have hz1 : ((lettersFrom n)[0].toNat : Int) = ((UInt8.ofNat (97 + n)).toNat : Int) := by
          rw [ofNat_let (by omega)]
          have := lettersFrom_at ⟨n, hn8⟩ hz0
          simp only at this
          omega
        have hz2 : ∀ W, (Instr.slice 9 (.string (lettersFrom n)) (some (.int .i64 1)) none none).run Try.prog W = .ok (.string (lettersFrom (n + 1))) W := fun W => by
          have := run_slice_string_l (P := Try.prog) W 9 (lettersFrom n) Try.underlying9 .i64 1 (by omega) (by omega)
          rw [this, show ((1 : Int)).toNat = 1 by rfl, cut_from, lettersFrom_next]
        have hR2 : Hid (RowU (wr.setCell ⟨w.heap.size, k, none⟩ (.int .u8 ((lettersFrom n)[0].toNat : Int))) w.heap.size (M.namedTo L (k + 1))) := by
          show RowU _ _ _
          rw [hz1, M.namedTo_let hc hl, hN.out]
          exact rowU_set hR.out (by rw [M.namedTo_len, hL.out]; exact hlt) _
        have hB2 : Hid (Below w.heap.size w (wr.setCell ⟨w.heap.size, k, none⟩ (.int .u8 ((lettersFrom n)[0].toNat : Int)))) := below_setCell hB.out (Nat.le_refl _) _
        clear hIs hx hN hl hcell hR hbk hc hB hz1
        obtain ⟨Z2, hZ2⟩ : ∃ Z2, Hid (lettersFrom (n + 1) = Z2) := ⟨_, rfl⟩
        rw [hZ2.out] at hz2
        generalize lettersFrom n = Z at *
        go_wp2_with (go_at_call 98; refine (hI _).out.mono ?_; rintro e w' ⟨rfl, hw⟩; subst hw)
        go_roundw
        case rel => exact ⟨k + 1, n + 1, by omega, by omega, by go_num, by rw [hZ2.out], hB2, hx2, hR2⟩
        case measure => simp [intOf]; omega
    · obtain rfl : k = s.size := by omega
      have hE := hbk.out wr (by rw [← M.namedTo_end L (by rw [hL.out]; exact Nat.le_refl _)]; exact hR.out)
      clear hIs hbk hR
      go_wp2
      go_ret
      exact ⟨rfl, hB⟩
end Go.Proofs.Ytbdmmeoelagdcaa

/- The model's reader of what stands at the letters of a pattern: l04Behind, l04Match. -/
namespace Go.Proofs.Ytbdmmeoelagdcaa
open Go.RowKit

set_option maxRecDepth 100000 in
set_option maxHeartbeats 4000000 in
theorem l04Behind (s : ByteArray) (j m : Nat) (r : List UInt8) (w : World) (hs : s.size ≤ 1048576) (hj : j ≤ s.size) (hr : Hid (M.piece (s.data.toList.drop j) = some r)) (hm : Hid (s.size - r.length = m)) :
    Calls Try.prog 105 #[.string s, .int .i64 (j : Int)] w fun e w' => e = .returned (.int .i64 (m : Int)) ∧ w' = w := by
  have hL : Hid (s.data.toList.length = s.size) := (Lib.size_eq s).symm
  have hby : Hid (∀ k (h : k < s.size), s.data.toList.drop k = s[k] :: s.data.toList.drop (k + 1)) := fun _ h => byte_here s h
  have hfin : Hid (∀ k, k ≤ s.size → s.data.toList.drop k = r → k = m) := fun k hk h => by
    have := congrArg List.length h
    rw [List.length_drop, hL.out] at this
    rw [← hm.out, ← this]
    omega
  generalize s.data.toList = L at *
  go_enter Try.func105, Try.ntmps105
  go_wp2
  go_loopw [1, 5] (fun qa qo wr => ∃ (k o : Nat), k ≤ s.size ∧ o ≤ k ∧ qa = .int .i64 (k : Int) ∧ qo = .int .i64 (o : Int) ∧ wr = w ∧ Hid ((o = 0 ∧ M.piece (L.drop k) = some r) ∨ (0 < o ∧ M.close (L.drop k) o = some r))) (fun qa _ _ => s.size - (intOf qa).toNat)
  case atStart => exact ⟨j, 0, hj, by omega, rfl, rfl, rfl, .inl ⟨rfl, hr.out⟩⟩
  case round =>
    obtain ⟨k, o, hk, ho, rfl, rfl, rfl, hst⟩ := hrel
    have hlt : k < s.size := by
      apply Nat.lt_of_not_le
      intro h
      have h0 : L.drop k = [] := List.drop_of_length_le (by have := hL.out; omega)
      rcases hst.out with ⟨_, h2⟩ | ⟨h1, h2⟩
      · rw [h0] at h2; cases h2
      · obtain ⟨q, rfl⟩ : ∃ q, o = q + 1 := ⟨o - 1, by omega⟩
        rw [h0] at h2; cases h2
    have hd := Lib.hid (hby.out k hlt)
    by_cases h40 : s[k] = 40
    · have e40 : ((s[k].toNat : Int) == 40) = true := by rw [h40]; rfl
      have e41 : ((s[k].toNat : Int) == 41) = false := by rw [h40]; rfl
      have hN : Hid ((o + 1 = 0 ∧ M.piece (L.drop (k + 1)) = some r) ∨ (0 < o + 1 ∧ M.close (L.drop (k + 1)) (o + 1) = some r)) := by
        refine .inr ⟨by omega, ?_⟩
        rcases hst.out with ⟨rfl, h2⟩ | ⟨h1, h2⟩
        · rwa [hd.out, h40, M.piece_open] at h2
        · obtain ⟨q, rfl⟩ : ∃ q, o = q + 1 := ⟨o - 1, by omega⟩
          rwa [hd.out, h40, M.close_open] at h2
      have hne : ((o : Int) + 1 == 0) = false := beq_eq_false_iff_ne.2 (by omega)
      clear hst hd hby hfin h40
      go_wp2
      go_roundw
      case rel => exact ⟨k + 1, o + 1, by omega, by omega, by go_num, by go_num, trivial, hN⟩
      case measure => simp [intOf]; omega
    · have e40 : ((s[k].toNat : Int) == 40) = false := beq_eq_false_iff_ne.2 (by simpa using ne_byte h40)
      by_cases h41 : s[k] = 41
      · have e41 : ((s[k].toNat : Int) == 41) = true := by rw [h41]; rfl
        have ho0 : 0 < o := by
          rcases hst.out with ⟨_, h2⟩ | ⟨h1, _⟩
          · rw [hd.out, h41, M.piece_shut] at h2; cases h2
          · exact h1
        obtain ⟨q, rfl⟩ : ∃ q, o = q + 1 := ⟨o - 1, by omega⟩
        have hc1 : M.close (L.drop (k + 1)) q = some r := by
          rcases hst.out with ⟨h1, _⟩ | ⟨_, h2⟩
          · omega
          · rwa [hd.out, h41, M.close_shut] at h2
        by_cases hq : q = 0
        · subst hq
          rw [M.close_zero] at hc1
          injection hc1 with hc1
          have hmk := Lib.hid (hfin.out (k + 1) (by omega) hc1)
          clear hst hd hby hfin h40 h41 hc1
          go_wp2
          go_ret
          exact ⟨by rw [← hmk.out]; rfl, rfl⟩
        · have hN : Hid ((q = 0 ∧ M.piece (L.drop (k + 1)) = some r) ∨ (0 < q ∧ M.close (L.drop (k + 1)) q = some r)) := .inr ⟨by omega, hc1⟩
          have hw1 : IntKind.i64.wrap (((q + 1 : Nat) : Int) - 1) = (q : Int) := by rw [IntWalk.i64_in _ (by omega)]; omega
          have hne : ((q : Int) == 0) = false := beq_eq_false_iff_ne.2 (by omega)
          clear hst hd hby hfin h40 h41 hc1
          go_wp2
          go_roundw
          case rel => exact ⟨k + 1, q, by omega, by omega, by go_num, by first | rfl | go_num, trivial, hN⟩
          case measure => simp [intOf]; omega
      · have e41 : ((s[k].toNat : Int) == 41) = false := beq_eq_false_iff_ne.2 (by simpa using ne_byte h41)
        by_cases ho0 : o = 0
        · subst ho0
          have hc1 : L.drop (k + 1) = r := by
            rcases hst.out with ⟨_, h2⟩ | ⟨h1, _⟩
            · rw [hd.out] at h2
              cases hc : M.isL s[k]
              · rw [M.piece_bad hc h40] at h2; cases h2
              · rw [M.piece_let hc] at h2; injection h2
            · omega
          have hmk := Lib.hid (hfin.out (k + 1) (by omega) hc1)
          clear hst hd hby hfin h40 h41 hc1
          go_wp2
          go_ret
          exact ⟨by rw [← hmk.out]; rfl, rfl⟩
        · obtain ⟨q, rfl⟩ : ∃ q, o = q + 1 := ⟨o - 1, by omega⟩
          have hN : Hid ((q + 1 = 0 ∧ M.piece (L.drop (k + 1)) = some r) ∨ (0 < q + 1 ∧ M.close (L.drop (k + 1)) (q + 1) = some r)) := by
            refine .inr ⟨by omega, ?_⟩
            rcases hst.out with ⟨h1, _⟩ | ⟨_, h2⟩
            · omega
            · rw [hd.out] at h2
              cases hc : M.isL s[k]
              · rw [M.close_bad hc h40 h41] at h2; cases h2
              · rwa [M.close_let hc] at h2
          have hne : (((q + 1 : Nat) : Int) == 0) = false := beq_eq_false_iff_ne.2 (by omega)
          clear hst hd hby hfin h40 h41
          go_wp2
          go_roundw
          case rel => exact ⟨k + 1, q + 1, by omega, by omega, by go_num, by first | rfl | go_num, trivial, hN⟩
          case measure => simp [intOf]; omega

theorem ownS_drewN {w : World} {B : Nat} {v : Value} {ts : List ByteArray} (h : OwnS w B v ts) (n : Nat) : OwnS (w.drewN n) B v ts := h
theorem byte_eq {b c : UInt8} (h : b = c) : ((b.toNat : Int) != (c.toNat : Int)) = false := by rw [h]; simp

set_option maxRecDepth 100000 in
set_option maxHeartbeats 8000000 in
theorem l04Match (p t : ByteArray) (w : World) (hp : p.size ≤ 1000000) (ht : t.size ≤ 1048576) (hb2 : Hid (M.both p.data.toList t.data.toList)) :
    Calls Try.prog 70 #[.string p, .string t] w (MtQ (M.mt p.data.toList t.data.toList) w) := by
  have hL : Hid (p.data.toList.length = p.size) := (Lib.size_eq p).symm
  have hLt : Hid (t.data.toList.length = t.size) := (Lib.size_eq t).symm
  have hby : Hid (∀ k (h : k < p.size), p.data.toList.drop k = p[k] :: p.data.toList.drop (k + 1)) := fun _ h => byte_here p h
  have hbt : Hid (∀ k (h : k < t.size), t.data.toList.drop k = t[k] :: t.data.toList.drop (k + 1)) := fun _ h => byte_here t h
  have hcut : Hid (∀ (k m : Nat) (_ : k ≤ m) (_ : m ≤ t.size) (W : World), (Instr.slice 9 (.string t) (some (.int .i64 (k : Int))) (some (.int .i64 (m : Int))) none).run Try.prog W = .ok (.string (M.bs ((t.data.toList.drop k).take (m - k)))) W) := fun k m h1 h2 W => by
    have := run_slice_string (P := Try.prog) W 9 t .i64 .i64 (k : Int) (m : Int) Try.underlying9 (by omega) (by omega) (by omega)
    rw [this, show ((k : Int)).toNat = k by omega, show ((m : Int)).toNat = m by omega, Lib.extract_eq]
    rfl
  have hBe : Hid (∀ (j m : Nat) (r : List UInt8) (W : World), j ≤ t.size → M.piece (t.data.toList.drop j) = some r → t.size - r.length = m → Calls Try.prog 105 #[.string t, .int .i64 (j : Int)] W fun e w' => e = .returned (.int .i64 (m : Int)) ∧ w' = W) := fun j m r W h1 h2 h3 => l04Behind t j m r W ht h1 (Lib.hid h2) (Lib.hid h3)
  obtain ⟨R, hR⟩ : ∃ R, M.mt p.data.toList t.data.toList = R := ⟨_, rfl⟩
  obtain ⟨Q, hQ⟩ : ∃ Q, MtQ R w = Q := ⟨_, rfl⟩
  have hNone : Hid (R = none → ∀ w', Hid (Below w.heap.size w w') → Q (.returned (.tuple #[.slice none 0 0, .bool false])) w') := fun h w' hb => by
    rw [← hQ, h]
    exact ⟨none, 0, 0, rfl, hb, Lib.hid (ownS_nil _ _)⟩
  have hSome : Hid (∀ ts w' A n c, R = some ts → Hid (Below w.heap.size w w') → Hid (OwnS w' w.heap.size (.slice A n c) (ts.map M.bs)) → Q (.returned (.tuple #[.slice A n c, .bool true])) w') := fun ts w' A n c h hb ho => by
    rw [← hQ, h]
    exact ⟨A, n, c, rfl, hb, ho⟩
  have hst : Hid ((M.mt (p.data.toList.drop 0) (t.data.toList.drop 0)).map (([] : List (List UInt8)) ++ ·) = R) := by
    show _ = _
    rw [List.drop_zero, List.drop_zero, hR]
    cases R <;> rfl
  have hbo : Hid (M.both (p.data.toList.drop 0) (t.data.toList.drop 0)) := hb2.out
  have hb0 := Lib.hid (bal (b0 w) (.cells #[] 9))
  have ho0 := Lib.hid (ownS_empty (w := w) (B := w.heap.size) (Nat.le_refl _))
  rw [hR, hQ]
  clear hR hQ hb2
  generalize p.data.toList = P at *
  generalize t.data.toList = T at *
  go_enter Try.func70, Try.ntmps70
  go_wp2
  go_loopw [6, 7, 8] (fun qs qa qi wr => ∃ (k j n c : Nat) (A : Option Addr) (ts : List (List UInt8)), k ≤ p.size ∧ j ≤ t.size ∧ qi = .int .i64 (k : Int) ∧ qa = .int .i64 (j : Int) ∧ n ≤ k ∧ qs = .slice A n c ∧ Hid (OwnS wr w.heap.size (.slice A n c) (ts.map M.bs)) ∧ Hid (Below w.heap.size w wr) ∧ Hid (M.both (P.drop k) (T.drop j)) ∧ Hid ((M.mt (P.drop k) (T.drop j)).map (ts ++ ·) = R)) (fun _ _ qi _ => p.size - (intOf qi).toNat)
  case atStart => exact ⟨0, 0, 0, 0, _, [], by omega, by omega, rfl, rfl, by omega, rfl, ho0, hb0, hbo, hst⟩
  case round =>
    obtain ⟨k, j, n, c, A, ts, hk, hj, rfl, rfl, hn, rfl, hO, hB, hBo, hM⟩ := hrel
    clear hst ho0 hb0 hbo
    by_cases hlt : k < p.size
    · have hki : (k : Int) < (p.size : Int) := by omega
      have hd := Lib.hid (hby.out k hlt)
      by_cases hjt : j < t.size
      · have hji : ¬ (t.size : Int) ≤ (j : Int) := by omega
        have hdt := Lib.hid (hbt.out j hjt)
        have hkind := Lib.hid (M.both_kind (by rw [← hd.out]; exact hBo.out))
        cases hc : M.isL p[k]
        · have hkk : p[k] = 40 ∨ p[k] = 41 := hkind.out.resolve_left (by rw [hc]; decide)
          by_cases heq : p[k] = t[j]
          · have hM' : Hid ((M.mt (P.drop (k + 1)) (T.drop (j + 1))).map (ts ++ ·) = R) := by
              show _ = _
              rw [← hM.out, hd.out, hdt.out, ← heq, M.mt_same hc]
            have hBo' : Hid (M.both (P.drop (k + 1)) (T.drop (j + 1))) := M.both_same (by rw [← hd.out]; rw [heq, ← hdt.out]; exact hBo.out) hc
            have eq1 := byte_eq heq
            clear hNone hSome hby hbt hcut hBe hd hdt hM hBo hkind hL hLt
            rcases hkk with h40 | h41
            · have e40 : ((p[k].toNat : Int) != 40) = false := by rw [h40]; rfl
              clear hc heq h40
              go_wp2
              go_quiet (fail)
              go_wp2
              go_roundw
              case rel => exact ⟨k + 1, j + 1, n, c, A, ts, by omega, by omega, by go_num, by go_num, by omega, rfl, Lib.hid (ownS_drewN hO.out _), below_drewN hB.out _, hBo', hM'⟩
              case measure => simp [intOf]; omega
            · have e40 : ((p[k].toNat : Int) != 40) = true := by rw [h41]; rfl
              have e41 : ((p[k].toNat : Int) != 41) = false := by rw [h41]; rfl
              clear hc heq h41
              go_wp2
              go_quiet (fail)
              go_wp2
              go_roundw
              case rel => exact ⟨k + 1, j + 1, n, c, A, ts, by omega, by omega, by go_num, by go_num, by omega, rfl, Lib.hid (ownS_drewN hO.out _), below_drewN hB.out _, hBo', hM'⟩
              case measure => simp [intOf]; omega
          · have hN := Lib.hid (fun W => hNone.out (by rw [← hM.out, hd.out, hdt.out, M.mt_other hc _ _ (Ne.symm heq)]; rfl) W)
            have eq1 := ne_byte heq
            clear hNone hSome hby hbt hcut hBe hd hdt hM hBo hkind hL hLt
            rcases hkk with h40 | h41
            · have e40 : ((p[k].toNat : Int) != 40) = false := by rw [h40]; rfl
              clear hc heq h40
              go_wp2
              go_quiet (fail)
              go_wp2
              exact hN.out _ (below_drewN hB.out _)
            · have e40 : ((p[k].toNat : Int) != 40) = true := by rw [h41]; rfl
              have e41 : ((p[k].toNat : Int) != 41) = false := by rw [h41]; rfl
              clear hc heq h41
              go_wp2
              go_quiet (fail)
              go_wp2
              exact hN.out _ (below_drewN hB.out _)
        · have e40 : ((p[k].toNat : Int) != 40) = true := ne_byte (M.ne_open hc)
          have e41 : ((p[k].toNat : Int) != 41) = true := ne_byte (M.ne_shut hc)
          by_cases h41 : t[j] = 41
          · have f41 : ((t[j].toNat : Int) == 41) = true := by rw [h41]; rfl
            have hN := Lib.hid (hNone.out (by rw [← hM.out, hd.out, hdt.out, h41, M.mt_shut hc]; rfl) wr hB)
            clear hNone hSome hby hbt hcut hBe hd hdt hM hBo hkind hL hLt hc h41
            go_wp2
            exact hN.out
          · have f41 : ((t[j].toNat : Int) == 41) = false := beq_eq_false_iff_ne.2 (by simpa using ne_byte h41)
            obtain ⟨r, hr, hbr⟩ := M.both_let (c := p[k]) (d := t[j]) (P := P.drop (k + 1)) (T := T.drop (j + 1)) (by rw [← hd.out, ← hdt.out]; exact hBo.out) hc h41
            rw [← hdt.out] at hr
            have hrl := M.piece_drop hr
            rw [List.length_drop, hLt.out] at hrl
            obtain ⟨m, hm⟩ : ∃ m, t.size - r.length = m := ⟨_, rfl⟩
            have hm1 : j < m := by omega
            have hm2 : m ≤ t.size := by omega
            have hrm : T.drop m = r := by
              have := hrl.2
              rw [List.drop_drop] at this
              rw [← this]
              congr 1
              omega
            have hC := fun W => Lib.hid (hBe.out j m r W hj hr hm)
            have hsl := fun W => hcut.out j m (by omega) hm2 W
            obtain ⟨Y, hY⟩ : ∃ Y, (T.drop j).take (m - j) = Y := ⟨_, rfl⟩
            have hM' : Hid ((M.mt (P.drop (k + 1)) (T.drop m)).map ((ts ++ [Y]) ++ ·) = R) := by
              show _ = _
              have e1 : t.size - j - r.length = m - j := by omega
              rw [← hM.out, hd.out, M.mt_let hc _ hr, map_cons, hrm, ← hY, List.length_drop, hLt.out, e1]
            have hBo' : Hid (M.both (P.drop (k + 1)) (T.drop m)) := by rw [hrm]; exact hbr
            have hts : Hid ((ts ++ [Y]).map M.bs = ts.map M.bs ++ [M.bs Y]) := by simp [Hid]
            rw [hY] at hsl
            have hzr := hB.out.size
            have hn6 : n ≤ 1000000 := by omega
            clear hNone hSome hby hbt hcut hBe hd hdt hM hBo hkind hL hLt hc h41 hr hbr hrl hm hrm hY
            generalize ts ++ [Y] = ts' at *
            generalize M.bs Y = Z at *
            go_wp2_with (first | (go_at_call 105; refine (hC _).out.mono ?_; rintro e w' ⟨rfl, hw⟩; subst hw) | (at_builtin; refine pushS rfl (.tmp 42) (.tmp 47) rfl _ w.heap.size A n c (ts.map M.bs) Z rfl rfl hO hzr hn6 ?_; intro A2 c2 w2 ho2 hb2))
            have hb3 := Lib.hid (hB.out.trans hb2.out)
            rw [← hts.out] at ho2
            clear hb2 hB hO hts
            go_roundw
            case rel => exact ⟨k + 1, m, n + 1, c2, A2, ts', by omega, by omega, by go_num, rfl, by omega, rfl, ho2, hb3, hBo', hM'⟩
            case measure => simp [intOf]; omega
      · have hji : (t.size : Int) ≤ (j : Int) := by omega
        have hN := Lib.hid (hNone.out (by rw [← hM.out, hd.out, List.drop_of_length_le (by have := hLt.out; omega : T.length ≤ j), M.mt_end]; rfl) wr hB)
        clear hNone hSome hby hbt hcut hBe hd hM hBo hL hLt
        go_wp2
        exact hN.out
    · obtain rfl : k = p.size := by omega
      have hP0 : P.drop p.size = [] := List.drop_of_length_le (by have := hL.out; omega)
      have hR1 : R = some ts := by rw [← hM.out, hP0, M.mt_nil]; simp
      have hT0 : T.drop j = [] := M.both_end (by rw [← hP0]; exact hBo.out)
      have hje : j = t.size := by
        have := congrArg List.length hT0
        rw [List.length_drop, hLt.out] at this
        simp at this
        omega
      have hji : ((j : Int) == (t.size : Int)) = true := beq_iff_eq.2 (by omega)
      have hF := Lib.hid (hSome.out ts wr A n c hR1 hB hO)
      clear hNone hSome hM hby hbt hcut hBe hR1 hP0 hT0 hBo
      go_wp2
      exact hF.out
end Go.Proofs.Ytbdmmeoelagdcaa

/- The model's reader of patterns: l04End, l04Is. -/
namespace Go.Proofs.Ytbdmmeoelagdcaa
open Go.RowKit

/-- the slice value v owns a row of bools -/
abbrev OwnB (w : World) (B : Nat) (v : Value) (U : List Bool) : Prop := w.ownsRow B 4 1 v U.length (U.map Value.bool)
theorem ownB_set {w : World} {B g n c : Nat} {U : List Bool} (h : OwnB w B (.slice (some ⟨g, 0, none⟩) n c) U) (hn : U.length = n) (k : Nat) (x : Bool) :
    OwnB (w.setCell ⟨g, k, none⟩ (.bool x)) B (.slice (some ⟨g, 0, none⟩) n c) (U.set k x) := by
  subst hn
  have := (World.ownsRow.stored h k (.bool x)).1
  simpa [OwnB, List.map_set] using this
theorem ownB_cell {w : World} {B g n c : Nat} {U : List Bool} (h : OwnB w B (.slice (some ⟨g, 0, none⟩) n c) U) (hn : U.length = n) {k : Nat} {x : Bool} (hx : U[k]? = some x) :
    w.cell? ⟨g, k, none⟩ = some (.bool x) ∧ w.frozen? ⟨g, k, none⟩ = false := by
  subst hn
  have hk : k < U.length := (List.getElem?_eq_some_iff.1 hx).1
  exact ⟨(World.ownsRow.cellAt h k (by omega)).trans (by simp [hx]), World.ownsRow.frozenAt h k⟩
theorem ownB_made {w : World} {B n : Nat} (hB : B ≤ w.heap.size) (hn : n ≤ maxLen) :
    OwnB (w.alloc (.cells (madeCells #[.bool false] n) 4)) B (.slice (some ⟨w.heap.size, 0, none⟩) n n) (List.replicate n false) := by
  have h := World.ownsRow_lit (e := 4) (size := 1) w (madeCells #[.bool false] n) n hB hn (by simp [size_madeCells])
  rw [toList_madeCells_one] at h
  simpa [OwnB] using h

/-- the place behind what has been read, or none -/
def endOf (n : Nat) (R : Option (List UInt8 × List Bool)) : Int := match R with | some x => ((n - x.1.length : Nat) : Int) | none => -1
theorem getD_at {U : List Bool} {k : Nat} {x : Bool} (h : U.getD k true = x) (hk : k < U.length) : U[k]? = some x := by
  rw [List.getD_eq_getElem?_getD, List.getElem?_eq_getElem hk] at h
  rw [List.getElem?_eq_getElem hk, ← h]; rfl

/-- what has been told of the letters that have stood -/
def Told (R : Option (List UInt8 × List Bool)) (V : List Bool) : Prop := ∀ x, R = some x → x.2 = V
theorem told_none (V : List Bool) : Told none V := fun x h => by cases h
theorem told_some (r : List UInt8) (V : List Bool) : Told (some (r, V)) V := fun x h => by injection h with h; rw [← h]
/-- what l04End hands back -/
def EndQ (g n : Nat) (R : Option (List UInt8 × List Bool)) (w : World) (e : Ending) (w' : World) : Prop :=
  e = .returned (.int .i64 (endOf n R)) ∧ Hid (Below g w w') ∧ ∃ V, Hid (V.length = 8) ∧ Hid (OwnB w' g (.slice (some ⟨g, 0, none⟩) 8 8) V) ∧ Hid (Told R V)
theorem endQ_at (g n : Nat) (R : Option (List UInt8 × List Bool)) (w : World) {i : Int} (h : endOf n R = i) : EndQ g n R w = fun e w' => e = .returned (.int .i64 i) ∧ Hid (Below g w w') ∧ ∃ V, Hid (V.length = 8) ∧ Hid (OwnB w' g (.slice (some ⟨g, 0, none⟩) 8 8) V) ∧ Hid (Told R V) := by
  funext e w'
  rw [EndQ, h]
/-- what l04End must do with texts of less than f bytes -/
def EndUAt (s : ByteArray) (L : List UInt8) (f : Nat) : Prop := ∀ (j g : Nat) (U : List Bool) (w : World), s.size - j < f → j ≤ s.size → Hid (U.length = 8) → Hid (OwnB w g (.slice (some ⟨g, 0, none⟩) 8 8) U) →
  Calls Try.prog 124 #[.string s, .int .i64 (j : Int), .slice (some ⟨g, 0, none⟩) 8 8] w (EndQ g s.size (M.pieceU (L.drop j) U) w)
theorem drop_rest {L : List UInt8} {j : Nat} {U : List Bool} {x : List UInt8 × List Bool} (h : M.pieceU (L.drop j) U = some x) (hj : j ≤ L.length) : j < L.length - x.1.length ∧ L.length - x.1.length ≤ L.length ∧ L.drop (L.length - x.1.length) = x.1 ∧ x.2.length = U.length := by
  obtain ⟨h1, h2, h3⟩ := M.pieceU_len h
  rw [List.length_drop] at h2 h3
  rw [List.drop_drop] at h3
  refine ⟨by omega, by omega, ?_, h1⟩
  rw [show L.length - x.1.length = j + (L.length - j - x.1.length) by omega]
  exact h3

set_option maxRecDepth 100000 in
set_option maxHeartbeats 4000000 in
theorem l04End_step (s : ByteArray) (L : List UInt8) (hs : s.size ≤ 1000) (hL : Hid (L.length = s.size)) (hby : Hid (∀ k (h : k < s.size), L.drop k = s[k] :: L.drop (k + 1))) (f : Nat) (ih : Hid (EndUAt s L f)) : EndUAt s L (f + 1) := by
  intro j g U w hf hj hU hO
  obtain ⟨R, hR⟩ : ∃ R, M.pieceU (L.drop j) U = R := ⟨_, rfl⟩
  have HR := Lib.hid hR
  obtain ⟨Q, hQ⟩ : ∃ Q, EndQ g s.size R w = Q := ⟨_, rfl⟩
  have hEnd : Hid (∀ (i : Int) (w' : World) (V : List Bool), endOf s.size R = i → Hid (Below g w w') → Hid (V.length = 8) → Hid (OwnB w' g (.slice (some ⟨g, 0, none⟩) 8 8) V) → Told R V → Q (.returned (.int .i64 i)) w') := fun i w' V h1 h2 h3 h4 h5 => by
    rw [← hQ]
    exact ⟨by rw [h1], h2, V, h3, h4, Lib.hid h5⟩
  rw [hR, hQ]
  clear hQ hR
  have hB := Lib.hid (Below.refl g w)
  by_cases hlt : j < s.size
  · have hi : ¬ (s.size : Int) ≤ (j : Int) := by omega
    have hd := Lib.hid (hby.out j hlt)
    cases hc : M.isL s[j]
    · have hn : ¬ (97 ≤ (s[j].toNat : Int) ∧ (s[j].toNat : Int) ≤ 104) := fun h => by have := M.isL_iff (c := s[j]); rw [hc] at this; exact absurd (this.2 (by omega)) (by decide)
      by_cases h40 : s[j] = 40
      · have e40 : (s[j].toNat : Int) = 40 := by rw [h40]; rfl
        have hR0 : Hid (M.closeU (L.drop (j + 1)) 1 U = R) := by show _ = _; rw [← HR.out, hd.out, h40, M.pieceU_open]
        clear hd hc HR h40 hn
        go_enter Try.func124, Try.ntmps124
        go_wp2
        go_loopw [1] (fun qa wr => ∃ (k : Nat) (V : List Bool), j < k ∧ k ≤ s.size ∧ qa = .int .i64 (k : Int) ∧ Hid (V.length = 8) ∧ Hid (OwnB wr g (.slice (some ⟨g, 0, none⟩) 8 8) V) ∧ Hid (Below g w wr) ∧ Hid (M.closeU (L.drop k) 1 V = R)) (fun qa _ => s.size - (intOf qa).toNat)
        case atStart => exact ⟨j + 1, U, by omega, by omega, by go_num, hU, hO, hB, hR0⟩
        case round =>
          obtain ⟨k, V, hjk, hk, rfl, hV, hOV, hBV, hRV⟩ := hrel
          clear hU hO hB hR0
          by_cases hkl : k < s.size
          · have hki : (k : Int) < (s.size : Int) := by omega
            have hdk := Lib.hid (hby.out k hkl)
            by_cases h41 : s[k] = 41
            · have e41 : ((s[k].toNat : Int) != 41) = false := by rw [h41]; rfl
              have hRk : R = some (L.drop (k + 1), V) := by rw [← hRV.out, hdk.out, h41, M.closeU_shut, M.closeU_zero]
              have hfin := Lib.hid (hEnd.out ((k : Int) + 1) wr V (by
                rw [hRk]
                show (((s.size - (L.drop (k + 1)).length : Nat)) : Int) = _
                rw [List.length_drop, hL.out]; omega) hBV hV hOV (by rw [hRk]; exact told_some _ _))
              clear hEnd ih hdk hRk h41 hRV
              go_wp2
              exact hfin.out
            · have e41 : ((s[k].toNat : Int) != 41) = true := ne_byte h41
              have hC := Lib.hid (ih.out k g V wr (by omega) (by omega) hV hOV)
              have hst : M.closeU (L.drop k) 1 V = (M.pieceU (L.drop k) V).bind fun x => M.closeU x.1 1 x.2 := by rw [hdk.out]; exact M.closeU_piece h41 _ 0 V
              cases hp : M.pieceU (L.drop k) V with
              | none =>
                have hR1 : R = none := by rw [← hRV.out, hst, hp]; rfl
                have hE : Hid (∀ w', Hid (Below g w w') → ∀ V', Hid (V'.length = 8) → Hid (OwnB w' g (.slice (some ⟨g, 0, none⟩) 8 8) V') → Q (.returned (.int .i64 (-1))) w') := fun w' h1 V' h2 h3 => hEnd.out (-1) w' V' (by rw [hR1]; rfl) h1 h2 h3 (by rw [hR1]; exact told_none _)
                rw [hp, endQ_at g s.size none wr (i := -1) rfl] at hC
                clear hEnd ih hdk hst hR1 h41 hRV hp
                go_wp2_with (go_at_call 124; with_reducible refine hC.out.mono ?_; rintro e w2 ⟨rfl, hb2, V2, hV2, hO2, hT2⟩)
                have hfin := Lib.hid (hE.out w2 (Lib.hid (hBV.out.trans hb2.out)) V2 hV2 hO2)
                exact hfin.out
              | some x =>
                obtain ⟨r, V'⟩ := x
                have hr := drop_rest hp (by rw [hL.out]; omega)
                rw [hL.out] at hr
                simp only at hr
                obtain ⟨m, hm⟩ : ∃ m, s.size - r.length = m := ⟨_, rfl⟩
                have hR1 : Hid (M.closeU (L.drop m) 1 V' = R) := by show _ = _; rw [← hRV.out, hst, hp, ← hm, hr.2.2.1]; rfl
                rw [hm] at hr
                have hkm := hr.1
                have hms := hr.2.1
                rw [hp] at hC
                have he : endOf s.size (some (r, V')) = (m : Int) := by rw [endOf, hm]
                rw [endQ_at g s.size _ wr he] at hC
                have hmi : ¬ (m : Int) < 0 := by omega
                clear hEnd ih hdk hst h41 hRV hp hr he hm
                go_wp2_with (go_at_call 124; with_reducible refine hC.out.mono ?_; rintro e w2 ⟨rfl, hb2, V2, hV2, hO2, hT2⟩)
                have hVe : V' = V2 := hT2.out _ rfl
                subst hVe
                have hb3 := Lib.hid (hBV.out.trans hb2.out)
                clear hT2 hb2 hC
                go_roundw
                case rel => exact ⟨m, V', by omega, by omega, rfl, hV2, hO2, hb3, hR1⟩
                case measure => simp [intOf]; omega
          · obtain rfl : k = s.size := by omega
            have hRk : R = none := by rw [← hRV.out, List.drop_of_length_le (by have := hL.out; omega)]; rfl
            have hfin := Lib.hid (hEnd.out (-1) wr V (by rw [hRk]; rfl) hBV hV hOV (by rw [hRk]; exact told_none _))
            clear hEnd ih hRk hRV
            go_wp2
            exact hfin.out
      · have e40 : ((s[j].toNat : Int) != 40) = true := ne_byte h40
        have hP : R = none := by rw [← HR.out, hd.out]; exact M.pieceU_bad hc h40 _ U
        have hfin := Lib.hid (hEnd.out (-1) w U (by rw [hP]; rfl) hB hU hO (by rw [hP]; exact told_none _))
        clear hd hP hc hEnd ih HR
        by_cases hn1 : 97 ≤ (s[j].toNat : Int)
        · have hn2 : ¬ (s[j].toNat : Int) ≤ 104 := fun h => hn ⟨hn1, h⟩
          clear hn
          go_enter Try.func124, Try.ntmps124
          go_wp2
          exact hfin.out
        · clear hn
          go_enter Try.func124, Try.ntmps124
          go_wp2
          exact hfin.out
    · have hcc := M.isL_iff.1 hc
      obtain ⟨q, hq⟩ : ∃ q, s[j].toNat = 97 + q := ⟨s[j].toNat - 97, by omega⟩
      have hq8 : q < 8 := by omega
      have hz1 : (97 : Int) ≤ (s[j].toNat : Int) := by omega
      have hz2 : (s[j].toNat : Int) ≤ 104 := by omega
      have hw : IntKind.u8.wrap ((s[j].toNat : Int) - 97) = (q : Int) := by rw [IntWalk.u8_in _ (by omega)]; omega
      have hq' : s[j].toNat - 97 = q := by omega
      cases hb : U.getD q true
      · have hP : R = some (L.drop (j + 1), U.set q true) := by rw [← HR.out, hd.out, M.pieceU_let hc _ (by rw [hq']; exact hb), hq']
        have hcell := ownB_cell hO.out hU.out (getD_at hb (by rw [hU.out]; exact hq8))
        have hc1 := hcell.1
        have hc2 := hcell.2
        have hfin := Lib.hid (hEnd.out ((j : Int) + 1) (w.setCell ⟨g, q, none⟩ (.bool true)) (U.set q true) (by
          rw [hP]
          show (((s.size - (L.drop (j + 1)).length : Nat)) : Int) = _
          rw [List.length_drop, hL.out]; omega) (Lib.hid (below_setCell hB.out (Nat.le_refl g) _)) (by show _ = _; rw [List.length_set]; exact hU.out) (Lib.hid (ownB_set hO.out hU.out q true)) (by rw [hP]; exact told_some _ _))
        clear hd hP hb hc hcell hEnd ih HR hcc hq' hq
        go_enter Try.func124, Try.ntmps124
        go_wp2
        exact hfin.out
      · have hP : R = none := by rw [← HR.out, hd.out]; exact M.pieceU_used hc _ (by rw [hq']; exact hb)
        have hcell := (ownB_cell hO.out hU.out (getD_at hb (by rw [hU.out]; exact hq8))).1
        have hfin := Lib.hid (hEnd.out (-1) w U (by rw [hP]; rfl) hB hU hO (by rw [hP]; exact told_none _))
        clear hd hP hb hc hEnd ih HR hcc hq' hq
        go_enter Try.func124, Try.ntmps124
        go_wp2
        exact hfin.out
  · have hi : (s.size : Int) ≤ (j : Int) := by omega
    have hP : R = none := by rw [← HR.out, List.drop_of_length_le (by have := hL.out; omega)]; rfl
    have hfin := Lib.hid (hEnd.out (-1) w U (by rw [hP]; rfl) hB hU hO (by rw [hP]; exact told_none _))
    clear hP hEnd ih HR
    go_enter Try.func124, Try.ntmps124
    go_wp2
    exact hfin.out

theorem l04End (s : ByteArray) (hs : s.size ≤ 1000) : ∀ f, EndUAt s s.data.toList f
  | 0 => fun _ _ _ _ h => absurd h (Nat.not_lt_zero _)
  | f + 1 => l04End_step s s.data.toList hs (Lib.size_eq s).symm (Lib.hid fun _ h => byte_here s h) f (Lib.hid (l04End s hs f))

set_option maxRecDepth 100000 in
set_option maxHeartbeats 1000000 in
theorem l04Is (s : ByteArray) (w : World) (hs : s.size ≤ 1048576) : Calls Try.prog 65 #[.string s] w fun e w' => e = .returned (.bool (M.isPat s.data.toList)) ∧ Hid (Below w.heap.size w w') := by
  have hL : Hid (s.data.toList.length = s.size) := (Lib.size_eq s).symm
  by_cases h0 : s.size = 0
  · have hF : M.isPat s.data.toList = false := by
      rw [List.eq_nil_of_length_eq_zero (by rw [hL.out, h0] : s.data.toList.length = 0)]
      rfl
    have hi : ¬ (0 : Int) < (s.size : Int) := by omega
    rw [hF]
    clear hF
    go_enter Try.func65, Try.ntmps65
    go_wp2
    go_ret
    exact ⟨rfl, Lib.hid (b0 w)⟩
  · have hi : (0 : Int) < (s.size : Int) := by omega
    by_cases h60 : s.size ≤ 60
    · have hi6 : (s.size : Int) ≤ 60 := by omega
      have hC : Hid (∀ W, Hid (OwnB W w.heap.size (.slice (some ⟨w.heap.size, 0, none⟩) 8 8) (List.replicate 8 false)) → Calls Try.prog 124 #[.string s, .int .i64 0, .slice (some ⟨w.heap.size, 0, none⟩) 8 8] W (EndQ w.heap.size s.size (M.pieceU s.data.toList (List.replicate 8 false)) W)) := fun W hO => by
        have := l04End s (by omega) (s.size + 1) 0 w.heap.size (List.replicate 8 false) W (by omega) (by omega) (by simp [Hid]) hO
        rw [List.drop_zero] at this
        exact this
      have hF : Hid (M.isPat s.data.toList = (endOf s.size (M.pieceU s.data.toList (List.replicate 8 false)) == (s.size : Int))) := by
        show _ = _
        rw [Bool.eq_iff_iff, M.isPat_U (by rw [hL.out]; exact h60), beq_iff_eq]
        cases hp : M.pieceU s.data.toList (List.replicate 8 false) with
        | none => exact ⟨fun ⟨_, h⟩ => (by cases h), fun h => (by have h2 : (-1 : Int) = (s.size : Int) := h; omega)⟩
        | some x =>
          obtain ⟨r, V⟩ := x
          have h1 := (M.pieceU_len hp).2.1
          rw [hL.out] at h1
          simp only at h1
          constructor
          · rintro ⟨V', h⟩
            injection h with h
            injection h with h2 h3
            rw [h2]
            simp [endOf]
          · intro h
            have h2 : ((s.size - r.length : Nat) : Int) = (s.size : Int) := h
            have h3 : r = [] := List.eq_nil_of_length_eq_zero (by omega)
            exact ⟨V, by rw [h3]⟩
      rw [hF.out]
      clear hF
      obtain ⟨R, hR⟩ : ∃ R, M.pieceU s.data.toList (List.replicate 8 false) = R := ⟨_, rfl⟩
      obtain ⟨z, hz⟩ : ∃ z, endOf s.size R = z := ⟨_, rfl⟩
      have hC' : Hid (∀ W, Hid (OwnB W w.heap.size (.slice (some ⟨w.heap.size, 0, none⟩) 8 8) (List.replicate 8 false)) → Calls Try.prog 124 #[.string s, .int .i64 0, .slice (some ⟨w.heap.size, 0, none⟩) 8 8] W fun e w' => e = .returned (.int .i64 z) ∧ Hid (Below w.heap.size W w')) := fun W hO => by
        have := hC.out W hO
        rw [hR, endQ_at _ _ R W hz] at this
        exact this.mono fun e w' h => ⟨h.1, h.2.1⟩
      rw [hR, hz]
      clear hC hR hz
      have hM := Lib.hid (ownB_made (w := w) (B := w.heap.size) (n := 8) (Nat.le_refl _) (by decide))
      have hmk : ∀ W, (Instr.makeSlice 134 (.int .i64 8) (.int .i64 8)).run Try.prog W = .ok (.slice (some ⟨W.heap.size, 0, none⟩) 8 8) (W.alloc (.cells (madeCells #[.bool false] 8) 4)) := run_make_row' (P := Try.prog) 134 4 (.bool false) 1 Try.underlying134 (by kernel_rfl) rfl .i64 .i64 8 (by omega) (by omega)
      go_enter Try.func65, Try.ntmps65
      go_wp2_with fail
      refine (hC'.out _ hM).mono ?_
      rintro e w1 ⟨rfl, hb⟩
      have hB := Lib.hid ((bal (b0 w) (.cells (madeCells #[.bool false] 8) 4)).trans hb.out)
      clear hb hM hC'
      go_wp2
      go_ret
      exact ⟨rfl, hB⟩
    · have hi6 : ¬ (s.size : Int) ≤ 60 := by omega
      have hF : M.isPat s.data.toList = false := by
        rw [M.isPat, decide_eq_false (by rw [hL.out]; omega : ¬ s.data.toList.length ≤ 60)]
        simp
      rw [hF]
      clear hF
      go_enter Try.func65, Try.ntmps65
      go_wp2
      go_ret
      exact ⟨rfl, Lib.hid (b0 w)⟩
end Go.Proofs.Ytbdmmeoelagdcaa

/- IsPattern, the program's and the model's. -/
namespace Go.Proofs.Ytbdmmeoelagdcaa
open Go.RowKit

def F_IsPattern (s : ByteArray) : Bool := M.isPat s.data.toList
theorem letters_cut (k : Nat) (h : k < 8) : (⟨#[97, 98, 99, 100, 101, 102, 103, 104]⟩ : ByteArray).extract k (k + 1) = ⟨#[UInt8.ofNat (97 + k)]⟩ := by
  have : ∀ k : Fin 8, (⟨#[97, 98, 99, 100, 101, 102, 103, 104]⟩ : ByteArray).extract k.1 (k.1 + 1) = ⟨#[UInt8.ofNat (97 + k.1)]⟩ := by decide +kernel
  exact this ⟨k, h⟩
theorem count_cnt (l : List UInt8) (k : Nat) (h : k < 8) : Lib.countByte l (UInt8.ofNat (97 + k)) = M.cntL l k := by
  rw [Lib.countByte, M.cntL, List.count]
  congr 1
  funext c
  have h1 : (UInt8.ofNat (97 + k)).toNat = 97 + k := by rw [UInt8.toNat_ofNat']; omega
  rw [Bool.eq_iff_iff, beq_iff_eq, beq_iff_eq]
  exact ⟨fun e => by rw [e, h1], fun e => UInt8.toNat_inj.1 (by rw [e, h1])⟩
theorem piece_self (l : List UInt8) (h : l ≠ []) : (M.pieceT l == l) = (M.piece l == some []) := by
  cases hp : M.piece l with
  | none => rw [M.pieceT_none hp, beq_eq_false_iff_ne.2 (Ne.symm h)]; rfl
  | some r =>
    rw [M.pieceT_some hp]
    have h1 := (M.piece_drop hp).1
    cases r with
    | nil => simp
    | cons c r =>
      have : (l.take (l.length - (c :: r).length) == l) = false := beq_eq_false_iff_ne.2 fun e => by
        have := congrArg List.length e
        rw [List.length_take] at this
        simp only [List.length_cons] at *
        omega
      rw [this]
      rfl
theorem isPat_parts (l : List UInt8) (h : l ≠ []) (h60 : l.length ≤ 60) : M.isPat l = ((M.pieceT l == l) && ((List.range 8).all fun i => decide (M.cntL l i ≤ 1))) := by
  rw [M.isPat, piece_self l h, decide_eq_true h60, decide_eq_true (List.length_pos_iff.2 h)]
  simp

theorem slice_at (S : ByteArray) (i j : Int) (w : World) (h0 : 0 ≤ i) (h1 : i ≤ j) (h2 : j ≤ (S.size : Int)) : (Instr.slice 9 (.string S) (some (.int .i64 i)) (some (.int .i64 j)) none).run Try.prog w = .ok (.string (S.extract i.toNat j.toNat)) w :=
  run_slice_string (P := Try.prog) w 9 S .i64 .i64 i j Try.underlying9 h0 h1 h2

namespace M
/-- a piece of 1 to 60 bytes -/
def isPiece (l : List UInt8) : Bool := decide (0 < l.length) && decide (l.length ≤ 60) && (piece l == some [])
theorem isPat_piece (l : List UInt8) : isPat l = (isPiece l && ((List.range 8).all fun i => decide (cntL l i ≤ 1))) := rfl
end M

set_option maxRecDepth 100000 in
set_option maxHeartbeats 2000000 in
theorem isPieceIn (s : ByteArray) (w : World) (hs : s.size ≤ 1048576) : Calls Try.prog 66 #[.string s] w fun e w' => e = .returned (.bool (M.isPiece s.data.toList)) ∧ w' = w := by
  have hL : Hid (s.data.toList.length = s.size) := (Lib.size_eq s).symm
  by_cases h0 : s.size = 0
  · have hl0 : s.data.toList = [] := List.eq_nil_of_length_eq_zero (by rw [hL.out, h0])
    have e0 : (s.toList == []) = true := by rw [Lib.toList_data, hl0]; rfl
    rw [hl0, show M.isPiece [] = false from rfl]
    clear hl0
    go_enter Try.func66, Try.ntmps66
    go_wp2
    go_ret
    exact ⟨rfl, rfl⟩
  · have hne : s.data.toList ≠ [] := fun e => h0 (by rw [← hL.out, e]; rfl)
    have e0 : (s.toList == []) = false := by rw [Lib.toList_data]; exact beq_eq_false_iff_ne.2 hne
    by_cases h60 : s.size ≤ 60
    · have hi : (s.size : Int) ≤ 60 := by omega
      have hP := Lib.hid (pieceOf s w hs)
      have hF : Hid (M.isPiece s.data.toList = (M.pieceT s.data.toList == s.data.toList)) := by
        show _ = _
        rw [M.isPiece, piece_self s.data.toList hne, decide_eq_true (by rw [hL.out]; omega : s.data.toList.length ≤ 60), decide_eq_true (List.length_pos_iff.2 hne)]
        simp
      have hcmp : Hid (((M.bs (M.pieceT s.data.toList)).toList == s.toList) = (M.pieceT s.data.toList == s.data.toList)) := by
        show _ = _
        rw [Lib.toList_data, Lib.toList_data, M.bs_data]
      rw [hF.out, ← hcmp.out]
      clear hF hcmp h60 h0 hne
      obtain ⟨q, hq⟩ : ∃ q, ((M.bs (M.pieceT s.data.toList)).toList == s.toList) = q := ⟨_, rfl⟩
      rw [hq]
      go_enter Try.func66, Try.ntmps66
      go_wp2_with (go_at_call 107; refine hP.out.mono ?_; rintro e w' ⟨rfl, hw⟩; subst hw)
      go_ret
      exact ⟨rfl, rfl⟩
    · have hi : ¬ (s.size : Int) ≤ 60 := by omega
      have hF : M.isPiece s.data.toList = false := by
        rw [M.isPiece, decide_eq_false (by rw [hL.out]; omega : ¬ s.data.toList.length ≤ 60)]
        simp
      rw [hF]
      clear hF
      go_enter Try.func66, Try.ntmps66
      go_wp2
      go_ret
      exact ⟨rfl, rfl⟩

set_option maxRecDepth 100000 in
set_option maxHeartbeats 2000000 in
theorem impl_IsPattern : GivesP1 19 F_IsPattern := by
  intro s w hs
  rw [F_IsPattern, M.isPat_piece]
  have hP := Lib.hid (isPieceIn s w hs)
  cases hq : M.isPiece s.data.toList
  · rw [hq] at hP
    rw [Bool.false_and]
    clear hq
    go_enter Try.func19, Try.ntmps19
    go_wp2_with (go_at_call 66; refine hP.out.mono ?_; rintro e w' ⟨rfl, hw⟩; subst hw)
    go_ret
    exact ⟨rfl, Lib.hid (b0 _)⟩
  · rw [hq] at hP
    rw [Bool.true_and]
    clear hq
    have hall : Hid (∀ k : Nat, k < 8 → ¬ M.cntL s.data.toList k ≤ 1 → ((List.range 8).all fun i => decide (M.cntL s.data.toList i ≤ 1)) = false) := fun k hk h => List.all_eq_false.2 ⟨k, List.mem_range.2 hk, by simp; omega⟩
    have hCt : Hid (∀ (k : Nat) W, k < 8 → Calls Try.prog 67 #[.string s, .string ⟨#[UInt8.ofNat (97 + k)]⟩] W fun e w' => e = .returned (.int .i64 (M.cntL s.data.toList k : Int)) ∧ w' = W) := fun k W hk => by
      have := Try.strings_Count_one s (UInt8.ofNat (97 + k)) W
      rwa [count_cnt _ k hk] at this
    have hSl : Hid (∀ k : Nat, k < 8 → ∀ W, (Instr.slice 9 (.string ⟨#[97, 98, 99, 100, 101, 102, 103, 104]⟩) (some (.int .i64 (k : Int))) (some (.int .i64 ((k : Int) + 1))) none).run Try.prog W = .ok (.string ⟨#[UInt8.ofNat (97 + k)]⟩) W) := fun k hk W => by
      have := slice_at ⟨#[97, 98, 99, 100, 101, 102, 103, 104]⟩ k ((k : Int) + 1) W (by omega) (by omega) (by show (k : Int) + 1 ≤ 8; omega)
      rw [this, show ((k : Int)).toNat = k by omega, show ((k : Int) + 1).toNat = k + 1 by omega, letters_cut k hk]
    have hst : Hid ((List.range 0).all (fun i => decide (M.cntL s.data.toList i ≤ 1)) = true) := rfl
    generalize s.data.toList = L at *
    go_enter Try.func19, Try.ntmps19
    go_wp2_with (go_at_call 66; refine hP.out.mono ?_; rintro e w' ⟨rfl, hw⟩; subst hw)
    clear hP
    go_loopw [7] (fun qi wr => ∃ (k : Nat), k ≤ 8 ∧ qi = .int .i64 (k : Int) ∧ wr = w' ∧ Hid ((List.range k).all (fun i => decide (M.cntL L i ≤ 1)) = true)) (fun qi _ => 8 - (intOf qi).toNat)
    case atStart => exact ⟨0, by omega, rfl, rfl, hst⟩
    case round =>
      obtain ⟨k, hk, rfl, rfl, hg⟩ := hrel
      by_cases hlt : k < 8
      · have hki : (k : Int) < 8 := by omega
        have H1 := Lib.hid (hCt.out k wr hlt)
        have H2 := hSl.out k hlt
        generalize (⟨#[UInt8.ofNat (97 + k)]⟩ : ByteArray) = C at H1 H2
        by_cases hc : M.cntL L k ≤ 1
        · have hci : ¬ (1 : Int) < (M.cntL L k : Int) := by omega
          have hN : Hid ((List.range (k + 1)).all (fun i => decide (M.cntL L i ≤ 1)) = true) := by
            show _ = _
            rw [List.range_succ, List.all_append, hg.out]
            simp [hc]
          clear hall hc
          go_wp2_with (go_at_call 67; refine H1.out.mono ?_; rintro e w' ⟨rfl, hw⟩; subst hw)
          go_roundw
          case rel => exact ⟨k + 1, by omega, by go_num, trivial, hN⟩
          case measure => simp [intOf]; omega
        · have hci : (1 : Int) < (M.cntL L k : Int) := by omega
          have hE := Lib.hid (hall.out k hlt hc)
          clear hall hc
          go_wp2_with (go_at_call 67; refine H1.out.mono ?_; rintro e w' ⟨rfl, hw⟩; subst hw)
          go_ret
          rw [hE.out]
          exact ⟨rfl, Lib.hid (b0 _)⟩
      · obtain rfl : k = 8 := by omega
        go_wp2
        go_ret
        rw [hg.out]
        exact ⟨rfl, Lib.hid (b0 _)⟩

set_option maxRecDepth 100000 in
theorem spec_IsPattern : GivesP1 18 F_IsPattern := by
  intro s w hs
  have hC := Lib.hid (l04Is s w hs)
  rw [F_IsPattern]
  generalize M.isPat s.data.toList = b at *
  go_enter Try.func18, Try.ntmps18
  go_wp2_with (go_at_call 65; refine hC.out.mono ?_; rintro e w' ⟨rfl, hb⟩)
  go_ret
  exact ⟨rfl, hb⟩
end Go.Proofs.Ytbdmmeoelagdcaa

/- Where a subtree ends: l01End, partAt, sizeAt: each stops within the list if the loop does. -/
namespace Go.Proofs.Ytbdmmeoelagdcaa
open Go.RowKit

set_option maxHeartbeats 1000000 in
theorem l01End (A : Option Addr) (xs : List Int) (c v E : Nat) (w : World) (hE : Hid (v + M.span 1 (xs.drop v) = E)) (hx : xs.length ≤ 24) (hk : Hid (M.ok 1 (xs.drop v))) (h : Ints w w.heap.size A xs) :
    Calls Try.prog 131 #[.agg #[.slice A xs.length c], .int .i64 v] w fun e w' => e = .returned (.int .i64 E) ∧ Below w.heap.size w w' := by
  have hv := M.ok_in (by omega) hk.out
  have hh := h.al (.cells #[.slice A xs.length c] 29)
  clear h
  go_enter Try.func131, Try.ntmps131
  go_wp2
  go_loop [1, 5] (fun i q => ∃ (k : Nat) (o : Int), v ≤ k ∧ k ≤ xs.length ∧ i = .int .i64 k ∧ q = .int .i64 o ∧ 0 ≤ o ∧ o ≤ 1 + 24 * k ∧ Hid (M.ok o (xs.drop k)) ∧ Hid (E = k + M.span o (xs.drop k))) (fun i _ => xs.length - (intOf i).toNat)
  case atStart => exact ⟨v, 1, Nat.le_refl _, by omega, rfl, rfl, by omega, by omega, hk, hE.out.symm⟩
  case round =>
    obtain ⟨k, o, hvk, hkn, rfl, rfl, ho0, ho1, hok, hs⟩ := hrel
    clear hk
    by_cases ho : 0 < o
    · have hlt := M.ok_in ho hok.out
      obtain ⟨b, off, x, rfl, hbB, g, hX⟩ := hh.at_ hlt
      have hst := M.ok_step hX.out ho hok.out
      have hx0 := hst.1
      have hx1 := hst.2.1
      have hok' := Lib.hid hst.2.2
      have hs' := Lib.hid (show E = (k + 1) + M.span (o - 1 + x) (xs.drop (k + 1)) by have h1 := M.span_step hX.out ho; have h2 := hs.out; omega)
      clear hst hh hok hs
      go_wp2
      go_round
      case rel => exact ⟨k + 1, o - 1 + x, by omega, by omega, by go_num, rfl, by omega, by omega, hok', hs'⟩
      case measure => simp [intOf]; omega
    · have hs' := hs.out
      rw [M.span_stop (o := o) (by omega) (xs.drop k), Nat.add_zero] at hs'
      have Hs : Hid (E = k) := hs'
      have ho' : o ≤ 0 := by omega
      clear hs hs' hh ho
      go_wp2
      go_ret
      exact ⟨by rw [Hs.out]; rfl, bal (b0 w) _⟩

set_option maxHeartbeats 1000000 in
theorem partAt (A : Option Addr) (xs : List Int) (c v E : Nat) (w : World) (hE : Hid (v + M.span 1 (xs.drop v) = E)) (hx : xs.length ≤ 24) (hc : xs.length ≤ c) (hc' : c ≤ 9223372036854775807) (hk : Hid (M.ok 1 (xs.drop v))) (h : Ints w w.heap.size A xs) :
    Calls Try.prog 80 #[.slice A xs.length c, .int .i64 v] w fun e w' => (∃ b off, A = some ⟨b, off, none⟩ ∧ e = .returned (.slice (some ⟨b, off + v, none⟩) (E - v) (E - v))) ∧ w = w' := by
  have hv := M.ok_in (by omega) hk.out
  obtain ⟨b, off, rfl, hbB, hcell⟩ := h (by omega)
  have Hcell := Lib.hid hcell
  clear h hcell
  go_enter Try.func80, Try.ntmps80
  go_wp2
  go_loop [5, 6] (fun i q => ∃ (k : Nat) (o : Int), v ≤ k ∧ k ≤ xs.length ∧ i = .int .i64 k ∧ q = .int .i64 o ∧ 0 ≤ o ∧ o ≤ 1 + 24 * k ∧ Hid (o = 0 → v < k) ∧ Hid (M.ok o (xs.drop k)) ∧ Hid (E = k + M.span o (xs.drop k))) (fun i _ => xs.length - (intOf i).toNat)
  case atStart => exact ⟨v, 1, Nat.le_refl _, by omega, rfl, rfl, by omega, by omega, by simp [Hid], hk, hE.out.symm⟩
  case round =>
    obtain ⟨k, o, hvk, hkn, rfl, rfl, ho0, ho1, hpos, hok, hs⟩ := hrel
    clear hk
    by_cases ho : 0 < o
    · have hlt := M.ok_in ho hok.out
      have hX : xs[k]? = some xs[k] := List.getElem?_eq_getElem hlt
      have g := Hcell.out k _ hX
      generalize xs[k] = x at hX g
      have hst := M.ok_step hX ho hok.out
      have hx0 := hst.1
      have hx1 := hst.2.1
      have hok' := Lib.hid hst.2.2
      have hs' := Lib.hid (show E = (k + 1) + M.span (o - 1 + x) (xs.drop (k + 1)) by have h1 := M.span_step hX ho; have h2 := hs.out; omega)
      have eo : o - 1 + x = o + (x - 1) := by omega
      rw [eo] at hok' hs'
      clear hst hok hs hX eo hpos
      go_wp2
      go_round
      case rel => exact ⟨k + 1, o + (x - 1), by omega, by omega, by go_num, rfl, by omega, by omega, fun _ => by omega, hok', hs'⟩
      case measure => simp [intOf]; omega
    · have hs' := hs.out
      have ho' : o ≤ 0 := by omega
      have hvk' : v < k := hpos.out (by omega)
      rw [M.span_stop (o := o) ho' (xs.drop k), Nat.add_zero] at hs'
      have Hs : Hid (E = k) := hs'
      have hvc : ¬ v = k := by omega
      have hkv : k - v ≠ 0 := by omega
      clear hs hs' ho
      go_wp2
      go_ret
      rw [Hs.out]
      first | exact ⟨⟨b, off, rfl, rfl⟩, rfl⟩ | exact ⟨⟨b, off, ⟨rfl, rfl⟩, rfl⟩, rfl⟩

theorem sizeAt (A : Option Addr) (xs : List Int) (c v S : Nat) (w : World) (hS : Hid (M.span 1 (xs.drop v) = S)) (hx : xs.length ≤ 24) (hc : xs.length ≤ c) (hc' : c ≤ 9223372036854775807) (hk : Hid (M.ok 1 (xs.drop v))) (h : Ints w w.heap.size A xs) :
    Calls Try.prog 150 #[.slice A xs.length c, .int .i64 v] w fun e w' => e = .returned (.int .i64 S) ∧ w = w' := by
  have hp := partAt A xs c v (v + S) w (by show _ = _; rw [hS.out]) hx hc hc' hk h
  rw [Nat.add_sub_cancel_left] at hp
  have HP := Lib.hid hp
  clear hp
  go_enter Try.func150, Try.ntmps150
  go_wp2_with fail
  refine HP.out.mono ?_
  rintro e w' ⟨⟨b, off, rfl, rfl⟩, rfl⟩
  go_wp2
  go_ret
  exact ⟨rfl, rfl⟩
end Go.Proofs.Ytbdmmeoelagdcaa

/- The code of a tree and of numbers that have to be its nodes: codeOf and l01Nodes return the same number. -/
namespace Go.Proofs.Ytbdmmeoelagdcaa
open Go.RowKit

set_option maxHeartbeats 1000000 in
theorem codeOf (A An : Option Addr) (xs ns : List Int) (c cn : Nat) (w : World) (hx : xs.length ≤ 1000000000000) (hns : ns.length ≤ 1000) (h : Ints w w.heap.size A xs) (hn : Ints w w.heap.size An ns) (r : Int) (hr : Hid (M.code xs ns = r)) :
    Calls Try.prog 132 #[.agg #[.slice A xs.length c], .slice An ns.length cn] w fun e w' => e = .returned (.int .i64 r) ∧ Below w.heap.size w w' := by
  have hc := implIsTree A xs c (w.alloc (.cells #[.slice A xs.length c] 29)) hx (h.al _)
  cases ht : M.isTree xs
  · rw [ht] at hc
    have HC := Lib.hid hc
    have hr' : r = 1 := by rw [← hr.out]; simp [M.code, ht]
    subst hr'
    clear hc ht hr h hn
    go_enter Try.func132, Try.ntmps132
    go_wp2_with fail
    refine HC.out.mono ?_
    rintro e w1 ⟨rfl, hb⟩
    have hB := btr (bal (b0 w) _) hb
    go_wp2
    go_ret
    exact ⟨rfl, hB⟩
  · rw [ht] at hc
    have HC := Lib.hid hc
    have hr' : Hid (M.codeGo xs.length ns = r) := by show _ = _; rw [← hr.out]; simp [M.code, ht]
    have hlen := (M.tree_len ht).2
    clear hc ht hr
    go_enter Try.func132, Try.ntmps132
    go_wp2_with fail
    refine HC.out.mono ?_
    rintro e w1 ⟨rfl, hb⟩
    have hB := btr (bal (b0 w) _) hb
    have hcell : w1.cell? ⟨w.heap.size, 0, none⟩ = some (.slice A xs.length c) := cell_be (by simp) hb
    have h1 := (hn.al _).be hb
    clear hb h hn HC
    go_wp2
    go_loop [6, 12] (fun _ i => ∃ (k : Nat), k ≤ ns.length ∧ i = .int .i64 k ∧ Hid (M.codeGo xs.length (ns.drop k) = r)) (fun _ i => ns.length - (intOf i).toNat)
    case atStart => exact ⟨0, Nat.zero_le _, rfl, hr'⟩
    case round =>
      obtain ⟨k, hk, rfl, hg⟩ := hrel
      clear hr'
      by_cases hlt : k < ns.length
      · obtain ⟨b, off, v, rfl, hbB, g, hX⟩ := h1.at_ hlt
        clear h1
        by_cases hv0 : v < 0
        · have hs : Hid (r = 2) := hg.out.symm.trans (M.codeGo_hit hX.out (.inl hv0))
          go_wp2
          go_ret
          exact ⟨by rw [hs.out]; rfl, hB⟩
        · have hd0 : decide (v < 0) = false := decide_eq_false hv0
          have hv1 : 0 ≤ v := by omega
          by_cases hv2 : (xs.length : Int) ≤ v
          · have hs : Hid (r = 2) := hg.out.symm.trans (M.codeGo_hit hX.out (.inr hv2))
            clear hv0
            go_wp2
            go_ret
            exact ⟨by rw [hs.out]; rfl, hB⟩
          · have hs : Hid (M.codeGo xs.length (ns.drop (k + 1)) = r) := (M.codeGo_miss hX.out hv1 (by omega)).symm.trans hg.out
            have hd1 : decide ((xs.length : Int) ≤ v) = false := decide_eq_false hv2
            have hv3 : v < (xs.length : Int) := by omega
            clear hv0 hv2
            go_wp2
            go_round
            case rel => exact ⟨k + 1, by omega, by go_num, hs⟩
            case measure => simp [intOf]; omega
      · obtain rfl : k = ns.length := by omega
        have hs := hg.out
        rw [List.drop_length] at hs
        have Hs : Hid (r = 0) := hs.symm
        clear hs hg
        go_wp2
        go_ret
        exact ⟨by rw [Hs.out]; rfl, hB⟩

set_option maxHeartbeats 400000 in
set_option maxRecDepth 100000 in
theorem l01Nodes (A An : Option Addr) (xs ns : List Int) (c cn : Nat) (w : World) (hx : xs.length ≤ 1000000000000) (hns : ns.length ≤ 1000) (h : Ints w w.heap.size A xs) (hn : Ints w w.heap.size An ns) (r : Int) (hr : Hid (M.code xs ns = r)) :
    Calls Try.prog 128 #[.agg #[.slice A xs.length c], .slice An ns.length cn] w fun e w' => e = .returned (.int .i64 r) ∧ Below w.heap.size w w' := by
  have hc := specIs A xs c (w.alloc (.cells #[.slice A xs.length c] 29)) hx (h.al _)
  cases ht : M.isTree xs
  · rw [ht] at hc
    have HC := Lib.hid hc
    have hr' : r = 1 := by rw [← hr.out]; simp [M.code, ht]
    subst hr'
    clear hc ht hr h hn
    go_enter Try.func128, Try.ntmps128
    go_wp2_with fail
    refine HC.out.mono ?_
    rintro e w1 ⟨rfl, hb⟩
    have hB := btr (bal (b0 w) _) hb
    go_wp2
    go_ret
    exact ⟨rfl, hB⟩
  · rw [ht] at hc
    have HC := Lib.hid hc
    have hr' : Hid (M.codeGo xs.length ns = r) := by show _ = _; rw [← hr.out]; simp [M.code, ht]
    have hlen := (M.tree_len ht).2
    clear hc ht hr
    go_enter Try.func128, Try.ntmps128
    go_wp2_with fail
    refine HC.out.mono ?_
    rintro e w1 ⟨rfl, hb⟩
    have hB := btr (bal (b0 w) _) hb
    have hcell : w1.cell? ⟨w.heap.size, 0, none⟩ = some (.slice A xs.length c) := cell_be (by simp) hb
    have HcellA := Lib.hid hcell
    have h1 := (hn.al _).be hb
    clear hb h hn HC
    go_wp2
    clear hcell
    go_loopw [5] (fun i wr => ∃ (k : Nat), k ≤ ns.length ∧ i = .int .i64 k ∧ Hid (M.codeGo xs.length (ns.drop k) = r) ∧ Hid (Below w1.heap.size w1 wr)) (fun i _ => ns.length - (intOf i).toNat)
    case atStart => exact ⟨0, Nat.zero_le _, rfl, hr', b0 w1⟩
    case round =>
      obtain ⟨k, hk, rfl, hg, hbr⟩ := hrel
      clear hr'
      by_cases hlt : k < ns.length
      · obtain ⟨b, off, v, rfl, hbB, g, hX⟩ := (h1.be hbr.out).at_ hlt
        clear h1
        have hki : (k : Int) < (ns.length : Int) := by omega
        have hki0 : (0 : Int) ≤ (k : Int) := by omega
        have hcr := cell_be HcellA.out hbr.out
        have hN : ∀ W, Hid (Below wr.heap.size wr W) → Calls Try.prog 133 #[.agg #[.slice A xs.length c]] W fun e w' => e = .returned (.int .i64 xs.length) ∧ Hid (Below wr.heap.size wr w') := fun W hW =>
          (l01N A xs.length c W).mono fun e w' ⟨he, hb⟩ => ⟨he, btr hW.out hb⟩
        have HN := Lib.hid hN
        clear hN
        obtain ⟨bv, hbv⟩ : ∃ bv, Hid ((decide ((0 : Int) ≤ v) && decide (v ≤ (xs.length : Int) - 1)) = bv) := ⟨_, rfl⟩
        have hkeep : ∀ W, Hid (Below wr.heap.size wr W) → W.cell? ⟨b, off + k, none⟩ = some (.int .i64 v) ∧ W.cell? ⟨w.heap.size, 0, none⟩ = some (.slice A xs.length c) := fun W hW =>
          ⟨(hW.out.cell (p := ⟨b, off + k, none⟩) hbB).trans g, cell_be hcr hW.out⟩
        have HK := Lib.hid hkeep
        clear hkeep
        go_wp2
        have hK0 : Hid (Below wr.heap.size wr wr.drew) := (Below.refl _ _).drew
        have g0 : wr.drew.cell? ⟨b, off + k, none⟩ = some (.int .i64 v) := g
        have hcr0 : wr.drew.cell? ⟨w.heap.size, 0, none⟩ = some (.slice A xs.length c) := hcr
        have hwrap : IntKind.i64.wrap ((xs.length : Int) - 1) = (xs.length : Int) - 1 := IntWalk.i64_in _ (by omega)
        go_region_held3 (fun w' => w'.cell? ⟨b, off + k, none⟩ = some (.int .i64 v) ∧ w'.cell? ⟨w.heap.size, 0, none⟩ = some (.slice A xs.length c) ∧ Hid (Below wr.heap.size wr w')) (first | exact ⟨g0, hcr0, hK0⟩ | exact ⟨(HK.out _ (by assumption)).1, (HK.out _ (by assumption)).2, by assumption⟩) (first | (go_at_call 133; refine (HN.out _ (by assumption)).mono ?_; rintro e w7 ⟨rfl, hb7⟩) | (go_at_call 136; refine (inAny _ _ _ _ bv hbv).mono ?_; rintro e w8 ⟨rfl, rfl⟩))
        clear hwrap g0 hcr0 hK0 HN HK
        have hbw : Hid (Below w1.heap.size w1 w7) := btr hbr.out hb7.out
        cases bv
        · have hs : Hid (r = 2) := hg.out.symm.trans (M.codeGo_hit hX.out (by have := hbv.out; simp at this; omega))
          go_wp2
          go_ret
          exact ⟨by rw [hs.out]; rfl, btr hB hbw.out⟩
        · have hv := hbv.out
          simp only [Bool.and_eq_true, decide_eq_true_eq] at hv
          have hs : Hid (M.codeGo xs.length (ns.drop (k + 1)) = r) := (M.codeGo_miss hX.out hv.1 (by omega)).symm.trans hg.out
          clear hv
          go_wp2
          go_roundw
          case rel => exact ⟨k + 1, by omega, by go_num, hs, hbw⟩
          case measure => simp [intOf]; omega
      · obtain rfl : k = ns.length := by omega
        have hs := hg.out
        rw [List.drop_length] at hs
        have Hs : Hid (r = 0) := hs.symm
        clear hs hg
        go_wp2
        go_ret
        exact ⟨by rw [Hs.out]; rfl, btr hB hbr.out⟩

theorem ints_new (w : World) (cs : Array Value) (zs : List Int) (h : cs.toList = zs.map (Value.int .i64)) : Ints (w.alloc (.cells cs 2)) (w.alloc (.cells cs 2)).heap.size (some ⟨w.heap.size, 0, none⟩) zs := fun _ =>
  ⟨w.heap.size, 0, rfl, by simp, fun j x hx => by
    rw [Nat.zero_add, World.cell?_alloc_new]
    rw [← Array.getElem?_toList, h, List.getElem?_map, hx]
    rfl⟩
end Go.Proofs.Ytbdmmeoelagdcaa

/- append of a whole slice to a row of the call's own. -/
namespace Go.Proofs.Ytbdmmeoelagdcaa
open Go.RowKit

set_option maxRecDepth 100000 in
theorem appendInts {ops : Array Oper} {rest : List Oper} {o : Oper} {a : Act} {Q : Exit → Act → World → Prop} (hgd : o.guard = none) (s x : Operand)
    (ho : o.op = .call { callee := .builtin .append, args := #[s, x], argTypes := #[23, 23] }) (w : World) (B : Nat) (A : Option Addr) (n c : Nat) (zs : List Int) (A2 : Option Addr) (m c2 : Nat) (ys : List Int)
    (hs : a.eval s = .slice A n c) (hx : a.eval x = .slice A2 m c2) (hown : Hid (Own64 w B (.slice A n c) zs)) (hsrc : Hid (Ints w w.heap.size A2 ys)) (hm : Hid (ys.length = m)) (hz : Hid (A2 = none → c2 = 0)) (hB : B ≤ w.heap.size) (hlen : n ≤ 1000000) (hlen2 : m ≤ 1000000)
    (h : ∀ A' c' w', Hid (Own64 w' B (.slice A' (n + m) c') (zs ++ ys)) → Hid (Below B w w') → wpList Try.prog ops Q rest (a.put o.dst (.slice A' (n + m) c')) w') :
    wpList Try.prog ops Q (o :: rest) a w := by
  obtain ⟨i0, hi0, hz0, hz1, hz2⟩ := info_parts info64
  have hown := hown.out
  have hn := own64_len hown
  subst hn
  have hm := hm.out
  subst hm
  rcases A2 with _ | ad
  · have hy : ys = [] := by
      rcases Nat.eq_zero_or_pos ys.length with h0 | h0
      · exact List.eq_nil_of_length_eq_zero h0
      · obtain ⟨_, _, e, _⟩ := hsrc.out h0
        cases e
    subst hy
    have hc2 := hz.out rfl
    subst hc2
    refine wpList_append_own_none hgd s x 23 ho B 2 i0 1 Try.underlying23 hi0 _ zs.length (zs.map (Value.int .i64)) hs hown hx ?_
    have := h A c w (by simpa using Lib.hid hown) (Below.refl _ _)
    simpa using this
  · refine wpList_append_own _ hgd s x 23 ho B 2 i0 (.int .i64 0) 1 8 Try.underlying23 hi0 hz0 hz1 hz2 rfl (by decide) _ zs.length (zs.map (Value.int .i64)) hs hown ad ys.length c2 (ys.map (Value.int .i64)) hx (by simp) ?_ ?_ ?_ ?_ hB ?_
    · intro j u hj
      rw [List.getElem?_map] at hj
      obtain ⟨y, hy, rfl⟩ := Option.map_eq_some_iff.1 hj
      obtain ⟨b, off, e, _, hc⟩ := hsrc.out (by have := (List.getElem?_eq_some_iff.1 hy).1; omega)
      injection e with e
      subst e
      have ha : (⟨b, off, none⟩ : Addr).add j = ⟨b, off + j, none⟩ := by unfold Addr.add; split <;> simp_all
      rw [ha]
      exact hc j y hy
    · intro u hu
      obtain ⟨y, _, rfl⟩ := List.mem_map.1 hu
      rfl
    · unfold maxLen; omega
    · omega
    · intro v' w1 hown1 hg1 _
      obtain ⟨A', c', rfl⟩ : ∃ A' c', v' = .slice A' (zs.length + ys.length) c' := own_shape hown1
      refine h A' c' w1 ?_ ?_
      · show Own64 _ _ _ _
        unfold Own64
        rw [List.length_append, List.map_append]
        exact hown1
      · exact (Below.refl B w).grown hg1 hB (fun k hk => (hown.lt k hk).1)

theorem own64_z {w : World} {B n c : Nat} {A : Option Addr} {zs : List Int} (h : Own64 w B (.slice A n c) zs) : A = none → c = 0 := by
  intro e
  subst e
  rcases h.2 with ⟨h1, _⟩ | ⟨g, cap, cur, hv, _⟩
  · injection h1
  · cases hv

set_option maxRecDepth 100000 in
/-- the same at a step of a region that draws its order -/
theorem stepInts {ops : Array Oper} {o : Oper} {a : Act} {K : Act → World → Prop} {Q : Exit → Act → World → Prop} {E : Prop} (hgd : o.guard = none) (s x : Operand)
    (ho : o.op = .call { callee := .builtin .append, args := #[s, x], argTypes := #[23, 23] }) (w : World) (B : Nat) (A : Option Addr) (n c : Nat) (zs : List Int) (A2 : Option Addr) (m c2 : Nat) (ys : List Int)
    (hs : a.eval s = .slice A n c) (hx : a.eval x = .slice A2 m c2) (hown : Hid (Own64 w B (.slice A n c) zs)) (hsrc : Hid (Ints w w.heap.size A2 ys)) (hm : Hid (ys.length = m)) (hz : Hid (A2 = none → c2 = 0)) (hB : B ≤ w.heap.size) (hlen : n ≤ 1000000) (hlen2 : m ≤ 1000000)
    (h : ∀ A' c' w', Hid (Own64 w' B (.slice A' (n + m) c') (zs ++ ys)) → Hid (Below B w w') → K (a.put o.dst (.slice A' (n + m) c')) w') :
    if Region.wanted o (yielded ops a.tmps) = true then Oper.wp Try.prog o a w K Q else E := by
  have hw : Region.wanted o (yielded ops a.tmps) = true := by simp [Region.wanted, hgd]
  rw [if_pos hw]
  obtain ⟨i0, hi0, hz0, hz1, hz2⟩ := info_parts info64
  have hown := hown.out
  have hn := own64_len hown
  subst hn
  have hm := hm.out
  subst hm
  rcases A2 with _ | ad
  · have hy : ys = [] := by
      rcases Nat.eq_zero_or_pos ys.length with h0 | h0
      · exact List.eq_nil_of_length_eq_zero h0
      · obtain ⟨_, _, e, _⟩ := hsrc.out h0
        cases e
    subst hy
    have hc2 := hz.out rfl
    subst hc2
    have hrun := run_append_owned_none (P := Try.prog) (w := w) B 23 o.type 2 i0 1 Try.underlying23 hi0 _ zs.length (zs.map (Value.int .i64)) hown
    have := h A c w (by simpa using Lib.hid hown) (Below.refl _ _)
    simp only [List.length_nil] at hx
    unfold Oper.wp execOp
    simp only [ho, resolve, invoke, builtin, Sem.run_bind, Sem.run_pure, Result.andThen_ok, List.map_toArray, List.map_cons, List.map_nil, hs, hx, hrun]
    exact this
  · obtain ⟨v', w1, hr, hown1, hg1, _⟩ := run_append_own (P := Try.prog) (w := w) B 23 o.type 2 i0 (.int .i64 0) 1 8 Try.underlying23 hi0 hz0 hz1 hz2 rfl (by decide) _ zs.length (zs.map (Value.int .i64)) hown ad ys.length c2 (ys.map (Value.int .i64)) (by simp)
      (by
        intro j u hj
        rw [List.getElem?_map] at hj
        obtain ⟨y, hy, rfl⟩ := Option.map_eq_some_iff.1 hj
        obtain ⟨b, off, e, _, hc⟩ := hsrc.out (by have := (List.getElem?_eq_some_iff.1 hy).1; omega)
        injection e with e
        subst e
        have ha : (⟨b, off, none⟩ : Addr).add j = ⟨b, off + j, none⟩ := by unfold Addr.add; split <;> simp_all
        rw [ha]
        exact hc j y hy)
      (by
        intro u hu
        obtain ⟨y, _, rfl⟩ := List.mem_map.1 hu
        rfl) (by unfold maxLen; omega) (by omega) hB
    obtain ⟨A', c', rfl⟩ : ∃ A' c', v' = .slice A' (zs.length + ys.length) c' := own_shape hown1
    have := h A' c' w1 (by
        show Own64 _ _ _ _
        unfold Own64
        rw [List.length_append, List.map_append]
        exact hown1) ((Below.refl B w).grown hg1 hB (fun k hk => (hown.lt k hk).1))
    unfold Oper.wp execOp
    simp only [ho, resolve, invoke, builtin, Sem.run_bind, Sem.run_pure, Result.andThen_ok, List.map_toArray, List.map_cons, List.map_nil, hs, hx, hr]
    exact this
end Go.Proofs.Ytbdmmeoelagdcaa

/- copies of slices: l01Own, slices.Clone, l01Make. -/
namespace Go.Proofs.Ytbdmmeoelagdcaa
open Go.RowKit

set_option maxHeartbeats 400000 in
theorem l01Own (A : Option Addr) (xs : List Int) (m c : Nat) (w : World) (hm : Hid (xs.length = m)) (hx : m ≤ 1000000) (hz : Hid (A = none → c = 0)) (h : Hid (Ints w w.heap.size A xs)) :
    Calls Try.prog 117 #[.slice A m c] w fun e w' => ∃ A' c', e = .returned (.slice A' m c') ∧ Own64 w' w.heap.size (.slice A' m c') xs ∧ Below w.heap.size w w' := by
  have hs : Hid (Own64 (w.alloc (.cells #[] 2)) w.heap.size (.slice (some ⟨w.heap.size, 0, none⟩) 0 0) []) := own64_empty (Nat.le_refl _)
  have hi : Hid (Ints (w.alloc (.cells #[] 2)) (w.alloc (.cells #[] 2)).heap.size A xs) := h.out.al _
  have hB : w.heap.size ≤ (w.alloc (.cells #[] 2)).heap.size := by simp
  go_enter Try.func117, Try.ntmps117
  go_wp2_with (at_builtin; refine appendInts rfl (.tmp 3) (.tmp 4) rfl _ w.heap.size (some ⟨w.heap.size, 0, none⟩) 0 0 [] A m c xs rfl rfl hs hi hm hz hB (Nat.zero_le _) hx ?_; intro A2 c2 w2 ho2 hb2)
  go_ret
  exact ⟨A2, c2, by simp, by have := ho2.out; simpa using this, ((Below.refl _ _).alloc (Nat.le_refl _) _).trans hb2.out⟩

set_option maxHeartbeats 400000 in
set_option maxRecDepth 100000 in
theorem clone (ad : Addr) (xs : List Int) (m c : Nat) (w : World) (hm : Hid (xs.length = m)) (hx : m ≤ 1000000) (h : Hid (Ints w w.heap.size (some ad) xs)) :
    Calls Try.prog 164 #[.slice (some ad) m c] w fun e w' => ∃ A' c', e = .returned (.slice A' m c') ∧ Own64 w' w.heap.size (.slice A' m c') xs ∧ Below w.heap.size w w' := by
  have hs : Hid (Own64 (w.alloc (.cells #[] 2)) w.heap.size (.slice (some ⟨w.heap.size, 0, none⟩) 0 0) []) := own64_empty (Nat.le_refl _)
  have hi : Hid (Ints (w.alloc (.cells #[] 2)) (w.alloc (.cells #[] 2)).heap.size (some ad) xs) := h.out.al _
  have hB : w.heap.size ≤ (w.alloc (.cells #[] 2)).heap.size := by simp
  have hz : Hid ((some ad : Option Addr) = none → c = 0) := fun e => by cases e
  have heq := fun W => Lib.run_eql_slice_nil (P := Try.prog) W 23 2 (some ad) m c 0 0 Try.underlying23
  go_enter Try.func164, Try.ntmps164
  go_wp2_with (at_builtin; refine appendInts rfl (.tmp 5) (.tmp 6) rfl _ w.heap.size (some ⟨w.heap.size, 0, none⟩) 0 0 [] (some ad) m c xs rfl rfl hs hi hm hz hB (Nat.zero_le _) hx ?_; intro A2 c2 w2 ho2 hb2)
  go_ret
  exact ⟨A2, c2, by simp, by have := ho2.out; simpa using this, ((Below.refl _ _).alloc (Nat.le_refl _) _).trans hb2.out⟩

set_option maxHeartbeats 400000 in
theorem l01Make (A : Option Addr) (xs : List Int) (m c : Nat) (w : World) (hm : Hid (xs.length = m)) (hx : m ≤ 1000000) (hz : Hid (A = none → c = 0)) (h : Hid (Ints w w.heap.size A xs)) :
    Calls Try.prog 130 #[.slice A m c] w fun e w' => ∃ A' c', e = .returned (.agg #[.slice A' m c']) ∧ Own64 w' w.heap.size (.slice A' m c') xs ∧ Below w.heap.size w w' := by
  go_enter Try.func130, Try.ntmps130
  go_wp2_with fail
  refine (l01Own A xs m c _ hm hx hz (h.out.al _)).mono ?_
  rintro e w1 ⟨A', c', rfl, ho, hb⟩
  obtain ⟨hc, hf⟩ := bcell hb
  have hB := btr (bal (b0 w) _) hb
  have Ho := Lib.hid (own_mono (base' := w.heap.size + 1) ho (by simp))
  clear ho
  go_wp2
  refine bodyPost_ret (v := .agg #[.slice A' m c']) (by simp [results, Try.results130, go_sem, hc]) rfl ?_
  exact ⟨A', c', rfl, own_mono (own_far Ho.out (Nat.lt_succ_self _) _) (Nat.le_succ _), below_setCell hB (Nat.le_refl _) _⟩
end Go.Proofs.Ytbdmmeoelagdcaa

/- What functions of a tree, or of numbers, must do, as F says. -/
namespace Go.Proofs.Ytbdmmeoelagdcaa
open Go.RowKit

/-- a tree to a tree and a code -/
def GivesTree (f : Nat) (F : List Int → List Int × Int) : Prop :=
  ∀ (A : Option Addr) (xs : List Int) (c : Nat) (w : World), xs.length ≤ 1048576 → xs.length ≤ c ∧ c ≤ 1000000000000 → Ints w w.heap.size A xs →
    Calls Try.prog f #[.agg #[.slice A xs.length c]] w fun e w' => ∃ A' c', e = .returned (.tuple #[.agg #[.slice A' (F xs).1.length c'], .int .i64 (F xs).2]) ∧
      Own64 w' w.heap.size (.slice A' (F xs).1.length c') (F xs).1 ∧ Below w.heap.size w w'
/-- a tree to a number and a code -/
def GivesNum (f : Nat) (F : List Int → Int × Int) : Prop :=
  ∀ (A : Option Addr) (xs : List Int) (c : Nat) (w : World), xs.length ≤ 1048576 → xs.length ≤ c ∧ c ≤ 1000000000000 → Ints w w.heap.size A xs →
    Calls Try.prog f #[.agg #[.slice A xs.length c]] w fun e w' => e = .returned (.tuple #[.int .i64 (F xs).1, .int .i64 (F xs).2]) ∧ Below w.heap.size w w'
/-- what a function of a tree that hands back a text and a code must do, as F says -/
def GivesText (f : Nat) (F : List Int → ByteArray × Int) : Prop :=
  ∀ (A : Option Addr) (xs : List Int) (c : Nat) (w : World), xs.length ≤ 1048576 → xs.length ≤ c ∧ c ≤ 1000000000000 → Ints w w.heap.size A xs →
    Calls Try.prog f #[.agg #[.slice A xs.length c]] w fun e w' => e = .returned (.tuple #[.string (F xs).1, .int .i64 (F xs).2]) ∧ Below w.heap.size w w'
/-- a number to a tree and a code -/
def GivesTreeN1 (f : Nat) (F : Int → List Int × Int) : Prop :=
  ∀ (n : Int) (w : World), -9223372036854775808 ≤ n → n ≤ 9223372036854775807 →
    Calls Try.prog f #[.int .i64 n] w fun e w' => ∃ A' c', e = .returned (.tuple #[.agg #[.slice A' (F n).1.length c'], .int .i64 (F n).2]) ∧ Own64 w' w.heap.size (.slice A' (F n).1.length c') (F n).1 ∧ Below w.heap.size w w'
/-- two numbers to a tree and a code -/
def GivesTreeN2 (f : Nat) (F : Int → Int → List Int × Int) : Prop :=
  ∀ (n r : Int) (w : World), -9223372036854775808 ≤ n → n ≤ 9223372036854775807 → -9223372036854775808 ≤ r → r ≤ 9223372036854775807 →
    Calls Try.prog f #[.int .i64 n, .int .i64 r] w fun e w' => ∃ A' c', e = .returned (.tuple #[.agg #[.slice A' (F n r).1.length c'], .int .i64 (F n r).2]) ∧ Own64 w' w.heap.size (.slice A' (F n r).1.length c') (F n r).1 ∧ Below w.heap.size w w'
/-- a number to a number and a code -/
def GivesNumN1 (f : Nat) (F : Int → Int × Int) : Prop :=
  ∀ (n : Int) (w : World), -9223372036854775808 ≤ n → n ≤ 9223372036854775807 →
    Calls Try.prog f #[.int .i64 n] w fun e w' => e = .returned (.tuple #[.int .i64 (F n).1, .int .i64 (F n).2]) ∧ Below w.heap.size w w'
/-- two numbers to a number and a code -/
def GivesNumN2 (f : Nat) (F : Int → Int → Int × Int) : Prop :=
  ∀ (n r : Int) (w : World), -9223372036854775808 ≤ n → n ≤ 9223372036854775807 → -9223372036854775808 ≤ r → r ≤ 9223372036854775807 →
    Calls Try.prog f #[.int .i64 n, .int .i64 r] w fun e w' => e = .returned (.tuple #[.int .i64 (F n r).1, .int .i64 (F n r).2]) ∧ Below w.heap.size w w'
/-- numbers of a list to a number and a code -/
def GivesNumI (f : Nat) (F : List Int → Int × Int) : Prop :=
  ∀ (A : Option Addr) (xs : List Int) (c : Nat) (w : World), xs.length ≤ 1048576 → xs.length ≤ c ∧ c ≤ 1000000000000 → Ints w w.heap.size A xs → (∀ x ∈ xs, -9223372036854775808 ≤ x ∧ x ≤ 9223372036854775807) →
    Calls Try.prog f #[.slice A xs.length c] w fun e w' => e = .returned (.tuple #[.int .i64 (F xs).1, .int .i64 (F xs).2]) ∧ Below w.heap.size w w'
/-- what a function of a tree and a number that hands back a tree and a code must do, as F says -/
def GivesTree1 (f : Nat) (F : List Int → Int → List Int × Int) : Prop :=
  ∀ (A : Option Addr) (xs : List Int) (c : Nat) (v : Int) (w : World), xs.length ≤ 1048576 → xs.length ≤ c ∧ c ≤ 1000000000000 → Ints w w.heap.size A xs →
    Calls Try.prog f #[.agg #[.slice A xs.length c], .int .i64 v] w fun e w' => ∃ A' c', e = .returned (.tuple #[.agg #[.slice A' (F xs v).1.length c'], .int .i64 (F xs v).2]) ∧
      Own64 w' w.heap.size (.slice A' (F xs v).1.length c') (F xs v).1 ∧ Below w.heap.size w w'
/-- what a function of a tree and a number that hands back a list and a code must do, as F says -/
def GivesList1 (f : Nat) (F : List Int → Int → List Int × Int) : Prop :=
  ∀ (A : Option Addr) (xs : List Int) (c : Nat) (v : Int) (w : World), xs.length ≤ 1048576 → xs.length ≤ c ∧ c ≤ 1000000000000 → Ints w w.heap.size A xs →
    Calls Try.prog f #[.agg #[.slice A xs.length c], .int .i64 v] w fun e w' => ∃ A' c', e = .returned (.tuple #[.slice A' (F xs v).1.length c', .int .i64 (F xs v).2]) ∧
      Own64 w' w.heap.size (.slice A' (F xs v).1.length c') (F xs v).1 ∧ Below w.heap.size w w'
end Go.Proofs.Ytbdmmeoelagdcaa

/- the model's subtree. -/
namespace Go.Proofs.Ytbdmmeoelagdcaa
open Go.RowKit

theorem ints_sub {w : World} {B b off : Nat} {xs : List Int} (h : Ints w B (some ⟨b, off, none⟩) xs) (v m : Nat) : Ints w B (some ⟨b, off + v, none⟩) ((xs.drop v).take m) := fun hpos => by
  have hl : 0 < xs.length := by simp only [List.length_take, List.length_drop] at hpos; omega
  obtain ⟨b', off', e, hb, hc⟩ := h hl
  injection e with e
  injection e with e1 e2
  subst e1
  subst e2
  refine ⟨b, off + v, rfl, hb, fun j x hj => ?_⟩
  rw [List.getElem?_take] at hj
  split at hj
  · rw [List.getElem?_drop] at hj
    rw [Nat.add_assoc]
    exact hc _ _ hj
  · cases hj

set_option maxHeartbeats 1000000 in
set_option maxRecDepth 100000 in
theorem l01Subtree (A : Option Addr) (xs : List Int) (c v E : Nat) (w : World) (hx : xs.length ≤ 24) (hcl : xs.length ≤ c) (ht : Hid (M.isTree xs = true)) (hv : v < xs.length) (hE : Hid (v + M.span 1 (xs.drop v) = E)) (h : Ints w w.heap.size A xs) :
    Calls Try.prog 72 #[.agg #[.slice A xs.length c], .int .i64 v] w fun e w' => ∃ A' c', e = .returned (.agg #[.slice A' (E - v) c']) ∧ Own64 w' w.heap.size (.slice A' (E - v) c') (M.sub xs v) ∧ Below w.heap.size w w' := by
  obtain ⟨b, off, rfl, hbB, hcells⟩ := h (by omega)
  have Hh := Lib.hid h
  have hok := Lib.hid (M.tree_ok ht.out hv)
  have hEn := M.end_le (xs := xs) (v := v) (by omega)
  rw [hE.out] at hEn
  have hvE0 : v ≤ E := by have := hE.out; omega
  have hsl : Hid ((M.sub xs v).length = E - v) := by show _ = _; rw [M.sub_length]; have := hE.out; omega
  clear hcells h
  go_enter Try.func72, Try.ntmps72
  go_wp2
  obtain ⟨W, hW⟩ : ∃ W, W = (w.alloc (.cells #[.slice (some ⟨b, off, none⟩) xs.length c] 29)).alloc (.cells #[.slice none 0 0] 29) := ⟨_, rfl⟩
  have hcell : W.cell? ⟨w.heap.size, 0, none⟩ = some (.slice (some ⟨b, off, none⟩) xs.length c) := by subst hW; exact cell_al (by simp) _
  have hres : W.heap[w.heap.size + 1]? = some (.cells #[.slice none 0 0] 29 (0, 0)) := by subst hW; have := World.alloc_heap_new (w.alloc (.cells #[.slice (some ⟨b, off, none⟩) xs.length c] 29)) (.cells #[.slice none 0 0] 29); simpa using this
  have hIW := Lib.hid (((Hh.out.al (.cells #[.slice (some ⟨b, off, none⟩) xs.length c] 29)).al (.cells #[.slice none 0 0] 29)))
  have hBW := bal (bal (b0 w) (.cells #[.slice (some ⟨b, off, none⟩) xs.length c] 29)) (.cells #[.slice none 0 0] 29)
  rw [← hW] at hIW hBW ⊢
  have HBW := Lib.hid hBW
  have hWs : w.heap.size + 1 < W.heap.size := lt_of_block hres
  have Hres := Lib.hid hres
  clear hW hBW hres
  have hvE : (v : Int) ≤ (E : Int) := by omega
  have hEc : (E : Int) ≤ (c : Int) := by omega
  have hv0 : (0 : Int) ≤ (v : Int) := by omega
  have hvc : ¬ c = v := by omega
  have hK0 : Hid (Below (w.heap.size + 1) W W.drew) := (Below.refl _ _).drew
  have hK1 : Hid (Below W.heap.size W W.drew) := (Below.refl _ _).drew
  have hcell0 : W.drew.cell? ⟨w.heap.size, 0, none⟩ = some (.slice (some ⟨b, off, none⟩) xs.length c) := hcell
  have hEnd : ∀ W', Hid (Below W.heap.size W W') → Calls Try.prog 131 #[.agg #[.slice (some ⟨b, off, none⟩) xs.length c], .int .i64 v] W' fun e w' => e = .returned (.int .i64 E) ∧ Hid (Below W.heap.size W w') := fun W' hW' =>
    (l01End _ xs c v E W' hE hx hok (hIW.out.be hW'.out)).mono fun e w' ⟨he, hb⟩ => ⟨he, btr hW'.out hb⟩
  have HEnd := Lib.hid hEnd
  have hMake : ∀ W', Hid (Below W.heap.size W W') → Calls Try.prog 130 #[.slice (some ⟨b, off + v, none⟩) (E - v) (c - v)] W' fun e w' => ∃ A' c', e = .returned (.agg #[.slice A' (E - v) c']) ∧ Hid (Own64 w' W.heap.size (.slice A' (E - v) c') (M.sub xs v)) ∧ Hid (Below W.heap.size W w') := fun W' hW' => by
    have hi : Hid (Ints W' W'.heap.size (some ⟨b, off + v, none⟩) (M.sub xs v)) := (ints_sub (hIW.out.be hW'.out) v (M.span 1 (xs.drop v)))
    exact (l01Make _ (M.sub xs v) (E - v) (c - v) W' hsl (by omega) (fun e => by cases e) hi).mono fun e w' ⟨A', c', he, ho, hb⟩ => ⟨A', c', he, own_mono ho hW'.out.size, btr hW'.out hb⟩
  have HMake := Lib.hid hMake
  have hR : ∀ W', Hid (Below W.heap.size W W') → W'.cell? ⟨w.heap.size + 1, 0, none⟩ = some (.slice none 0 0) ∧ W'.frozen? ⟨w.heap.size + 1, 0, none⟩ = false := fun W' hW' => by
    have h1 := (hW'.out.block (w.heap.size + 1) hWs).trans Hres.out
    exact ⟨cell_of_one h1, free_of_one h1⟩
  have HR := Lib.hid hR
  have hS : ∀ W', Hid (Below W.heap.size W W') → W'.cell? ⟨w.heap.size, 0, none⟩ = some (.slice (some ⟨b, off, none⟩) xs.length c) ∧ Hid (Below (w.heap.size + 1) W W') := fun W' hW' => ⟨cell_be hcell hW'.out, hW'.out.mono (by omega)⟩
  have HS := Lib.hid hS
  clear hMake hEnd hR hS hcell
  go_region_held3 (fun w' => w'.cell? ⟨w.heap.size, 0, none⟩ = some (.slice (some ⟨b, off, none⟩) xs.length c) ∧ Hid (Below (w.heap.size + 1) W w')) (first | exact ⟨hcell0, hK0⟩ | exact HS.out _ (by assumption) | exact ⟨(World.cell?_setCell_other _ _ _ _ (by simp)).trans (HS.out _ (by assumption)).1, below_setCell (HS.out _ (by assumption)).2.out (Nat.le_refl _) _⟩) (first | (go_at_call 131; refine (HEnd.out _ (by assumption)).mono ?_; rintro e w7 ⟨rfl, hb7⟩) | (go_at_call 130; refine (HMake.out _ (by assumption)).mono ?_; rintro e w8 ⟨A8, c8, rfl, ho8, hb8⟩; obtain ⟨hr8, hf8⟩ := HR.out _ hb8))
  clear HS HR HMake HEnd hcell0 hK0 hK1
  go_wp2
  refine bodyPost_ret (v := .agg #[.slice A8 (E - v) c8]) (by simp [results, Try.results72, go_sem, hr8]) rfl ?_
  exact ⟨A8, c8, rfl, own_mono (own_far ho8.out hWs _) (by omega), below_setCell (btr HBW.out hb8.out) (by omega) _⟩
end Go.Proofs.Ytbdmmeoelagdcaa

/- Texts of trees: the mathematics. No program is named here. -/
namespace Go.Proofs.Ytbdmmeoelagdcaa.M
theorem go_span : ∀ (l : List Int) (o : Int), 0 ≤ o → ok o l → isGo o (l.take (span o l)) = true := by
  intro l
  induction l with
  | nil => intro o h0 h; simp only [ok] at h; simp [span, isGo]; omega
  | cons d r ih =>
    intro o h0 h
    by_cases ho : o ≤ 0
    · rw [span_stop ho]; simp [isGo]; omega
    · rcases h with h | ⟨h1, h2, h3⟩
      · omega
      · rw [span, if_neg ho, List.take_succ_cons, isGo, if_neg (by simp [h1, h2]; omega)]
        exact ih _ (by omega) h3
theorem sub_tree {xs : List Int} (h : isTree xs = true) {v : Nat} (hv : v < xs.length) : isTree (sub xs v) = true := by
  have h1 := go_span _ 1 (by omega) (tree_ok h hv)
  have h2 := span_pos hv
  have h3 := end_le (xs := xs) (v := v) (by omega)
  have h4 := (tree_len h).2
  simp only [isTree, Bool.and_eq_true, decide_eq_true_eq, sub_length]
  exact ⟨⟨h2, by omega⟩, h1⟩
/-- the text of a tree, f levels deep at most -/
def textL : Nat → List Int → ByteArray
  | 0, _ => ByteArray.empty
  | f + 1, xs => (List.range (xs[0]?.getD 0).toNat).foldl (fun a i => a ++ textL f (sub xs (kidAt xs 0 i))) (ByteArray.mk #[40]) ++ ByteArray.mk #[41]
/-- that of the first k children, with what opens it -/
def textK (f : Nat) (xs : List Int) (k : Nat) : ByteArray := (List.range k).foldl (fun a i => a ++ textL f (sub xs (kidAt xs 0 i))) (ByteArray.mk #[40])
theorem textK_zero (f : Nat) (xs : List Int) : textK f xs 0 = ByteArray.mk #[40] := rfl
theorem textK_succ (f : Nat) (xs : List Int) (k : Nat) : textK f xs (k + 1) = textK f xs k ++ textL f (sub xs (kidAt xs 0 k)) := by simp [textK, List.range_succ, List.foldl_append]
theorem textL_at {f : Nat} {xs : List Int} {d : Nat} (h : xs[0]? = some (d : Int)) : textL (f + 1) xs = textK f xs d ++ ByteArray.mk #[41] := by rw [textL, h]; rfl
/-- the subtrees below the root end the list -/
theorem kids_all {xs : List Int} (ht : isTree xs = true) {d : Nat} (hd : xs[0]? = some (d : Int)) : kidAt xs 0 d = xs.length := by
  have h := kid_due ht hd d (by omega)
  have h2 : due xs 0 = 1 := by simp [due, bal]
  rcases Nat.lt_or_ge (kidAt xs 0 d) xs.length with h3 | h3
  · have := due_pos ht h3; omega
  · omega
theorem sub_short {xs : List Int} (ht : isTree xs = true) {d : Nat} (hd : xs[0]? = some (d : Int)) {i : Nat} (hi : i < d) : (sub xs (kidAt xs 0 i)).length < xs.length := by
  have h1 := (kid_due ht hd i (by omega)).2.2
  have h2 := kid_lt ht hd (i := i) (by omega)
  have h3 := end_le (xs := xs) (v := kidAt xs 0 i) (by omega)
  rw [sub_length]; omega
theorem open_size : (ByteArray.mk #[40]).size = 1 := by decide
theorem close_size : (ByteArray.mk #[41]).size = 1 := by decide
theorem textL_size : ∀ (f : Nat) (xs : List Int), isTree xs = true → xs.length ≤ f → (textL f xs).size = 2 * xs.length := by
  intro f
  induction f with
  | zero => intro xs ht h; have := (tree_len ht).1; omega
  | succ f ih =>
    intro xs ht hf
    have hl := tree_len ht
    obtain ⟨d, hd, _⟩ := tree_degN ht (v := 0) (by omega)
    have hK : ∀ k, k ≤ d → (textK f xs k).size + 1 = 2 * kidAt xs 0 k := by
      intro k
      induction k with
      | zero => intro _; rw [textK_zero, open_size]; simp [kidAt]
      | succ k ihk =>
        intro hk
        have h1 := sub_short ht hd (i := k) (by omega)
        have h2 := kid_lt ht hd (i := k) (by omega)
        rw [textK_succ, ByteArray.size_append, ih _ (sub_tree ht h2) (by omega), sub_length]
        have := ihk (by omega)
        simp only [kidAt]
        omega
    have h1 := hK d (Nat.le_refl _)
    rw [kids_all ht hd] at h1
    rw [textL_at hd, ByteArray.size_append, close_size]
    omega
theorem textK_size {f : Nat} {xs : List Int} (ht : isTree xs = true) (hf : xs.length ≤ f + 1) {d : Nat} (hd : xs[0]? = some (d : Int)) : ∀ k, k ≤ d → (textK f xs k).size + 1 = 2 * kidAt xs 0 k := by
  intro k
  induction k with
  | zero => intro _; rw [textK_zero, open_size]; simp [kidAt]
  | succ k ihk =>
    intro hk
    have h1 := sub_short ht hd (i := k) (by omega)
    have h2 := kid_lt ht hd (i := k) (by omega)
    rw [textK_succ, ByteArray.size_append, textL_size f _ (sub_tree ht h2) (by omega), sub_length]
    have := ihk (by omega)
    simp only [kidAt]
    omega
end Go.Proofs.Ytbdmmeoelagdcaa.M

/- eachChild: the iterator over the places and the children of a node: for every loop body that keeps what lay below a block and the box of the degrees. -/
namespace Go.Proofs.Ytbdmmeoelagdcaa
open Go.RowKit Go.Shelf
attribute [local go_sem] Oper.semAt_some

/-- what a round of a loop over the children must keep: all below n₀, and the box of the degrees -/
def KeepK (n₀ Bd : Nat) (W W' : World) : Prop := Below n₀ W W' ∧ W'.heap[Bd]? = W.heap[Bd]?
theorem KeepK.t {n₀ Bd : Nat} {A B C : World} (h : KeepK n₀ Bd A B) (k : KeepK n₀ Bd B C) : KeepK n₀ Bd A C := ⟨h.1.trans k.1, k.2.trans h.2⟩
theorem KeepK.b {n₀ Bd : Nat} {w : World} (hn : n₀ ≤ w.heap.size) (hB : Bd < w.heap.size) (W : World) (l : Nat) (o o' : Obj) (hl : w.heap.size ≤ l) (h : W.heap[l]? = some o) (h1 : o.isCells = false) (h2 : o.isWalk = false) : KeepK n₀ Bd W (W.putObj l o') :=
  ⟨belowK_b hn W l o o' hl h h1 h2, (grownBy_putObj' W l o').block Bd (by have := (Array.getElem?_eq_some_iff.1 h).1; omega) (fun e => by cases e; omega)⟩

/-- the places and the children that have come behind k rounds -/
def kids (xs : List Int) (v k : Nat) : List (Nat × Nat) := (List.range k).map fun i => (i, M.kidAt xs v i)
theorem kids_succ (xs : List Int) (v k : Nat) : kids xs v (k + 1) = kids xs v k ++ [(k, M.kidAt xs v k)] := by simp [kids, List.range_succ]
theorem kids_length (xs : List Int) (v k : Nat) : (kids xs v k).length = k := by simp [kids]

set_option maxRecDepth 100000 in
set_option maxHeartbeats 2000000 in
theorem each1 {α : Type} (mk : Nat → α) (encs : α → Array Value) (n : Nat) (hn : 1 ≤ n) (l Bv Bd n₀ : Nat) (A : Option Addr) (xs : List Int) (c v d : Nat) (hx : xs.length ≤ 24) (hcl : xs.length ≤ c) (hcu : c ≤ 9223372036854775807) (ht : Hid (M.isTree xs = true)) (hd : Hid (xs[v]? = some (d : Int)))
    (hmk : ∀ k, k < d → encs (mk k) = #[.int .i64 (k : Int), .int .i64 (M.kidAt xs v k : Int)]) (J Jx : List α → World → Prop)
    (hY : ∀ pre x W, J pre W → pre.length < d → YieldAt Fence.wide (n - 1) Try.prog l (encs x) W fun e W' =>
      (e = .returned (.bool true) ∧ J (pre ++ [x]) W' ∧ KeepK n₀ Bd W W') ∨ (e = .returned (.bool false) ∧ Jx (pre ++ [x]) W'))
    (W : World) (hBv : W.cell? ⟨Bv, 0, none⟩ = some (.int .i64 v)) (hBd : Boxed W Bd 23 (.slice A xs.length c)) (hI : Ints W n₀ A xs) (hn0 : n₀ ≤ W.heap.size) (h0 : J [] W) :
    CallsIn Fence.wide n Try.prog 162 #[.func (.yield l) #[] #[], .pointer (some ⟨Bv, 0, none⟩), .pointer (some ⟨Bd, 0, none⟩)] W fun e W' => (∃ u, e = .returned u) ∧
      ((∃ ys, ys = (List.range d).map mk ∧ J ys W') ∨ (∃ pre, (∃ k, k ≤ d ∧ pre = (List.range k).map mk) ∧ Jx pre W')) := by
  have hv : v < xs.length := (List.getElem?_eq_some_iff.1 hd.out).1
  have hd24 : d ≤ 24 := by have := M.tree_deg ht.out hd.out; omega
  obtain ⟨b, off, rfl, hbB, hcells⟩ := hI (by omega)
  have Hcells := Lib.hid hcells
  have hc0 := hcells v _ hd.out
  have hcd := hBd.cell
  have HBd := Lib.hid hBd
  have HI := Lib.hid hI
  clear hcells hI hBd
  refine callsIn_of_wp Try.func162 rfl trivial ?_ rfl
  simp only [Try.ntmps162, List.size_toArray, List.length_cons, List.length_nil, Nat.reduceAdd, Nat.reduceSub, Array.replicate_succ, Array.replicate_zero, List.push_toArray, List.append_toArray, List.nil_append, List.cons_append]
  gi_wp2
  gi_loopw [4, 5, 12] (fun q _ i wr => ∃ k : Nat, k ≤ d ∧ i = .int .i64 k ∧ q = .int .i64 (M.kidAt xs v k) ∧ J ((List.range k).map mk) wr ∧ Hid (KeepK n₀ Bd W wr))
    (fun _ _ i _ => d - (intOf i).toNat)
  case atStart => exact ⟨0, Nat.zero_le _, rfl, by simp [M.kidAt], h0, ⟨Below.refl _ _, rfl⟩⟩
  case round =>
    obtain ⟨k, hk, rfl, rfl, hJs, hnx⟩ := hrel
    clear hc0 hcd
    by_cases hlt : k < d
    · have hYk := hY _ (mk k) wr hJs (by simpa using hlt)
      rw [hmk k hlt] at hYk
      obtain ⟨fn, tmps, assign, body, hy, hR⟩ := hYk
      have hkl := M.kid_lt ht.out hd.out (i := k) (by omega)
      have hsp := M.span_le (xs.drop (M.kidAt xs v k)) 1
      have hsp2 : (xs.drop (M.kidAt xs v k)).length ≤ xs.length := by simp
      have hok := Lib.hid (M.tree_ok ht.out hkl)
      have hks : Hid (M.kidAt xs v (k + 1) = M.kidAt xs v k + M.span 1 (xs.drop (M.kidAt xs v k))) := rfl
      generalize hC : M.kidAt xs v k = C at *
      obtain ⟨S, hS⟩ : ∃ S, Hid (M.span 1 (xs.drop C) = S) := ⟨_, rfl⟩
      have hS2 : S ≤ 24 := by have := hS.out; omega
      have HC := Lib.hid hC
      clear hsp hsp2 hC
      gi_wp2
      refine hR.mono ?_
      rintro e W3 (⟨rfl, hJ3, hk3⟩ | ⟨rfl, hJx3⟩)
      · have hk4 : Hid (KeepK n₀ Bd W W3) := hnx.out.t hk3
        have hbd3 : Boxed W3 Bd 23 (.slice (some ⟨b, off, none⟩) xs.length c) := hk4.out.2.trans HBd.out
        have hc3 := hbd3.cell
        have hI3 := Lib.hid ((HI.out.below hk4.out.1 (Nat.le_refl _)).more (Nat.le_trans hn0 hk4.out.1.size))
        have hK3 := Lib.hid hk3
        clear hk3 hbd3
        gi_wp2_with (refine ⟨trivial, ?_⟩; gi_at_call 150; refine (callsIn_wide.2 (sizeAt _ xs c C S _ hS hx hcl hcu hok hI3.out)).mono ?_; rintro e w' ⟨rfl, rfl⟩)
        have hks2 : Hid (M.kidAt xs v (k + 1) = C + S) := by show _ = _; rw [hks.out, hS.out]
        go_roundw
        case rel => exact ⟨k + 1, by omega, by go_num, by rw [hks2.out]; go_num, by rw [List.range_succ, List.map_append]; exact hJ3, hk4⟩
        case measure => simp [intOf]; omega
      · gi_wp2
        refine bodyPost_ret (results_none rfl _ _ _) rfl ?_
        exact ⟨⟨_, rfl⟩, .inr ⟨_, ⟨k + 1, by omega, by rw [List.range_succ, List.map_append]; rfl⟩, hJx3⟩⟩
    · obtain rfl : k = d := by omega
      gi_wp2
      go_end0
      exact ⟨⟨_, rfl⟩, .inl ⟨_, rfl, hJs⟩⟩

set_option maxHeartbeats 1000000 in
/-- eachChild: both arguments are boxed; the function value captures the boxes -/
theorem eachIn (n : Nat) (A : Option Addr) (m c : Nat) (v : Int) (w : World) :
    CallsIn Fence.wide n Try.prog 135 #[.slice A m c, .int .i64 v] w fun e w' => e = .returned (.func (.func 162) #[] #[.pointer (some ⟨w.heap.size + 1, 0, none⟩), .pointer (some ⟨w.heap.size, 0, none⟩)]) ∧
      w' = (w.alloc (.cells #[.slice A m c] 23)).alloc (.cells #[.int .i64 v] 2) := by
  refine callsIn_of_wp Try.func135 rfl trivial ?_ rfl
  simp only [Try.ntmps135, List.size_toArray, List.length_cons, List.length_nil, Nat.reduceAdd, Nat.reduceSub, Array.replicate_succ, Array.replicate_zero, List.push_toArray, List.append_toArray, List.nil_append, List.cons_append]
  gi_wp2
  go_ret
  exact ⟨rfl, rfl⟩

/-- what a range over the children of v gives: all of them in order, or a beginning where a round has said 'no more'; the elements as the caller names them -/
theorem each_stopsF {α : Type} (mk : Nat → α) (encs : α → Array Value) (n : Nat) (hn : 1 ≤ n) (Bv Bd n₀ : Nat) (A : Option Addr) (xs : List Int) (c v d : Nat) (hx : xs.length ≤ 24) (hcl : xs.length ≤ c) (hcu : c ≤ 9223372036854775807) (ht : Hid (M.isTree xs = true)) (hd : Hid (xs[v]? = some (d : Int)))
    (hmk : ∀ k, k < d → encs (mk k) = #[.int .i64 (k : Int), .int .i64 (M.kidAt xs v k : Int)]) (w : World) (hBv : w.cell? ⟨Bv, 0, none⟩ = some (.int .i64 v)) (hBd : Boxed w Bd 23 (.slice A xs.length c)) (hI : Ints w n₀ A xs) (hn0 : n₀ ≤ w.heap.size) :
    SeqStopsK Fence.wide n Try.prog 162 #[.pointer (some ⟨Bv, 0, none⟩), .pointer (some ⟨Bd, 0, none⟩)] encs (KeepK n₀ Bd)
      (fun ys => ys = (List.range d).map mk) (fun pre => ∃ k, k ≤ d ∧ pre = (List.range k).map mk) d w := fun l J Jx W hW _ _ hY h0 =>
  each1 mk encs n hn l Bv Bd n₀ A xs c v d hx hcl hcu ht hd hmk J Jx hY W ((hW.cell (p := ⟨Bv, 0, none⟩) (World.block_lt_of_cell? _ _ hBv)).trans hBv) ((hW.block Bd hBd.lt).trans hBd) (hI.below hW hn0) (Nat.le_trans hn0 hW.size) h0

/-- what a range over the children of v gives: all of them in order, or a beginning where a round has said 'no more' -/
theorem each_stops (n : Nat) (hn : 1 ≤ n) (Bv Bd n₀ : Nat) (A : Option Addr) (xs : List Int) (c v d : Nat) (hx : xs.length ≤ 24) (hcl : xs.length ≤ c) (hcu : c ≤ 9223372036854775807) (ht : Hid (M.isTree xs = true)) (hd : Hid (xs[v]? = some (d : Int)))
    (w : World) (hBv : w.cell? ⟨Bv, 0, none⟩ = some (.int .i64 v)) (hBd : Boxed w Bd 23 (.slice A xs.length c)) (hI : Ints w n₀ A xs) (hn0 : n₀ ≤ w.heap.size) :
    SeqStopsK Fence.wide n Try.prog 162 #[.pointer (some ⟨Bv, 0, none⟩), .pointer (some ⟨Bd, 0, none⟩)] (fun x : Nat × Nat => #[Value.int .i64 (x.1 : Int), Value.int .i64 (x.2 : Int)]) (KeepK n₀ Bd)
      (fun ys => ys = kids xs v d) (fun pre => ∃ k, k ≤ d ∧ pre = kids xs v k) d w :=
  each_stopsF (fun i => (i, M.kidAt xs v i)) _ n hn Bv Bd n₀ A xs c v d hx hcl hcu ht hd (fun _ _ => rfl) w hBv hBd hI hn0
end Go.Proofs.Ytbdmmeoelagdcaa

/- childrenIn: the children of a node in a row of its own; l01Children: the same. -/
namespace Go.Proofs.Ytbdmmeoelagdcaa
open Go.RowKit Go.Shelf
attribute [local go_sem] Oper.semAt_some

/-- the children, as numbers -/
def kidsI (pre : List (Nat × Nat)) : List Int := pre.map fun x => (x.2 : Int)
theorem kidsI_snoc (pre : List (Nat × Nat)) (x : Nat × Nat) : kidsI (pre ++ [x]) = kidsI pre ++ [(x.2 : Int)] := by simp [kidsI]
theorem kidsI_length (pre : List (Nat × Nat)) : (kidsI pre).length = pre.length := by simp [kidsI]

theorem keepK_appended {W w1 : World} {n₀ B Bd : Nat} {tmp : Obj} {v v' : Value} {u : Value} {n : Nat} {xs : List Value} (hB : Below n₀ W (w1.setCell ⟨B, 0, none⟩ v')) (hgrow : (W.alloc tmp).grownBy w1 v.ownBlock)
    (hrow : W.ownsRow n₀ 2 1 v n xs) (hd : Boxed W Bd 23 u) (hne : Bd ≠ B) : KeepK n₀ Bd W (w1.setCell ⟨B, 0, none⟩ v') := by
  have h1 : Boxed w1 Bd 23 u := (hd.alloc tmp).kept hgrow (hd.not_row (by decide) hrow)
  exact ⟨hB, (show Boxed _ Bd _ u from h1.other hne v').trans (show W.heap[Bd]? = _ from hd).symm⟩

theorem kidsI_kids (xs : List Int) (v k : Nat) : kidsI (kids xs v k) = M.childs xs v k := by simp [kidsI, kids, M.childs]

set_option maxHeartbeats 2000000 in
theorem l01Children (A : Option Addr) (xs : List Int) (c v d : Nat) (w : World) (hx : xs.length ≤ 24) (ht : Hid (M.isTree xs = true)) (hd : Hid (xs[v]? = some (d : Int))) (h : Ints w w.heap.size A xs) :
    Calls Try.prog 129 #[.agg #[.slice A xs.length c], .int .i64 v] w fun e w' => ∃ A' c', e = .returned (.slice A' d c') ∧ Own64 w' w.heap.size (.slice A' d c') (M.childs xs v d) ∧ Below w.heap.size w w' := by
  have hv : v < xs.length := (List.getElem?_eq_some_iff.1 hd.out).1
  have hd24 : d ≤ 24 := by have := (M.tree_deg ht.out hd.out).2; omega
  have Hh := Lib.hid h
  obtain ⟨b, off, rfl, hbB, hcells⟩ := h (by omega)
  have hc0 := hcells v _ hd.out
  clear hcells
  go_enter Try.func129, Try.ntmps129
  go_wp2
  go_loopw [5, 6, 7] (fun q at_ i wr => ∃ (k : Nat) (A' : Option Addr) (n c' : Nat), k ≤ d ∧ i = .int .i64 ((d : Int) - k) ∧ at_ = .int .i64 (M.kidAt xs v k) ∧ q = .slice A' n c' ∧ Hid (Own64 wr (w.heap.size + 1) (.slice A' n c') (M.childs xs v k)) ∧ Hid (Below (w.heap.size + 1) (w.alloc (.cells #[.slice (some ⟨b, off, none⟩) xs.length c] 29)) wr)) (fun _ _ i _ => (intOf i).toNat)
  case atStart => exact ⟨0, some ⟨w.heap.size + 1, 0, none⟩, 0, 0, Nat.zero_le _, by go_num, by simp [M.kidAt], rfl, by have := own64_empty (w := w.alloc (.cells #[.slice (some ⟨b, off, none⟩) xs.length c] 29)) (B := w.heap.size + 1) (by simp); exact Lib.hid (by simpa [M.childs] using this), (Below.refl _ _).alloc (by simp) _⟩
  case round =>
    obtain ⟨k, A', n, c', hk, rfl, rfl, rfl, ho, hbr⟩ := hrel
    have hnr : n ≤ 1000000 := by have h1 := own64_len ho.out; rw [M.childs_length] at h1; omega
    clear hc0
    have hB1 := hbr.out.size
    by_cases hlt : k < d
    · have hkl := M.kid_lt ht.out hd.out (i := k) (by omega)
      have hok := Lib.hid (M.tree_ok ht.out hkl)
      have hsp := M.span_le (xs.drop (M.kidAt xs v k)) 1
      have hsp2 : (xs.drop (M.kidAt xs v k)).length ≤ xs.length := by simp
      obtain ⟨C2, hC2e⟩ : ∃ C2, Hid (M.kidAt xs v (k + 1) = C2) := ⟨_, rfl⟩
      have hks : Hid (M.kidAt xs v k + M.span 1 (xs.drop (M.kidAt xs v k)) = C2) := hC2e
      have hcs := Lib.hid (M.childs_succ xs v k)
      generalize M.kidAt xs v k = C at *
      have hC2 : C2 ≤ 48 := by have := hks.out; omega
      clear hsp hsp2
      have hB2 : w.heap.size + 1 ≤ wr.heap.size := by simpa using hB1
      have HbB := Lib.hid hbB
      clear hB1 hbB
      go_wp2_with (at_builtin; refine push64 rfl (.tmp 20) (.tmp 22) rfl wr (w.heap.size + 1) A' n c' (M.childs xs v k) (C : Int) rfl rfl ho hB2 hnr ?_; intro A2 c2 w2 ho2 hb2; have hb3 := Lib.hid (hbr.out.trans hb2.out); have hcell2 := (hb3.out.cell (p := ⟨w.heap.size, 0, none⟩) (Nat.lt_succ_self _)).trans (World.cell?_alloc_new w #[.slice (some ⟨b, off, none⟩) xs.length c] 29 0))
      have hsz2 : w.heap.size ≤ w2.heap.size := by have := hb3.out.size; simp at this; omega
      have hI2 := Lib.hid (((Hh.out.alloc (Nat.le_refl _) (.cells #[.slice (some ⟨b, off, none⟩) xs.length c] 29)).below hb3.out (Nat.le_succ _)).more hsz2)
      refine (l01End _ xs c C C2 _ hks hx hok hI2.out).mono ?_
      rintro e w3 ⟨rfl, hb⟩
      have hb4 := Lib.hid (hb3.out.trans (hb.mono (by have := hb3.out.size; simp at this; omega)))
      have ho4 := Lib.hid (own_be (own64_eq ho2.out hcs.out.symm) hb)
      clear hb
      go_wp2
      go_roundw
      case rel => exact ⟨k + 1, A2, _, c2, by omega, by go_num, by rw [hC2e.out], rfl, ho4, hb4⟩
      case measure => simp [intOf]; omega
    · obtain rfl : k = d := by omega
      go_wp2
      go_ret
      have hn := own64_len ho.out
      rw [M.childs_length] at hn
      subst hn
      exact ⟨A', c', rfl, own_mono ho.out (by omega), (bal (b0 w) _).trans (hbr.out.mono (by omega))⟩
end Go.Proofs.Ytbdmmeoelagdcaa

/- The order by levels as mathematics: nodes met are never more than the tree has, since their subtrees' sizes add up. -/
namespace Go.Proofs.Ytbdmmeoelagdcaa.M

theorem span_add : ∀ (l : List Int) (a b : Int), (∀ x ∈ l, 0 ≤ x) → 0 ≤ a → 0 ≤ b → span (a + b) l = span a l + span b (l.drop (span a l)) := by
  intro l
  induction l with
  | nil => intro a b _ _ _; simp [span]
  | cons x r ih =>
    intro a b h ha hb
    have hx := h x (by simp)
    by_cases h0 : a ≤ 0
    · obtain rfl : a = 0 := by omega
      rw [span_stop (Int.le_refl 0)]
      simp
    · have e1 : span (a + b) (x :: r) = span (a + b - 1 + x) r + 1 := by rw [span, if_neg (by omega)]
      have e2 : span a (x :: r) = span (a - 1 + x) r + 1 := by rw [span, if_neg (by omega)]
      have e3 : a + b - 1 + x = (a - 1 + x) + b := by omega
      rw [e1, e2, e3, ih _ _ (fun y hy => h y (by simp [hy])) (by omega) hb]
      simp only [List.drop_succ_cons]
      omega

theorem tree_nonneg {xs : List Int} (h : isTree xs = true) : ∀ x ∈ xs, 0 ≤ x := by
  intro x hx
  obtain ⟨i, hi, e⟩ := List.getElem_of_mem hx
  exact (tree_deg h (v := i) (x := x) (by rw [List.getElem?_eq_getElem hi, e])).1

theorem kid_span {xs : List Int} (h : isTree xs = true) (v : Nat) : ∀ k : Nat, kidAt xs v k = v + 1 + span k (xs.drop (v + 1)) := by
  intro k
  induction k with
  | zero => simp only [kidAt]; rw [span_stop (by simp)]
  | succ k ih =>
    simp only [kidAt]
    have e := span_add (xs.drop (v + 1)) k 1 (fun x hx => tree_nonneg h x (List.mem_of_mem_drop hx)) (by omega) (by omega)
    rw [List.drop_drop] at e
    have e2 : ((k + 1 : Nat) : Int) = (k : Int) + 1 := by omega
    rw [ih, e2, e]
    omega

theorem kid_end {xs : List Int} (h : isTree xs = true) {v d : Nat} (hd : xs[v]? = some (d : Int)) : kidAt xs v d = v + span 1 (xs.drop v) := by
  rw [kid_span h, span_step hd (by omega)]
  have e : (1 : Int) - 1 + d = d := by omega
  rw [e]
  omega

def szs (xs l : List Int) : Nat := (l.map fun v => span 1 (xs.drop v.toNat)).sum
theorem szs_append (xs a b : List Int) : szs xs (a ++ b) = szs xs a + szs xs b := by simp [szs]
theorem szs_childs (xs : List Int) (v k : Nat) : v + 1 + szs xs (childs xs v k) = kidAt xs v k := by
  induction k with
  | zero => simp [childs, szs, kidAt]
  | succ k ih =>
    rw [childs_succ, szs_append]
    simp only [kidAt]
    have : szs xs [(kidAt xs v k : Int)] = span 1 (xs.drop (kidAt xs v k)) := by simp [szs]
    omega
theorem szs_len {xs : List Int} : ∀ l : List Int, (∀ v ∈ l, 0 ≤ v ∧ v.toNat < xs.length) → l.length ≤ szs xs l := by
  intro l
  induction l with
  | nil => intro _; simp
  | cons a r ih =>
    intro h
    have h1 := ih (fun v hv => h v (by simp [hv]))
    have h2 := span_pos (xs := xs) (h a (by simp)).2
    simp only [szs, List.map_cons, List.sum_cons, List.length_cons] at *
    omega

def lev (xs : List Int) : Nat → List Int → Nat → List Int
  | 0, out, _ => out
  | f + 1, out, i => match out[i]? with
    | none => out
    | some v => lev xs f (out ++ childs xs v.toNat (xs[v.toNat]?.getD 0).toNat) (i + 1)
def level (xs : List Int) : List Int := lev xs xs.length [0] 0
def lgood (xs : List Int) (i : Nat) (out : List Int) : Prop := i ≤ out.length ∧ i + szs xs (out.drop i) = xs.length ∧ ∀ v ∈ out, 0 ≤ v ∧ v.toNat < xs.length

theorem lgood_len {xs out : List Int} {i : Nat} (h : lgood xs i out) : out.length ≤ xs.length := by
  obtain ⟨h1, h2, h3⟩ := h
  have := szs_len (xs := xs) (out.drop i) (fun v hv => h3 v (List.mem_of_mem_drop hv))
  simp only [List.length_drop] at this
  omega
theorem childs_in {xs : List Int} (h : isTree xs = true) {v d : Nat} (hd : xs[v]? = some (d : Int)) : ∀ u ∈ childs xs v d, 0 ≤ u ∧ u.toNat < xs.length := by
  intro u hu
  simp only [childs, List.mem_map, List.mem_range] at hu
  obtain ⟨i, hi, rfl⟩ := hu
  exact ⟨by omega, by simpa using kid_lt h hd (i := i) (by omega)⟩
theorem lgood_step {xs out : List Int} {i v d : Nat} (ht : isTree xs = true) (h : lgood xs i out) (hv : out[i]? = some (v : Int)) (hd : xs[v]? = some (d : Int)) : lgood xs (i + 1) (out ++ childs xs v d) := by
  obtain ⟨h1, h2, h3⟩ := h
  have hi := (List.getElem?_eq_some_iff.1 hv).1
  refine ⟨by simp; omega, ?_, fun u hu => ?_⟩
  · rw [List.drop_append_of_le_length (by omega), szs_append]
    rw [drop_at hv] at h2
    have e1 : szs xs ((v : Int) :: out.drop (i + 1)) = span 1 (xs.drop v) + szs xs (out.drop (i + 1)) := by simp [szs]
    have e2 := szs_childs xs v d
    have e3 := kid_end ht hd
    omega
  · rcases List.mem_append.1 hu with hu | hu
    · exact h3 u hu
    · exact childs_in ht hd u hu
theorem lgood_start {xs : List Int} (ht : isTree xs = true) : lgood xs 0 [0] := by
  have hl := (tree_len ht).1
  refine ⟨by simp, ?_, fun v hv => by simp at hv; subst hv; simp; omega⟩
  have h0 : due xs 0 = 1 := by simp [due, bal]
  have h1 := due_span ht (v := 0) hl
  have h2 := end_le (xs := xs) (v := 0) (by omega)
  simp only [List.drop_zero, Nat.zero_add] at h1 h2
  have h3 : ¬ span 1 xs < xs.length := fun hlt => by have := due_pos ht hlt; omega
  simp [szs]
  omega
theorem lev_step {xs out : List Int} {n i v d : Nat} (hn : i < n) (hv : out[i]? = some (v : Int)) (hd : xs[v]? = some (d : Int)) : lev xs (n - i) out i = lev xs (n - (i + 1)) (out ++ childs xs v d) (i + 1) := by
  have e : n - i = (n - (i + 1)) + 1 := by omega
  rw [e, lev, hv]
  simp [hd]
theorem lev_end {xs out : List Int} {f i : Nat} (h : out.length ≤ i) : lev xs f out i = out := by
  cases f with
  | zero => rfl
  | succ f => rw [lev, List.getElem?_eq_none h]
theorem lev_len {xs : List Int} (ht : isTree xs = true) : ∀ (f : Nat) (out : List Int) (i : Nat), lgood xs i out → (lev xs f out i).length ≤ xs.length := by
  intro f
  induction f with
  | zero => intro out i h; exact lgood_len h
  | succ f ih =>
    intro out i h
    rw [lev]
    split
    · exact lgood_len h
    · rename_i v hv
      obtain ⟨h0, h1⟩ := h.2.2 v (List.mem_of_getElem? hv)
      obtain ⟨n, rfl⟩ := Int.eq_ofNat_of_zero_le h0
      obtain ⟨d, hd, _⟩ := tree_degN ht h1
      simp only [Int.toNat_natCast] at hd h1 ⊢
      rw [hd]
      exact ih _ _ (by simpa using lgood_step ht h hv hd)
end Go.Proofs.Ytbdmmeoelagdcaa.M

/- Parents and meets as mathematics: subtrees are nested, each node but the root is a child of one node, and the meet is the greatest node that has both below it. -/
namespace Go.Proofs.Ytbdmmeoelagdcaa.M

def fin (xs : List Int) (v : Nat) : Nat := v + span 1 (xs.drop v)
theorem span_min : ∀ (l : List Int) (o : Int) (k : Nat), k < span o l → 1 ≤ o + bal (l.take k) := by
  intro l
  induction l with
  | nil => intro o k h; simp [span] at h
  | cons x r ih =>
    intro o k h
    rw [span] at h
    split at h
    · omega
    · cases k with
      | zero => simp only [List.take_zero, bal]; omega
      | succ k =>
        have := ih (o - 1 + x) k (by omega)
        simp only [List.take_succ_cons, bal]
        omega
theorem due_in {xs : List Int} {v q : Nat} (h1 : v ≤ q) (h2 : q < fin xs v) : due xs v ≤ due xs q := by
  have h := span_min (xs.drop v) 1 (q - v) (by simp only [fin] at h2; omega)
  have e : xs.take q = xs.take v ++ (xs.drop v).take (q - v) := by
    have := List.take_add (l := xs) (i := v) (j := q - v)
    rw [← this]
    congr 1
    omega
  simp only [due]
  rw [e, bal_append]
  omega
theorem fin_gt {xs : List Int} {v : Nat} (h : v < xs.length) : v < fin xs v := by have := span_pos h; simp only [fin]; omega
theorem fin_le {xs : List Int} {v : Nat} (h : v ≤ xs.length) : fin xs v ≤ xs.length := end_le h
theorem fin_root {xs : List Int} (ht : isTree xs = true) : fin xs 0 = xs.length := by
  have := (lgood_start ht).2.1
  simpa [szs, fin] using this
theorem nest {xs : List Int} (ht : isTree xs = true) {v q : Nat} (hv : v < xs.length) (h1 : v ≤ q) (h2 : q < fin xs v) : fin xs q ≤ fin xs v := by
  have hl := fin_le (xs := xs) (v := v) (by omega)
  rcases Nat.lt_or_ge (fin xs v) (fin xs q) with h | h
  · have e1 := due_in (xs := xs) (v := q) (q := fin xs v) (by omega) h
    have e2 := due_span ht hv
    have e3 := due_in h1 h2
    simp only [fin] at e1
    omega
  · exact h
theorem kid_le {xs : List Int} {v i j : Nat} (h : i ≤ j) : kidAt xs v i ≤ kidAt xs v j := by
  induction j with
  | zero => obtain rfl : i = 0 := by omega
            exact Nat.le_refl _
  | succ j ih =>
    rcases Nat.lt_or_ge i (j + 1) with h1 | h1
    · have := ih (by omega)
      simp only [kidAt]
      omega
    · obtain rfl : i = j + 1 := by omega
      exact Nat.le_refl _
theorem kid_tile {xs : List Int} {v at_ : Nat} (h : v < at_) : ∀ i, at_ < kidAt xs v i → ∃ j, j < i ∧ kidAt xs v j ≤ at_ ∧ at_ < kidAt xs v (j + 1) := by
  intro i
  induction i with
  | zero => intro h1; simp only [kidAt] at h1; omega
  | succ i ih =>
    intro h1
    rcases Nat.lt_or_ge at_ (kidAt xs v i) with h2 | h2
    · obtain ⟨j, hj, h3⟩ := ih h2
      exact ⟨j, by omega, h3⟩
    · exact ⟨i, by omega, h2, h1⟩
def IsKid (xs : List Int) (u c : Nat) : Prop := ∃ (d : Nat) (i : Nat), xs[u]? = some (d : Int) ∧ i < d ∧ kidAt xs u i = c
theorem kid_bounds {xs : List Int} (ht : isTree xs = true) {u c : Nat} (h : IsKid xs u c) : u < c ∧ c < fin xs u ∧ c < xs.length := by
  obtain ⟨d, i, hd, hi, rfl⟩ := h
  have h1 := kid_due ht hd i (by omega)
  have h2 := kid_lt ht hd (i := i) (by omega)
  have h3 := kid_end ht hd
  have h4 := kid_le (xs := xs) (v := u) (i := i + 1) (j := d) (by omega)
  have h5 := span_pos h2
  simp only [kidAt] at h4
  simp only [fin]
  omega
theorem kid_up {xs : List Int} (ht : isTree xs = true) {p c r : Nat} (h : IsKid xs p c) (h1 : r < c) (h2 : c < fin xs r) : r ≤ p := by
  obtain ⟨hb1, hb2, hb3⟩ := kid_bounds ht h
  rcases Nat.lt_or_ge p r with hlt | hge
  · obtain ⟨d, i, hd, hi, hk⟩ := h
    have he := kid_end ht hd
    obtain ⟨j, hj, hj1, hj2⟩ := kid_tile (xs := xs) (v := p) (at_ := r) hlt d (by simp only [fin] at hb2; omega)
    have hjl := kid_lt ht hd (i := j) (by omega)
    have hn := nest ht hjl hj1 (by simp only [kidAt] at hj2; exact hj2)
    have hn2 : fin xs (kidAt xs p j) = kidAt xs p (j + 1) := by simp only [fin, kidAt]
    rcases Nat.lt_or_ge i (j + 1) with hij | hij
    · have := kid_le (xs := xs) (v := p) (i := i) (j := j) (by omega)
      omega
    · have := kid_le (xs := xs) (v := p) (i := j + 1) (j := i) hij
      omega
  · exact hge
theorem kid_unique {xs : List Int} (ht : isTree xs = true) {p q c : Nat} (h : IsKid xs p c) (h' : IsKid xs q c) : p = q := by
  have a := kid_bounds ht h
  have b := kid_bounds ht h'
  have := kid_up ht h b.1 b.2.1
  have := kid_up ht h' a.1 a.2.1
  omega
theorem kid_exists {xs : List Int} (ht : isTree xs = true) {c : Nat} (hc : c < xs.length) : ∀ (m u : Nat), c - u ≤ m → u < c → c < fin xs u → ∃ p, IsKid xs p c := by
  intro m
  induction m with
  | zero => intro u h1 h2; omega
  | succ m ih =>
    intro u h1 h2 h3
    obtain ⟨d, hd, _⟩ := tree_degN ht (v := u) (by omega)
    have he := kid_end ht hd
    obtain ⟨j, hj, hj1, hj2⟩ := kid_tile (xs := xs) h2 d (by simp only [fin] at h3; omega)
    rcases Nat.lt_or_ge (kidAt xs u j) c with h4 | h4
    · have h5 := (kid_due ht hd j (by omega)).2.2
      exact ih (kidAt xs u j) (by omega) h4 (by simp only [kidAt] at hj2; exact hj2)
    · exact ⟨u, d, j, hd, hj, by omega⟩
theorem kid_has {xs : List Int} (ht : isTree xs = true) {c : Nat} (h0 : 0 < c) (hc : c < xs.length) : ∃ p, IsKid xs p c :=
  kid_exists ht hc c 0 (by omega) h0 (by rw [fin_root ht]; exact hc)

/-- v stands at u or below it -/
def bel (xs : List Int) (v u : Nat) : Bool := decide (u ≤ v) && decide (v < fin xs u)
theorem bel_iff {xs : List Int} {v u : Nat} : bel xs v u = true ↔ u ≤ v ∧ v < fin xs u := by simp [bel]
def meetDown (xs : List Int) (v w : Nat) : Nat → Nat
  | 0 => 0
  | u + 1 => if bel xs v (u + 1) && bel xs w (u + 1) then u + 1 else meetDown xs v w u
theorem meetDown_hit {xs : List Int} {v w u : Nat} (h : (bel xs v u && bel xs w u) = true) : meetDown xs v w u = u := by
  cases u with
  | zero => rfl
  | succ u => rw [meetDown, if_pos h]
theorem meetDown_miss {xs : List Int} {v w u : Nat} (h : (bel xs v (u + 1) && bel xs w (u + 1)) = false) : meetDown xs v w (u + 1) = meetDown xs v w u := by rw [meetDown, if_neg (by simp [h])]
theorem meetDown_le (xs : List Int) (v w : Nat) : ∀ u, meetDown xs v w u ≤ u := by
  intro u
  induction u with
  | zero => exact Nat.le_refl _
  | succ u ih => rw [meetDown]; split <;> omega
theorem meetDown_bel {xs : List Int} (ht : isTree xs = true) {v w : Nat} (hv : v < xs.length) (hw : w < xs.length) : ∀ u, bel xs v (meetDown xs v w u) = true ∧ bel xs w (meetDown xs v w u) = true := by
  intro u
  induction u with
  | zero => simp only [meetDown, bel_iff, fin_root ht]; omega
  | succ u ih =>
    rw [meetDown]
    split
    · rename_i h; simpa using h
    · exact ih
theorem meetDown_max {xs : List Int} {v w : Nat} : ∀ u r, r ≤ u → bel xs v r = true → bel xs w r = true → r ≤ meetDown xs v w u := by
  intro u
  induction u with
  | zero => intro r h _ _; omega
  | succ u ih =>
    intro r h h1 h2
    rcases Nat.lt_or_ge r (u + 1) with h3 | h3
    · have := ih r (by omega) h1 h2
      rw [meetDown]
      split <;> omega
    · obtain rfl : r = u + 1 := by omega
      rw [meetDown_hit (by simp [h1, h2])]
      exact Nat.le_refl _
def meet (xs : List Int) (v w : Nat) : Nat := meetDown xs v w (min v w)
/-- the model's walk: at the stop -/
theorem meet_stop {xs : List Int} {v w a : Nat} (h1 : bel xs v a = true) (h2 : bel xs w a = true) (h3 : meet xs v w ≤ a) : a = meet xs v w := by
  have b1 := bel_iff.1 h1
  have b2 := bel_iff.1 h2
  have := meetDown_max (xs := xs) (v := v) (w := w) (min v w) a (by omega) h1 h2
  simp only [meet] at *
  omega
/-- the model's walk: a step to the parent -/
theorem meet_step {xs : List Int} (ht : isTree xs = true) {v w a p : Nat} (hv : v < xs.length) (hw : w < xs.length) (h1 : bel xs v a = true) (h2 : bel xs w a = false) (h3 : meet xs v w ≤ a) (hp : IsKid xs p a) :
    bel xs v p = true ∧ meet xs v w ≤ p := by
  obtain ⟨m1, m2⟩ := meetDown_bel ht hv hw (min v w)
  have b1 := bel_iff.1 h1
  have hb := kid_bounds ht hp
  have hn := nest ht (v := p) (q := a) (by omega) (by omega) hb.2.1
  refine ⟨bel_iff.2 (by omega), ?_⟩
  have hm : meet xs v w ≠ a := fun e => by
    rw [← e] at h2
    simp only [meet] at h2
    rw [m2] at h2
    cases h2
  have b2 := bel_iff.1 m1
  exact kid_up ht hp (by omega) (by simp only [meet]; omega)
theorem meet_start {xs : List Int} {v w : Nat} (hv : v < xs.length) : bel xs v v = true ∧ meet xs v w ≤ v := by
  have := meetDown_le xs v w (min v w)
  have h2 := fin_gt hv
  exact ⟨bel_iff.2 ⟨Nat.le_refl _, h2⟩, by simp only [meet]; omega⟩
end Go.Proofs.Ytbdmmeoelagdcaa.M

/- Addresses, their mathematics: the place of the child toward a node, again and again. No program is named here. -/
namespace Go.Proofs.Ytbdmmeoelagdcaa.M
/-- the last of the first k places whose child is not behind v -/
def lastP (xs : List Int) (a v : Nat) : Nat → Nat
  | 0 => 0
  | k + 1 => if kidAt xs a k ≤ v then k else lastP xs a v k
theorem lastP_hit {xs : List Int} {a v k : Nat} (h : kidAt xs a k ≤ v) : lastP xs a v (k + 1) = k := by rw [lastP, if_pos h]
theorem lastP_miss {xs : List Int} {a v k : Nat} (h : v < kidAt xs a k) : ∀ j, k ≤ j → lastP xs a v j = lastP xs a v k := by
  intro j
  induction j with
  | zero => intro hj; obtain rfl : k = 0 := by omega
            rfl
  | succ j ih =>
    intro hj
    rcases Nat.lt_or_ge k (j + 1) with h1 | h1
    · have := kid_le (xs := xs) (v := a) (i := k) (j := j) (by omega)
      rw [lastP, if_neg (by omega), ih (by omega)]
    · obtain rfl : k = j + 1 := by omega
      rfl
/-- the number of children -/
def deg (xs : List Int) (a : Nat) : Nat := (xs[a]?.getD 0).toNat
theorem deg_at {xs : List Int} {a d : Nat} (h : xs[a]? = some (d : Int)) : deg xs a = d := by simp [deg, h]
def place (xs : List Int) (a v : Nat) : Nat := lastP xs a v (deg xs a)
theorem place_is {xs : List Int} {a v d j : Nat} (hd : xs[a]? = some (d : Int)) (hj : j < d) (h1 : kidAt xs a j ≤ v) (h2 : v < kidAt xs a (j + 1)) : place xs a v = j := by
  rw [place, deg_at hd]
  rcases Nat.lt_or_ge (j + 1) d with h3 | h3
  · rw [lastP_miss h2 d (by omega), lastP_hit h1]
  · obtain rfl : d = j + 1 := by omega
    exact lastP_hit h1
/-- there is one: a is above v, and is not v -/
theorem place_at {xs : List Int} (ht : isTree xs = true) {a v : Nat} (h1 : a < v) (h2 : v < fin xs a) (hv : v < xs.length) : ∃ d : Nat, xs[a]? = some (d : Int) ∧ d ≤ 24 ∧ place xs a v < d ∧ kidAt xs a (place xs a v) ≤ v ∧ v < kidAt xs a (place xs a v + 1) := by
  obtain ⟨d, hd, h24⟩ := tree_degN ht (v := a) (by omega)
  have he := kid_end ht hd
  obtain ⟨j, hj, hj1, hj2⟩ := kid_tile (xs := xs) h1 d (by simp only [fin] at h2; omega)
  have hp := place_is hd hj hj1 hj2
  exact ⟨d, hd, h24, by omega, by rw [hp]; exact hj1, by rw [hp]; exact hj2⟩
def next (xs : List Int) (a v : Nat) : Nat := kidAt xs a (place xs a v)
theorem next_ok {xs : List Int} (ht : isTree xs = true) {a v : Nat} (h1 : a < v) (h2 : v < fin xs a) (hv : v < xs.length) : a < next xs a v ∧ next xs a v ≤ v ∧ v < fin xs (next xs a v) := by
  obtain ⟨d, hd, _, hp, h3, h4⟩ := place_at ht h1 h2 hv
  exact ⟨(kid_due ht hd _ (by omega)).2.2, h3, by simp only [kidAt] at h4; exact h4⟩
def addrGo (xs : List Int) (v : Nat) : Nat → Nat → List Int
  | 0, _ => []
  | f + 1, a => if a = v then [] else (place xs a v : Int) :: addrGo xs v f (next xs a v)
theorem addrGo_len (xs : List Int) (v : Nat) : ∀ f a, (addrGo xs v f a).length ≤ f := by
  intro f
  induction f with
  | zero => intro a; exact Nat.le_refl _
  | succ f ih =>
    intro a
    rw [addrGo]
    split
    · simp
    · simp only [List.length_cons]; have := ih (next xs a v); omega
def address (xs : List Int) (v : Nat) : List Int := addrGo xs v xs.length 0
/-- the walk down: what has come, and where it stands -/
def AddrAt (xs : List Int) (v a : Nat) (pre R : List Int) : Prop := a ≤ v ∧ v < fin xs a ∧ pre.length ≤ a ∧ ∃ f, v - a ≤ f ∧ pre ++ addrGo xs v f a = R
theorem addr_start {xs : List Int} (ht : isTree xs = true) {v : Nat} (hv : v < xs.length) : AddrAt xs v 0 [] (address xs v) :=
  ⟨Nat.zero_le _, by rw [fin_root ht]; exact hv, Nat.le_refl _, xs.length, by omega, rfl⟩
theorem addr_end {xs : List Int} {v : Nat} {pre R : List Int} (h : AddrAt xs v v pre R) : pre = R := by
  obtain ⟨_, _, _, f, _, h⟩ := h
  cases f with
  | zero => simpa [addrGo] using h
  | succ f => simpa [addrGo] using h
theorem addr_step {xs : List Int} (ht : isTree xs = true) {v a : Nat} {pre R : List Int} (hv : v < xs.length) (h : AddrAt xs v a pre R) (hn : a ≠ v) : AddrAt xs v (next xs a v) (pre ++ [(place xs a v : Int)]) R := by
  obtain ⟨h1, h2, h3, f, hf, h⟩ := h
  obtain ⟨k1, k2, k3⟩ := next_ok ht (a := a) (v := v) (by omega) h2 hv
  cases f with
  | zero => omega
  | succ f =>
    rw [addrGo, if_neg hn] at h
    exact ⟨k2, k3, by simp; omega, f, by omega, by rw [List.append_assoc]; exact h⟩
end Go.Proofs.Ytbdmmeoelagdcaa.M

/- Postorder: the mathematics, and appendPostorder (a call of itself in the body of a range over a function). -/
namespace Go.Proofs.Ytbdmmeoelagdcaa
open Go.RowKit Go.Shelf Go.Maps
attribute [local go_sem] Oper.semAt_some

namespace M
/-- the nodes of v's subtree in postorder, f levels deep at most -/
def postGo (xs : List Int) : Nat → Nat → List Int
  | 0, _ => []
  | f + 1, v => ((List.range (deg xs v)).flatMap fun i => postGo xs f (kidAt xs v i)) ++ [(v : Int)]
/-- those of the first k children -/
def postK (xs : List Int) (f v k : Nat) : List Int := (List.range k).flatMap fun i => postGo xs f (kidAt xs v i)
theorem postK_succ (xs : List Int) (f v k : Nat) : postK xs f v (k + 1) = postK xs f v k ++ postGo xs f (kidAt xs v k) := by simp [postK, List.range_succ]
theorem postGo_at {xs : List Int} {f v d : Nat} (h : xs[v]? = some (d : Int)) : postGo xs (f + 1) v = postK xs f v d ++ [(v : Int)] := by rw [postGo, deg_at h]; rfl
theorem postGo_len {xs : List Int} (ht : isTree xs = true) : ∀ f v, v < xs.length → 24 - v ≤ f → (postGo xs f v).length = span 1 (xs.drop v) := by
  intro f
  induction f with
  | zero => intro v hv h; have := (tree_len ht).2; omega
  | succ f ih =>
    intro v hv hf
    obtain ⟨d, hd, _⟩ := tree_degN ht hv
    have hK : ∀ k, k ≤ d → (postK xs f v k).length + (v + 1) = kidAt xs v k := by
      intro k
      induction k with
      | zero => intro _; simp [postK, kidAt]
      | succ k ihk =>
        intro hk
        have hkl := kid_lt ht hd (i := k) (by omega)
        have hkv := (kid_due ht hd k (by omega)).2.2
        rw [postK_succ, List.length_append, ih _ hkl (by omega)]
        have := ihk (by omega)
        simp only [kidAt]
        omega
    have h1 := hK d (Nat.le_refl _)
    have h2 := kid_end ht hd
    rw [postGo_at hd, List.length_append, List.length_singleton]
    omega
theorem postGo_le {xs : List Int} (ht : isTree xs = true) {f v : Nat} (hv : v < xs.length) (hf : 24 - v ≤ f) : (postGo xs f v).length ≤ 24 := by
  rw [postGo_len ht f v hv hf]
  have := span_le (xs.drop v) 1
  have := (tree_len ht).2
  simp at *
  omega
end M

/-- a child, whatever the place -/
def kidO (xs : List Int) (v d x : Nat) : Nat := M.kidAt xs v (min x (d - 1))
theorem kidO_at (xs : List Int) {v d x : Nat} (h : x < d) : kidO xs v d x = M.kidAt xs v x := by rw [kidO, show min x (d - 1) = x by omega]

theorem grown_trans {X Y Z : World} {r1 r2 : Option Nat} (h : X.grownBy Y r1) (k : Y.grownBy Z r2) (hr : ∀ g, r2 = some g → some g = r1 ∨ X.heap.size ≤ g) : X.grownBy Z r1 :=
  ⟨k.os.trans h.os, k.tape.trans h.tape, k.output.trans h.output, Nat.le_trans h.size k.size, fun j hj hne =>
    (k.block j (Nat.lt_of_lt_of_le hj h.size) (fun e => by
      rcases hr j e.symm with h1 | h1
      · exact hne h1
      · omega)).trans (h.block j hj hne)⟩
theorem row_cells {W : World} {base e size k : Nat} {v : Value} {xs : List Value} (h : W.ownsRow base e size v k xs) (j : Nat) (o : Obj) (hj : v.ownBlock = some j) (ho : W.heap[j]? = some o) : o.isCells = true := by
  rcases h.2 with ⟨rfl, _⟩ | ⟨g, cap, cur, rfl, _, hg, _⟩
  · simp [Value.ownBlock] at hj
  · obtain rfl : g = j := by simpa [Value.ownBlock] using hj
    rw [hg] at ho
    cases ho
    rfl
theorem row_kept {W W' : World} {base e size k B : Nat} {v : Value} {xs : List Value} {row : Option Nat} (h : W.ownsRow base e size v k xs) (hg : W.grownBy W' row) (hr : ∀ r, row = some r → B ≤ r ∧ ∃ o : Obj, W.heap[r]? = some o ∧ o.isCells = false) : W'.ownsRow base e size v k xs := by
  refine h.kept hg ?_
  cases hv : v.ownBlock with
  | none => exact .inl rfl
  | some g =>
    refine .inr fun e' => ?_
    obtain ⟨_, o, ho, hc⟩ := hr g e'.symm
    rw [row_cells h g o hv ho] at hc
    cases hc

end Go.Proofs.Ytbdmmeoelagdcaa

/- textOf: the text of a tree (a call of itself in the body of a range over a function). -/
namespace Go.Proofs.Ytbdmmeoelagdcaa
open Go.RowKit Go.Shelf Go.Maps
attribute [local go_sem] Oper.semAt_some

theorem keepsOthers_below {W W' : World} (h : Below W.heap.size W W') : KeepsOthers W W' := ⟨h.size, fun k _ hk _ => (h.block k (Array.getElem?_eq_some_iff.1 hk).1).trans hk⟩

/-- what textOf must do with trees of at most f nodes -/
def TextAt (f : Nat) : Prop := ∀ (A : Option Addr) (xs : List Int) (c : Nat) (w : World), Hid (M.isTree xs = true) → xs.length ≤ f → xs.length ≤ c → c ≤ 9223372036854775807 → Hid (Ints w w.heap.size A xs) →
  Calls Try.prog 79 #[.slice A xs.length c] w fun e w' => e = .returned (.string (M.textL f xs)) ∧ Hid (Below w.heap.size w w')

set_option maxRecDepth 100000 in
set_option maxHeartbeats 4000000 in
theorem textOf_step (f : Nat) (ih : Hid (TextAt f)) (A : Option Addr) (xs : List Int) (c d : Nat) (w : World) (ht : Hid (M.isTree xs = true)) (hf : xs.length ≤ f + 1) (hcl : xs.length ≤ c) (hcu : c ≤ 9223372036854775807) (hd : Hid (xs[0]? = some (d : Int))) (hI : Hid (Ints w w.heap.size A xs)) :
    CallsIn Fence.wide 5 Try.prog 79 #[.slice A xs.length c] w fun e w' => e = .returned (.string (M.textL (f + 1) xs)) ∧ Hid (Below w.heap.size w w') := by
  have hx := (M.tree_len ht.out).2
  have hd24 : d ≤ 24 := by have := (M.tree_deg ht.out hd.out).2; omega
  obtain ⟨b, off, rfl, _⟩ := hI.out (by have := (M.tree_len ht.out).1; omega)
  refine callsIn_of_wp_marks Try.func79 rfl trivial ?_ rfl
  simp only [Try.ntmps79, List.size_toArray, List.length_cons, List.length_nil, Nat.reduceAdd, Nat.reduceSub, Array.replicate_succ, Array.replicate_zero, List.push_toArray, List.append_toArray, List.nil_append, List.cons_append]
  gi_wp2_with (refine ⟨trivial, ?_⟩; gi_at_call 135; refine (eachIn 4 (some ⟨b, off, none⟩) xs.length c 0 _).mono ?_; rintro e w' ⟨rfl, rfl⟩)
  have bG0 := Boxed.new w 23 (.slice (some ⟨b, off, none⟩) xs.length c)
  have bT0 := Boxed.new (w.alloc (.cells #[.slice (some ⟨b, off, none⟩) xs.length c] 23)) 9 (.string ⟨#[40]⟩)
  have bD0 := Boxed.new ((w.alloc (.cells #[.slice (some ⟨b, off, none⟩) xs.length c] 23)).alloc (.cells #[.string ⟨#[40]⟩] 9)) 23 (.slice (some ⟨b, off, none⟩) xs.length c)
  have bA0 := Boxed.new (((w.alloc (.cells #[.slice (some ⟨b, off, none⟩) xs.length c] 23)).alloc (.cells #[.string ⟨#[40]⟩] 9)).alloc (.cells #[.slice (some ⟨b, off, none⟩) xs.length c] 23)) 2 (.int .i64 0)
  simp only [World.size_alloc] at bT0 bD0 bA0
  have bG := ((bG0.alloc (.cells #[.string ⟨#[40]⟩] 9)).alloc (.cells #[.slice (some ⟨b, off, none⟩) xs.length c] 23)).alloc (.cells #[.int .i64 0] 2)
  have bT := (bT0.alloc (.cells #[.slice (some ⟨b, off, none⟩) xs.length c] 23)).alloc (.cells #[.int .i64 0] 2)
  have bD := bD0.alloc (.cells #[.int .i64 0] 2)
  have hB0 := bal (bal (bal (bal (b0 w) (.cells #[.slice (some ⟨b, off, none⟩) xs.length c] 23)) (.cells #[.string ⟨#[40]⟩] 9)) (.cells #[.slice (some ⟨b, off, none⟩) xs.length c] 23)) (.cells #[.int .i64 0] 2)
  obtain ⟨W0, hW0⟩ : ∃ W0, W0 = ((((w.alloc (.cells #[.slice (some ⟨b, off, none⟩) xs.length c] 23)).alloc (.cells #[.string ⟨#[40]⟩] 9)).alloc (.cells #[.slice (some ⟨b, off, none⟩) xs.length c] 23)).alloc (.cells #[.int .i64 0] 2)) := ⟨_, rfl⟩
  have hsz : W0.heap.size = w.heap.size + 1 + 1 + 1 + 1 := by rw [hW0]; simp
  rw [← hW0] at bG bT bD bA0 hB0 ⊢
  clear hW0 bG0 bT0 bD0
  have hKb := KeepK.b (n₀ := w.heap.size) (Bd := w.heap.size + 1 + 1) (w := W0) (by omega) (by omega)
  have h15 : 1 ≤ 5 := by omega
  refine wpIn_rangeFunc_ownG (α := Nat) rfl h15 (gf := 162) (lb := #[.pointer (some ⟨w.heap.size + 1 + 1 + 1, 0, none⟩), .pointer (some ⟨w.heap.size + 1 + 1, 0, none⟩)]) rfl trivial (enters_of Try.func162 (by kernel_rfl) rfl)
    (each_stopsF (fun i => i) (fun x => #[.int .i64 (x : Int), .int .i64 (kidO xs 0 d x : Int)]) 4 (by omega) (w.heap.size + 1 + 1 + 1) (w.heap.size + 1 + 1) w.heap.size (some ⟨b, off, none⟩) xs c 0 d hx hcl hcu ht hd (fun k hk => by rw [kidO_at xs hk]) W0 bA0.cell bD (hI.out.below hB0 (Nat.le_refl _)) (by omega)) (fun h k => h.t k) hKb (Below.refl _ _) (fun _ => rfl)
    (fun pre W => (∃ s : ByteArray, Boxed W (w.heap.size + 1) 9 (.string s) ∧ (pre = List.range pre.length → pre.length ≤ d → s = M.textK f xs pre.length) ∧ s.size ≤ 1 + 50 * pre.length) ∧
      Boxed W w.heap.size 23 (.slice (some ⟨b, off, none⟩) xs.length c) ∧ Boxed W (w.heap.size + 1 + 1) 23 (.slice (some ⟨b, off, none⟩) xs.length c) ∧ Below w.heap.size w W)
    (fun _ _ _ => False)
    (fun pre X Y r' ⟨⟨s, h1, h2, h3⟩, h6, h7, h8⟩ hg hr =>
      ⟨⟨s, h1.kept hg (fun e => by have := (hr _ e.symm).1; omega), h2, h3⟩, h6.kept hg (fun e => by have := (hr _ e.symm).1; omega), h7.kept hg (fun e => by have := (hr _ e.symm).1; omega), h8.grown hg h8.size (fun k e => by have := (hr _ e).1; omega)⟩)
    (fun _ _ _ _ _ hs _ _ => hs)
    ⟨⟨_, bT, fun _ _ => rfl, by decide⟩, bG, bD, hB0⟩
    (fun x => { tmps := #[.slice (some ⟨b, off, none⟩) xs.length c, .pointer (some ⟨w.heap.size, 0, none⟩), .string ⟨#[]⟩, .pointer (some ⟨w.heap.size + 1, 0, none⟩), undef, .int .i64 (kidO xs 0 d x : Int), .slice (some ⟨b, off, none⟩) xs.length c, .func (.func 162) #[] #[.pointer (some ⟨w.heap.size + 1 + 1 + 1, 0, none⟩), .pointer (some ⟨w.heap.size + 1 + 1, 0, none⟩)], .int .i64 (x : Int), .int .i64 (kidO xs 0 d x : Int), undef, undef, undef, undef, undef, undef, undef, undef], defers := [] }) ?assign ?body ?done ?stop
  case assign =>
    intro l x W K hK
    gi_wp2
    exact hK
  case body =>
    rintro l pre x W ⟨⟨s, h1, h2, h3⟩, h6, h7, h8⟩ hlt
    have hmin : min x (d - 1) < d := by omega
    have hCl : kidO xs 0 d x < xs.length := M.kid_lt ht.out hd.out (i := min x (d - 1)) (by omega)
    have hCs : (M.sub xs (kidO xs 0 d x)).length < xs.length := M.sub_short ht.out hd.out (i := min x (d - 1)) hmin
    have hWsz := h8.size
    have hkey : Hid (pre ++ [x] = List.range (pre ++ [x]).length → (pre ++ [x]).length ≤ d → s ++ M.textL f (M.sub xs (kidO xs 0 d x)) = M.textK f xs (pre ++ [x]).length) := fun e hd' => by
      simp only [List.length_append, List.length_cons, List.length_nil, Nat.zero_add] at e hd' ⊢
      rw [List.range_succ] at e
      obtain ⟨e1, e2⟩ := List.append_inj' e rfl
      injection e2 with e2
      rw [h2 e1 (by omega), M.textK_succ, ← kidO_at xs (by omega), ← e2]
    generalize kidO xs 0 d x = C at *
    have hW : Hid (Ints W W.heap.size (some ⟨b, off, none⟩) xs) := (hI.out.below h8 (Nat.le_refl _)).more hWsz
    obtain ⟨S, hS⟩ : ∃ S, Hid ((M.sub xs C).length = S) := ⟨_, rfl⟩
    obtain ⟨T, hT⟩ : ∃ T, Hid (M.textL f (M.sub xs C) = T) := ⟨_, rfl⟩
    rw [hT.out] at hkey
    have HP : Hid (∀ W', Hid (Below W.heap.size W W') → Calls Try.prog 80 #[.slice (some ⟨b, off, none⟩) xs.length c, .int .i64 (C : Int)] W' fun e w' => e = .returned (.slice (some ⟨b, off + C, none⟩) S S) ∧ W' = w') := fun W' hW' =>
      (partAt _ xs c C (C + S) W' (by show _ = _; rw [← hS.out, M.sub_length]) hx hcl hcu (Lib.hid (M.tree_ok ht.out hCl)) (hW.out.be hW'.out)).mono fun e w' ⟨⟨b', off', hA, he⟩, hw⟩ => ⟨by
        injection hA with hA
        injection hA with e1 e2
        rw [he, Nat.add_sub_cancel_left, e1, e2], hw⟩
    have HX : Hid (∀ W', Hid (Below W.heap.size W W') → Calls Try.prog 79 #[.slice (some ⟨b, off + C, none⟩) S S] W' fun e w' => e = .returned (.string T) ∧ Hid (Below W.heap.size W w')) := fun W' hW' => by
      have := ih.out (some ⟨b, off + C, none⟩) (M.sub xs C) S W' (Lib.hid (M.sub_tree ht.out hCl)) (by omega) (by have := hS.out; omega) (by have := hS.out; omega) (ints_sub (hW.out.be hW'.out) C _)
      rw [hS.out, hT.out] at this
      exact this.mono fun e w' ⟨he, hb⟩ => ⟨he, hW'.out.trans (hb.out.mono hW'.out.size)⟩
    have HB : Hid (∀ W', Hid (Below W.heap.size W W') → Boxed W' (w.heap.size + 1) 9 (.string s) ∧ Boxed W' w.heap.size 23 (.slice (some ⟨b, off, none⟩) xs.length c)) := fun W' hW' => ⟨(hW'.out.block _ h1.lt).trans h1, (hW'.out.block _ h6.lt).trans h6⟩
    have c1' := h1.cell
    have c2' := h6.cell
    have hTs : T.size ≤ 50 := by have := M.textL_size f _ (M.sub_tree ht.out hCl) (by omega); rw [hT.out] at this; omega
    have hsT : ¬ 9223372036854775807 < s.size + T.size := by omega
    have hmix : Try.prog.follows .mixedOrders = true := by kernel_rfl
    clear hT hS h2
    gi_wp2
    gi_region_with_o (first | (refine ⟨trivial, ?_⟩; gi_at_call 80; refine (CallsIn.inRound l (callsIn_wide.2 (HP.out _ ((Below.refl _ _).drew)))).mono ?_; rintro e W1 ⟨rfl, rfl⟩) | (refine ⟨trivial, ?_⟩; gi_at_call 79; refine (CallsIn.inRound l (callsIn_wide.2 (HX.out _ ((Below.refl _ _).drew)))).mono ?_; rintro e W2 ⟨rfl, hb2⟩; have k1 := (HB.out _ hb2).1.cell; have f1 := (HB.out _ hb2).1.frozen))
    all_goals
      have h7b : Boxed W2 (w.heap.size + 1 + 1) 23 (.slice (some ⟨b, off, none⟩) xs.length c) := (hb2.out.block _ h7.lt).trans h7
      have k7 : Boxed (W2.setCell ⟨w.heap.size + 1, 0, none⟩ (.string (s ++ T))) (w.heap.size + 1 + 1) 23 (.slice (some ⟨b, off, none⟩) xs.length c) := h7b.other (by omega) _
      have kB : Below w.heap.size W (W2.setCell ⟨w.heap.size + 1, 0, none⟩ (.string (s ++ T))) := below_setCell (hb2.out.mono hWsz) (by omega) _
      refine ⟨((keepsOthers_below hb2.out).trans (KeepsOthers.setCell _ _ _)).from _, ⟨kB, k7.trans (show W.heap[_]? = _ from h7).symm⟩, ⟨_, (HB.out _ hb2).1.set _, hkey.out, ?_⟩, (HB.out _ hb2).2.other (by omega) _, k7, h8.trans kB⟩
      simp only [ByteArray.size_append, List.length_append, List.length_cons, List.length_nil]
      omega
  case done =>
    rintro D ys0 W hD rfl ⟨⟨s, h1, h2, h3⟩, h6, h7, h8⟩ hK
    have hs := h2 (by simp) (by simp)
    simp only [List.length_range, List.map_id'] at hs
    have hpo : Hid (M.textL (f + 1) xs = s ++ ⟨#[41]⟩) := by show _ = _; rw [M.textL_at hd.out, hs]
    have c1' := h1.cell
    have HK := Lib.hid hK
    have H8 := Lib.hid h8
    have hs1 : ¬ 9223372036854775807 < s.size + 1 := by simp at h3; omega
    clear hs h1 h2 h3 h6 h7 hK h8
    gi_wp2
    refine ⟨by simp, .inl ⟨_, _, rfl, run_takeDeferred HK.out, ?_⟩⟩
    refine ⟨_, results_tmp rfl _ _ _, ?_, H8.out.trans (belowK_b (w := w) (Nat.le_refl _) W D _ _ (by omega) HK.out rfl rfl)⟩
    rw [hpo.out]
    rfl
  case stop =>
    rintro D cc pre W _ _ h _
    exact h.elim

theorem textOf (A : Option Addr) (xs : List Int) (c : Nat) (w : World) (f : Nat) (ht : Hid (M.isTree xs = true)) (hf : xs.length ≤ f) (hcl : xs.length ≤ c) (hcu : c ≤ 9223372036854775807) (hI : Hid (Ints w w.heap.size A xs)) :
    Calls Try.prog 79 #[.slice A xs.length c] w fun e w' => e = .returned (.string (M.textL f xs)) ∧ Hid (Below w.heap.size w w') := by
  have h : ∀ f, TextAt f := by
    intro f
    induction f with
    | zero => intro A xs c w ht hf; have := (M.tree_len ht.out).1; omega
    | succ f ih =>
      intro A xs c w ht hf hcl hcu hI
      obtain ⟨d, hd, _⟩ := M.tree_degN ht.out (v := 0) (by have := (M.tree_len ht.out).1; omega)
      exact (callsIn_wide (n := 5)).1 (textOf_step f (Lib.hid ih) A xs c d w ht hf hcl hcu hd hI)
  exact h f A xs c w ht hf hcl hcu hI
end Go.Proofs.Ytbdmmeoelagdcaa
