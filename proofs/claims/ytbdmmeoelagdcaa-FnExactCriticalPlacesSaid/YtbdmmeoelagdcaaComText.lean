/- commonText: the common pattern of two patterns, the walk. -/
import Derived.Test.YtbdmmeoelagdcaaComIn
namespace Go.Proofs.Ytbdmmeoelagdcaa
open Go.RowKit

theorem byte_head {s : ByteArray} (h : 0 < s.size) : s.data.toList = s[0] :: s.data.toList.drop 1 := by
  have := byte_here s h
  rwa [List.drop_zero] at this
theorem cut_head (s : ByteArray) (h : 0 < s.size) (W : World) : (Instr.slice 9 (.string s) none (some (.int .i64 1)) none).run Try.prog W = .ok (.string (M.bs [s[0]])) W := by
  have := run_slice_string_h (P := Try.prog) W 9 s Try.underlying9 .i64 1 (by omega) (by omega)
  rw [this, show ((1 : Int)).toNat = 0 + 1 by rfl, cut_one s h]
theorem cut_rest (u : ByteArray) (S : List UInt8) (m : Nat) (W : World) (h1 : S.length = m) (h2 : m ≤ u.size) : (Instr.slice 9 (.string u) (some (.int .i64 ((M.bs S).size : Int))) none none).run Try.prog W = .ok (.string (M.bs (u.data.toList.drop m))) W := by
  have := run_slice_string_l (P := Try.prog) W 9 u Try.underlying9 .i64 ((M.bs S).size : Int) (by omega) (by rw [M.bs_size]; omega)
  rw [this, M.bs_size, h1, show ((m : Int)).toNat = m by omega, cut_from]
theorem bs_cat (z : ByteArray) (Y : List UInt8) : z ++ M.bs Y = M.bs (z.data.toList ++ Y) := by
  rw [← M.bs_append, M.bs_self]

set_option maxRecDepth 100000 in
set_option maxHeartbeats 8000000 in
theorem commonText (p q : ByteArray) (w : World) (hp : p.size ≤ 60) (hq : q.size ≤ 60) (hpp : M.piece p.data.toList = some []) (hqq : M.piece q.data.toList = some []) :
    Calls Try.prog 91 #[.string p, .string q] w fun e w' => e = .returned (.string (M.bs (((M.com1 p.data.toList q.data.toList).map fun x => x.1).getD []))) ∧ Hid (Below w.heap.size w w') := by
  obtain ⟨Rt, hRt⟩ : ∃ Rt, (M.com1 p.data.toList q.data.toList).map (fun x => x.1) = Rt := ⟨_, rfl⟩
  have hst : Hid (Ahead Rt p.data.toList q.data.toList (M.bs []).data.toList) := .inl ⟨hpp, hqq, by rw [← hRt]; rfl⟩
  obtain ⟨Q, hQ⟩ : ∃ Q : Ending → World → Prop, (fun e w' => e = .returned (.string (M.bs (Rt.getD []))) ∧ Hid (Below w.heap.size w w')) = Q := ⟨_, rfl⟩
  have hNone : Hid (Rt = none → ∀ w', Hid (Below w.heap.size w w') → Q (.returned (.string ⟨#[]⟩)) w') := fun h w' hb => by rw [← hQ, h]; exact ⟨rfl, hb⟩
  have hSome : Hid (∀ z : ByteArray, Rt = some z.data.toList → ∀ w', Hid (Below w.heap.size w w') → Q (.returned (.string z)) w') := fun z h w' hb => by rw [← hQ, h]; exact ⟨rfl, hb⟩
  have hIs : Hid (∀ c W, Calls Try.prog 98 #[.int .u8 ((c : UInt8).toNat : Int)] W fun e w' => e = .returned (.bool (M.isL c)) ∧ w' = W) := isLetter
  have hPc : Hid (∀ (u : ByteArray) W, u.size ≤ 60 → Calls Try.prog 107 #[.string u] W fun e w' => e = .returned (.string (M.bs (M.pieceT u.data.toList))) ∧ w' = W) := fun u W h => pieceOf u W (by omega)
  have hb0 := Lib.hid (b0 w)
  rw [hRt, hQ]
  clear hRt hQ hpp hqq
  go_enter Try.func91, Try.ntmps91
  go_wp2
  go_loopw [0, 1, 5] (fun qa qb qz wr => ∃ (a b z : ByteArray), qa = .string a ∧ qb = .string b ∧ qz = .string z ∧ a.size ≤ 60 ∧ b.size ≤ 60 ∧ a.size + b.size + z.size ≤ 120 ∧ Hid (Below w.heap.size w wr) ∧ Hid (Ahead Rt a.data.toList b.data.toList z.data.toList)) (fun qa _ _ _ => match qa with | .string a => a.size | _ => 0)
  case atStart => exact ⟨p, q, ⟨#[]⟩, rfl, rfl, rfl, hp, hq, by show p.size + q.size + 0 ≤ 120; omega, hb0, hst⟩
  case round =>
    obtain ⟨a, b, z, rfl, rfl, rfl, ha, hb, hz, hB, hA⟩ := hrel
    clear hst hb0
    by_cases h0 : a.size = 0
    · have hl0 : a.data.toList = [] := List.eq_nil_of_length_eq_zero (by rw [← Lib.size_eq, h0])
      have e0 : (a.toList == []) = true := by rw [Lib.toList_data, hl0]; rfl
      have hF := Lib.hid (hSome.out z (ahead_end (by rw [← hl0]; exact hA.out)) wr hB)
      clear hNone hSome hA hIs hPc hl0
      go_wp2
      exact hF.out
    · have ha0 : 0 < a.size := by omega
      have hla := byte_head ha0
      have e0 : (a.toList == []) = false := by rw [Lib.toList_data, hla]; rfl
      obtain ⟨d', Q', hlb⟩ := ahead_both (by rw [← hla]; exact hA.out)
      have hb0 : 0 < b.size := by rw [Lib.size_eq, hlb]; simp
      have hlb2 := byte_head hb0
      have hA' : Hid (Ahead Rt (a[0] :: a.data.toList.drop 1) (b[0] :: b.data.toList.drop 1) z.data.toList) := by rw [← hla, ← hlb2]; exact hA.out
      clear hlb hA
      have ca := cut_head a ha0
      have cb := cut_head b hb0
      cases hc : M.isL a[0]
      · cases hd : M.isL b[0]
        · have hI1 := fun W => Lib.hid (hIs.out a[0] W)
          rw [hc] at hI1
          have hI2 := fun W => Lib.hid (hIs.out b[0] W)
          rw [hd] at hI2
          have n1 : ((M.bs [a[0]]).toList == []) = false := by rw [bs_eq_nil]; rfl
          have n2 : ((M.bs [b[0]]).toList == []) = false := by rw [bs_eq_nil]; rfl
          rcases ahead_same hA'.out hc hd with ⟨he, hA2⟩ | ⟨he, hR0⟩
          · have n3 : ((M.bs [a[0]]).toList == (M.bs [b[0]]).toList) = true := by rw [he]; simp
            have r1 := fun W => cut_rest a [a[0]] 1 W rfl ha0
            have r2 := fun W => cut_rest b [b[0]] 1 W rfl hb0
            have s1 : Hid ((M.bs (a.data.toList.drop 1)).size = a.size - 1) := by show _ = _; rw [M.bs_size, List.length_drop, ← Lib.size_eq]
            have s2 : Hid ((M.bs (b.data.toList.drop 1)).size = b.size - 1) := by show _ = _; rw [M.bs_size, List.length_drop, ← Lib.size_eq]
            have sc : Hid ((z ++ M.bs [a[0]]).size = z.size + 1) := by show _ = _; rw [ByteArray.size_append]; rfl
            have hnb : ¬ 9223372036854775807 < z.size + (M.bs [a[0]]).size := by show ¬ 9223372036854775807 < z.size + 1; omega
            have hA3 : Hid (Ahead Rt (M.bs (a.data.toList.drop 1)).data.toList (M.bs (b.data.toList.drop 1)).data.toList (z ++ M.bs [a[0]]).data.toList) := by
              show Ahead _ _ _ _
              rw [M.bs_data, M.bs_data, ByteArray.data_append, Array.toList_append, M.bs_data]
              exact hA2
            clear hNone hSome hIs hPc hla hlb2 hA' hc hd hA2 he
            generalize M.bs (a.data.toList.drop 1) = a' at *
            generalize M.bs (b.data.toList.drop 1) = b' at *
            generalize M.bs [a[0]] = Z1 at *
            generalize M.bs [b[0]] = Z2 at *
            go_wp2
            go_quiet (fail)
            go_wp2_with (first | (go_at_call 98; refine (hI1 _).out.mono ?_; rintro e w' ⟨rfl, hw⟩; subst hw) | (go_at_call 98; refine (hI2 _).out.mono ?_; rintro e w' ⟨rfl, hw⟩; subst hw))
            go_quiet (fail)
            go_wp2
            have k1 : a'.size ≤ 60 ∧ b'.size ≤ 60 ∧ a'.size + b'.size + (z ++ Z1).size ≤ 120 ∧ a'.size < a.size := by have h1 := s1.out; have h2 := s2.out; have h3 := sc.out; omega
            go_roundw
            case rel => exact ⟨a', b', z ++ Z1, rfl, rfl, rfl, k1.1, k1.2.1, k1.2.2.1, below_drewN (below_drewN hB.out _) _, hA3⟩
            case measure => exact k1.2.2.2
          · have n3 : ((M.bs [a[0]]).toList == (M.bs [b[0]]).toList) = false := by
              rw [Lib.toList_data, Lib.toList_data, M.bs_data, M.bs_data]
              exact beq_eq_false_iff_ne.2 fun h => he (by injection h)
            have hF := Lib.hid (hNone.out hR0)
            clear hNone hSome hIs hPc hla hlb2 hA' hc hd hR0 he
            generalize M.bs [a[0]] = Z1 at *
            generalize M.bs [b[0]] = Z2 at *
            go_wp2
            go_quiet (fail)
            go_wp2_with (first | (go_at_call 98; refine (hI1 _).out.mono ?_; rintro e w' ⟨rfl, hw⟩; subst hw) | (go_at_call 98; refine (hI2 _).out.mono ?_; rintro e w' ⟨rfl, hw⟩; subst hw))
            exact hF.out _ (below_drewN hB.out _)
        · have hI1 := fun W => Lib.hid (hIs.out a[0] W)
          rw [hc] at hI1
          have hI2 := fun W => Lib.hid (hIs.out b[0] W)
          rw [hd] at hI2
          have hP1 := fun W => Lib.hid (hPc.out a W ha)
          have hP2 := fun W => Lib.hid (hPc.out b W hb)
          have hpb : M.pieceT b.data.toList = [b[0]] := by rw [hlb2, M.pieceT_some (M.piece_let hd _)]; simp
          rw [hpb] at hP2
          have n2 : ((M.bs [b[0]]).toList == []) = false := by rw [bs_eq_nil]; rfl
          rcases ahead_let2 hA'.out hc hd with ⟨hn, hR0⟩ | ⟨r, hr, hA2⟩
          · rw [← hla] at hn
            rw [M.pieceT_none hn] at hP1
            have n1 : ((M.bs ([] : List UInt8)).toList == []) = true := by rw [bs_eq_nil]; rfl
            have hF := Lib.hid (hNone.out hR0)
            clear hNone hSome hIs hPc hla hlb2 hA' hc hd hpb hn hR0
            generalize M.bs [a[0]] = Z0 at *
            generalize M.bs [b[0]] = Z2 at *
            generalize M.bs [] = Z1 at *
            go_wp2
            go_quiet (fail)
            go_wp2_with (first | (go_at_call 98; refine (hI1 _).out.mono ?_; rintro e w' ⟨rfl, hw⟩; subst hw) | (go_at_call 98; refine (hI2 _).out.mono ?_; rintro e w' ⟨rfl, hw⟩; subst hw) | (go_at_call_of 107 (Value.string a); refine (hP1 _).out.mono ?_; rintro e w' ⟨rfl, hw⟩; subst hw) | (go_at_call 107; refine (hP2 _).out.mono ?_; rintro e w' ⟨rfl, hw⟩; subst hw))
            exact hF.out _ (below_drewN hB.out _)
          · rw [← hla] at hr hA2
            have hrl := M.piece_drop hr
            have haL : a.data.toList.length = a.size := (Lib.size_eq a).symm
            obtain ⟨m, hm⟩ : ∃ m, a.data.toList.length - r.length = m := ⟨_, rfl⟩
            have hma : m ≤ a.size := by omega
            have hm1 : 0 < m := by omega
            rw [M.pieceT_some hr, hm] at hP1
            rw [hm] at hA2
            have hlen : (a.data.toList.take m).length = m := by rw [List.length_take]; omega
            have n1 : ((M.bs (a.data.toList.take m)).toList == []) = false := by
              rw [bs_eq_nil]
              cases h : a.data.toList.take m with
              | nil => rw [h] at hlen; simp at hlen; omega
              | cons x y => rfl
            have r1 := fun W => cut_rest a (a.data.toList.take m) m W hlen hma
            have r2 := fun W => cut_rest b [b[0]] 1 W rfl hb0
            have s1 : Hid ((M.bs (a.data.toList.drop m)).size = a.size - m) := by show _ = _; rw [M.bs_size, List.length_drop, haL]
            have s2 : Hid ((M.bs (b.data.toList.drop 1)).size = b.size - 1) := by show _ = _; rw [M.bs_size, List.length_drop, ← Lib.size_eq]
            have s3 : Hid ((M.bs (a.data.toList.take m)).size = m) := by show _ = _; rw [M.bs_size, hlen]
            have sc : Hid ((z ++ M.bs (a.data.toList.take m)).size = z.size + m) := by show _ = _; rw [ByteArray.size_append, s3.out]
            have hnb : ¬ 9223372036854775807 < z.size + (M.bs (a.data.toList.take m)).size := by have := s3.out; omega
            have hA3 : Hid (Ahead Rt (M.bs (a.data.toList.drop m)).data.toList (M.bs (b.data.toList.drop 1)).data.toList (z ++ M.bs (a.data.toList.take m)).data.toList) := by
              show Ahead _ _ _ _
              have hdr : a.data.toList.drop m = r := by rw [← hm]; exact hrl.2
              rw [M.bs_data, M.bs_data, hdr, ByteArray.data_append, Array.toList_append, M.bs_data]
              exact hA2
            clear hNone hSome hIs hPc hla hlb2 hA' hc hd hpb hA2 hr hrl hm hlen haL
            generalize M.bs (a.data.toList.drop m) = a' at *
            generalize M.bs (b.data.toList.drop 1) = b' at *
            generalize M.bs (a.data.toList.take m) = Z1 at *
            generalize M.bs [a[0]] = Z0 at *
            generalize M.bs [b[0]] = Z2 at *
            go_wp2
            go_quiet (fail)
            go_wp2_with (first | (go_at_call 98; refine (hI1 _).out.mono ?_; rintro e w' ⟨rfl, hw⟩; subst hw) | (go_at_call 98; refine (hI2 _).out.mono ?_; rintro e w' ⟨rfl, hw⟩; subst hw) | (go_at_call_of 107 (Value.string a); refine (hP1 _).out.mono ?_; rintro e w' ⟨rfl, hw⟩; subst hw) | (go_at_call 107; refine (hP2 _).out.mono ?_; rintro e w' ⟨rfl, hw⟩; subst hw))
            go_quiet (fail)
            go_wp2
            have k1 : a'.size ≤ 60 ∧ b'.size ≤ 60 ∧ a'.size + b'.size + (z ++ Z1).size ≤ 120 ∧ a'.size < a.size := by have h1 := s1.out; have h2 := s2.out; have h3 := sc.out; omega
            go_roundw
            case rel => exact ⟨a', b', z ++ Z1, rfl, rfl, rfl, k1.1, k1.2.1, k1.2.2.1, below_drewN (below_drewN hB.out _) _, hA3⟩
            case measure => exact k1.2.2.2
      · have hI1 := fun W => Lib.hid (hIs.out a[0] W)
        rw [hc] at hI1
        have hP1 := fun W => Lib.hid (hPc.out a W ha)
        have hpa : M.pieceT a.data.toList = [a[0]] := by rw [hla, M.pieceT_some (M.piece_let hc _)]; simp
        rw [hpa] at hP1
        have hP2 := fun W => Lib.hid (hPc.out b W hb)
        have n1 : ((M.bs [a[0]]).toList == []) = false := by rw [bs_eq_nil]; rfl
        rcases ahead_let hA'.out hc with ⟨hn, hR0⟩ | ⟨r, hr, hA2⟩
        · rw [← hlb2] at hn
          rw [M.pieceT_none hn] at hP2
          have n2 : ((M.bs ([] : List UInt8)).toList == []) = true := by rw [bs_eq_nil]; rfl
          have hF := Lib.hid (hNone.out hR0)
          clear hNone hSome hIs hPc hla hlb2 hA' hc hpa hn hR0
          generalize M.bs [a[0]] = Z1 at *
          generalize M.bs [b[0]] = Z0 at *
          generalize M.bs [] = Z2 at *
          go_wp2
          go_quiet (fail)
          go_wp2_with (first | (go_at_call 98; refine (hI1 _).out.mono ?_; rintro e w' ⟨rfl, hw⟩; subst hw) | (go_at_call_of 107 (Value.string a); refine (hP1 _).out.mono ?_; rintro e w' ⟨rfl, hw⟩; subst hw) | (go_at_call 107; refine (hP2 _).out.mono ?_; rintro e w' ⟨rfl, hw⟩; subst hw))
          exact hF.out _ (below_drewN hB.out _)
        · rw [← hlb2] at hr hA2
          have hrl := M.piece_drop hr
          have hbL : b.data.toList.length = b.size := (Lib.size_eq b).symm
          obtain ⟨m, hm⟩ : ∃ m, b.data.toList.length - r.length = m := ⟨_, rfl⟩
          have hmb : m ≤ b.size := by omega
          have hm1 : 0 < m := by omega
          rw [M.pieceT_some hr, hm] at hP2
          rw [hm] at hA2
          have hlen : (b.data.toList.take m).length = m := by rw [List.length_take]; omega
          have n2 : ((M.bs (b.data.toList.take m)).toList == []) = false := by
            rw [bs_eq_nil]
            cases h : b.data.toList.take m with
            | nil => rw [h] at hlen; simp at hlen; omega
            | cons x y => rfl
          have r1 := fun W => cut_rest a [a[0]] 1 W rfl ha0
          have r2 := fun W => cut_rest b (b.data.toList.take m) m W hlen hmb
          have s1 : Hid ((M.bs (a.data.toList.drop 1)).size = a.size - 1) := by show _ = _; rw [M.bs_size, List.length_drop, ← Lib.size_eq]
          have s2 : Hid ((M.bs (b.data.toList.drop m)).size = b.size - m) := by show _ = _; rw [M.bs_size, List.length_drop, hbL]
          have s3 : Hid ((M.bs (b.data.toList.take m)).size = m) := by show _ = _; rw [M.bs_size, hlen]
          have hA3 : Hid (Ahead Rt (M.bs (a.data.toList.drop 1)).data.toList (M.bs (b.data.toList.drop m)).data.toList (z ++ M.bs (b.data.toList.take m)).data.toList) := by
            show Ahead _ _ _ _
            have hdr : b.data.toList.drop m = r := by rw [← hm]; exact hrl.2
            rw [M.bs_data, M.bs_data, hdr, ByteArray.data_append, Array.toList_append, M.bs_data]
            exact hA2
          have sc : Hid ((z ++ M.bs (b.data.toList.take m)).size = z.size + m) := by show _ = _; rw [ByteArray.size_append, s3.out]
          have hnb : ¬ 9223372036854775807 < z.size + (M.bs (b.data.toList.take m)).size := by have := s3.out; omega
          clear hNone hSome hIs hPc hla hlb2 hA' hc hpa hA2 hr hrl hm hlen hbL
          generalize M.bs (a.data.toList.drop 1) = a' at *
          generalize M.bs (b.data.toList.drop m) = b' at *
          generalize M.bs (b.data.toList.take m) = Z2 at *
          generalize M.bs [a[0]] = Z1 at *
          generalize M.bs [b[0]] = Z0 at *
          go_wp2
          go_quiet (fail)
          go_wp2_with (first | (go_at_call 98; refine (hI1 _).out.mono ?_; rintro e w' ⟨rfl, hw⟩; subst hw) | (go_at_call_of 107 (Value.string a); refine (hP1 _).out.mono ?_; rintro e w' ⟨rfl, hw⟩; subst hw) | (go_at_call 107; refine (hP2 _).out.mono ?_; rintro e w' ⟨rfl, hw⟩; subst hw))
          go_quiet (fail)
          go_wp2
          have k1 : a'.size ≤ 60 ∧ b'.size ≤ 60 ∧ a'.size + b'.size + (z ++ Z2).size ≤ 120 ∧ a'.size < a.size := by have h1 := s1.out; have h2 := s2.out; have h3 := sc.out; omega
          go_roundw
          case rel => exact ⟨a', b', z ++ Z2, rfl, rfl, rfl, k1.1, k1.2.1, k1.2.2.1, below_drewN (below_drewN hB.out _) _, hA3⟩
          case measure => exact k1.2.2.2
end Go.Proofs.Ytbdmmeoelagdcaa
