/- The model's reader of what stands at the letters of a pattern: l04Behind, l04Match. -/
import Derived.Test.YtbdmmeoelagdcaaMt
namespace Go.Proofs.Ytbdmmeoelagdcaa
open Go.RowKit

set_option maxRecDepth 100000 in
set_option maxHeartbeats 4000000 in
theorem l04Behind (s : ByteArray) (j m : Nat) (r : List UInt8) (w : World) (hs : s.size ≤ 1048576) (hj : j ≤ s.size) (hr : Hid (M.piece (s.data.toList.drop j) = some r)) (hm : Hid (s.size - r.length = m)) :
    Calls Try.prog 105 #[.string s, .int .i64 (j : Int)] w fun e w' => e = .returned (.int .i64 (m : Int)) ∧ w' = w := by
  have hL : Hid (s.data.toList.length = s.size) := (Lib.size_eq s).symm
  have hby : Hid (∀ k (h : k < s.size), s.data.toList.drop k = s[k] :: s.data.toList.drop (k + 1)) := fun _ h => byte_here s h
  have hfin : Hid (∀ k, k ≤ s.size → s.data.toList.drop k = r → k = m) := fun k hk h => by
    have := congrArg List.length h
    rw [List.length_drop, hL.out] at this
    rw [← hm.out, ← this]
    omega
  generalize s.data.toList = L at *
  go_enter Try.func105, Try.ntmps105
  go_wp2
  go_loopw [1, 5] (fun qa qo wr => ∃ (k o : Nat), k ≤ s.size ∧ o ≤ k ∧ qa = .int .i64 (k : Int) ∧ qo = .int .i64 (o : Int) ∧ wr = w ∧ Hid ((o = 0 ∧ M.piece (L.drop k) = some r) ∨ (0 < o ∧ M.close (L.drop k) o = some r))) (fun qa _ _ => s.size - (intOf qa).toNat)
  case atStart => exact ⟨j, 0, hj, by omega, rfl, rfl, rfl, .inl ⟨rfl, hr.out⟩⟩
  case round =>
    obtain ⟨k, o, hk, ho, rfl, rfl, rfl, hst⟩ := hrel
    have hlt : k < s.size := by
      apply Nat.lt_of_not_le
      intro h
      have h0 : L.drop k = [] := List.drop_of_length_le (by have := hL.out; omega)
      rcases hst.out with ⟨_, h2⟩ | ⟨h1, h2⟩
      · rw [h0] at h2; cases h2
      · obtain ⟨q, rfl⟩ : ∃ q, o = q + 1 := ⟨o - 1, by omega⟩
        rw [h0] at h2; cases h2
    have hd := Lib.hid (hby.out k hlt)
    by_cases h40 : s[k] = 40
    · have e40 : ((s[k].toNat : Int) == 40) = true := by rw [h40]; rfl
      have e41 : ((s[k].toNat : Int) == 41) = false := by rw [h40]; rfl
      have hN : Hid ((o + 1 = 0 ∧ M.piece (L.drop (k + 1)) = some r) ∨ (0 < o + 1 ∧ M.close (L.drop (k + 1)) (o + 1) = some r)) := by
        refine .inr ⟨by omega, ?_⟩
        rcases hst.out with ⟨rfl, h2⟩ | ⟨h1, h2⟩
        · rwa [hd.out, h40, M.piece_open] at h2
        · obtain ⟨q, rfl⟩ : ∃ q, o = q + 1 := ⟨o - 1, by omega⟩
          rwa [hd.out, h40, M.close_open] at h2
      have hne : ((o : Int) + 1 == 0) = false := beq_eq_false_iff_ne.2 (by omega)
      clear hst hd hby hfin h40
      go_wp2
      go_roundw
      case rel => exact ⟨k + 1, o + 1, by omega, by omega, by go_num, by go_num, trivial, hN⟩
      case measure => simp [intOf]; omega
    · have e40 : ((s[k].toNat : Int) == 40) = false := beq_eq_false_iff_ne.2 (by simpa using ne_byte h40)
      by_cases h41 : s[k] = 41
      · have e41 : ((s[k].toNat : Int) == 41) = true := by rw [h41]; rfl
        have ho0 : 0 < o := by
          rcases hst.out with ⟨_, h2⟩ | ⟨h1, _⟩
          · rw [hd.out, h41, M.piece_shut] at h2; cases h2
          · exact h1
        obtain ⟨q, rfl⟩ : ∃ q, o = q + 1 := ⟨o - 1, by omega⟩
        have hc1 : M.close (L.drop (k + 1)) q = some r := by
          rcases hst.out with ⟨h1, _⟩ | ⟨_, h2⟩
          · omega
          · rwa [hd.out, h41, M.close_shut] at h2
        by_cases hq : q = 0
        · subst hq
          rw [M.close_zero] at hc1
          injection hc1 with hc1
          have hmk := Lib.hid (hfin.out (k + 1) (by omega) hc1)
          clear hst hd hby hfin h40 h41 hc1
          go_wp2
          go_ret
          exact ⟨by rw [← hmk.out]; rfl, rfl⟩
        · have hN : Hid ((q = 0 ∧ M.piece (L.drop (k + 1)) = some r) ∨ (0 < q ∧ M.close (L.drop (k + 1)) q = some r)) := .inr ⟨by omega, hc1⟩
          have hw1 : IntKind.i64.wrap (((q + 1 : Nat) : Int) - 1) = (q : Int) := by rw [IntWalk.i64_in _ (by omega)]; omega
          have hne : ((q : Int) == 0) = false := beq_eq_false_iff_ne.2 (by omega)
          clear hst hd hby hfin h40 h41 hc1
          go_wp2
          go_roundw
          case rel => exact ⟨k + 1, q, by omega, by omega, by go_num, by first | rfl | go_num, trivial, hN⟩
          case measure => simp [intOf]; omega
      · have e41 : ((s[k].toNat : Int) == 41) = false := beq_eq_false_iff_ne.2 (by simpa using ne_byte h41)
        by_cases ho0 : o = 0
        · subst ho0
          have hc1 : L.drop (k + 1) = r := by
            rcases hst.out with ⟨_, h2⟩ | ⟨h1, _⟩
            · rw [hd.out] at h2
              cases hc : M.isL s[k]
              · rw [M.piece_bad hc h40] at h2; cases h2
              · rw [M.piece_let hc] at h2; injection h2
            · omega
          have hmk := Lib.hid (hfin.out (k + 1) (by omega) hc1)
          clear hst hd hby hfin h40 h41 hc1
          go_wp2
          go_ret
          exact ⟨by rw [← hmk.out]; rfl, rfl⟩
        · obtain ⟨q, rfl⟩ : ∃ q, o = q + 1 := ⟨o - 1, by omega⟩
          have hN : Hid ((q + 1 = 0 ∧ M.piece (L.drop (k + 1)) = some r) ∨ (0 < q + 1 ∧ M.close (L.drop (k + 1)) (q + 1) = some r)) := by
            refine .inr ⟨by omega, ?_⟩
            rcases hst.out with ⟨h1, _⟩ | ⟨_, h2⟩
            · omega
            · rw [hd.out] at h2
              cases hc : M.isL s[k]
              · rw [M.close_bad hc h40 h41] at h2; cases h2
              · rwa [M.close_let hc] at h2
          have hne : (((q + 1 : Nat) : Int) == 0) = false := beq_eq_false_iff_ne.2 (by omega)
          clear hst hd hby hfin h40 h41
          go_wp2
          go_roundw
          case rel => exact ⟨k + 1, q + 1, by omega, by omega, by go_num, by first | rfl | go_num, trivial, hN⟩
          case measure => simp [intOf]; omega

theorem ownS_drewN {w : World} {B : Nat} {v : Value} {ts : List ByteArray} (h : OwnS w B v ts) (n : Nat) : OwnS (w.drewN n) B v ts := h
theorem byte_eq {b c : UInt8} (h : b = c) : ((b.toNat : Int) != (c.toNat : Int)) = false := by rw [h]; simp

set_option maxRecDepth 100000 in
set_option maxHeartbeats 8000000 in
theorem l04Match (p t : ByteArray) (w : World) (hp : p.size ≤ 1000000) (ht : t.size ≤ 1048576) (hb2 : Hid (M.both p.data.toList t.data.toList)) :
    Calls Try.prog 70 #[.string p, .string t] w (MtQ (M.mt p.data.toList t.data.toList) w) := by
  have hL : Hid (p.data.toList.length = p.size) := (Lib.size_eq p).symm
  have hLt : Hid (t.data.toList.length = t.size) := (Lib.size_eq t).symm
  have hby : Hid (∀ k (h : k < p.size), p.data.toList.drop k = p[k] :: p.data.toList.drop (k + 1)) := fun _ h => byte_here p h
  have hbt : Hid (∀ k (h : k < t.size), t.data.toList.drop k = t[k] :: t.data.toList.drop (k + 1)) := fun _ h => byte_here t h
  have hcut : Hid (∀ (k m : Nat) (_ : k ≤ m) (_ : m ≤ t.size) (W : World), (Instr.slice 9 (.string t) (some (.int .i64 (k : Int))) (some (.int .i64 (m : Int))) none).run Try.prog W = .ok (.string (M.bs ((t.data.toList.drop k).take (m - k)))) W) := fun k m h1 h2 W => by
    have := run_slice_string (P := Try.prog) W 9 t .i64 .i64 (k : Int) (m : Int) Try.underlying9 (by omega) (by omega) (by omega)
    rw [this, show ((k : Int)).toNat = k by omega, show ((m : Int)).toNat = m by omega, Lib.extract_eq]
    rfl
  have hBe : Hid (∀ (j m : Nat) (r : List UInt8) (W : World), j ≤ t.size → M.piece (t.data.toList.drop j) = some r → t.size - r.length = m → Calls Try.prog 105 #[.string t, .int .i64 (j : Int)] W fun e w' => e = .returned (.int .i64 (m : Int)) ∧ w' = W) := fun j m r W h1 h2 h3 => l04Behind t j m r W ht h1 (Lib.hid h2) (Lib.hid h3)
  obtain ⟨R, hR⟩ : ∃ R, M.mt p.data.toList t.data.toList = R := ⟨_, rfl⟩
  obtain ⟨Q, hQ⟩ : ∃ Q, MtQ R w = Q := ⟨_, rfl⟩
  have hNone : Hid (R = none → ∀ w', Hid (Below w.heap.size w w') → Q (.returned (.tuple #[.slice none 0 0, .bool false])) w') := fun h w' hb => by
    rw [← hQ, h]
    exact ⟨none, 0, 0, rfl, hb, Lib.hid (ownS_nil _ _)⟩
  have hSome : Hid (∀ ts w' A n c, R = some ts → Hid (Below w.heap.size w w') → Hid (OwnS w' w.heap.size (.slice A n c) (ts.map M.bs)) → Q (.returned (.tuple #[.slice A n c, .bool true])) w') := fun ts w' A n c h hb ho => by
    rw [← hQ, h]
    exact ⟨A, n, c, rfl, hb, ho⟩
  have hst : Hid ((M.mt (p.data.toList.drop 0) (t.data.toList.drop 0)).map (([] : List (List UInt8)) ++ ·) = R) := by
    show _ = _
    rw [List.drop_zero, List.drop_zero, hR]
    cases R <;> rfl
  have hbo : Hid (M.both (p.data.toList.drop 0) (t.data.toList.drop 0)) := hb2.out
  have hb0 := Lib.hid (bal (b0 w) (.cells #[] 9))
  have ho0 := Lib.hid (ownS_empty (w := w) (B := w.heap.size) (Nat.le_refl _))
  rw [hR, hQ]
  clear hR hQ hb2
  generalize p.data.toList = P at *
  generalize t.data.toList = T at *
  go_enter Try.func70, Try.ntmps70
  go_wp2
  go_loopw [6, 7, 8] (fun qs qa qi wr => ∃ (k j n c : Nat) (A : Option Addr) (ts : List (List UInt8)), k ≤ p.size ∧ j ≤ t.size ∧ qi = .int .i64 (k : Int) ∧ qa = .int .i64 (j : Int) ∧ n ≤ k ∧ qs = .slice A n c ∧ Hid (OwnS wr w.heap.size (.slice A n c) (ts.map M.bs)) ∧ Hid (Below w.heap.size w wr) ∧ Hid (M.both (P.drop k) (T.drop j)) ∧ Hid ((M.mt (P.drop k) (T.drop j)).map (ts ++ ·) = R)) (fun _ _ qi _ => p.size - (intOf qi).toNat)
  case atStart => exact ⟨0, 0, 0, 0, _, [], by omega, by omega, rfl, rfl, by omega, rfl, ho0, hb0, hbo, hst⟩
  case round =>
    obtain ⟨k, j, n, c, A, ts, hk, hj, rfl, rfl, hn, rfl, hO, hB, hBo, hM⟩ := hrel
    clear hst ho0 hb0 hbo
    by_cases hlt : k < p.size
    · have hki : (k : Int) < (p.size : Int) := by omega
      have hd := Lib.hid (hby.out k hlt)
      by_cases hjt : j < t.size
      · have hji : ¬ (t.size : Int) ≤ (j : Int) := by omega
        have hdt := Lib.hid (hbt.out j hjt)
        have hkind := Lib.hid (M.both_kind (by rw [← hd.out]; exact hBo.out))
        cases hc : M.isL p[k]
        · have hkk : p[k] = 40 ∨ p[k] = 41 := hkind.out.resolve_left (by rw [hc]; decide)
          by_cases heq : p[k] = t[j]
          · have hM' : Hid ((M.mt (P.drop (k + 1)) (T.drop (j + 1))).map (ts ++ ·) = R) := by
              show _ = _
              rw [← hM.out, hd.out, hdt.out, ← heq, M.mt_same hc]
            have hBo' : Hid (M.both (P.drop (k + 1)) (T.drop (j + 1))) := M.both_same (by rw [← hd.out]; rw [heq, ← hdt.out]; exact hBo.out) hc
            have eq1 := byte_eq heq
            clear hNone hSome hby hbt hcut hBe hd hdt hM hBo hkind hL hLt
            rcases hkk with h40 | h41
            · have e40 : ((p[k].toNat : Int) != 40) = false := by rw [h40]; rfl
              clear hc heq h40
              go_wp2
              go_quiet (fail)
              go_wp2
              go_roundw
              case rel => exact ⟨k + 1, j + 1, n, c, A, ts, by omega, by omega, by go_num, by go_num, by omega, rfl, Lib.hid (ownS_drewN hO.out _), below_drewN hB.out _, hBo', hM'⟩
              case measure => simp [intOf]; omega
            · have e40 : ((p[k].toNat : Int) != 40) = true := by rw [h41]; rfl
              have e41 : ((p[k].toNat : Int) != 41) = false := by rw [h41]; rfl
              clear hc heq h41
              go_wp2
              go_quiet (fail)
              go_wp2
              go_roundw
              case rel => exact ⟨k + 1, j + 1, n, c, A, ts, by omega, by omega, by go_num, by go_num, by omega, rfl, Lib.hid (ownS_drewN hO.out _), below_drewN hB.out _, hBo', hM'⟩
              case measure => simp [intOf]; omega
          · have hN := Lib.hid (fun W => hNone.out (by rw [← hM.out, hd.out, hdt.out, M.mt_other hc _ _ (Ne.symm heq)]; rfl) W)
            have eq1 := ne_byte heq
            clear hNone hSome hby hbt hcut hBe hd hdt hM hBo hkind hL hLt
            rcases hkk with h40 | h41
            · have e40 : ((p[k].toNat : Int) != 40) = false := by rw [h40]; rfl
              clear hc heq h40
              go_wp2
              go_quiet (fail)
              go_wp2
              exact hN.out _ (below_drewN hB.out _)
            · have e40 : ((p[k].toNat : Int) != 40) = true := by rw [h41]; rfl
              have e41 : ((p[k].toNat : Int) != 41) = false := by rw [h41]; rfl
              clear hc heq h41
              go_wp2
              go_quiet (fail)
              go_wp2
              exact hN.out _ (below_drewN hB.out _)
        · have e40 : ((p[k].toNat : Int) != 40) = true := ne_byte (M.ne_open hc)
          have e41 : ((p[k].toNat : Int) != 41) = true := ne_byte (M.ne_shut hc)
          by_cases h41 : t[j] = 41
          · have f41 : ((t[j].toNat : Int) == 41) = true := by rw [h41]; rfl
            have hN := Lib.hid (hNone.out (by rw [← hM.out, hd.out, hdt.out, h41, M.mt_shut hc]; rfl) wr hB)
            clear hNone hSome hby hbt hcut hBe hd hdt hM hBo hkind hL hLt hc h41
            go_wp2
            exact hN.out
          · have f41 : ((t[j].toNat : Int) == 41) = false := beq_eq_false_iff_ne.2 (by simpa using ne_byte h41)
            obtain ⟨r, hr, hbr⟩ := M.both_let (c := p[k]) (d := t[j]) (P := P.drop (k + 1)) (T := T.drop (j + 1)) (by rw [← hd.out, ← hdt.out]; exact hBo.out) hc h41
            rw [← hdt.out] at hr
            have hrl := M.piece_drop hr
            rw [List.length_drop, hLt.out] at hrl
            obtain ⟨m, hm⟩ : ∃ m, t.size - r.length = m := ⟨_, rfl⟩
            have hm1 : j < m := by omega
            have hm2 : m ≤ t.size := by omega
            have hrm : T.drop m = r := by
              have := hrl.2
              rw [List.drop_drop] at this
              rw [← this]
              congr 1
              omega
            have hC := fun W => Lib.hid (hBe.out j m r W hj hr hm)
            have hsl := fun W => hcut.out j m (by omega) hm2 W
            obtain ⟨Y, hY⟩ : ∃ Y, (T.drop j).take (m - j) = Y := ⟨_, rfl⟩
            have hM' : Hid ((M.mt (P.drop (k + 1)) (T.drop m)).map ((ts ++ [Y]) ++ ·) = R) := by
              show _ = _
              have e1 : t.size - j - r.length = m - j := by omega
              rw [← hM.out, hd.out, M.mt_let hc _ hr, map_cons, hrm, ← hY, List.length_drop, hLt.out, e1]
            have hBo' : Hid (M.both (P.drop (k + 1)) (T.drop m)) := by rw [hrm]; exact hbr
            have hts : Hid ((ts ++ [Y]).map M.bs = ts.map M.bs ++ [M.bs Y]) := by simp [Hid]
            rw [hY] at hsl
            have hzr := hB.out.size
            have hn6 : n ≤ 1000000 := by omega
            clear hNone hSome hby hbt hcut hBe hd hdt hM hBo hkind hL hLt hc h41 hr hbr hrl hm hrm hY
            generalize ts ++ [Y] = ts' at *
            generalize M.bs Y = Z at *
            go_wp2_with (first | (go_at_call 105; refine (hC _).out.mono ?_; rintro e w' ⟨rfl, hw⟩; subst hw) | (at_builtin; refine pushS rfl (.tmp 42) (.tmp 47) rfl _ w.heap.size A n c (ts.map M.bs) Z rfl rfl hO hzr hn6 ?_; intro A2 c2 w2 ho2 hb2))
            have hb3 := Lib.hid (hB.out.trans hb2.out)
            rw [← hts.out] at ho2
            clear hb2 hB hO hts
            go_roundw
            case rel => exact ⟨k + 1, m, n + 1, c2, A2, ts', by omega, by omega, by go_num, rfl, by omega, rfl, ho2, hb3, hBo', hM'⟩
            case measure => simp [intOf]; omega
      · have hji : (t.size : Int) ≤ (j : Int) := by omega
        have hN := Lib.hid (hNone.out (by rw [← hM.out, hd.out, List.drop_of_length_le (by have := hLt.out; omega : T.length ≤ j), M.mt_end]; rfl) wr hB)
        clear hNone hSome hby hbt hcut hBe hd hM hBo hL hLt
        go_wp2
        exact hN.out
    · obtain rfl : k = p.size := by omega
      have hP0 : P.drop p.size = [] := List.drop_of_length_le (by have := hL.out; omega)
      have hR1 : R = some ts := by rw [← hM.out, hP0, M.mt_nil]; simp
      have hT0 : T.drop j = [] := M.both_end (by rw [← hP0]; exact hBo.out)
      have hje : j = t.size := by
        have := congrArg List.length hT0
        rw [List.length_drop, hLt.out] at this
        simp at this
        omega
      have hji : ((j : Int) == (t.size : Int)) = true := beq_iff_eq.2 (by omega)
      have hF := Lib.hid (hSome.out ts wr A n c hR1 hB hO)
      clear hNone hSome hM hby hbt hcut hBe hR1 hP0 hT0 hBo
      go_wp2
      exact hF.out
end Go.Proofs.Ytbdmmeoelagdcaa
