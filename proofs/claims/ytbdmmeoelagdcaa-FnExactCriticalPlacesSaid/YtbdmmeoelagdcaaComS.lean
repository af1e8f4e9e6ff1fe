/- l04Common: what two patterns have in common, as the model has it. -/
import Derived.Test.YtbdmmeoelagdcaaComText
import Derived.Test.YtbdmmeoelagdcaaMtS
namespace Go.Proofs.Ytbdmmeoelagdcaa
open Go.RowKit

theorem results_four {fn : Func} {t u v x : Tmp} (h : fn.results = #[.tmp t, .tmp u, .tmp v, .tmp x]) (tmps : Array Value) (P : Program) (w : World) :
    (results fn tmps).run P w = .ok (.tuple #[tmps.getD t undef, tmps.getD u undef, tmps.getD v undef, tmps.getD x undef]) w := by
  simp [results, h, go_sem]
/-- what l04Common hands back -/
def ComQ (p q : ByteArray) (R : Option (List UInt8 × List UInt8 × List UInt8)) (w : World) (e : Ending) (w' : World) : Prop :=
  ∃ (S : ByteArray) (a b : Int), e = .returned (.tuple #[.string S, .int .i64 a, .int .i64 b, .bool R.isSome]) ∧ Hid (∀ x, R = some x → S = M.bs x.1 ∧ a = ((p.size - x.2.1.length : Nat) : Int) ∧ b = ((q.size - x.2.2.length : Nat) : Int)) ∧ Hid (Below w.heap.size w w')
/-- what l04Common must do where less than f bytes are left -/
def ComAt (p q : ByteArray) (P Q : List UInt8) (f : Nat) : Prop := ∀ (k m : Nat) (w : World), p.size - k < f → k ≤ p.size → m ≤ q.size → (∃ r, M.piece (P.drop k) = some r) → (∃ r, M.piece (Q.drop m) = some r) →
  Calls Try.prog 90 #[.string p, .string q, .int .i64 (k : Int), .int .i64 (m : Int)] w (ComQ p q (M.com1 (P.drop k) (Q.drop m)) w)
theorem rest_at {L r : List UInt8} {k n : Nat} (hn : L.length = n) (h : M.piece (L.drop k) = some r) (hk : k ≤ n) : k < n - r.length ∧ n - r.length ≤ n ∧ L.drop (n - r.length) = r ∧ r.length ≤ n := by
  obtain ⟨h1, h2⟩ := M.piece_drop h
  rw [List.length_drop, hn] at h1 h2
  rw [List.drop_drop] at h2
  refine ⟨by omega, by omega, ?_, by omega⟩
  rw [show n - r.length = k + (n - k - r.length) by omega]
  exact h2
theorem piece_of_close {c : UInt8} {L r : List UInt8} (h : M.close (c :: L) 1 = some r) (hc : c ≠ 41) : ∃ s, M.piece (c :: L) = some s ∧ M.close s 1 = some r := by
  rw [M.close_piece hc] at h
  cases hp : M.piece (c :: L) with
  | none => rw [hp] at h; cases h
  | some s => rw [hp] at h; exact ⟨s, rfl, h⟩

set_option maxRecDepth 100000 in
set_option maxHeartbeats 8000000 in
theorem l04Common_step (p q : ByteArray) (P Q : List UInt8) (hp : p.size ≤ 60) (hq : q.size ≤ 60) (hP : Hid (p.data.toList = P)) (hQ : Hid (q.data.toList = Q)) (f : Nat) (ih : Hid (ComAt p q P Q f)) : ComAt p q P Q (f + 1) := by
  intro k m w hf hk hm hp1 hq1
  have hpL : Hid (P.length = p.size) := by show _ = _; rw [← hP.out]; exact (Lib.size_eq p).symm
  have hqL : Hid (Q.length = q.size) := by show _ = _; rw [← hQ.out]; exact (Lib.size_eq q).symm
  have hpb : Hid (∀ k (h : k < p.size), P.drop k = p[k] :: P.drop (k + 1)) := fun k h => by rw [← hP.out]; exact byte_here p h
  have hqb : Hid (∀ k (h : k < q.size), Q.drop k = q[k] :: Q.drop (k + 1)) := fun k h => by rw [← hQ.out]; exact byte_here q h
  have hpc : Hid (∀ (k m : Nat) (_ : k ≤ m) (_ : m ≤ p.size) (W : World), (Instr.slice 9 (.string p) (some (.int .i64 (k : Int))) (some (.int .i64 (m : Int))) none).run Try.prog W = .ok (.string (M.bs ((P.drop k).take (m - k)))) W) := fun k m h1 h2 W => by
    have := run_slice_string (P := Try.prog) W 9 p .i64 .i64 (k : Int) (m : Int) Try.underlying9 (by omega) (by omega) (by omega)
    rw [this, show ((k : Int)).toNat = k by omega, show ((m : Int)).toNat = m by omega, Lib.extract_eq, ← hP.out]
    rfl
  have hqc : Hid (∀ (k m : Nat) (_ : k ≤ m) (_ : m ≤ q.size) (W : World), (Instr.slice 9 (.string q) (some (.int .i64 (k : Int))) (some (.int .i64 (m : Int))) none).run Try.prog W = .ok (.string (M.bs ((Q.drop k).take (m - k)))) W) := fun k m h1 h2 W => by
    have := run_slice_string (P := Try.prog) W 9 q .i64 .i64 (k : Int) (m : Int) Try.underlying9 (by omega) (by omega) (by omega)
    rw [this, show ((k : Int)).toNat = k by omega, show ((m : Int)).toNat = m by omega, Lib.extract_eq, ← hQ.out]
    rfl
  have hBp : Hid (∀ (j n : Nat) (r : List UInt8) (W : World), j ≤ p.size → M.piece (P.drop j) = some r → p.size - r.length = n → Calls Try.prog 105 #[.string p, .int .i64 (j : Int)] W fun e w' => e = .returned (.int .i64 (n : Int)) ∧ w' = W) := fun j n r W h1 h2 h3 => l04Behind p j n r W (by omega) h1 (Lib.hid (by rw [hP.out]; exact h2)) (Lib.hid h3)
  have hBq : Hid (∀ (j n : Nat) (r : List UInt8) (W : World), j ≤ q.size → M.piece (Q.drop j) = some r → q.size - r.length = n → Calls Try.prog 105 #[.string q, .int .i64 (j : Int)] W fun e w' => e = .returned (.int .i64 (n : Int)) ∧ w' = W) := fun j n r W h1 h2 h3 => l04Behind q j n r W (by omega) h1 (Lib.hid (by rw [hQ.out]; exact h2)) (Lib.hid h3)
  obtain ⟨r1, hr1⟩ := hp1
  obtain ⟨r2, hr2⟩ := hq1
  have d1 := rest_at hpL.out hr1 hk
  have d2 := rest_at hqL.out hr2 hm
  have hkp : k < p.size := by omega
  have hmq : m < q.size := by omega
  obtain ⟨R, hR⟩ : ∃ R, M.com1 (P.drop k) (Q.drop m) = R := ⟨_, rfl⟩
  obtain ⟨Qe, hQe⟩ : ∃ Qe, ComQ p q R w = Qe := ⟨_, rfl⟩
  have hNone : Hid (R = none → ∀ (S : ByteArray) (a b : Int) w', Hid (Below w.heap.size w w') → Qe (.returned (.tuple #[.string S, .int .i64 a, .int .i64 b, .bool false])) w') := fun h S a b w' hb => by
    rw [← hQe, h]
    exact ⟨S, a, b, rfl, Lib.hid (fun x h => by cases h), hb⟩
  have hSome : Hid (∀ x (S : ByteArray) (a b : Int) w', R = some x → S = M.bs x.1 → a = ((p.size - x.2.1.length : Nat) : Int) → b = ((q.size - x.2.2.length : Nat) : Int) → Hid (Below w.heap.size w w') → Qe (.returned (.tuple #[.string S, .int .i64 a, .int .i64 b, .bool true])) w') := fun x S a b w' h h1 h2 h3 hb => by
    rw [← hQe, h]
    exact ⟨S, a, b, rfl, Lib.hid (fun y hy => by injection hy with hy; subst hy; exact ⟨h1, h2, h3⟩), hb⟩
  have hb0 := Lib.hid (b0 w)
  have e1 := Lib.hid (hpb.out k hkp)
  have e2 := Lib.hid (hqb.out m hmq)
  have q41 : q[m] ≠ 41 := fun h => by rw [e2.out, h, M.piece_shut] at hr2; cases hr2
  have p41 : p[k] ≠ 41 := fun h => by rw [e1.out, h, M.piece_shut] at hr1; cases hr1
  have HR := Lib.hid hR
  rw [hR, hQe]
  clear hR hQe
  cases hc : M.isL p[k]
  · have p40 : p[k] = 40 := by
      by_cases h : p[k] = 40
      · exact h
      · rw [e1.out, M.piece_bad hc h] at hr1; cases hr1
    have g1 : ((p[k].toNat : Int) != 40) = false := by rw [p40]; rfl
    cases hd : M.isL q[m]
    · have q40 : q[m] = 40 := by
        by_cases h : q[m] = 40
        · exact h
        · rw [e2.out, M.piece_bad hd h] at hr2; cases hr2
      have g3 : ((q[m].toNat : Int) != 40) = false := by rw [q40]; rfl
      have hz1 : Hid (M.close (P.drop (k + 1)) 1 = some r1) := by show _ = _; rw [← hr1, e1.out, p40, M.piece_open]
      have hz2 : Hid (M.close (Q.drop (m + 1)) 1 = some r2) := by show _ = _; rw [← hr2, e2.out, q40, M.piece_open]
      have hst : Hid ((M.com 1 (P.drop (k + 1)) (Q.drop (m + 1))).map (fun x => ((⟨#[40]⟩ : ByteArray).data.toList ++ x.1, x.2)) = R) := by
        show _ = _
        rw [← HR.out, e1.out, e2.out, p40, q40, M.com1, if_neg (by decide), if_neg (by decide), if_pos ⟨rfl, rfl⟩]
        rfl
      clear HR hr1 hr2 e1 e2 hc hd p40 q40 p41 q41 hBp hBq hpc hqc d1 d2
      go_enter Try.func90, Try.ntmps90
      go_wp2
      go_loopw [2, 3, 14] (fun qa qb qz wr => ∃ (a b : Nat) (z : ByteArray), k < a ∧ a ≤ p.size ∧ b ≤ q.size ∧ z.size ≤ a + b ∧ qa = .int .i64 (a : Int) ∧ qb = .int .i64 (b : Int) ∧ qz = .string z ∧ Hid (Below w.heap.size w wr) ∧ Hid (M.close (P.drop a) 1 = some r1) ∧ Hid (M.close (Q.drop b) 1 = some r2) ∧ Hid ((M.com 1 (P.drop a) (Q.drop b)).map (fun x => (z.data.toList ++ x.1, x.2)) = R)) (fun qa _ _ _ => p.size - (intOf qa).toNat)
      case atStart => exact ⟨k + 1, m + 1, ⟨#[40]⟩, by omega, by omega, by omega, by show 1 ≤ _; omega, by go_num, by go_num, rfl, hb0, hz1, hz2, hst⟩
      case round =>
        obtain ⟨a, b, z, hka, hap, hbq, hzs, rfl, rfl, rfl, hB, hC1, hC2, hM⟩ := hrel
        clear hz1 hz2 hst hb0
        have haP : a < p.size := by
          apply Nat.lt_of_not_le
          intro h
          have := hC1.out
          rw [List.drop_of_length_le (by have := hpL.out; omega)] at this
          cases this
        have hbQ : b < q.size := by
          apply Nat.lt_of_not_le
          intro h
          have := hC2.out
          rw [List.drop_of_length_le (by have := hqL.out; omega)] at this
          cases this
        have f1 := Lib.hid (hpb.out a haP)
        have f2 := Lib.hid (hqb.out b hbQ)
        by_cases h4a : p[a] = 41
        · have t1 : ((p[a].toNat : Int) != 41) = false := by rw [h4a]; rfl
          by_cases h4b : q[b] = 41
          · have t2 : ((p[a].toNat : Int) == (q[b].toNat : Int)) = true := by rw [h4a, h4b]; rfl
            have hRs : R = some (z.data.toList ++ [41], P.drop (a + 1), Q.drop (b + 1)) := by
              rw [← hM.out, f1.out, f2.out, h4a, h4b, M.com_shut, M.com_zero]
              rfl
            have hF := fun w' hb => Lib.hid (hSome.out _ (z ++ ⟨#[41]⟩) ((a : Int) + 1) ((b : Int) + 1) w' hRs (bs_cat z [41]) (by show _ = ((p.size - (P.drop (a + 1)).length : Nat) : Int); rw [List.length_drop, hpL.out]; omega) (by show _ = ((q.size - (Q.drop (b + 1)).length : Nat) : Int); rw [List.length_drop, hqL.out]; omega) hb)
            have hnb : ¬ 9223372036854775807 < z.size + 1 := by omega
            clear hNone hSome hpb hqb hRs f1 f2 h4a h4b ih hM hC1 hC2 hpL hqL
            go_wp2
            go_quiet (fail)
            go_wp2
            refine bodyPost_ret (results_four rfl _ _ _) rfl ?_
            exact (hF _ (below_drewN hB.out _)).out
          · have t2 : ((p[a].toNat : Int) == (q[b].toNat : Int)) = false := beq_eq_false_iff_ne.2 (by simpa using ne_byte (fun e : p[a] = q[b] => h4b (e.symm.trans h4a)))
            have hRn : R = none := by rw [← hM.out, f1.out, f2.out, M.com_half 0 _ _ (.inl h4a) (fun e => h4b (e.symm.trans h4a))]; rfl
            have hF := fun w' hb => Lib.hid (hNone.out hRn (z ++ ⟨#[41]⟩) ((a : Int) + 1) ((b : Int) + 1) w' hb)
            have hnb : ¬ 9223372036854775807 < z.size + 1 := by omega
            clear hNone hSome hpb hqb hRn f1 f2 h4a h4b ih hM hC1 hC2 hpL hqL
            go_wp2
            go_quiet (fail)
            go_wp2
            refine bodyPost_ret (results_four rfl _ _ _) rfl ?_
            exact (hF _ (below_drewN hB.out _)).out
        · have t1 : ((p[a].toNat : Int) != 41) = true := ne_byte h4a
          by_cases h4b : q[b] = 41
          · have t3 : ((q[b].toNat : Int) != 41) = false := by rw [h4b]; rfl
            have t2 : ((p[a].toNat : Int) == (q[b].toNat : Int)) = false := beq_eq_false_iff_ne.2 (by simpa using ne_byte (fun e : p[a] = q[b] => h4a (e.trans h4b)))
            have hRn : R = none := by rw [← hM.out, f1.out, f2.out, M.com_half 0 _ _ (.inr h4b) (fun e => h4a (e.trans h4b))]; rfl
            have hF := fun w' hb => Lib.hid (hNone.out hRn (z ++ ⟨#[41]⟩) ((a : Int) + 1) ((b : Int) + 1) w' hb)
            have hnb : ¬ 9223372036854775807 < z.size + 1 := by omega
            clear hNone hSome hpb hqb hRn f1 f2 h4a h4b ih hM hC1 hC2 hpL hqL
            go_wp2
            go_quiet (fail)
            go_wp2
            refine bodyPost_ret (results_four rfl _ _ _) rfl ?_
            exact (hF _ (below_drewN hB.out _)).out
          · have t3 : ((q[b].toNat : Int) != 41) = true := ne_byte h4b
            obtain ⟨s1, hs1, hk1⟩ := piece_of_close (by rw [← f1.out]; exact hC1.out) h4a
            obtain ⟨s2, hs2, hk2⟩ := piece_of_close (by rw [← f2.out]; exact hC2.out) h4b
            rw [← f1.out] at hs1
            rw [← f2.out] at hs2
            have hcp : M.com 1 (P.drop a) (Q.drop b) = (M.com1 (P.drop a) (Q.drop b)).bind fun x => (M.com 1 x.2.1 x.2.2).map fun y => (x.1 ++ y.1, y.2) := by rw [f1.out, f2.out]; exact M.com_piece h4a h4b 0 _ _
            have hI := Lib.hid (ih.out a b wr (by omega) (by omega) (by omega) ⟨s1, hs1⟩ ⟨s2, hs2⟩)
            cases hx : M.com1 (P.drop a) (Q.drop b) with
            | none =>
              rw [hx] at hI
              have hRn : R = none := by rw [← hM.out, hcp, hx]; rfl
              have hF := fun w' hb => Lib.hid (hNone.out hRn ⟨#[]⟩ 0 0 w' hb)
              clear hNone hSome hpb hqb hRn f1 f2 h4a h4b ih hM hC1 hC2 hpL hqL hcp hs1 hs2 hk1 hk2 hx
              go_wp2_with fail
              refine hI.out.mono ?_
              rintro e w2 ⟨S, a2, b2, rfl, hT, hb2⟩
              have hb3 := Lib.hid (btr hB.out hb2.out)
              clear hT hb2 hI
              go_wp2
              refine bodyPost_ret (results_four rfl _ _ _) rfl ?_
              exact (hF _ hb3).out
            | some x =>
              rw [hx] at hI
              obtain ⟨hl1, hy1, hy2⟩ := M.com1_len hx
              have v1 := rest_at hpL.out hy1 (by omega)
              have v2 := rest_at hqL.out hy2 (by omega)
              rw [List.length_drop, List.length_drop, hpL.out, hqL.out] at hl1
              obtain ⟨a', ha'⟩ : ∃ a', p.size - x.2.1.length = a' := ⟨_, rfl⟩
              obtain ⟨b', hb'⟩ : ∃ b', q.size - x.2.2.length = b' := ⟨_, rfl⟩
              have hN : Hid (∀ z' : ByteArray, z' = z ++ M.bs x.1 → z'.size ≤ a' + b' ∧ M.close (P.drop a') 1 = some r1 ∧ M.close (Q.drop b') 1 = some r2 ∧ (M.com 1 (P.drop a') (Q.drop b')).map (fun y => (z'.data.toList ++ y.1, y.2)) = R) := fun z' hz' => by
                have w1 : P.drop a' = x.2.1 := by rw [← ha']; exact v1.2.2.1
                have w2 : Q.drop b' = x.2.2 := by rw [← hb']; exact v2.2.2.1
                have w3 : s1 = x.2.1 := by rw [hs1] at hy1; injection hy1
                have w4 : s2 = x.2.2 := by rw [hs2] at hy2; injection hy2
                refine ⟨?_, by rw [w1, ← w3]; exact hk1, by rw [w2, ← w4]; exact hk2, ?_⟩
                · rw [hz', ByteArray.size_append, M.bs_size]; omega
                · rw [← hM.out, hcp, hx, w1, w2, hz', ByteArray.data_append, Array.toList_append, M.bs_data, Option.bind_some]
                  cases M.com 1 x.2.1 x.2.2 with
                  | none => rfl
                  | some y => simp
              have hnb : ¬ 9223372036854775807 < z.size + (M.bs x.1).size := by rw [M.bs_size]; omega
              have hab : a < a' ∧ a' ≤ p.size ∧ b' ≤ q.size := by omega
              clear hNone hSome hpb hqb f1 f2 h4a h4b ih hM hC1 hC2 hpL hqL hcp hs1 hs2 hk1 hk2 hx hl1 hy1 hy2 v1 v2
              go_wp2_with fail
              refine hI.out.mono ?_
              rintro e w2 ⟨S, a2, b2, rfl, hT, hb2⟩
              obtain ⟨rfl, h2, h3⟩ := hT.out _ rfl
              rw [ha'] at h2
              rw [hb'] at h3
              subst h2; subst h3
              have hb3 := Lib.hid (btr hB.out hb2.out)
              have hN2 := hN.out _ rfl
              have n1 := hN2.1
              have n2 := Lib.hid hN2.2.1
              have n3 := Lib.hid hN2.2.2.1
              have n4 := Lib.hid hN2.2.2.2
              clear hT hb2 hI hN hN2 ha' hb'
              generalize M.bs x.1 = Y at *
              go_wp2
              go_roundw
              case rel => exact ⟨a', b', z ++ Y, by omega, by omega, by omega, n1, rfl, rfl, rfl, hb3, n2, n3, n4⟩
              case measure => simp [intOf]; omega
    · have g3 : ((q[m].toNat : Int) != 40) = true := ne_byte (M.ne_open hd)
      have g4 : ((q[m].toNat : Int) != 41) = true := ne_byte q41
      have g5 : ((p[k].toNat : Int) != 41) = true := ne_byte p41
      obtain ⟨n, hn⟩ : ∃ n, p.size - r1.length = n := ⟨_, rfl⟩
      rw [hn] at d1
      have hC := fun W => Lib.hid (hBp.out k n r1 W hk hr1 hn)
      have hsl := fun W => hpc.out k n (by omega) d1.2.1 W
      have hlen : (P.drop k).length - r1.length = n - k := by rw [List.length_drop, hpL.out]; omega
      have hRs : R = some ((P.drop k).take (n - k), r1, Q.drop (m + 1)) := by
        rw [← HR.out, e1.out, e2.out, M.com1, if_neg (by simp [hc]), if_pos hd, ← e1.out, hr1, Option.map_some, hlen]
      have hF := fun w' hb => Lib.hid (hSome.out _ (M.bs ((P.drop k).take (n - k))) (n : Int) ((m : Int) + 1) w' hRs rfl (by rw [← hn]) (by show _ = ((q.size - (Q.drop (m + 1)).length : Nat) : Int); rw [List.length_drop, hqL.out]; omega) hb)
      have hnn : n ≤ p.size := d1.2.1
      have hkn : k < n := d1.1
      clear hNone hSome hBp hBq hpc hqc hpb hqb hRs hlen HR hr1 hr2 e1 e2 hc hd p40 p41 q41 ih hpL hqL d1 d2 hn
      generalize M.bs ((P.drop k).take (n - k)) = Z at *
      go_enter Try.func90, Try.ntmps90
      go_wp2_with (go_at_call 105; refine (hC _).out.mono ?_; rintro e w' ⟨rfl, hw⟩; subst hw)
      go_quiet (fail)
      go_wp2
      refine bodyPost_ret (results_four rfl _ _ _) rfl ?_
      exact (hF _ (below_drewN hb0.out _)).out
  · have g1 : ((p[k].toNat : Int) != 40) = true := ne_byte (M.ne_open hc)
    have g2 : ((p[k].toNat : Int) != 41) = true := ne_byte (M.ne_shut hc)
    have g4 : ((q[m].toNat : Int) != 41) = true := ne_byte q41
    obtain ⟨n, hn⟩ : ∃ n, q.size - r2.length = n := ⟨_, rfl⟩
    rw [hn] at d2
    have hC := fun W => Lib.hid (hBq.out m n r2 W hm hr2 hn)
    have hsl := fun W => hqc.out m n (by omega) d2.2.1 W
    have hlen : (Q.drop m).length - r2.length = n - m := by rw [List.length_drop, hqL.out]; omega
    have hRs : R = some ((Q.drop m).take (n - m), P.drop (k + 1), r2) := by
      rw [← HR.out, e1.out, e2.out, M.com1, if_pos hc, ← e2.out, hr2, Option.map_some, hlen]
    have hF := fun w' hb => Lib.hid (hSome.out _ (M.bs ((Q.drop m).take (n - m))) ((k : Int) + 1) (n : Int) w' hRs rfl (by show _ = ((p.size - (P.drop (k + 1)).length : Nat) : Int); rw [List.length_drop, hpL.out]; omega) (by rw [← hn]) hb)
    have hnn : n ≤ q.size := d2.2.1
    have hkn : m < n := d2.1
    clear hNone hSome hBp hBq hpc hqc hpb hqb hRs hlen HR hr1 hr2 e1 e2 hc p41 q41 ih hpL hqL d1 d2 hn
    generalize M.bs ((Q.drop m).take (n - m)) = Z at *
    go_enter Try.func90, Try.ntmps90
    go_wp2_with (go_at_call 105; refine (hC _).out.mono ?_; rintro e w' ⟨rfl, hw⟩; subst hw)
    go_quiet (fail)
    go_wp2
    refine bodyPost_ret (results_four rfl _ _ _) rfl ?_
    exact (hF _ (below_drewN hb0.out _)).out
end Go.Proofs.Ytbdmmeoelagdcaa
