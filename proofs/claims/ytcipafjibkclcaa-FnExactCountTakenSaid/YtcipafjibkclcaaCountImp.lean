/- CountByState, the program's. -/
import Derived.Test.YtcipafjibkclcaaFnCountByState
namespace Go.Proofs.Ytcipafjibkclcaa
open Go.RowKit

theorem tab_two {w : World} {B g m : Nat} {R : List Int} (hB : B ≤ w.heap.size) (h : Own64 w B (.slice (some ⟨g, 0, none⟩) m m) R) (hl : R.length = m) :
    Tab (w.alloc (.cells #[.slice none 0 0, .slice (some ⟨g, 0, none⟩) m m] 22)) B (.slice (some ⟨w.heap.size, 0, none⟩) 2 2) [[], R] := by
  have hg := (h.lt g rfl).2
  have hh := World.ownsRow_lit (e := 22) (size := 1) w #[.slice none 0 0, .slice (some ⟨g, 0, none⟩) m m] 2 hB (by simp [maxLen]) (by simp)
  have ho := h.alloc (.cells #[.slice none 0 0, .slice (some ⟨g, 0, none⟩) m m] 22)
  refine ⟨[.slice none 0 0, .slice (some ⟨g, 0, none⟩) m m], rfl, hh, fun i v R' e1 e2 => ?_⟩
  match i, e1, e2 with
  | 0, e1, e2 =>
    injection e1 with e1
    injection e2 with e2
    subst e1; subst e2
    exact ⟨⟨none, 0, rfl⟩, own64_nil _ _, fun b _ e => by cases e⟩
  | 1, e1, e2 =>
    injection e1 with e1
    injection e2 with e2
    subst e1; subst e2
    refine ⟨⟨_, m, by rw [hl]⟩, ho, fun b hb e => ?_⟩
    injection hb with hb
    injection e with e
    have e' : g = b := e
    have hb' : w.heap.size = b := hb
    omega
  | i + 2, e1, _ => simp at e1

set_option maxRecDepth 100000 in
set_option maxHeartbeats 8000000 in
theorem impl_CountByState : GivesCounts 39 := by
  intro st As Ag Ss gs m cm g cg n w hm hm' hg hg' h
  obtain ⟨W, hW⟩ : ∃ W, W = w.alloc (.cells #[.int .i64 st, .slice As m cm, .slice Ag g cg] 40) := ⟨_, rfl⟩
  have C1 : Hid (BoxA W w.heap.size st As m cm Ag g cg) := by subst hW; exact BoxA.new _ _ _ _ _ _ _ _ _
  have hBW : Hid (Below w.heap.size w W) := by subst hW; exact bal (b0 w) _
  have hzW : W.heap.size = w.heap.size + 1 := by subst hW; simp
  have HW := Lib.hid hW
  clear hW
  obtain ⟨b1, hb1⟩ : ∃ b, Hid (M.isAuto st Ss gs = b) := ⟨_, rfl⟩
  obtain ⟨b2, hb2⟩ : ∃ b, Hid ((decide (1 ≤ n) && decide (n ≤ 30)) = b) := ⟨_, rfl⟩
  have HA := Lib.hid (impl_IsAutomaton st As Ag Ss gs m cm g cg W hm hm' hg hg' (Lib.hid (h.out.be hBW.out)) b1 hb1)
  cases b1
  · rw [F_Count_1 hb1.out]
    clear h
    go_enter Try.func39, Try.ntmps39
    go_wp2_with fail
    rw [← HW.out]
    obtain ⟨a0, a1, a2⟩ := C1.out
    refine HA.out.mono ?_
    rintro e w1 ⟨rfl, hb⟩
    have B1 : Hid (Below w.heap.size w w1) := btr hBW.out hb.out
    go_wp2
    go_ret2
    exact ⟨none, 0, rfl, own64_nil _ _, B1⟩
  cases b2
  · rw [F_Count_2 hb1.out hb2.out]
    clear h
    go_enter Try.func39, Try.ntmps39
    go_wp2_with fail
    rw [← HW.out]
    obtain ⟨a0, a1, a2⟩ := C1.out
    refine HA.out.mono ?_
    rintro e w1 ⟨rfl, hb⟩
    have B1 : Hid (Below w.heap.size w w1) := btr hBW.out hb.out
    go_wp2_with fail
    refine (withinAny _ _ _ _ _ hb2).mono ?_
    rintro e w' ⟨rfl, rfl⟩
    go_wp2
    go_ret2
    exact ⟨none, 0, rfl, own64_nil _ _, B1⟩
  have hn1 : 1 ≤ n ∧ n ≤ 30 := by have := hb2.out; simpa using this
  rw [F_Count_0 hb1.out hb2.out, hm.out]
  obtain ⟨N, rfl⟩ := Int.eq_ofNat_of_zero_le (show 0 ≤ n by omega)
  rw [Int.toNat_natCast]
  have hN1 : 1 ≤ N := by omega
  have hN30 : N ≤ 30 := by omega
  have hIA : Hid (M.IsA st Ss gs m) := by rw [← hm.out]; exact M.isA_of hb1.out
  have hm9 := hIA.out.le
  have hm1 := hIA.out.pos
  obtain ⟨sn, hsn'⟩ : ∃ sn : Nat, st = (sn : Int) := Int.eq_ofNat_of_zero_le hIA.out.st0
  have hsn3 : (sn : Int) < (m : Int) := by have := hIA.out.st1; omega
  have hsn0 : (0 : Int) ≤ (sn : Int) := by omega
  have hsn := Lib.hid hsn'
  have hcl := Lib.hid (M.counts_len Ss m st (n := N) hN1)
  have hat := Lib.hid (M.counts_at Ss m st [] (n := N) hN1)
  clear hsn'
  go_enter Try.func39, Try.ntmps39
  go_wp2_with fail
  rw [← HW.out]
  obtain ⟨a0, a1, a2⟩ := C1.out
  refine HA.out.mono ?_
  rintro e w1 ⟨rfl, hb⟩
  have B1 := hb
  clear a0 a1 a2 hb
  go_wp2_with fail
  refine (withinAny _ _ _ _ _ hb2).mono ?_
  rintro e w' ⟨rfl, rfl⟩
  obtain ⟨a0, a1, a2⟩ := C1.out.be B1.out
  have z1 : w.heap.size < w1.heap.size := World.block_lt_of_cell? _ _ a0
  go_wp2_with fail
  refine (noCounts st As Ag m cm g cg w1 hm9).mono ?_
  rintro e w2 ⟨rfl, hw2⟩
  have hz2 : w2.heap.size = w1.heap.size + 2 := by rw [hw2]; simp
  have ho2 : Own64 w2 (w.heap.size + 1) (.slice (some ⟨w1.heap.size + 1, 0, none⟩) m m) (List.replicate m 0) := by
    have := own64_made (w := w1.alloc (.cells #[.int .i64 st, .slice As m cm, .slice Ag g cg] 40)) (B := w.heap.size + 1) (n := m) (by simp; omega) (by unfold maxLen; omega)
    rw [← hw2, World.size_alloc] at this
    exact this
  have hB12 : Below w1.heap.size w1 w2 := by rw [hw2]; exact bal (bal (b0 w1) _) _
  have B2 : Hid (Below w.heap.size w w2) := btr hBW.out (btr B1.out hB12)
  have C2 : Hid (BoxA w2 w.heap.size st As m cm Ag g cg) := (C1.out.be B1.out).be hB12
  have hy0 : (List.replicate m (0 : Int))[sn]? = some 0 := by rw [List.getElem?_replicate, if_pos (by omega)]
  obtain ⟨k1, k2, _, _⟩ := own64_cell (ho2.alloc (.cells #[.slice none 0 0, .slice (some ⟨w1.heap.size + 1, 0, none⟩) m m] 22)) (by simp) hy0
  have hzs : (w2.setCell ⟨w1.heap.size + 1, sn, none⟩ (.int .i64 1)).heap.size = w2.heap.size := by simp
  have hT0 := tab_two (B := w.heap.size + 1) (by rw [hzs]; omega) (own64_set ho2 (by simp) sn 1) (by simp)
  rw [hzs] at hT0
  have e1 : M.cntT Ss m st [] 1 = [[], (List.replicate m 0).set sn 1] := by
    show [[]] ++ [M.nextR Ss [[]] m st 1] = _
    rw [M.nextR, if_pos rfl, hsn.out, Int.toNat_natCast]; rfl
  rw [← e1] at hT0
  have HT0 : Hid (Tab ((w2.setCell ⟨w1.heap.size + 1, sn, none⟩ (.int .i64 1)).alloc (.cells #[.slice none 0 0, .slice (some ⟨w1.heap.size + 1, 0, none⟩) m m] 22)).drew (w.heap.size + 1) (.slice (some ⟨w2.heap.size, 0, none⟩) 2 2) (M.cntT Ss m st [] 1)) := hT0.drew
  have hBr : Hid (Below (w.heap.size + 1) w2 ((w2.setCell ⟨w1.heap.size + 1, sn, none⟩ (.int .i64 1)).alloc (.cells #[.slice none 0 0, .slice (some ⟨w1.heap.size + 1, 0, none⟩) m m] 22)).drew) := ((below_setCell (Below.refl _ _) (by omega) _).alloc (by rw [hzs]; omega) _).drew
  obtain ⟨a0', a1', a2'⟩ := C2.out.al (.cells #[.slice none 0 0, .slice (some ⟨w1.heap.size + 1, 0, none⟩) m m] 22)
  rw [hsn.out] at a0'
  clear hw2 ho2 hB12 hT0 hy0 e1 a0 a1 a2
  have hH : (w2.alloc (.cells #[.slice none 0 0, .slice (some ⟨w1.heap.size + 1, 0, none⟩) m m] 22)).cell? ⟨w1.heap.size + 2, 1, none⟩ = some (.slice (some ⟨w1.heap.size + 1, 0, none⟩) m m) := World.cell?_alloc_at _ _ _ _ hz2.symm
  rw [hz2] at HT0
  have h12 : (1 : Int) < 2 := by omega
  go_wp2
  go_region
  have hzL : w.heap.size + 1 ≤ w2.heap.size := by omega
  obtain ⟨w3, hw3⟩ : ∃ w3, w3 = ((w2.setCell ⟨w1.heap.size + 1, sn, none⟩ (.int .i64 1)).alloc (.cells #[.slice none 0 0, .slice (some ⟨w1.heap.size + 1, 0, none⟩) m m] 22)).drew := ⟨_, rfl⟩
  rw [← hw3] at HT0 hBr ⊢
  clear hw3 k1 k2 a0' a1' a2' hH hz2 hzs
  have B3 : Hid (Below w.heap.size w w3) := B2.out.trans (hBr.out.mono (Nat.le_succ _))
  have C3 : Hid (BoxA w3 w.heap.size st As m cm Ag g cg) := C2.out.below hBr.out (Nat.lt_succ_self _)
  have hBB := Lib.hid (Below.refl (w.heap.size + 1) w3)
  have hz3 : w.heap.size + 1 ≤ w3.heap.size := Nat.le_trans hzL hBr.out.size
  clear hBr
  go_wp2
  go_loopw [6] (fun q wr => ∃ (L k c' : Nat) (A' : Option Addr), Hid (L = k + 1) ∧ 2 ≤ L ∧ L ≤ N + 1 ∧ q = .slice A' L c' ∧ Hid (Tab wr (w.heap.size + 1) (.slice A' L c') (M.cntT Ss m st [] k)) ∧ Hid (Below (w.heap.size + 1) w3 wr)) (fun q _ => N + 1 - (match q with | .slice _ n _ => n | _ => 0))
  case atStart => exact ⟨2, 1, 2, _, rfl, by omega, by omega, rfl, HT0, hBB⟩
  case round =>
    obtain ⟨L, k, c', A', hL, hL2, hLn, rfl, hT, hb⟩ := hrel
    clear HT0 hBB
    by_cases hlt : L ≤ N
    · have hli : (L : Int) ≤ (N : Int) := by omega
      obtain ⟨G, rfl⟩ := hT.out.some_ (by omega)
      have hbw := Lib.hid (B3.out.trans (hb.out.mono (Nat.le_succ _)))
      obtain ⟨a0, a1, a2⟩ := C3.out.below hb.out (Nat.lt_succ_self _)
      have hrow := Lib.hid (fun j (h1 : 1 ≤ j) (h2 : j < L) => M.cntT_row Ss m st [] k j h1 (by have := hL.out; omega))
      have hTr := Lib.hid hT.out.read
      have hnl : Hid ((M.nextR Ss (M.cntT Ss m st [] k) m st L).length = m) := M.nextR_len _ _ _ _ _
      have hsucc : Hid (M.cntT Ss m st [] k ++ [M.nextR Ss (M.cntT Ss m st [] k) m st L] = M.cntT Ss m st [] L) := by show _ = _; rw [hL.out]; rfl
      generalize M.cntT Ss m st [] k = T at *
      have HN := Lib.hid (nextCounts st As Ag Ss gs m cm g cg G L c' T wr hIA (Lib.hid (h.out.be hbw.out).rows) hTr hL2 (by omega) hrow)
      obtain ⟨R, hRe⟩ : ∃ R, Hid (M.nextR Ss T m st L = R) := ⟨_, rfl⟩
      rw [hRe.out] at HN hnl hsucc
      have hzr := hb.out.size
      clear hTr hrow hRe
      go_wp2_with fail
      refine HN.out.mono ?_
      rintro e w8 ⟨g', rfl, ho, hb8⟩
      have hT2 := Lib.hid (hT.out.be hb8.out)
      have ho8 : Hid (Own64 w8 (w.heap.size + 1) (.slice (some ⟨g', 0, none⟩) m m) R) := own_mono ho (by omega)
      have hz8 : w.heap.size + 1 ≤ w8.heap.size := by have := hb8.out.size; omega
      have hb9 : Hid (Below (w.heap.size + 1) w3 w8) := hb.out.trans (hb8.out.mono (by omega))
      have hne : Hid (∀ b, (Value.slice (some ⟨G, 0, none⟩) L c').ownBlock = some b → (Value.slice (some ⟨g', 0, none⟩) m m).ownBlock ≠ some b) := fun b hb1 hb2 => by
        have h1 := (hT.out.lt hb1).2
        have h2 := (ho.lt b hb2).1
        omega
      clear a0 a1 a2 hT hb ho hb8 HN hbw
      go_wp2_with (at_builtin; refine pushTab rfl (.tmp 26) (.tmp 30) rfl w8 (w.heap.size + 1) (some ⟨G, 0, none⟩) L c' T (some ⟨g', 0, none⟩) m m R rfl _ rfl rfl hT2 ho8 hnl hne hz8 (by omega) ?_; intro A5 c5 w5 hT5 hb5)
      rw [hsucc.out] at hT5
      have hb6 : Hid (Below (w.heap.size + 1) w3 w5) := hb9.out.trans hb5.out
      have h2 : Hid (L + 1 = L + 1) := rfl
      go_roundw
      case rel => exact ⟨L + 1, L, c5, A5, h2, by omega, by omega, rfl, hT5, hb6⟩
      case measure => simp; omega
    · obtain rfl : L = N + 1 := by omega
      have hli : ¬ ((N + 1 : Nat) : Int) ≤ (N : Int) := by omega
      obtain ⟨G, rfl⟩ := hT.out.some_ (by omega)
      have hT2 := hT.out
      rw [show k = N by have := hL.out; omega] at hT2
      obtain ⟨A2, c2, f1, f2, _⟩ := hT2.at_ hat.out
      rw [hcl.out] at f1 f2
      have Ho : Hid (Own64 wr w.heap.size (.slice A2 m c2) (M.counts Ss m st N)) := own_mono f2 (by omega)
      have hB2 : Hid (Below w.heap.size w wr) := B3.out.trans (hb.out.mono (Nat.le_succ _))
      have hki2 : (N : Int) < (N : Int) + 1 := by omega
      have hk0 : (0 : Int) ≤ (N : Int) := by omega
      clear hT2 f2 hT hb
      go_wp2
      go_ret2
      rw [hcl.out]
      exact ⟨_, _, rfl, Ho.out, hB2⟩
end Go.Proofs.Ytcipafjibkclcaa
