/- CountTaken, the program's and the model's. -/
import Derived.Test.YtcipafjibkclcaaCountImp
import Derived.Test.YtcipafjibkclcaaTakenM
import Derived.Test.YtcipafjibkclcaaGood
namespace Go.Proofs.Ytcipafjibkclcaa
open Go.RowKit

def F_CountTaken (st : Int) (Ss : List (List Int)) (gs : List Int) (n : Int) : Int × Int := if codeN st Ss gs n = 0 then (M.gSum (M.counts Ss Ss.length st n.toNat) gs gs.length, 0) else (0, codeN st Ss gs n)
theorem codeN_is {st : Int} {Ss : List (List Int)} {gs : List Int} {n : Int} (h : codeN st Ss gs n = 0) : M.isAuto st Ss gs = true ∧ (decide (1 ≤ n) && decide (n ≤ 30)) = true := by
  have hia : M.isAuto st Ss gs = true := by
    cases hh : M.isAuto st Ss gs with
    | true => rfl
    | false => rw [codeN_1 hh] at h; cases h
  refine ⟨hia, ?_⟩
  cases hh : (decide (1 ≤ n) && decide (n ≤ 30)) with
  | true => rfl
  | false => rw [codeN_2 hia hh] at h; cases h

/-- an automaton and a number to a number and a code -/
def GivesTaken (f : Nat) : Prop :=
  ∀ (st : Int) (As Ag : Option Addr) (Ss : List (List Int)) (gs : List Int) (m cm g cg : Nat) (n : Int) (w : World), Hid (Ss.length = m) → m ≤ 1048576 → Hid (gs.length = g) → g ≤ 1048576 → Hid (AutoR w As Ss Ag gs) →
    Calls Try.prog f #[.agg #[.int .i64 st, .slice As m cm, .slice Ag g cg], .int .i64 n] w fun e w' => e = .returned (.tuple #[.int .i64 (F_CountTaken st Ss gs n).1, .int .i64 (F_CountTaken st Ss gs n).2]) ∧ Hid (Below w.heap.size w w')

set_option maxRecDepth 100000 in
set_option maxHeartbeats 2000000 in
theorem impl_CountTaken : GivesTaken 37 := by
  intro st As Ag Ss gs m cm g cg n w hm hm' hg hg' h
  obtain ⟨W, hW⟩ : ∃ W, W = w.alloc (.cells #[.int .i64 st, .slice As m cm, .slice Ag g cg] 40) := ⟨_, rfl⟩
  have C1 : Hid (BoxA W w.heap.size st As m cm Ag g cg) := by subst hW; exact BoxA.new _ _ _ _ _ _ _ _ _
  have hBW : Hid (Below w.heap.size w W) := by subst hW; exact bal (b0 w) _
  have HW := Lib.hid hW
  clear hW
  have HC := impl_CountByState st As Ag Ss gs m cm g cg n W hm hm' hg hg' (Lib.hid (h.out.be hBW.out))
  by_cases h0 : codeN st Ss gs n = 0
  · obtain ⟨hia, hin⟩ := codeN_is h0
    have hn1 : 1 ≤ n ∧ n ≤ 30 := by simpa using hin
    have hF : F_CountTaken st Ss gs n = (M.gSum (M.counts Ss m st n.toNat) gs g, 0) := by rw [F_CountTaken, if_pos h0, hm.out, hg.out]
    rw [hF]
    rw [F_Count_0 hia hin, hm.out] at HC
    have hIA : Hid (M.IsA st Ss gs m) := by rw [← hm.out]; exact M.isA_of hia
    have hcl : Hid ((M.counts Ss m st n.toNat).length = m) := M.counts_len Ss m st (n := n.toNat) (by omega)
    rw [hcl.out] at HC
    generalize M.counts Ss m st n.toNat = R at *
    have HC := Lib.hid HC
    clear hF h0 hia hin hn1
    go_enter Try.func37, Try.ntmps37
    go_wp2_with fail
    rw [← HW.out]
    obtain ⟨a0, a1, a2⟩ := C1.out
    refine HC.out.mono ?_
    rintro e w1 ⟨A', c', rfl, ho, hb⟩
    obtain ⟨a0', a1', a2'⟩ := C1.out.be hb.out
    have B1 : Hid (Below w.heap.size w w1) := btr hBW.out hb.out
    have hG := Lib.hid (h.out.be B1.out).good
    have hm1 := hIA.out.pos
    have Ho := Lib.hid ho
    clear a0 a1 a2 ho hb HC
    go_wp2
    clear a0' a1' a2'
    go_loopw [8, 23] (fun q i wr => ∃ k : Nat, k ≤ g ∧ i = .int .i64 (k : Int) ∧ q = .int .i64 (M.gSum R gs k) ∧ w1 = wr) (fun _ i _ => g - (intOf i).toNat)
    case atStart => exact ⟨0, Nat.zero_le _, rfl, rfl, rfl⟩
    case round =>
      obtain ⟨k, hk, rfl, rfl, rfl⟩ := hrel
      by_cases hlt : k < g
      · have hki : (k : Int) < (g : Int) := by omega
        have hk0 : (0 : Int) ≤ (k : Int) := by omega
        obtain ⟨b, off, x, rfl, hbl, hc, hX⟩ := hG.out.at_ (k := k) (by rw [hg.out]; exact hlt)
        have hxr := M.goodTo_range hIA.out.good x (List.mem_of_getElem? hX.out)
        obtain ⟨s, rfl⟩ := Int.eq_ofNat_of_zero_le hxr.1
        obtain ⟨y, hy⟩ : ∃ y, R[s]? = some y := ⟨_, List.getElem?_eq_getElem (by rw [hcl.out]; omega)⟩
        obtain ⟨G, rfl⟩ : ∃ G, A' = some ⟨G, 0, none⟩ := by
          rcases Ho.out.2 with ⟨h0, _⟩ | ⟨gg, cap, cur, hvv, _⟩
          · injection h0 with _ e _; omega
          · injection hvv with e; exact ⟨gg, e⟩
        have cc := (own64_cell Ho.out hcl.out hy).1
        have hsm : (s : Int) < (m : Int) := hxr.2
        have hs0 : (0 : Int) ≤ (s : Int) := hxr.1
        obtain ⟨q, hq⟩ : ∃ q, IntKind.i64.wrap (M.gSum R gs k + y) = q := ⟨_, rfl⟩
        have hst : Hid (M.gSum R gs (k + 1) = q) := (M.gSum_step hX.out hy).trans hq
        generalize M.gSum R gs k = z at *
        clear hX hy hxr
        go_wp2
        go_roundw
        case rel => exact ⟨k + 1, by omega, by go_num, by rw [hst.out], trivial⟩
        case measure => simp [intOf]; omega
      · obtain rfl : k = g := by omega
        have hge : ¬ (k : Int) < (k : Int) := by omega
        go_wp2
        go_ret2
        exact ⟨rfl, B1⟩
  · have hne : (codeN st Ss gs n != 0) = true := by simp [h0]
    have hF : F_CountTaken st Ss gs n = (0, codeN st Ss gs n) := by rw [F_CountTaken, if_neg h0]
    have hF2 : F_CountByState st Ss gs n = ([], codeN st Ss gs n) := by rw [F_CountByState, if_neg h0]
    rw [hF]
    rw [hF2] at HC
    generalize codeN st Ss gs n = cd at *
    have HC := Lib.hid HC
    clear hF hF2 h
    go_enter Try.func37, Try.ntmps37
    go_wp2_with fail
    rw [← HW.out]
    obtain ⟨a0, a1, a2⟩ := C1.out
    refine HC.out.mono ?_
    rintro e w1 ⟨A', c', rfl, _, hb⟩
    have B1 : Hid (Below w.heap.size w w1) := btr hBW.out hb.out
    go_wp2
    go_ret2
    exact ⟨rfl, B1⟩

set_option maxRecDepth 100000 in
set_option maxHeartbeats 2000000 in
theorem spec_CountTaken : GivesTaken 36 := by
  intro st As Ag Ss gs m cm g cg n w hm hm' hg hg' h
  obtain ⟨W, hW⟩ : ∃ W, W = w.alloc (.cells #[.int .i64 st, .slice As m cm, .slice Ag g cg] 40) := ⟨_, rfl⟩
  have C1 : Hid (BoxA W w.heap.size st As m cm Ag g cg) := by subst hW; exact BoxA.new _ _ _ _ _ _ _ _ _
  have hBW : Hid (Below w.heap.size w W) := by subst hW; exact bal (b0 w) _
  have HW := Lib.hid hW
  clear hW
  have HC := Lib.hid (l06Code st As Ag Ss gs m cm g cg n W hm hm' hg hg' (Lib.hid (h.out.be hBW.out)))
  by_cases h0 : codeN st Ss gs n = 0
  · obtain ⟨hia, hin⟩ := codeN_is h0
    have hn1 : 1 ≤ n ∧ n ≤ 30 := by simpa using hin
    have hF : F_CountTaken st Ss gs n = (M.gSum (M.counts Ss m st n.toNat) gs g, 0) := by rw [F_CountTaken, if_pos h0, hm.out, hg.out]
    rw [hF]
    rw [h0] at HC
    obtain ⟨N, rfl⟩ := Int.eq_ofNat_of_zero_le (show 0 ≤ n by omega)
    rw [Int.toNat_natCast]
    have hIA : Hid (M.IsA st Ss gs m) := by rw [← hm.out]; exact M.isA_of hia
    have hcl : Hid ((M.counts Ss m st N).length = m) := M.counts_len Ss m st (n := N) (by omega)
    have hat := Lib.hid (M.counts_at Ss m st (List.replicate m 0) (n := N) (by omega))
    have HN : Hid (∀ W', Hid (Below W.heap.size W W') → Calls Try.prog 82 #[.agg #[.int .i64 st, .slice As m cm, .slice Ag g cg], .int .i64 (N : Int)] W' fun e w' => ∃ A' c', e = .returned (.slice A' (N + 1) c') ∧ Tab w' W'.heap.size (.slice A' (N + 1) c') (M.cntT Ss m st (List.replicate m 0) N) ∧ Hid (Below W'.heap.size W' w')) := fun W' hW' =>
      l06Counts st As Ag Ss gs m cm g cg N W' hIA (Lib.hid (h.out.be (btr hBW.out hW'.out)).rows) (by omega) (by omega)
    have HG : Hid (∀ (s : Nat) W', Hid (Below W.heap.size W W') → ∀ b : Bool, Hid (decide ((s : Int) ∈ gs) = b) → Calls Try.prog 78 #[.agg #[.int .i64 st, .slice As m cm, .slice Ag g cg], .int .i64 (s : Int)] W' fun e w' => e = .returned (.bool b) ∧ Hid (Below W'.heap.size W' w')) := fun s W' hW' b hb =>
      l06Good st As Ag gs m cm g cg s W' hg hg' (Lib.hid (h.out.be (btr hBW.out hW'.out)).good) b hb
    have hup0 := Lib.hid (M.upto_zero hIA.out.good)
    have hki : (N : Int) < ((N + 1 : Nat) : Int) := by omega
    have hki2 : (N : Int) < (N : Int) + 1 := by omega
    have hk0 : (0 : Int) ≤ (N : Int) := by omega
    have hm1 := hIA.out.pos
    generalize M.counts Ss m st N = R at *
    clear hF h0 hia hin hn1 h
    go_enter Try.func36, Try.ntmps36
    go_wp2_with fail
    rw [← HW.out]
    obtain ⟨a0, a1, a2⟩ := C1.out
    refine HC.out.mono ?_
    rintro e w1 ⟨rfl, hb⟩
    obtain ⟨a0', a1', a2'⟩ := C1.out.be hb.out
    have B1 := hb
    clear a0 a1 a2 hb HC
    go_wp2_with fail
    refine (HN.out _ B1).mono ?_
    rintro e w2 ⟨A', c', rfl, hT, hb⟩
    have B2 : Hid (Below W.heap.size W w2) := btr B1.out hb.out
    obtain ⟨G, rfl⟩ := hT.some_ (by omega)
    obtain ⟨bb, ob, cb, hbb, fb, Fb⟩ := hT.read.num hat.out hcl.out hm1
    have hGl := hT.read.1
    have FB := Lib.hid Fb
    have Cb := Lib.hid fb
    have hBB := Lib.hid (b0 w2)
    clear a0' a1' a2' hT hb fb Fb HN
    go_wp2
    go_loopw [7, 9] (fun q i wr => ∃ s j : Nat, s ≤ m ∧ i = .int .i64 (s : Int) ∧ q = .int .i64 (M.gSum R gs j) ∧ Hid (M.Upto gs s j) ∧ Hid (Below w2.heap.size w2 wr)) (fun _ i _ => m - (intOf i).toNat)
    case atStart => exact ⟨0, 0, Nat.zero_le _, rfl, rfl, hup0, hBB⟩
    case round =>
      obtain ⟨s, j, hs, rfl, rfl, hu, hbr⟩ := hrel
      clear hup0 hBB
      have hbw : Hid (Below W.heap.size W wr) := btr B2.out hbr.out
      obtain ⟨a0, a1, a2⟩ := C1.out.be hbw.out
      by_cases hsm : s < m
      · have hsi : (s : Int) < (m : Int) := by omega
        have hs0 : (0 : Int) ≤ (s : Int) := by omega
        obtain ⟨b, hbG⟩ : ∃ b : Bool, Hid (decide ((s : Int) ∈ gs) = b) := ⟨decide ((s : Int) ∈ gs), rfl⟩
        have HGs := Lib.hid (HG.out s wr hbw b hbG)
        cases b
        · have hu2 := Lib.hid (M.upto_out hu.out (of_decide_eq_false hbG.out))
          go_wp2_with fail
          refine HGs.out.mono ?_
          rintro e w5 ⟨rfl, hb5⟩
          have hb6 : Hid (Below w2.heap.size w2 w5) := btr hbr.out hb5.out
          clear hu hbr hb5 hbw a0 a1 a2 HGs
          go_wp2
          go_roundw
          case rel => exact ⟨s + 1, j, by omega, by go_num, rfl, hu2, hb6⟩
          case measure => simp [intOf]; omega
        · obtain ⟨hjs, hu2'⟩ := M.upto_in hIA.out.good hu.out (of_decide_eq_true hbG.out)
          have hu2 := Lib.hid hu2'
          obtain ⟨y, hy⟩ : ∃ y, R[s]? = some y := ⟨_, List.getElem?_eq_getElem (by rw [hcl.out]; omega)⟩
          obtain ⟨q, hq⟩ : ∃ q, IntKind.i64.wrap (M.gSum R gs j + y) = q := ⟨_, rfl⟩
          have hst : Hid (M.gSum R gs (j + 1) = q) := (M.gSum_step hjs hy).trans hq
          have Hy := Lib.hid hy
          clear hjs hu2' hy
          generalize M.gSum R gs j = z at *
          go_wp2_with fail
          refine HGs.out.mono ?_
          rintro e w5 ⟨rfl, hb5⟩
          have hb6 : Hid (Below w2.heap.size w2 w5) := btr hbr.out hb5.out
          have g1 := (hb6.out.cell (p := ⟨bb, ob + s, none⟩) hbb).trans (FB.out s y Hy.out)
          have g2 := (hb6.out.cell (p := ⟨G, N, none⟩) hGl).trans Cb.out
          clear hu hbr hb5 hbw a0 a1 a2 HGs
          go_wp2
          go_roundw
          case rel => exact ⟨s + 1, j + 1, by omega, by go_num, by rw [hst.out], hu2, hb6⟩
          case measure => simp [intOf]; omega
      · obtain rfl : s = m := by omega
        have hge : ¬ (s : Int) < (s : Int) := by omega
        have hje : j = g := by rw [← hg.out]; exact M.upto_end hIA.out.good hu.out
        subst hje
        have hret : Hid (Below w.heap.size w wr) := btr hBW.out hbw.out
        clear hu
        go_wp2
        go_ret2
        exact ⟨rfl, hret⟩
  · have hne : (codeN st Ss gs n != 0) = true := by simp [h0]
    have hF : F_CountTaken st Ss gs n = (0, codeN st Ss gs n) := by rw [F_CountTaken, if_neg h0]
    rw [hF]
    generalize codeN st Ss gs n = cd at *
    clear hF h
    go_enter Try.func36, Try.ntmps36
    go_wp2_with fail
    rw [← HW.out]
    obtain ⟨a0, a1, a2⟩ := C1.out
    refine HC.out.mono ?_
    rintro e w1 ⟨rfl, hb⟩
    have B1 : Hid (Below w.heap.size w w1) := btr hBW.out hb.out
    go_wp2
    go_ret2
    exact ⟨rfl, B1⟩
end Go.Proofs.Ytcipafjibkclcaa
