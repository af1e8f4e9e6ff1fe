/- IsAutomaton, the program's and the model's: both tell whether the numbers are an automaton's. -/
import Derived.Test.YtgcabcmnhdaepaaAuto
import Derived.Test.YtgcabcmnhdaepaaLeastIn
import Derived.Test.YtgcabcmnhdaepaaMax
namespace Go.Proofs.Ytgcabcmnhdaepaa
open Go.RowKit

set_option maxRecDepth 100000 in
set_option maxHeartbeats 2000000 in
theorem impl_IsAutomaton (st : Int) (As Ag : Option Addr) (Ss : List (List Int)) (gs : List Int) (m cm g cg : Nat) (w : World) (hm : Hid (Ss.length = m)) (hm' : m ≤ 1048576) (hg : Hid (gs.length = g)) (hg' : g ≤ 1048576) (h : Hid (AutoR w As Ss Ag gs)) (b : Bool) (hb : Hid (M.isAuto st Ss gs = b)) :
    Calls Try.prog 72 #[.agg #[.int .i64 st, .slice As m cm, .slice Ag g cg]] w fun e w' => e = .returned (.bool b) ∧ Hid (Below w.heap.size w w') := by
  obtain ⟨b1, hb1⟩ : ∃ b1, Hid ((decide (1 ≤ (m : Int)) && decide ((m : Int) ≤ 9)) = b1) := ⟨_, rfl⟩
  obtain ⟨b2, hb2⟩ : ∃ b2, Hid ((decide (0 ≤ st) && decide (st ≤ (m : Int) - 1)) = b2) := ⟨_, rfl⟩
  have HB := Lib.hid (bal (b0 w) (.cells #[.int .i64 st, .slice As m cm, .slice Ag g cg] 27))
  cases b1
  · have hF : b = false := hb.out.symm.trans (M.isAuto_no1 hm.out hb1.out)
    subst hF
    clear h
    go_enter Try.func72, Try.ntmps72
    go_wp2_with (go_at_call 81; refine (withinAny _ _ _ _ _ hb1).mono ?_; rintro e w' ⟨rfl, rfl⟩)
    go_ret
    exact ⟨rfl, HB⟩
  · have hm9 : 1 ≤ m ∧ m ≤ 9 := by have := hb1.out; simp only [Bool.and_eq_true, decide_eq_true_eq] at this; omega
    obtain ⟨hm1, hm9⟩ := hm9
    have w1 : IntKind.i64.wrap ((m : Int) - 1) = (m : Int) - 1 := IntWalk.i64_in _ (by omega)
    cases b2
    · have hF : b = false := hb.out.symm.trans (M.isAuto_no2 hm.out hb2.out)
      subst hF
      clear h
      go_enter Try.func72, Try.ntmps72
      go_wp2_with fail
      refine (withinAny _ _ _ _ _ hb1).mono ?_
      rintro e w' ⟨rfl, rfl⟩
      go_wp2_with fail
      refine (withinAny _ _ _ _ _ hb2).mono ?_
      rintro e w' ⟨rfl, rfl⟩
      go_wp2
      go_ret
      exact ⟨rfl, HB⟩
    · have hR := h.out.rows
      have hG := Lib.hid (h.out.be HB.out).good
      obtain ⟨bb, off, rfl, hbl, hc⟩ := hR (by rw [hm.out]; exact hm1)
      have HC := Lib.hid hc
      have hsz : w.heap.size < (w.alloc (.cells #[.int .i64 st, .slice (some ⟨bb, off, none⟩) m cm, .slice Ag g cg] 27)).heap.size := by simp
      clear hc hR
      go_enter Try.func72, Try.ntmps72
      go_wp2_with fail
      refine (withinAny _ _ _ _ _ hb1).mono ?_
      rintro e w' ⟨rfl, rfl⟩
      go_wp2_with fail
      refine (withinAny _ _ _ _ _ hb2).mono ?_
      rintro e w' ⟨rfl, rfl⟩
      go_wp2
      go_loopw [23] (fun i wr => ∃ k : Nat, k ≤ m ∧ i = .int .i64 (k : Int) ∧ wr = (w.alloc (.cells #[.int .i64 st, .slice (some ⟨bb, off, none⟩) m cm, .slice Ag g cg] 27)) ∧ Hid (M.rowsTo m Ss k = true)) (fun i _ => m - (intOf i).toNat)
      case atStart => exact ⟨0, Nat.zero_le _, rfl, rfl, rfl⟩
      case round =>
        obtain ⟨k, hk, rfl, rfl, hr⟩ := hrel
        by_cases hlt : k < m
        · have hki : (k : Int) < (m : Int) := by omega
          have hk0 : (0 : Int) ≤ (k : Int) := by omega
          have hkz : k < Ss.length := by rw [hm.out]; exact hlt
          have hat : Ss[k]? = some Ss[k] := List.getElem?_eq_getElem hkz
          generalize Ss[k] = zs at hat
          obtain ⟨A1, c1, h1, h2, h3⟩ := HC.out k zs hat
          have hcl := (HB.out.cell (p := ⟨bb, off + k, none⟩) hbl).trans h1
          have hI := Lib.hid (h3.be HB.out)
          obtain ⟨l, hl⟩ : ∃ l, Hid (zs.length = l) := ⟨_, rfl⟩
          have Hat := Lib.hid hat
          rw [hl.out] at hcl h2
          clear hat h1 h3 hkz
          by_cases hlm : l = m
          · subst hlm
            have hne : ((l : Int) != (l : Int)) = false := by simp
            obtain ⟨y, hy⟩ : ∃ y, Hid (M.minTo zs zs.length = y) := ⟨_, rfl⟩
            have HMin := Lib.hid (slicesMin A1 zs c1 _ (by rw [hl.out]; omega) (by rw [hl.out]; omega) hI y hy)
            rw [hl.out] at HMin
            by_cases hy0 : y < 0
            · have hF : b = false := hb.out.symm.trans (M.isAuto_no3 hm.out Hat.out (M.rowOk_neg (by rw [hl.out]; omega) (by rw [hy.out]; exact hy0)))
              subst hF
              go_wp2_with (go_at_call 114; refine HMin.out.mono ?_; rintro e w' ⟨rfl, rfl⟩)
              go_ret
              exact ⟨rfl, HB⟩
            · have hpos := Lib.hid (M.min_pos (r := zs) (by rw [hy.out]; exact hy0))
              obtain ⟨z, hz⟩ : ∃ z, Hid (M.maxTo zs zs.length = z) := ⟨_, rfl⟩
              have HMax := Lib.hid (slicesMax A1 zs c1 _ (by rw [hl.out]; omega) (by rw [hl.out]; omega) hpos hI.out z hz)
              rw [hl.out] at HMax
              by_cases hzm : (l : Int) ≤ z
              · have hF : b = false := hb.out.symm.trans (M.isAuto_no3 hm.out Hat.out (M.rowOk_big (by omega) (by rw [hz.out]; exact hzm)))
                subst hF
                go_wp2_with fail
                refine HMin.out.mono ?_
                rintro e w' ⟨rfl, rfl⟩
                go_wp2_with fail
                refine HMax.out.mono ?_
                rintro e w' ⟨rfl, rfl⟩
                go_wp2
                go_ret
                exact ⟨rfl, HB⟩
              · have hr2 : Hid (M.rowsTo l Ss (k + 1) = true) := by show _ = _; rw [M.rowsTo_succ Hat.out, hr.out, M.rowOk_yes (by rw [hl.out]) hpos.out (by rw [hz.out]; omega)]; rfl
                clear hr hy hz hpos
                go_wp2_with fail
                refine HMin.out.mono ?_
                rintro e w' ⟨rfl, rfl⟩
                go_wp2_with fail
                refine HMax.out.mono ?_
                rintro e w' ⟨rfl, rfl⟩
                go_wp2
                go_roundw
                case rel => exact ⟨k + 1, by omega, by go_num, trivial, hr2⟩
                case measure => simp [intOf]; omega
          · have hne : ((l : Int) != (m : Int)) = true := by simp; omega
            have hF : b = false := hb.out.symm.trans (M.isAuto_no3 hm.out Hat.out (M.rowOk_len (by rw [hl.out]; omega)))
            subst hF
            clear hlm
            go_wp2
            go_ret
            exact ⟨rfl, HB⟩
        · obtain rfl : k = m := by omega
          have hge : ¬ (k : Int) < (k : Int) := by omega
          have hF : b = M.goodTo gs k g := hb.out.symm.trans (M.isAuto_end hm.out hg.out hb1.out hb2.out hr.out)
          have HA := Lib.hid (isAscendingBelow Ag gs g cg k _ hg hg' (by omega) hG)
          rw [← hF] at HA
          clear hF hlt
          go_wp2_with (go_at_call 116; refine HA.out.mono ?_; rintro e w' ⟨rfl, rfl⟩)
          go_ret
          exact ⟨rfl, HB⟩

set_option maxRecDepth 100000 in
set_option maxHeartbeats 4000000 in
theorem l06Is (st : Int) (As Ag : Option Addr) (Ss : List (List Int)) (gs : List Int) (m cm g cg : Nat) (w : World) (hm : Hid (Ss.length = m)) (hm' : m ≤ 1048576) (hg : Hid (gs.length = g)) (hg' : g ≤ 1048576) (h : Hid (AutoR w As Ss Ag gs)) (b : Bool) (hb : Hid (M.isAuto st Ss gs = b)) :
    Calls Try.prog 68 #[.agg #[.int .i64 st, .slice As m cm, .slice Ag g cg]] w fun e w' => e = .returned (.bool b) ∧ Hid (Below w.heap.size w w') := by
  obtain ⟨b1, hb1⟩ : ∃ b1, Hid ((decide (1 ≤ (m : Int)) && decide ((m : Int) ≤ 9)) = b1) := ⟨_, rfl⟩
  obtain ⟨b2, hb2⟩ : ∃ b2, Hid ((decide (0 ≤ st) && decide (st ≤ (m : Int) - 1)) = b2) := ⟨_, rfl⟩
  have HB := Lib.hid (bal (b0 w) (.cells #[.int .i64 st, .slice As m cm, .slice Ag g cg] 27))
  cases b1
  · have hF : b = false := hb.out.symm.trans (M.isAuto_no1 hm.out hb1.out)
    subst hF
    clear h
    go_enter Try.func68, Try.ntmps68
    go_wp2_with (go_at_call 77; refine (inAny _ _ _ _ _ hb1).mono ?_; rintro e w' ⟨rfl, rfl⟩)
    go_ret
    exact ⟨rfl, HB⟩
  · have hm9 : 1 ≤ m ∧ m ≤ 9 := by have := hb1.out; simp only [Bool.and_eq_true, decide_eq_true_eq] at this; omega
    obtain ⟨hm1, hm9⟩ := hm9
    have w1 : IntKind.i64.wrap ((m : Int) - 1) = (m : Int) - 1 := IntWalk.i64_in _ (by omega)
    cases b2
    · have hF : b = false := hb.out.symm.trans (M.isAuto_no2 hm.out hb2.out)
      subst hF
      clear h
      go_enter Try.func68, Try.ntmps68
      go_wp2_with fail
      refine (inAny _ _ _ _ _ hb1).mono ?_
      rintro e w' ⟨rfl, rfl⟩
      go_wp2_with fail
      refine (inAny _ _ _ _ _ hb2).mono ?_
      rintro e w' ⟨rfl, rfl⟩
      go_wp2
      go_ret
      exact ⟨rfl, HB⟩
    · have hR := h.out.rows
      have hG := Lib.hid (h.out.be HB.out).good
      obtain ⟨bb, off, rfl, hbl, hc⟩ := hR (by rw [hm.out]; exact hm1)
      have HC := Lib.hid hc
      clear hc hR
      go_enter Try.func68, Try.ntmps68
      go_wp2_with fail
      refine (inAny _ _ _ _ _ hb1).mono ?_
      rintro e w' ⟨rfl, rfl⟩
      go_wp2_with fail
      refine (inAny _ _ _ _ _ hb2).mono ?_
      rintro e w' ⟨rfl, rfl⟩
      go_wp2
      obtain ⟨W, hW⟩ : ∃ W, W = (w.alloc (.cells #[.int .i64 st, .slice (some ⟨bb, off, none⟩) m cm, .slice Ag g cg] 27)) := ⟨_, rfl⟩
      have cS : W.cell? ⟨w.heap.size, 1, none⟩ = some (.slice (some ⟨bb, off, none⟩) m cm) := by rw [hW]; simp [go_sem]
      have cG : W.cell? ⟨w.heap.size, 2, none⟩ = some (.slice Ag g cg) := by rw [hW]; simp [go_sem]
      rw [← hW] at HB hG ⊢
      clear hW
      go_loopw [4] (fun i wr => ∃ k : Nat, k ≤ m ∧ i = .int .i64 (k : Int) ∧ W = wr ∧ Hid (M.rowsTo m Ss k = true)) (fun i _ => m - (intOf i).toNat)
      case atStart => exact ⟨0, Nat.zero_le _, rfl, rfl, rfl⟩
      case round =>
        obtain ⟨k, hk, rfl, rfl, hr⟩ := hrel
        by_cases hlt : k < m
        · have hki : (k : Int) < (m : Int) := by omega
          have hk0 : (0 : Int) ≤ (k : Int) := by omega
          have hkz : k < Ss.length := by rw [hm.out]; exact hlt
          have hat : Ss[k]? = some Ss[k] := List.getElem?_eq_getElem hkz
          generalize Ss[k] = zs at hat
          obtain ⟨A1, c1, h1, h2, h3⟩ := HC.out k zs hat
          have hcl := (HB.out.cell (p := ⟨bb, off + k, none⟩) hbl).trans h1
          have hI := Lib.hid (h3.be HB.out)
          obtain ⟨l, hl⟩ : ∃ l, Hid (zs.length = l) := ⟨_, rfl⟩
          have Hat := Lib.hid hat
          rw [hl.out] at hcl h2
          clear hat h1 h3 hkz
          by_cases hlm : l = m
          · subst hlm
            have hne : ((l : Int) != (l : Int)) = false := by simp
            obtain ⟨b', off', rfl, hbl', hcells⟩ := hI.out (by rw [hl.out]; omega)
            have Hcells := Lib.hid hcells
            clear hcells
            go_wp2
            clear hne
            go_loopw [5] (fun i wr => ∃ j : Nat, j ≤ l ∧ i = .int .i64 (j : Int) ∧ W = wr ∧ Hid (M.cellsTo l zs j = true)) (fun i _ => l - (intOf i).toNat)
            case atStart => exact ⟨0, Nat.zero_le _, rfl, rfl, rfl⟩
            case round =>
              obtain ⟨j, hj, rfl, rfl, hcj⟩ := hrel
              by_cases hjl : j < l
              · have hji : (j : Int) < (l : Int) := by omega
                have hj0 : (0 : Int) ≤ (j : Int) := by omega
                obtain ⟨x, hx⟩ : ∃ x, zs[j]? = some x := ⟨_, List.getElem?_eq_getElem (by rw [hl.out]; exact hjl)⟩
                have hxc := Hcells.out j x hx
                obtain ⟨bx, hbx⟩ : ∃ bx, Hid ((decide (0 ≤ x) && decide (x ≤ (l : Int) - 1)) = bx) := ⟨_, rfl⟩
                have Hx := Lib.hid hx
                clear hx
                cases bx
                · have hno : M.rowOk l zs = false := by
                    have := M.cellsTo_no Hx.out (n := zs.length) (by rw [hl.out]; exact hjl) hbx.out
                    rw [M.rowOk, this, Bool.and_false]
                  have hF : b = false := hb.out.symm.trans (M.isAuto_no3 hm.out Hat.out hno)
                  subst hF
                  clear hno
                  go_wp2_with (go_at_call 77; refine (inAny _ _ _ _ _ hbx).mono ?_; rintro e w' ⟨rfl, rfl⟩)
                  go_ret
                  exact ⟨rfl, HB⟩
                · have hcj2 : Hid (M.cellsTo l zs (j + 1) = true) := by show _ = _; rw [M.cellsTo_succ Hx.out, hcj.out, hbx.out]; rfl
                  clear hcj
                  go_wp2_with (go_at_call 77; refine (inAny _ _ _ _ _ hbx).mono ?_; rintro e w' ⟨rfl, rfl⟩)
                  go_roundw
                  case rel => exact ⟨j + 1, by omega, by go_num, trivial, hcj2⟩
                  case measure => simp [intOf]; omega
              · obtain rfl : j = l := by omega
                have hge : ¬ (j : Int) < (j : Int) := by omega
                have hr2 : Hid (M.rowsTo j Ss (k + 1) = true) := by
                  show _ = _
                  rw [M.rowsTo_succ Hat.out, hr.out, M.rowOk, hl.out, hcj.out]; simp
                clear hr hcj
                go_wp2
                go_roundw
                case rel => exact ⟨k + 1, by omega, by go_num, trivial, hr2⟩
                case measure => simp [intOf]; omega
          · have hne : ((l : Int) != (m : Int)) = true := by simp; omega
            have hF : b = false := hb.out.symm.trans (M.isAuto_no3 hm.out Hat.out (M.rowOk_len (by rw [hl.out]; omega)))
            subst hF
            clear hlm
            go_wp2
            go_ret
            exact ⟨rfl, HB⟩
        · obtain rfl : k = m := by omega
          have hge : ¬ (k : Int) < (k : Int) := by omega
          have hF : Hid (M.goodTo gs k g = b) := (M.isAuto_end hm.out hg.out hb1.out hb2.out hr.out).symm.trans hb.out
          have HBB := Lib.hid (b0 W)
          clear hr hlt hbl HC h hb1 hb2
          go_wp2
          have HcG := Lib.hid cG
          clear cS hb hm
          go_loopw [6] (fun i wr => ∃ j : Nat, j ≤ g ∧ i = .int .i64 (j : Int) ∧ Hid (M.goodTo gs k j = true) ∧ Hid (Below W.heap.size W wr)) (fun i _ => g - (intOf i).toNat)
          case atStart => exact ⟨0, Nat.zero_le _, rfl, rfl, HBB⟩
          case round =>
            obtain ⟨j, hj, rfl, hgj, hbr⟩ := hrel
            have cR := cellK hbr.out HcG.out
            have hRet := Lib.hid (btr HB.out hbr.out)
            clear cG
            by_cases hlt : j < g
            · have hji : (j : Int) < (g : Int) := by omega
              have hj0 : (0 : Int) ≤ (j : Int) := by omega
              obtain ⟨x, hx⟩ : ∃ x, gs[j]? = some x := ⟨_, List.getElem?_eq_getElem (by rw [hg.out]; exact hlt)⟩
              obtain ⟨b', off', rfl, hbl', hcells⟩ := hG.out (by rw [hg.out]; omega)
              have hxc := (hbr.out.cell (p := ⟨b', off' + j, none⟩) hbl').trans (hcells j x hx)
              obtain ⟨bx, hbx⟩ : ∃ bx, Hid ((decide (0 ≤ x) && decide (x ≤ (k : Int) - 1)) = bx) := ⟨_, rfl⟩
              have hIn : Hid (∀ q, Calls Try.prog 77 #[.int .i64 x, .int .i64 0, .int .i64 ((k : Int) - 1)] (wr.drewN q) fun e w' => e = .returned (.bool bx) ∧ w' = wr.drewN q) := fun q => (inAny x 0 ((k : Int) - 1) (wr.drewN q) bx hbx).mono fun e w' ⟨h1, h2⟩ => ⟨h1, h2.symm⟩
              have hgi := Lib.hid (M.goodAt_iff (vs := gs) (n := (k : Int)) (j := j))
              have Hcells := Lib.hid hcells
              have Hx := Lib.hid hx
              clear hcells hx
              cases bx
              · have hbad : M.goodAt gs k j = false := by
                  cases hh : M.goodAt gs k j
                  · rfl
                  · have h1 := hgi.out.1 hh
                    rw [Hx.out] at h1
                    have h2 := hbx.out
                    simp only [Bool.and_eq_false_iff, decide_eq_false_iff_not] at h2
                    have h3 : (some x).getD 0 = x := rfl
                    omega
                have hFF : b = false := hF.out.symm.trans (M.goodTo_no hlt hbad)
                subst hFF
                clear hbad hgi
                go_wp2
                go_quiet (first | (go_at_call 77; exact Calls.quiet_of_same (hIn.out _)))
                go_wp2
                go_ret
                exact ⟨rfl, below_drewN hRet.out _⟩
              · rcases Nat.eq_zero_or_pos j with h0 | h0
                · subst h0
                  have hg2 : Hid (M.goodTo gs k (0 + 1) = true) := by
                    show _ = _
                    rw [M.goodTo_succ, hgj.out, Bool.true_and, hgi.out, Hx.out]
                    have h2 := hbx.out
                    simp only [Bool.and_eq_true, decide_eq_true_eq] at h2
                    exact ⟨h2.1, by have := h2.2; show x < _; omega, .inl rfl⟩
                  have hxc0 : wr.cell? ⟨b', off', none⟩ = some (.int .i64 x) := by simpa using hxc
                  clear hgi hgj
                  go_wp2
                  go_quiet (first | (go_at_call 77; exact Calls.quiet_of_same (hIn.out _)))
                  go_wp2
                  go_roundw
                  case rel => exact ⟨0 + 1, by omega, by go_num, hg2, below_drewN hbr.out _⟩
                  case measure => simp [intOf]; omega
                · obtain ⟨i, hi⟩ : ∃ i, i + 1 = j := ⟨j - 1, by omega⟩
                  have hij : (j : Int) - 1 = (i : Int) := by omega
                  have hi0 : (0 : Int) ≤ (i : Int) := by omega
                  have hig : (i : Int) < (g : Int) := by omega
                  have hjp : (0 : Int) < (j : Int) := by omega
                  have wi : IntKind.i64.wrap ((j : Int) - 1) = (i : Int) := by rw [hij]; exact IntWalk.i64_in _ (by omega)
                  obtain ⟨y, hy⟩ : ∃ y, gs[i]? = some y := ⟨_, List.getElem?_eq_getElem (by rw [hg.out]; omega)⟩
                  have hyc := (hbr.out.cell (p := ⟨b', off' + i, none⟩) hbl').trans (Hcells.out i y hy)
                  have hy2 : gs[j - 1]? = some y := by rw [show j - 1 = i by omega]; exact hy
                  have Hy := Lib.hid hy2
                  have Hi := Lib.hid hi
                  clear hy hy2 hi
                  by_cases hxy : x ≤ y
                  · have hbad : M.goodAt gs k j = false := by
                      cases hh : M.goodAt gs k j
                      · rfl
                      · have h1 := hgi.out.1 hh
                        rw [Hx.out, Hy.out] at h1
                        have h3 : (some x).getD 0 = x := rfl
                        have h4 : (some y).getD 0 = y := rfl
                        omega
                    have hFF : b = false := hF.out.symm.trans (M.goodTo_no hlt hbad)
                    have hd : decide (x ≤ y) = true := decide_eq_true hxy
                    subst hFF
                    clear hbad hgi
                    go_wp2
                    go_quiet (first | (go_at_call 77; exact Calls.quiet_of_same (hIn.out _)))
                    go_wp2
                    go_ret
                    exact ⟨rfl, below_drewN hRet.out _⟩
                  · have hg2 : Hid (M.goodTo gs k (j + 1) = true) := by
                      show _ = _
                      rw [M.goodTo_succ, hgj.out, Bool.true_and, hgi.out, Hx.out, Hy.out]
                      have h2 := hbx.out
                      simp only [Bool.and_eq_true, decide_eq_true_eq] at h2
                      exact ⟨h2.1, by have := h2.2; show x < _; omega, .inr (by show y < x; omega)⟩
                    have hd : decide (x ≤ y) = false := decide_eq_false hxy
                    clear hgi hgj
                    go_wp2
                    go_quiet (first | (go_at_call 77; exact Calls.quiet_of_same (hIn.out _)))
                    go_wp2
                    go_roundw
                    case rel => exact ⟨j + 1, by omega, by go_num, hg2, below_drewN hbr.out _⟩
                    case measure => simp [intOf]; omega
            · obtain rfl : j = g := by omega
              have hge : ¬ (j : Int) < (j : Int) := by omega
              have hFF : b = true := hF.out.symm.trans hgj.out
              subst hFF
              go_wp2
              go_ret
              exact ⟨rfl, hRet⟩

end Go.Proofs.Ytgcabcmnhdaepaa
