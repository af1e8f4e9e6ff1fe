/- l06Counts: the numbers of trees by states, size by size, the model's. -/
import Derived.Test.YtcipafjibkclcaaNextC
import Derived.BigRegion
namespace Go.Proofs.Ytcipafjibkclcaa
open Go.RowKit

theorem tab_one {w : World} {B g m : Nat} {R : List Int} (hB : B ≤ w.heap.size) (h : Own64 w B (.slice (some ⟨g, 0, none⟩) m m) R) (hl : R.length = m) : Tab (w.alloc (.cells #[.slice (some ⟨g, 0, none⟩) m m] 22)) B (.slice (some ⟨w.heap.size, 0, none⟩) 1 1) [R] := by
  refine ⟨[.slice (some ⟨g, 0, none⟩) m m], rfl, World.ownsRow_lit (e := 22) (size := 1) w #[.slice (some ⟨g, 0, none⟩) m m] 1 hB (by simp [maxLen]) (by simp), fun i v R' e1 e2 => ?_⟩
  have hi : i = 0 := by have := (List.getElem?_eq_some_iff.1 e1).1; simp at this; exact this
  subst hi
  injection e1 with e1
  injection e2 with e2
  subst e1; subst e2
  refine ⟨⟨_, m, by rw [hl]⟩, h.alloc _, fun b hb e => ?_⟩
  have h1 := (h.lt g rfl).2
  injection hb with hb
  injection e with e
  have e' : g = b := e
  have hb' : w.heap.size = b := hb
  omega

theorem own64_made_setK {w : World} {B n k : Nat} (hB : B ≤ w.heap.size) (hn : n ≤ maxLen) (x : Int) :
    Own64 (w.alloc (.cells ((madeCells #[.int .i64 0] n).setIfInBounds k (.int .i64 x)) 2)) B (.slice (some ⟨w.heap.size, 0, none⟩) n n) ((List.replicate n 0).set k x) := by
  have h := World.ownsRow_lit (e := 2) (size := 1) w ((madeCells #[.int .i64 0] n).setIfInBounds k (.int .i64 x)) n hB hn (by simp [size_madeCells])
  rw [Array.toList_setIfInBounds, toList_madeCells_one] at h
  simpa [Own64, List.map_set] using h

set_option maxRecDepth 100000 in
set_option maxHeartbeats 8000000 in
theorem l06Counts (st : Int) (As Ag : Option Addr) (Ss : List (List Int)) (gs : List Int) (m cm g cg n : Nat) (w : World) (hA : Hid (M.IsA st Ss gs m)) (hR : Hid (RowsL w As Ss)) (hn1 : 1 ≤ n) (hn : n ≤ 30) :
    Calls Try.prog 82 #[.agg #[.int .i64 st, .slice As m cm, .slice Ag g cg], .int .i64 (n : Int)] w fun e w' => ∃ A' c', e = .returned (.slice A' (n + 1) c') ∧ Tab w' w.heap.size (.slice A' (n + 1) c') (M.cntT Ss m st (List.replicate m 0) n) ∧ Hid (Below w.heap.size w w') := by
  have hm9 := hA.out.le
  have hm1 := hA.out.pos
  have hst0 := hA.out.st0
  have hst1 := hA.out.st1
  obtain ⟨sn, hsn'⟩ : ∃ sn : Nat, st = (sn : Int) := Int.eq_ofNat_of_zero_le hst0
  have hsn := Lib.hid hsn'
  have hsn3 : (sn : Int) < (m : Int) := by omega
  clear hsn'
  have hmk := run_make_row' (P := Try.prog) 22 2 (.int .i64 0) 8 Try.underlying22 info64 rfl .i64 .i64 m (by omega) (by omega)
  go_enter Try.func82, Try.ntmps82
  go_wp2
  obtain ⟨W, hW⟩ : ∃ W, W = w.alloc (.cells #[.int .i64 st, .slice As m cm, .slice Ag g cg] 40) := ⟨_, rfl⟩
  have hz : W.heap.size = w.heap.size + 1 := by rw [hW]; simp
  have C1 : BoxA W w.heap.size st As m cm Ag g cg := by subst hW; exact BoxA.new _ _ _ _ _ _ _ _ _
  have hBW : Below w.heap.size w W := by subst hW; exact bal (b0 w) _
  have ho0 := own64_made (w := W) (B := w.heap.size + 1) (n := m) (by omega) (by unfold maxLen; omega)
  have hT0 := tab_one (B := w.heap.size + 1) (by simp; omega) ho0 (by simp)
  simp only [World.size_alloc, hz] at hT0
  obtain ⟨W0, hW0⟩ : ∃ W0, W0 = (W.alloc (.cells (madeCells #[.int .i64 0] m) 2)).alloc (.cells #[.slice (some ⟨w.heap.size + 1, 0, none⟩) m m] 22) := ⟨_, rfl⟩
  have hB0 : Hid (Below w.heap.size w W0) := by rw [hW0]; exact bal (bal hBW _) _
  have C0 : Hid (BoxA W0 w.heap.size st As m cm Ag g cg) := by rw [hW0]; exact (C1.al _).al _
  have hT0' : Hid (Tab W0 (w.heap.size + 1) (.slice (some ⟨w.heap.size + 1 + 1, 0, none⟩) 1 1) (M.cntT Ss m st (List.replicate m 0) 0)) := by rw [hW0]; exact hT0
  have hz0 : W0.heap.size = w.heap.size + 3 := by rw [hW0]; simp [hz]
  rw [← hW, ← hW0]
  clear hT0 ho0 C1 hBW hW0 hW
  have hBB := Lib.hid (Below.refl (w.heap.size + 1) W0)
  go_loopw [6, 7] (fun q i wr => ∃ (L k c' : Nat) (A' : Option Addr), Hid (L = k + 1) ∧ 1 ≤ L ∧ L ≤ n + 1 ∧ i = .int .i64 (L : Int) ∧ q = .slice A' L c' ∧ Hid (Tab wr (w.heap.size + 1) (.slice A' L c') (M.cntT Ss m st (List.replicate m 0) k)) ∧ Hid (Below (w.heap.size + 1) W0 wr)) (fun _ i _ => n + 1 - (intOf i).toNat)
  case atStart => exact ⟨1, 0, 1, _, rfl, by omega, by omega, rfl, rfl, hT0', hBB⟩
  case round =>
    obtain ⟨L, k, c', A', hL, hL1, hLn, rfl, rfl, hT, hb⟩ := hrel
    clear hT0' hBB
    by_cases hlt : L ≤ n
    · have hli : (L : Int) ≤ (n : Int) := by omega
      obtain ⟨G, rfl⟩ := hT.out.some_ (by omega)
      obtain ⟨wb, hwb⟩ : ∃ wb, wb = wr := ⟨_, rfl⟩
      subst hwb
      have hzb := hb.out.size
      have ho := own64_made (w := wb) (B := wb.heap.size) (n := m) (Nat.le_refl _) (by unfold maxLen; omega)
      have hbr := Lib.hid (bal (b0 wb) (.cells (madeCells #[.int .i64 0] m) 2))
      have hrow := Lib.hid (fun j h1 h2 => M.cntT_row Ss m st (List.replicate m 0) k j h1 h2)
      have hTr := Lib.hid hT.out.read
      have hnr : ∀ R0, (L = 1 → R0 = (List.replicate m 0).set st.toNat 1) → (L ≠ 1 → R0 = List.replicate m 0) → M.sizeF Ss (M.cntT Ss m st (List.replicate m 0) k) m L (L - 1) R0 = M.nextR Ss (M.cntT Ss m st (List.replicate m 0) k) m st L := fun R0 h1 h2 => by
        rw [M.nextR]
        by_cases hl : L = 1
        · rw [if_pos hl, h1 hl, hl]; rfl
        · rw [if_neg hl, h2 hl]
      have Hnr := Lib.hid hnr
      have hsucc : Hid (M.cntT Ss m st (List.replicate m 0) k ++ [M.nextR Ss (M.cntT Ss m st (List.replicate m 0) k) m st L] = M.cntT Ss m st (List.replicate m 0) L) := by show _ = _; rw [hL.out]; rfl
      have hnl : Hid ((M.nextR Ss (M.cntT Ss m st (List.replicate m 0) k) m st L).length = m) := M.nextR_len _ _ _ _ _
      generalize M.cntT Ss m st (List.replicate m 0) k = T at *
      obtain ⟨N, hN⟩ : ∃ N, Hid (M.nextR Ss T m st L = N) := ⟨_, rfl⟩
      rw [hN.out] at hsucc hnl
      have hne : Hid (∀ b, (Value.slice (some ⟨G, 0, none⟩) L c').ownBlock = some b → (Value.slice (some ⟨wb.heap.size, 0, none⟩) m m).ownBlock ≠ some b) := fun b hb1 hb2 => by
        have h1 := (hT.out.lt hb1).2
        injection hb2 with hb2
        have hb2' : wb.heap.size = b := hb2
        omega
      have C2 := Lib.hid (C0.out.below (B := w.heap.size + 1) hb.out (by omega))
      have hB2 := Lib.hid (hB0.out.trans (hb.out.mono (Nat.le_succ _)))
      by_cases hl1 : L = 1
      · subst hl1
        have hLL : (((1 : Nat) : Int) == 1) = true := by simp
        obtain ⟨a0, a1, a2⟩ := C2.out.al (.cells (madeCells #[.int .i64 0] m) 2)
        have hu : Hid (N = (List.replicate m 0).set sn 1) := by
          show _ = _
          rw [← hN.out, M.nextR, if_pos rfl, hsn.out, Int.toNat_natCast]
        have ho1 : Hid (Own64 (wb.alloc (.cells ((madeCells #[.int .i64 0] m).setIfInBounds sn (.int .i64 1)) 2)) wb.heap.size (.slice (some ⟨wb.heap.size, 0, none⟩) m m) N) := by
          rw [hu.out]
          exact own64_made_setK (Nat.le_refl _) (by unfold maxLen; omega) 1
        have hb1 := Lib.hid (bal (b0 wb) (.cells ((madeCells #[.int .i64 0] m).setIfInBounds sn (.int .i64 1)) 2))
        have hsm : (sn : Int) < (m : Int) := hsn3
        have hs0 : (0 : Int) ≤ (sn : Int) := by omega
        have hy0 : (List.replicate m (0 : Int))[sn]? = some 0 := by rw [List.getElem?_replicate, if_pos (by omega)]
        obtain ⟨k1, k2, _, _⟩ := own64_cell ho (by simp) hy0
        rw [hsn.out] at a0
        clear ho hbr hu Hnr hnr hN
        go_wp2
        clear a0 a1 a2 k1 k2 hmk
        go_loopw [9] (fun i wr => i = .int .i64 ((1 : Nat) : Int) ∧ wb.alloc (.cells ((madeCells #[.int .i64 0] m).setIfInBounds sn (.int .i64 1)) 2) = wr) (fun i _ => 0)
        case atStart => exact ⟨rfl, rfl⟩
        case round =>
          obtain ⟨rfl, rfl⟩ := hrel
          have hge : ¬ ((1 : Nat) : Int) < ((1 : Nat) : Int) := by omega
          obtain ⟨wr, hwr⟩ : ∃ wr, wr = wb.alloc (.cells ((madeCells #[.int .i64 0] m).setIfInBounds sn (.int .i64 1)) 2) := ⟨_, rfl⟩
          rw [← hwr] at ho1 hb1 ⊢
          have hT2 := Lib.hid (hT.out.be hb1.out)
          have ho2 : Hid (Own64 wr (w.heap.size + 1) (.slice (some ⟨wb.heap.size, 0, none⟩) m m) N) := own_mono ho1.out (by omega)
          have hz2 : w.heap.size + 1 ≤ wr.heap.size := by have := hb1.out.size; omega
          have hbW : Hid (Below (w.heap.size + 1) W0 wr) := hb.out.trans (hb1.out.mono (by omega))
          clear hwr hT ho1 hb1
          go_wp2_with (at_builtin; refine pushTab rfl (.tmp 80) (.tmp 82) rfl wr (w.heap.size + 1) (some ⟨G, 0, none⟩) 1 c' T (some ⟨wb.heap.size, 0, none⟩) m m N rfl _ rfl rfl hT2 ho2 hnl hne hz2 (by omega) ?_; intro A5 c5 w5 hT5 hb5)
          rw [hsucc.out] at hT5
          have hb6 : Hid (Below (w.heap.size + 1) W0 w5) := hbW.out.trans hb5.out
          have h2 : Hid (1 + 1 = 1 + 1) := rfl
          go_roundw
          case rel => exact ⟨1 + 1, 1, c5, A5, h2, by omega, by omega, by go_num, rfl, hT5, hb6⟩
          case measure => simp [intOf]; omega
      · have hLL : ((L : Int) == 1) = false := by simp; omega
        have hst : Hid (M.sizeF Ss T m L (L - 1) (List.replicate m 0) = N) := (Hnr.out _ (fun h => absurd h hl1) (fun _ => rfl)).trans hN.out
        have ho1 : Hid (Own64 (wb.alloc (.cells (madeCells #[.int .i64 0] m) 2)) wb.heap.size (.slice (some ⟨wb.heap.size, 0, none⟩) m m) (M.sizeF Ss T m L 0 (List.replicate m 0))) := ho
        obtain ⟨Z, hZ⟩ : ∃ Z, Hid (List.replicate m (0 : Int) = Z) := ⟨_, rfl⟩
        have hZl : Hid (Z.length = m) := by show _ = _; rw [← hZ.out]; simp
        rw [hZ.out] at hst ho1
        clear ho Hnr hnr hN hZ
        have hrl : Hid (∀ j, (M.sizeF Ss T m L j Z).length = m) := fun j => by rw [M.sizeF_len]; exact hZl.out
        go_wp2
        clear hmk
        go_loopw [9] (fun i wr => ∃ v j : Nat, Hid (v = j + 1) ∧ v ≤ L ∧ 1 ≤ v ∧ i = .int .i64 (v : Int) ∧ Hid (Own64 wr wb.heap.size (.slice (some ⟨wb.heap.size, 0, none⟩) m m) (M.sizeF Ss T m L j Z)) ∧ Hid (Below wb.heap.size wb wr)) (fun i _ => L - (intOf i).toNat)
        case atStart => exact ⟨1, 0, rfl, by omega, by omega, rfl, ho1, hbr⟩
        case round =>
          obtain ⟨v, j, hv, hvn, hv1, rfl, ho, hbk⟩ := hrel
          clear ho1 hbr
          by_cases hvl : v < L
          · have hvi : (v : Int) < (L : Int) := by omega
            have hv0 : (0 : Int) ≤ (v : Int) := by omega
            obtain ⟨a, ha⟩ : ∃ a, a + v = L := ⟨L - v, by omega⟩
            have ha0 : (0 : Int) ≤ (a : Int) := by omega
            have han : (a : Int) < (L : Int) := by omega
            have wa : IntKind.i64.wrap ((L : Int) - (v : Int)) = (a : Int) := by rw [IntWalk.i64_in _ (by omega)]; omega
            obtain ⟨Ra, ea, la⟩ := hrow.out a (by omega) (by have := hL.out; omega)
            obtain ⟨Rb, eb, lb⟩ := hrow.out v hv1 (by have := hL.out; omega)
            obtain ⟨ba, oa, ca, hba, fa, Fa⟩ := hTr.out.num ea la (by omega)
            obtain ⟨bb, ob, cb, hbb, fb, Fb⟩ := hTr.out.num eb lb (by omega)
            have Ea := Lib.hid ea
            have Eb := Lib.hid eb
            have La := Lib.hid la
            have Lb := Lib.hid lb
            have FA := Lib.hid Fa
            have FB := Lib.hid Fb
            have Ca := Lib.hid fa
            have Cb := Lib.hid fb
            have HGl := hTr.out.1
            have hst0 : Hid (Own64 wr wb.heap.size (.slice (some ⟨wb.heap.size, 0, none⟩) m m) (M.rowF Ss T T m a v 0 (M.sizeF Ss T m L j Z))) := ho
            have hsn2 : Hid (M.rowF Ss T T m a v m (M.sizeF Ss T m L j Z) = M.sizeF Ss T m L v Z) := by
              show _ = _
              rw [hv.out, M.sizeF, ← hv.out, show L - v = a by omega]
            have hrl2 : Hid (∀ s, (M.rowF Ss T T m a v s (M.sizeF Ss T m L j Z)).length = m) := fun s => by rw [M.rowF_len]; exact hrl.out j
            obtain ⟨R1, hR1⟩ : ∃ R1, Hid (M.sizeF Ss T m L j Z = R1) := ⟨_, rfl⟩
            rw [hR1.out] at hst0 hsn2 hrl2
            clear ea eb la lb Fa Fb fa fb ho hR1
            go_wp2
            go_loopw [10] (fun i wr => ∃ s : Nat, s ≤ m ∧ i = .int .i64 (s : Int) ∧ Hid (Own64 wr wb.heap.size (.slice (some ⟨wb.heap.size, 0, none⟩) m m) (M.rowF Ss T T m a v s R1)) ∧ Hid (Below wb.heap.size wb wr)) (fun i _ => m - (intOf i).toNat)
            case atStart => exact ⟨0, Nat.zero_le _, rfl, hst0, hbk⟩
            case round =>
              obtain ⟨s, hs, rfl, ho, hbk⟩ := hrel
              clear hst0
              by_cases hsm : s < m
              · have hsi : (s : Int) < (m : Int) := by omega
                have hs0 : (0 : Int) ≤ (s : Int) := by omega
                obtain ⟨xa, hxa⟩ : ∃ x, Ra[s]? = some x := ⟨_, List.getElem?_eq_getElem (by rw [La.out]; exact hsm)⟩
                have Hxa := Lib.hid hxa
                have hst1 : Hid (Own64 wr wb.heap.size (.slice (some ⟨wb.heap.size, 0, none⟩) m m) (M.cellF Ss T T a v s 0 (M.rowF Ss T T m a v s R1))) := ho
                have hl1' := Lib.hid (fun c => (M.cellF_len Ss T T a v s (M.rowF Ss T T m a v s R1) c).trans (hrl2.out s))
                clear hxa ho
                go_wp2
                go_loopw [11] (fun i wr => ∃ c : Nat, c ≤ m ∧ i = .int .i64 (c : Int) ∧ Hid (Own64 wr wb.heap.size (.slice (some ⟨wb.heap.size, 0, none⟩) m m) (M.cellF Ss T T a v s c (M.rowF Ss T T m a v s R1))) ∧ Hid (Below wb.heap.size wb wr)) (fun i _ => m - (intOf i).toNat)
                case atStart => exact ⟨0, Nat.zero_le _, rfl, hst1, hbk⟩
                case round =>
                  obtain ⟨d, hc, rfl, ho, hbk⟩ := hrel
                  clear hst1
                  by_cases hcm : d < m
                  · have hci : (d : Int) < (m : Int) := by omega
                    have hc0 : (0 : Int) ≤ (d : Int) := by omega
                    obtain ⟨yb, hyb⟩ : ∃ x, Rb[d]? = some x := ⟨_, List.getElem?_eq_getElem (by rw [Lb.out]; exact hcm)⟩
                    have hbw := hB2.out.trans (hbk.out.mono (by omega))
                    have g1 := (hbk.out.cell (p := ⟨bb, ob + d, none⟩) hbb).trans (FB.out d yb hyb)
                    have g2 := (hbk.out.cell (p := ⟨ba, oa + s, none⟩) hba).trans (FA.out s xa Hxa.out)
                    have g3 := (hbk.out.cell (p := ⟨G, a, none⟩) HGl).trans Ca.out
                    have g4 := (hbk.out.cell (p := ⟨G, v, none⟩) HGl).trans Cb.out
                    obtain ⟨a0, a1, a2⟩ := C2.out.below hbk.out (by omega)
                    obtain ⟨b, off, b1, off1, c1, x, rfl, _, _, f1, f2, hx1, hx2, hx3⟩ := step_cells hA.out (hR.out.be hbw) hsm hcm
                    obtain ⟨t, rfl⟩ := Int.eq_ofNat_of_zero_le hx2
                    obtain ⟨z, hz2⟩ : ∃ z, (M.cellF Ss T T a v s d (M.rowF Ss T T m a v s R1))[t]? = some z := ⟨_, List.getElem?_eq_getElem (by rw [hl1'.out]; omega)⟩
                    obtain ⟨k1, k2, _, _⟩ := own64_cell ho.out (hl1'.out d) hz2
                    obtain ⟨p, hp⟩ : ∃ p, IntKind.i64.wrap (xa * yb) = p := ⟨_, rfl⟩
                    obtain ⟨q, hq⟩ : ∃ q, IntKind.i64.wrap (z + p) = q := ⟨_, rfl⟩
                    have hset := own_addAt (v := q) (x := xa) (y := yb) ho.out (hl1'.out d) hz2 (by rw [hp]; exact hq)
                    have hcf : M.cellF Ss T T a v s (d + 1) (M.rowF Ss T T m a v s R1) = M.addAt (M.cellF Ss T T a v s d (M.rowF Ss T T m a v s R1)) t xa yb := by
                      rw [M.cellF, hx1, Ea.out, Eb.out, Option.getD_some, Option.getD_some, Hxa.out, hyb]; rfl
                    rw [← hcf] at hset
                    have Hset := Lib.hid hset
                    have Hb := Lib.hid (below_setCell (k := t) hbk.out (Nat.le_refl _) (.int .i64 q))
                    have ht3 : (t : Int) < (m : Int) := hx3
                    have ht0 : (0 : Int) ≤ (t : Int) := hx2
                    clear hset hcf hyb hbw hx1 hz2 ho hbk hx2 hx3
                    go_wp2
                    go_region
                    go_wp2
                    go_roundw
                    case rel => exact ⟨d + 1, by omega, by go_num, Hset, Hb.out.drew⟩
                    case measure => simp [intOf]; omega
                  · obtain rfl : d = m := by omega
                    have hge : ¬ (d : Int) < (d : Int) := by omega
                    have ho2 : Hid (Own64 wr wb.heap.size (.slice (some ⟨wb.heap.size, 0, none⟩) d d) (M.rowF Ss T T d a v (s + 1) R1)) := ho
                    clear ho
                    go_wp2
                    go_roundw
                    case rel => exact ⟨s + 1, by omega, by go_num, ho2, hbk⟩
                    case measure => simp [intOf]; omega
              · obtain rfl : s = m := by omega
                have hge : ¬ (s : Int) < (s : Int) := by omega
                have ho2 := ho.out
                rw [hsn2.out] at ho2
                have Ho2 := Lib.hid ho2
                have hvv : Hid (v + 1 = v + 1) := rfl
                clear ho2 ho
                go_wp2
                go_roundw
                case rel => exact ⟨v + 1, v, hvv, by omega, by omega, by go_num, Ho2, hbk⟩
                case measure => simp [intOf]; omega
          · obtain rfl : v = L := by omega
            have hge : ¬ (v : Int) < (v : Int) := by omega
            have ho3 := ho.out
            rw [show j = v - 1 by have := hv.out; omega, hst.out] at ho3
            have hT2 := Lib.hid (hT.out.be hbk.out)
            have ho2 : Hid (Own64 wr (w.heap.size + 1) (.slice (some ⟨wb.heap.size, 0, none⟩) m m) N) := own_mono ho3 (by omega)
            have hz2 : w.heap.size + 1 ≤ wr.heap.size := by have := hbk.out.size; omega
            have hbW : Hid (Below (w.heap.size + 1) W0 wr) := hb.out.trans (hbk.out.mono (by omega))
            clear ho ho3 hT hbk hst
            go_wp2_with (at_builtin; refine pushTab rfl (.tmp 80) (.tmp 82) rfl wr (w.heap.size + 1) (some ⟨G, 0, none⟩) v c' T (some ⟨wb.heap.size, 0, none⟩) m m N rfl _ rfl rfl hT2 ho2 hnl hne hz2 (by omega) ?_; intro A5 c5 w5 hT5 hb5)
            rw [hsucc.out] at hT5
            have hb6 : Hid (Below (w.heap.size + 1) W0 w5) := hbW.out.trans hb5.out
            have h2 : Hid (v + 1 = v + 1) := rfl
            go_roundw
            case rel => exact ⟨v + 1, v, c5, A5, h2, by omega, by omega, by go_num, rfl, hT5, hb6⟩
            case measure => simp [intOf]; omega
    · obtain rfl : L = n + 1 := by omega
      have hli : ¬ ((n + 1 : Nat) : Int) ≤ (n : Int) := by omega
      have hT2 := hT.out
      rw [show k = n by have := hL.out; omega] at hT2
      have HT2 := Lib.hid (hT2.mono (B' := w.heap.size) (by omega))
      have hB2 := Lib.hid (hB0.out.trans (hb.out.mono (by omega)))
      clear hT2 hT hb
      go_wp2
      go_ret
      exact ⟨_, _, rfl, HT2.out, hB2⟩
end Go.Proofs.Ytcipafjibkclcaa
