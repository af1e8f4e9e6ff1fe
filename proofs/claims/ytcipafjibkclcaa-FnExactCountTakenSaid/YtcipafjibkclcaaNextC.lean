/- nextCounts: the numbers of trees by states for one node more, the program's. -/
import Derived.Test.YtcipafjibkclcaaCounts
import Derived.Test.YtcipafjibkclcaaStatesSp
import Derived.Test.YtcipafjibkclcaaTab
namespace Go.Proofs.Ytcipafjibkclcaa
open Go.RowKit

theorem noCounts (st : Int) (As Ag : Option Addr) (m cm g cg : Nat) (w : World) (hm9 : m ≤ 9) :
    Calls Try.prog 83 #[.agg #[.int .i64 st, .slice As m cm, .slice Ag g cg]] w fun e w' => e = .returned (.slice (some ⟨w.heap.size + 1, 0, none⟩) m m) ∧ w' = (w.alloc (.cells #[.int .i64 st, .slice As m cm, .slice Ag g cg] 40)).alloc (.cells (madeCells #[.int .i64 0] m) 2) := by
  have hmk := run_make_row' (P := Try.prog) 22 2 (.int .i64 0) 8 Try.underlying22 info64 rfl .i64 .i64 m (by omega) (by omega)
  go_enter Try.func83, Try.ntmps83
  go_wp2
  go_ret
  exact ⟨rfl, rfl⟩

/-- the rows of a table, to be read -/
def TabR (w : World) (G : Nat) (T : List (List Int)) : Prop := G < w.heap.size ∧ ∀ (i : Nat) (R : List Int), T[i]? = some R → ∃ A c, w.cell? ⟨G, i, none⟩ = some (.slice A R.length c) ∧ Ints w w.heap.size A R
theorem Tab.read {w : World} {B G n c : Nat} {Rs : List (List Int)} (h : Tab w B (.slice (some ⟨G, 0, none⟩) n c) Rs) : TabR w G Rs := ⟨(h.lt rfl).2, fun i R hR => by
  obtain ⟨A, c', h1, h2, _⟩ := h.at_ hR
  exact ⟨A, c', h1, ints_of_own64 h2⟩⟩
theorem TabR.be {w w' : World} {G : Nat} {T : List (List Int)} (h : TabR w G T) (hb : Below w.heap.size w w') : TabR w' G T := ⟨Nat.lt_of_lt_of_le h.1 hb.size, fun i R hR => by
  obtain ⟨A, c, h1, h2⟩ := h.2 i R hR
  exact ⟨A, c, (hb.cell (p := ⟨G, i, none⟩) h.1).trans h1, h2.be hb⟩⟩
/-- a number of a row -/
theorem TabR.num {w : World} {G : Nat} {T : List (List Int)} (h : TabR w G T) {i : Nat} {R : List Int} (hR : T[i]? = some R) {m : Nat} (hm : R.length = m) (h0 : 0 < m) :
    ∃ b off c, b < w.heap.size ∧ w.cell? ⟨G, i, none⟩ = some (.slice (some ⟨b, off, none⟩) m c) ∧ ∀ j x, R[j]? = some x → w.cell? ⟨b, off + j, none⟩ = some (.int .i64 x) := by
  obtain ⟨A, c, h1, h2⟩ := h.2 i R hR
  obtain ⟨b, off, rfl, hb, hc⟩ := h2 (by omega)
  rw [hm] at h1
  exact ⟨b, off, c, hb, h1, hc⟩

theorem BoxA.below {w w' : World} {b B : Nat} {st : Int} {As Ag : Option Addr} {m cm g cg : Nat} (h : BoxA w b st As m cm Ag g cg) (hb : Below B w w') (hlt : b < B) : BoxA w' b st As m cm Ag g cg :=
  ⟨(hb.cell (p := ⟨b, 0, none⟩) hlt).trans h.1, (hb.cell (p := ⟨b, 1, none⟩) hlt).trans h.2.1, (hb.cell (p := ⟨b, 2, none⟩) hlt).trans h.2.2⟩
/-- one number added -/
theorem own_addAt {w : World} {B g m : Nat} {R : List Int} (h : Own64 w B (.slice (some ⟨g, 0, none⟩) m m) R) (hl : R.length = m) {t : Nat} {x y z v : Int} (hz : R[t]? = some z) (hv : IntKind.i64.wrap (z + IntKind.i64.wrap (x * y)) = v) :
    Own64 (w.setCell ⟨g, t, none⟩ (.int .i64 v)) B (.slice (some ⟨g, 0, none⟩) m m) (M.addAt R t x y) := by
  have e : M.addAt R t x y = R.set t v := by rw [M.addAt, hz, ← hv]; rfl
  rw [e]
  exact own64_set h hl t v

set_option maxRecDepth 100000 in
set_option maxHeartbeats 4000000 in
theorem nextCounts (st : Int) (As Ag : Option Addr) (Ss : List (List Int)) (gs : List Int) (m cm g cg G n c : Nat) (T : List (List Int)) (w : World) (hA : Hid (M.IsA st Ss gs m)) (hR : Hid (RowsL w As Ss)) (hT : Hid (TabR w G T)) (hn2 : 2 ≤ n) (hn : n ≤ 1000) (hrow : Hid (∀ j, 1 ≤ j → j < n → ∃ R, T[j]? = some R ∧ R.length = m)) :
    Calls Try.prog 84 #[.agg #[.int .i64 st, .slice As m cm, .slice Ag g cg], .slice (some ⟨G, 0, none⟩) n c] w fun e w' => ∃ g', e = .returned (.slice (some ⟨g', 0, none⟩) m m) ∧ Own64 w' w.heap.size (.slice (some ⟨g', 0, none⟩) m m) (M.nextR Ss T m st n) ∧ Hid (Below w.heap.size w w') := by
  have hm9 := hA.out.le
  have hm1 := hA.out.pos
  have hnr : M.nextR Ss T m st n = M.sizeF Ss T m n (n - 1) (List.replicate m 0) := by rw [M.nextR, if_neg (by omega)]
  rw [hnr]
  obtain ⟨W, hW⟩ : ∃ W, W = w.alloc (.cells #[.int .i64 st, .slice As m cm, .slice Ag g cg] 40) := ⟨_, rfl⟩
  have hz : W.heap.size = w.heap.size + 1 := by rw [hW]; simp
  have C1 : Hid (BoxA W w.heap.size st As m cm Ag g cg) := by subst hW; exact BoxA.new _ _ _ _ _ _ _ _ _
  have hBW : Hid (Below w.heap.size w W) := by subst hW; exact bal (b0 w) _
  have HN := Lib.hid (noCounts st As Ag m cm g cg W hm9)
  have HW := Lib.hid hW
  clear hW hnr
  go_enter Try.func84, Try.ntmps84
  go_wp2_with fail
  rw [← HW.out]
  obtain ⟨a0, a1, a2⟩ := C1.out
  refine HN.out.mono ?_
  rintro e w1 ⟨rfl, hw1⟩
  have ho1 : Own64 w1 w.heap.size (.slice (some ⟨W.heap.size + 1, 0, none⟩) m m) (List.replicate m 0) := by
    have := own64_made (w := W.alloc (.cells #[.int .i64 st, .slice As m cm, .slice Ag g cg] 40)) (B := w.heap.size) (n := m) (by simp; omega) (by unfold maxLen; omega)
    rw [← hw1, World.size_alloc] at this
    exact this
  have hB1 : Hid (Below w.heap.size w w1) := by rw [hw1]; exact bal (bal hBW.out _) _
  have C1' : Hid (BoxA w1 w.heap.size st As m cm Ag g cg) := by rw [hw1]; exact (C1.out.al _).al _
  obtain ⟨B1, hB1n⟩ : ∃ B1, Hid (W.heap.size + 1 = B1) := ⟨_, rfl⟩
  have hBw : w.heap.size < B1 := by have := hB1n.out; omega
  rw [hB1n.out] at ho1 ⊢
  have Ho1 := Lib.hid ho1
  clear ho1 hw1 a0 a1 a2 HN
  go_wp2
  have hBB := Lib.hid (Below.refl B1 w1)
  go_loopw [6] (fun i wr => ∃ v j : Nat, Hid (v = j + 1) ∧ v ≤ n ∧ 1 ≤ v ∧ i = .int .i64 (v : Int) ∧ Hid (Own64 wr w.heap.size (.slice (some ⟨B1, 0, none⟩) m m) (M.sizeF Ss T m n j (List.replicate m 0))) ∧ Hid (Below B1 w1 wr)) (fun i _ => n - (intOf i).toNat)
  case atStart => exact ⟨1, 0, rfl, by omega, by omega, rfl, Ho1, hBB⟩
  case round =>
    obtain ⟨v, j, hv, hvn, hv1, rfl, ho, hb⟩ := hrel
    clear Ho1 hBB
    by_cases hlt : v < n
    · have hvi : (v : Int) < (n : Int) := by omega
      have hv0 : (0 : Int) ≤ (v : Int) := by omega
      obtain ⟨a, ha⟩ : ∃ a, a + v = n := ⟨n - v, by omega⟩
      have ha0 : (0 : Int) ≤ (a : Int) := by omega
      have han : (a : Int) < (n : Int) := by omega
      have wa : IntKind.i64.wrap ((n : Int) - (v : Int)) = (a : Int) := by rw [IntWalk.i64_in _ (by omega)]; omega
      obtain ⟨Ra, ea, la⟩ := hrow.out a (by omega) (by omega)
      obtain ⟨Rb, eb, lb⟩ := hrow.out v hv1 hlt
      obtain ⟨ba, oa, ca, hba, fa, Fa⟩ := hT.out.num ea la (by omega)
      obtain ⟨bb, ob, cb, hbb, fb, Fb⟩ := hT.out.num eb lb (by omega)
      have Ea := Lib.hid ea
      have Eb := Lib.hid eb
      have La := Lib.hid la
      have Lb := Lib.hid lb
      have FA := Lib.hid Fa
      have FB := Lib.hid Fb
      have HGl := hT.out.1
      have hbw := Lib.hid (hB1.out.trans (hb.out.mono (Nat.le_of_lt hBw)))
      have ga := (hbw.out.cell (p := ⟨G, a, none⟩) HGl).trans fa
      have Fb2 := Lib.hid fb
      have hst0 : Hid (Own64 wr w.heap.size (.slice (some ⟨B1, 0, none⟩) m m) (M.rowF Ss T T m a v 0 (M.sizeF Ss T m n j (List.replicate m 0)))) := ho
      have hsn : Hid (M.rowF Ss T T m a v m (M.sizeF Ss T m n j (List.replicate m 0)) = M.sizeF Ss T m n v (List.replicate m 0)) := by
        show _ = _
        rw [hv.out, M.sizeF, ← hv.out, show n - v = a by omega]
      have hrl : Hid (∀ s, (M.rowF Ss T T m a v s (M.sizeF Ss T m n j (List.replicate m 0))).length = m) := fun s => by rw [M.rowF_len, M.sizeF_len]; simp
      obtain ⟨R1, hR1⟩ : ∃ R1, Hid (M.sizeF Ss T m n j (List.replicate m 0) = R1) := ⟨_, rfl⟩
      rw [hR1.out] at hst0 hsn hrl
      clear ea eb la lb Fa Fb fa fb hbw ho hR1
      go_wp2
      clear ga
      go_loopw [27] (fun i wr => ∃ s : Nat, s ≤ m ∧ i = .int .i64 (s : Int) ∧ Hid (Own64 wr w.heap.size (.slice (some ⟨B1, 0, none⟩) m m) (M.rowF Ss T T m a v s R1)) ∧ Hid (Below B1 w1 wr)) (fun i _ => m - (intOf i).toNat)
      case atStart => exact ⟨0, Nat.zero_le _, rfl, hst0, hb⟩
      case round =>
        obtain ⟨s, hs, rfl, ho, hb⟩ := hrel
        clear hst0
        by_cases hsm : s < m
        · have hsi : (s : Int) < (m : Int) := by omega
          have hs0 : (0 : Int) ≤ (s : Int) := by omega
          obtain ⟨xa, hxa⟩ : ∃ x, Ra[s]? = some x := ⟨_, List.getElem?_eq_getElem (by rw [La.out]; exact hsm)⟩
          have hbw := Lib.hid (hB1.out.trans (hb.out.mono (Nat.le_of_lt hBw)))
          have g1 := (hbw.out.cell (p := ⟨ba, oa + s, none⟩) hba).trans (FA.out s xa hxa)
          have g2 := (hbw.out.cell (p := ⟨G, v, none⟩) HGl).trans Fb2.out
          have Hxa := Lib.hid hxa
          have hst1 : Hid (Own64 wr w.heap.size (.slice (some ⟨B1, 0, none⟩) m m) (M.cellF Ss T T a v s 0 (M.rowF Ss T T m a v s R1))) := ho
          have hl1 := Lib.hid (fun c => (M.cellF_len Ss T T a v s (M.rowF Ss T T m a v s R1) c).trans (hrl.out s))
          clear hxa hbw ho
          go_wp2
          clear g1 g2
          go_loopw [37] (fun i wr => ∃ c : Nat, c ≤ m ∧ i = .int .i64 (c : Int) ∧ Hid (Own64 wr w.heap.size (.slice (some ⟨B1, 0, none⟩) m m) (M.cellF Ss T T a v s c (M.rowF Ss T T m a v s R1))) ∧ Hid (Below B1 w1 wr)) (fun i _ => m - (intOf i).toNat)
          case atStart => exact ⟨0, Nat.zero_le _, rfl, hst1, hb⟩
          case round =>
            obtain ⟨c', hc, rfl, ho, hb⟩ := hrel
            clear hst1
            by_cases hcm : c' < m
            · have hci : (c' : Int) < (m : Int) := by omega
              have hc0 : (0 : Int) ≤ (c' : Int) := by omega
              obtain ⟨yb, hyb⟩ : ∃ x, Rb[c']? = some x := ⟨_, List.getElem?_eq_getElem (by rw [Lb.out]; exact hcm)⟩
              have hbw := hB1.out.trans (hb.out.mono (Nat.le_of_lt hBw))
              have g1 := (hbw.cell (p := ⟨bb, ob + c', none⟩) hbb).trans (FB.out c' yb hyb)
              obtain ⟨a0, a1, a2⟩ := C1'.out.below hb.out hBw
              obtain ⟨b, off, b1, off1, c1, x, rfl, _, _, f1, f2, hx1, hx2, hx3⟩ := step_cells hA.out (hR.out.be hbw) hsm hcm
              obtain ⟨t, rfl⟩ := Int.eq_ofNat_of_zero_le hx2
              obtain ⟨z, hz2⟩ : ∃ z, (M.cellF Ss T T a v s c' (M.rowF Ss T T m a v s R1))[t]? = some z := ⟨_, List.getElem?_eq_getElem (by rw [hl1.out]; omega)⟩
              obtain ⟨k1, k2, _, _⟩ := own64_cell ho.out (hl1.out c') hz2
              obtain ⟨p, hp⟩ : ∃ p, IntKind.i64.wrap (xa * yb) = p := ⟨_, rfl⟩
              obtain ⟨q, hq⟩ : ∃ q, IntKind.i64.wrap (z + p) = q := ⟨_, rfl⟩
              have hset := own_addAt (v := q) (x := xa) (y := yb) ho.out (hl1.out c') hz2 (by rw [hp]; exact hq)
              have hcf : M.cellF Ss T T a v s (c' + 1) (M.rowF Ss T T m a v s R1) = M.addAt (M.cellF Ss T T a v s c' (M.rowF Ss T T m a v s R1)) t xa yb := by
                rw [M.cellF, hx1, Ea.out, Eb.out, Option.getD_some, Option.getD_some, Hxa.out, hyb]; rfl
              rw [← hcf] at hset
              have Hset := Lib.hid hset
              have Hb := Lib.hid (below_setCell (k := t) hb.out (Nat.le_refl _) (.int .i64 q))
              have ht3 : (t : Int) < (m : Int) := hx3
              have ht0 : (0 : Int) ≤ (t : Int) := hx2
              clear hset hcf hyb hbw hx1 hz2 ho hb hx2 hx3
              go_wp2
              go_roundw
              case rel => exact ⟨c' + 1, by omega, by go_num, Hset, Hb⟩
              case measure => simp [intOf]; omega
            · obtain rfl : c' = m := by omega
              have hge : ¬ (c' : Int) < (c' : Int) := by omega
              have ho2 : Hid (Own64 wr w.heap.size (.slice (some ⟨B1, 0, none⟩) c' c') (M.rowF Ss T T c' a v (s + 1) R1)) := ho
              clear ho
              go_wp2
              go_roundw
              case rel => exact ⟨s + 1, by omega, by go_num, ho2, hb⟩
              case measure => simp [intOf]; omega
        · obtain rfl : s = m := by omega
          have hge : ¬ (s : Int) < (s : Int) := by omega
          have ho2 := ho.out
          rw [hsn.out] at ho2
          have Ho2 := Lib.hid ho2
          have hvv : Hid (v + 1 = v + 1) := rfl
          clear ho2 ho
          go_wp2
          go_roundw
          case rel => exact ⟨v + 1, v, hvv, by omega, by omega, by go_num, Ho2, hb⟩
          case measure => simp [intOf]; omega
    · obtain rfl : v = n := by omega
      have hge : ¬ (v : Int) < (v : Int) := by omega
      have ho2 := ho.out
      rw [show j = v - 1 by have := hv.out; omega] at ho2
      have Ho2 := Lib.hid ho2
      have hB2 := Lib.hid (hB1.out.trans (hb.out.mono (Nat.le_of_lt hBw)))
      clear ho2 ho hb
      go_wp2
      go_ret
      exact ⟨_, rfl, Ho2.out, hB2⟩
end Go.Proofs.Ytcipafjibkclcaa
