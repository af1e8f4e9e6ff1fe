/- l05OfDepths and degreesOfDepths: the degrees of the nodes with depths in preorder, and whether there is such a tree. -/
import Derived.Test.YtbnnlifpldgcfaaOfDepths
import Derived.Test.YtbnnlifpldgcfaaTwo
import Derived.Test.YtbnnlifpldgcfaaIs
import Derived.Test.YtbnnlifpldgcfaaFirst
import Derived.BigQuiet
import Derived.BigRegion
namespace Go.Proofs.Ytbnnlifpldgcfaa
open Go.RowKit

/-- is it a tree's? -/
def degB (l : List Int) : Bool := decide (M.okTo l l.length = true ∧ 0 < l.length)
theorem degB_no {l : List Int} (h : M.okTo l l.length = false ∨ l.length = 0) : degB l = false := by
  refine decide_eq_false fun ⟨h1, h2⟩ => ?_
  rcases h with h | h
  · rw [h1] at h; cases h
  · omega
theorem degB_yes {l : List Int} (h : M.okTo l l.length = true) (h2 : 0 < l.length) : degB l = true := decide_eq_true ⟨h, h2⟩
/-- the row, where it is a tree's -/
def DegsQ (l : List Int) (w : World) (w' : World) (A' : Option Addr) (m' c' : Nat) : Prop :=
  (degB l = true → m' = l.length ∧ Own64 w' w.heap.size (.slice A' m' c') (M.degTo l l.length l.length)) ∧ Hid (Below w.heap.size w w')

theorem own64_take {w : World} {B g n c : Nat} {zs : List Int} (h : Own64 w B (.slice (some ⟨g, 0, none⟩) n c) zs) {d : Nat} (hd : d ≤ n) : Own64 w B (.slice (some ⟨g, 0, none⟩) d c) (zs.take d) := by
  have hl := own64_len h
  rcases h.2 with ⟨h0, _⟩ | ⟨g', cap, cur, hv, hg, hh, hnc, hcm, hcs, ht⟩
  · injection h0 with e; cases e
  · injection hv with e1 e2 e3
    injection e1 with e1
    simp at e1
    subst e1
    subst e3
    have hlen : (zs.take d).length = d := by rw [List.length_take]; omega
    refine ⟨by simp, .inr ⟨g, c, cur, by rw [hlen], hg, hh, by rw [hlen]; omega, hcm, hcs, ?_⟩⟩
    rw [hlen, List.map_take, ← ht, List.take_take]
    congr 1
    omega

set_option maxHeartbeats 8000000 in
set_option maxRecDepth 100000 in
theorem degreesOfDepths (A : Option Addr) (l : List Int) (n c : Nat) (w : World) (hn : Hid (l.length = n)) (hx : n ≤ 48) (hR : Hid (∀ x ∈ l, -9223372036854775808 ≤ x ∧ x ≤ 9223372036854775807)) (h : Hid (Ints w w.heap.size A l)) :
    Calls Try.prog 52 #[.slice A n c] w fun e w' => ∃ A' m' c', e = .returned (.tuple #[.slice A' m' c', .bool (degB l)]) ∧ DegsQ l w w' A' m' c' := by
  obtain ⟨B, hB⟩ : ∃ B, Hid (degB l = B) := ⟨_, rfl⟩
  rw [hB.out]
  have hmk := run_make_row' (P := Try.prog) 22 2 (.int .i64 0) 8 Try.underlying22 info64 rfl .i64 .i64 n (by omega) (by omega)
  have h0 : Hid (Two (w.alloc (.cells (madeCells #[.int .i64 0] n) 2)) w.heap.size (.slice (some ⟨w.heap.size, 0, none⟩) n n) (.slice none 0 0) (M.degTo l n 0) []) :=
    ⟨own64_made (Nat.le_refl _) (by unfold maxLen; omega), own64_nil _ _, fun b _ e => by cases e⟩
  have hb0 : Hid (Below w.heap.size w (w.alloc (.cells (madeCells #[.int .i64 0] n) 2))) := bal (b0 w) _
  have hw0 := Lib.hid (M.wayOk_zero l)
  have ho0 : Hid (M.okTo l 0 = true) := rfl
  go_enter Try.func52, Try.ntmps52
  go_wp2
  clear hmk
  go_loopw [5, 6, 7, 13] (fun q _ _ i wr => ∃ (v m' c' : Nat) (A' : Option Addr) (ws : List Int), v ≤ n ∧ i = .int .i64 v ∧ q = .slice A' m' c' ∧ Hid (M.okTo l v = true) ∧ Hid (M.WayOk l v ws) ∧ Hid (Two wr w.heap.size (.slice (some ⟨w.heap.size, 0, none⟩) n n) (.slice A' m' c') (M.degTo l n v) ws) ∧ Hid (Below w.heap.size w wr)) (fun _ _ _ i _ => n - (intOf i).toNat)
  case atStart => exact ⟨0, 0, 0, none, [], Nat.zero_le _, rfl, rfl, ho0, hw0, h0, hb0⟩
  case round =>
    obtain ⟨v, m', c', A', ws, hv, rfl, rfl, hok, hw, hT, hb⟩ := hrel
    clear h0 hb0 hw0 ho0
    have hmw := Lib.hid hT.out.symm.shape.1
    have hml : m' ≤ v := by rw [hmw.out]; exact M.wayOk_len hw.out hok.out
    by_cases hlt : v < n
    · obtain ⟨b, off, x, rfl, hbB, g, hX⟩ := (h.out.below hb.out (Nat.le_refl _)).at_ (k := v) (by rw [hn.out]; exact hlt)
      have hxr := hR.out x (List.mem_of_getElem? hX.out)
      obtain ⟨t, htt⟩ : ∃ t, Hid ((decide (min (v : Int) 1 ≤ x) && decide (x ≤ (m' : Int))) = t) := ⟨_, rfl⟩
      have hdo : M.depOk l v x = t := by rw [M.wayOk_ok hw.out, ← hmw.out]; exact htt.out
      have hlen : (M.degTo l n v).length = n := M.degTo_len _ _ _
      cases t
      · have hno : Hid (M.okTo l l.length = false) := M.okTo_fail hX.out hdo
        go_wp2_with (go_at_call 84; refine (withinAny _ _ _ _ false (by have h1 := htt.out; first | (rw [show min (v : Int) 1 = 1 by omega] at h1; exact h1) | (rw [show min (v : Int) 1 = (v : Int) by omega] at h1; exact h1))).mono ?_; rintro e w' ⟨rfl, rfl⟩)
        all_goals
          go_ret2
          have hbf := degB_no (.inl hno.out)
          have e : B = false := hB.out.symm.trans hbf
          exact ⟨none, 0, 0, by rw [e]; rfl, (fun e => by rw [hbf] at e; cases e), hb⟩
      · have hxb := htt.out
        simp only [Bool.and_eq_true, decide_eq_true_eq] at hxb
        obtain ⟨d, rfl⟩ := Int.eq_ofNat_of_zero_le (show 0 ≤ x by omega)
        have hdm : d ≤ m' := by omega
        have hok2 := Lib.hid (M.okTo_step hX.out hok.out hdo)
        have hw2 := Lib.hid (M.wayOk_step hw.out hX.out (by rw [← hmw.out]; exact hdm))
        have htt1 : ∀ lo : Int, lo = min (v : Int) 1 → Hid ((decide (lo ≤ (d : Int)) && decide ((d : Int) ≤ (m' : Int))) = true) := fun lo e => by rw [e]; exact htt
        have HT := Lib.hid htt1
        clear htt1
        rcases Nat.eq_zero_or_pos v with hv0 | hv0
        · have hcap := hT.out.symm.cap
          have hdc : (d : Int) ≤ (c' : Int) := by omega
          have hv1 : ¬ (0 : Int) < (v : Int) := by omega
          have hd0 := Lib.hid (show d = 0 by omega)
          have hde : Hid (M.degTo l n (v + 1) = M.degTo l n v) := M.degTo_none hX.out (by rw [hv0]; rfl)
          have hv2 : (v : Int) ≤ 1 := by omega
          have Hv0 := Lib.hid hv0
          clear hv0
          have hTt : Hid (Two wr w.heap.size (.slice A' d c') (.slice (some ⟨w.heap.size, 0, none⟩) n n) (ws.take d) (M.degTo l n (v + 1))) := by
            have e : d = m' := by have := hd0.out; have := Hv0.out; omega
            rw [hde.out, e, List.take_of_length_le (by rw [hmw.out]; exact Nat.le_refl _)]
            exact hT.out.symm
          have z5 := hb.out.size
          go_wp2_with (first | (go_at_call 84; refine (withinAny _ _ _ _ true (HT.out _ (by have := Hv0.out; omega))).mono ?_; rintro e w' ⟨rfl, rfl⟩) | (at_builtin; refine pushTwo rfl (.tmp 39) (.tmp 41) rfl wr w.heap.size A' d c' (.slice (some ⟨w.heap.size, 0, none⟩) n n) (ws.take d) (M.degTo l n (v + 1)) (v : Int) rfl _ rfl rfl hTt z5 (by omega) ?_; intro A4 c4 w4 ht4 hb4))
          have hB4 : Hid (Below w.heap.size w w4) := hb.out.trans hb4.out
          have hT4 := Lib.hid ht4.out.symm
          go_roundw
          case rel => exact ⟨v + 1, d + 1, c4, A4, _, by omega, by go_num, rfl, hok2, hw2, hT4, hB4⟩
          case measure => simp [intOf]; omega
        · obtain ⟨K, rfl⟩ : ∃ K, d = K + 1 := ⟨d - 1, by omega⟩
          obtain ⟨w0, hw1, hwv, hwl⟩ := M.wayOk_up hw.out (by rw [← hmw.out]; exact hdm) (by omega)
          rw [Nat.add_sub_cancel] at hw1
          have hy : (M.degTo l n v)[w0]? = some ((M.degTo l n v)[w0]'(by omega)) := List.getElem?_eq_getElem (by omega)
          have hyb := M.degTo_le _ (List.mem_of_getElem? hy)
          have hs := Lib.hid (M.degTo_some hX.out hwl hy)
          generalize (M.degTo l n v)[w0]'(by omega) = y at *
          obtain ⟨gw, rfl⟩ := hT.out.symm.shape.2 (by omega)
          have hcap := hT.out.symm.cap
          obtain ⟨c1, f1, hg1, _⟩ := own64_cell hT.out.1 hlen hy
          have c2 := (own64_cell hT.out.2.1 hmw.out.symm hw1).1
          have hset := hT.out.set hlen w0 (y + 1)
          rw [← hs.out] at hset
          have Hset := Lib.hid hset
          have hb5 := Lib.hid (below_setCell (k := w0) hb.out hg1 (.int .i64 (y + 1)))
          have eK : ((K + 1 : Nat) : Int) - 1 = (K : Int) := by omega
          have hKm : (K : Int) < (m' : Int) := by omega
          have hwn : (w0 : Int) < (n : Int) := by omega
          have hv1 : (0 : Int) < (v : Int) := by omega
          have hdc : ((K + 1 : Nat) : Int) ≤ (c' : Int) := by omega
          clear hset hs hw1 hwl hy hX hT
          have hTt : Hid (Two (wr.setCell ⟨w.heap.size, w0, none⟩ (.int .i64 (y + 1))) w.heap.size (.slice (some ⟨gw, 0, none⟩) (K + 1) c') (.slice (some ⟨w.heap.size, 0, none⟩) n n) (ws.take (K + 1)) (M.degTo l n (v + 1))) :=
            ⟨own64_take Hset.out.2.1 hdm, Hset.out.1, fun b h1 h2 => Hset.out.2.2 b h2 h1⟩
          have z5 := hb5.out.size
          go_wp2_with (first | (go_at_call 84; refine (withinAny _ _ _ _ true (HT.out _ (by omega))).mono ?_; rintro e w' ⟨rfl, rfl⟩) | (at_builtin; refine pushTwo rfl (.tmp 39) (.tmp 41) rfl (wr.setCell ⟨w.heap.size, w0, none⟩ (.int .i64 (y + 1))) w.heap.size (some ⟨gw, 0, none⟩) (K + 1) c' (.slice (some ⟨w.heap.size, 0, none⟩) n n) (ws.take (K + 1)) (M.degTo l n (v + 1)) (v : Int) rfl _ rfl (by simp) hTt z5 (by omega) ?_; intro A4 c4 w4 ht4 hb4))
          all_goals
            have hB4 : Hid (Below w.heap.size w w4) := hb5.out.trans hb4.out
            have hT4 := Lib.hid ht4.out.symm
            go_roundw
            case rel => exact ⟨v + 1, K + 1 + 1, c4, A4, _, by omega, by go_num, rfl, hok2, hw2, hT4, hB4⟩
            case measure => simp [intOf]; omega
    · obtain rfl : v = n := by omega
      have hrow := own64_eq hT.out.1 (show M.degTo l v v = M.degTo l l.length l.length by rw [hn.out])
      have hokl : M.okTo l l.length = true := by rw [hn.out]; exact hok.out
      have Hrow := Lib.hid hrow
      have Hok := Lib.hid hokl
      have hv0 : Hid (l.length = v) := hn
      clear hrow hokl hT hw hmw h
      rcases Nat.eq_zero_or_pos v with h0 | h0
      · have h1 : ¬ (0 : Int) < (v : Int) := by omega
        have hq : Hid (v = 0) := h0
        have h1' : ¬ 0 < v := by omega
        clear h0
        go_wp2
        go_ret2
        have hbf := degB_no (l := l) (.inr (by rw [hv0.out, hq.out]))
        have e : B = false := hB.out.symm.trans hbf
        exact ⟨_, v, v, by rw [e]; rfl, (fun e => by rw [hbf] at e; cases e), hb⟩
      · have h1 : (0 : Int) < (v : Int) := by omega
        go_wp2
        go_ret2
        have hbt := degB_yes Hok.out (by rw [hv0.out]; exact h0)
        have e : B = true := hB.out.symm.trans hbt
        exact ⟨_, v, v, by rw [e]; rfl, (fun _ => ⟨hv0.out.symm, Hrow.out⟩), hb⟩
end Go.Proofs.Ytbnnlifpldgcfaa
