/- l02Low: the model's numbers of trees of 0 to n nodes of at most a height. -/
import Derived.Test.YtdgcjkgbglofbaaMgFnTreeCounts1
import Derived.Deep.DeepCutAuto
import Derived.BigRegion
import Derived.RangeFuncNested
import Derived.RangeFuncBound
import Derived.RangeFuncCalls
import Derived.RangeFuncLeaves
import Derived.Shelf.Abstract
import Derived.OwnWalkIn
import Derived.TacticsInMore
import Derived.LoopNIn
import Derived.LoopIn
import Derived.Maps.OwnIn
import Derived.Laws.Cover3
namespace Go.Proofs.Ytdgcjkgbglofbaa
open Go.RowKit

theorem below_of_drew {B : Nat} {a w : World} (h : Below B a.drew w) : Below B a w := ⟨h.os, h.tape, h.output, h.size, h.block⟩

namespace M
theorem Fo_model {j m : Nat} (hm : 0 < m) : Fo j m = sumTo (fun x => TrN j (x + 1) * Fo j (m - 1 - x)) m := by
  cases j with
  | zero =>
    have : ∀ k, sumTo (fun x => TrN 0 (x + 1) * Fo 0 (m - 1 - x)) k = 0 := by
      intro k
      induction k with
      | zero => rfl
      | succ k ih => rw [sumTo, ih]; simp [TrN]
    rw [this, Fo_zero hm]
  | succ j =>
    obtain ⟨m, rfl⟩ : ∃ m', m = m' + 1 := ⟨m - 1, by omega⟩
    rw [Fo_succ]
    refine sumTo_congr fun x hx => ?_
    have e1 : TrN (j + 1) (x + 1) = Fo j x := by simp [TrN]
    have e2 : m + 1 - 1 - x = m - x := by omega
    rw [e1, e2]
theorem Fomodel_small {j m k : Nat} (hm : m ≤ 30) (h0 : 0 < m) (hk : k ≤ m) : sumTo (fun x => TrN j (x + 1) * Fo j (m - 1 - x)) k ≤ 10000000000000000 := by
  have h1 := sumTo_le (f := fun x => TrN j (x + 1) * Fo j (m - 1 - x)) hk
  have h2 := Fo_small (h := j) hm
  rw [Fo_model h0] at h2
  omega
/-- a row of N numbers, of which the first m are told -/
def partRow (f : Nat → Nat) (N m : Nat) : List Int := (List.range N).map fun i => if i < m then (f i : Int) else 0
theorem partRow_len (f : Nat → Nat) (N m : Nat) : (partRow f N m).length = N := by simp [partRow]
theorem partRow_at {f : Nat → Nat} {N m i : Nat} (h : i < N) (hm : i < m) : (partRow f N m)[i]? = some (f i : Int) := by simp [partRow, h, hm]
theorem partRow_zero (f : Nat → Nat) (N : Nat) : partRow f N 0 = List.replicate N 0 := by
  apply List.ext_getElem?
  intro j
  simp only [partRow, List.getElem?_map, List.getElem?_replicate]
  rcases Nat.lt_or_ge j N with hj | hj
  · rw [List.getElem?_range hj, if_pos hj]; simp
  · rw [List.getElem?_eq_none (by simp; omega), if_neg (by omega)]; rfl
theorem partRow_here {f : Nat → Nat} {N m : Nat} : (partRow f N m).set m 0 = partRow f N m := by
  apply List.ext_getElem?
  intro j
  by_cases hj : m = j
  · subst hj
    rcases Nat.lt_or_ge m N with h | h
    · rw [List.getElem?_set_self (by rw [partRow_len]; exact h)]
      simp [partRow, h]
    · rw [List.getElem?_eq_none (by simp [partRow_len]; omega), List.getElem?_eq_none (by rw [partRow_len]; omega)]
  · rw [List.getElem?_set_ne hj]
theorem partRow_step {f : Nat → Nat} {N m : Nat} : (partRow f N m).set m (f m : Int) = partRow f N (m + 1) := by
  apply List.ext_getElem?
  intro j
  rcases Nat.lt_or_ge j N with hjn | hjn
  · by_cases hj : m = j
    · subst hj
      rw [List.getElem?_set_self (by rw [partRow_len]; exact hjn)]
      simp [partRow, hjn]
    · rw [List.getElem?_set_ne hj]
      simp only [partRow, List.getElem?_map]
      rw [List.getElem?_range hjn]
      simp only [Option.map_some]
      congr 1
      by_cases h3 : j < m
      · rw [if_pos h3, if_pos (by omega)]
      · rw [if_neg h3, if_neg (by omega)]
  · rw [List.getElem?_eq_none (by simp [partRow_len]; omega), List.getElem?_eq_none (by rw [partRow_len]; omega)]
/-- trees of 0 to n nodes of less than h levels -/
def lowRow (n h : Nat) : List Int := partRow (TrN h) (n + 1) (n + 1)
theorem lowRow_none (n : Nat) : lowRow n 0 = List.replicate (n + 1) 0 := by
  rw [lowRow, ← partRow_zero (TrN 0) (n + 1)]
  simp only [partRow]
  apply List.map_congr_left
  intro i _
  simp [TrN]
end M

/-- what l02Low does at a number of levels -/
def LowAt (n levels : Nat) : Prop := ∀ (w : World),
  Calls Try.prog 225 #[.int .i64 (n : Int), .int .i64 ((levels : Int) - 1)] w fun e w' => ∃ A' c', e = .returned (.slice A' (n + 1) c') ∧ Hid (Own64 w' w.heap.size (.slice A' (n + 1) c') (M.lowRow n levels)) ∧ Hid (Below w.heap.size w w')

set_option maxHeartbeats 1000000 in
set_option maxRecDepth 100000 in
theorem low_zero (n : Nat) (hn : n ≤ 30) : LowAt n 0 := by
  intro w
  have hmk := run_make_row' (P := Try.prog) 24 2 (.int .i64 0) 8 Try.underlying24 info64 rfl .i64 .i64 (n + 1) (by omega) (by omega)
  have ecast : ((n + 1 : Nat) : Int) = (n : Int) + 1 := by omega
  rw [ecast] at hmk
  have hst : Hid (Own64 (w.alloc (.cells (madeCells #[.int .i64 0] (n + 1)) 2)) w.heap.size (.slice (some ⟨w.heap.size, 0, none⟩) (n + 1) (n + 1)) (M.lowRow n 0)) := by rw [M.lowRow_none]; exact own64_made (w := w) (B := w.heap.size) (n := n + 1) (Nat.le_refl _) (by unfold maxLen; omega)
  have hb0 : Hid (Below w.heap.size w (w.alloc (.cells (madeCells #[.int .i64 0] (n + 1)) 2))) := bal (b0 w) _
  clear ecast
  go_enter Try.func225, Try.ntmps225
  go_wp2
  go_ret
  exact ⟨_, _, rfl, hst, hb0⟩

set_option maxHeartbeats 4000000 in
set_option maxRecDepth 100000 in
theorem low_step (n j : Nat) (hn : n ≤ 30) (hj : j ≤ 30) (ih : Hid (LowAt n j)) (w : World) :
    Calls Try.prog 225 #[.int .i64 (n : Int), .int .i64 (j : Int)] w fun e w' => ∃ A' c', e = .returned (.slice A' (n + 1) c') ∧ Hid (Own64 w' w.heap.size (.slice A' (n + 1) c') (M.lowRow n (j + 1))) ∧ Hid (Below w.heap.size w w') := by
  have hmk := run_make_row' (P := Try.prog) 24 2 (.int .i64 0) 8 Try.underlying24 info64 rfl .i64 .i64 (n + 1) (by omega) (by omega)
  have ecast : ((n + 1 : Nat) : Int) = (n : Int) + 1 := by omega
  rw [ecast] at hmk
  have hst : Hid (Own64 (w.alloc (.cells (madeCells #[.int .i64 0] (n + 1)) 2)) w.heap.size (.slice (some ⟨w.heap.size, 0, none⟩) (n + 1) (n + 1)) (M.partRow (M.TrN (j + 1)) (n + 1) 0)) := by rw [M.partRow_zero]; exact own64_made (w := w) (B := w.heap.size) (n := n + 1) (Nat.le_refl _) (by unfold maxLen; omega)
  have hb0 : Hid (Below w.heap.size w (w.alloc (.cells (madeCells #[.int .i64 0] (n + 1)) 2))) := bal (b0 w) _
  have h0 : ¬ (j : Int) < 0 := by omega
  clear ecast
  go_enter Try.func225, Try.ntmps225
  go_upto_region 4 with fail
  obtain ⟨W, hW⟩ : ∃ W, W = w.alloc (.cells (madeCells #[.int .i64 0] (n + 1)) 2) := ⟨_, rfl⟩
  have hsz : W.heap.size = w.heap.size + 1 := by subst hW; simp
  rw [← hW] at hst hb0 ⊢
  have Hsz := Lib.hid hsz
  clear hW hsz
  go_cut [6, 7] (fun s6 s7 wx => ∃ (A6 : Option Addr) (c6 g7 : Nat), s6 = .slice A6 (n + 1) c6 ∧ s7 = .slice (some ⟨g7, 0, none⟩) (n + 1) (n + 1) ∧ Hid (Two wx W.heap.size (.slice (some ⟨g7, 0, none⟩) (n + 1) (n + 1)) (.slice A6 (n + 1) c6) (List.replicate (n + 1) 0) (M.lowRow n j)) ∧ Hid (Below W.heap.size W wx))
  case first =>
    have hw1 : IntKind.i64.wrap ((j : Int) - 1) = (j : Int) - 1 := IntWalk.i64_in _ (by omega)
    have hw2 : IntKind.i64.wrap ((n : Int) + 1) = (n : Int) + 1 := IntWalk.i64_in _ (by omega)
    have hI : ∀ W', Calls Try.prog 225 #[.int .i64 (n : Int), .int .i64 ((j : Int) - 1)] W' fun e w' => ∃ A' c', e = .returned (.slice A' (n + 1) c') ∧ Hid (Own64 w' W'.heap.size (.slice A' (n + 1) c') (M.lowRow n j)) ∧ Hid (Below W'.heap.size W' w') := ih.out
    have HI := Lib.hid hI
    clear hI
    go_region_with (first | (go_at_call 225; (with_reducible refine (HI.out _).mono ?_); rintro e w7 ⟨A7, c7, rfl, ho7, hb7⟩))
    all_goals (go_wp2_with fail)
    all_goals (go_meet)
    · have hb := below_of_drew hb7.out
      have z := hb.size
      exact ⟨A7, c7, w7.heap.size, rfl, rfl, ⟨own_mono (own64_made (w := w7) (B := w7.heap.size) (n := n + 1) (Nat.le_refl _) (by unfold maxLen; omega)) z, own_mono (ho7.out.alloc _) (by simp), fun b e e2 => by
        have e1 : b = w7.heap.size := by injection e with e; exact e.symm
        have := (World.ownsRow.lt ho7.out b e2).2
        omega⟩, bal hb _⟩
    · have hb := below_of_drew hb7.out
      have z := hb.size
      exact ⟨A7, c7, W.heap.size, rfl, rfl, ⟨own_be (own64_made (w := W) (B := W.heap.size) (n := n + 1) (Nat.le_refl _) (by unfold maxLen; omega)) hb, own_mono ho7.out (by simp), fun b e e2 => by
        have e1 : b = W.heap.size := by injection e with e; exact e.symm
        have := (World.ownsRow.lt ho7.out b e2).1
        simp at this
        omega⟩, btr (bal (b0 W) _) hb⟩
  case rest =>
    obtain ⟨A6, c6, g7, rfl, rfl, ht2, hbx⟩ := hcut
    obtain ⟨g6, rfl⟩ := own64_shape ht2.out.2.1 (by omega)
    have hone : Hid ((List.replicate (n + 1) (0 : Int)).set 0 1 = M.partRow (M.Fo j) (n + 1) 1) := by
      show _ = _
      rw [← M.partRow_zero (M.Fo j), ← M.partRow_step, M.Fo_none]
      rfl
    have hset := ht2.out.set (by simp) 0 1
    rw [hone.out] at hset
    have hset := Lib.hid hset
    obtain ⟨c1, c2, hg7, _⟩ := own64_cell ht2.out.1 (by simp) (k := 0) (x := 0) (by rw [List.getElem?_replicate, if_pos (by omega)])
    have hbs := Lib.hid (below_setCell (k := 0) hbx.out hg7 (.int .i64 1))
    have Hg7 := Lib.hid hg7
    clear ht2 hbx hg7
    go_wp2
    go_loopw [8, 9] (fun s8 _ wr => ∃ m : Nat, 1 ≤ m ∧ m ≤ n + 1 ∧ s8 = .int .i64 (m : Int) ∧ Hid (Two wr W.heap.size (.slice (some ⟨g7, 0, none⟩) (n + 1) (n + 1)) (.slice (some ⟨g6, 0, none⟩) (n + 1) c6) (M.partRow (M.Fo j) (n + 1) m) (M.lowRow n j)) ∧ Hid (Below W.heap.size W wr)) (fun s8 _ _ => 40 - (intOf s8).toNat)
    case atStart => exact ⟨1, Nat.le_refl _, by omega, rfl, hset, hbs⟩
    case round =>
      obtain ⟨m, hm1, hm, rfl, ht2, hbr⟩ := hrel
      clear c1 c2 hset hbs
      by_cases hmn : m ≤ n
      · have hmn2 : (m : Int) ≤ (n : Int) := by omega
        have hst2 : Hid (Two wr W.heap.size (.slice (some ⟨g7, 0, none⟩) (n + 1) (n + 1)) (.slice (some ⟨g6, 0, none⟩) (n + 1) c6) ((M.partRow (M.Fo j) (n + 1) m).set m 0) (M.lowRow n j)) := by rw [M.partRow_here]; exact ht2.out
        go_wp2
        go_loopw [9] (fun s9 wr => ∃ (q y : Nat), 1 ≤ q ∧ q ≤ m + 1 ∧ s9 = .int .i64 (q : Int) ∧ Hid (M.sumTo (fun x => M.TrN j (x + 1) * M.Fo j (m - 1 - x)) (q - 1) = y) ∧ Hid (Two wr W.heap.size (.slice (some ⟨g7, 0, none⟩) (n + 1) (n + 1)) (.slice (some ⟨g6, 0, none⟩) (n + 1) c6) ((M.partRow (M.Fo j) (n + 1) m).set m (y : Int)) (M.lowRow n j)) ∧ Hid (Below W.heap.size W wr)) (fun s9 _ => 40 - (intOf s9).toNat)
        case atStart => exact ⟨1, 0, Nat.le_refl _, by omega, rfl, rfl, hst2, hbr⟩
        case round =>
          obtain ⟨q, y, hq1, hq, rfl, hy, ht4, hbr4⟩ := hrel
          clear hst2
          have hl4 : ((M.partRow (M.Fo j) (n + 1) m).set m (y : Int)).length = n + 1 := by rw [List.length_set, M.partRow_len]
          by_cases hqm : q ≤ m
          · have hqm2 : (q : Int) ≤ (m : Int) := by omega
            obtain ⟨d, hd⟩ : ∃ d, Hid (m - q = d) := ⟨_, rfl⟩
            have hdo := hd.out
            obtain ⟨c1, c1f, _, _⟩ := own64_cell ht4.out.1 hl4 (k := m) (x := (y : Int)) (List.getElem?_set_self (by rw [M.partRow_len]; omega))
            have c2 := (own64_cell ht4.out.2.1 (M.partRow_len _ _ _) (M.partRow_at (f := M.TrN j) (N := n + 1) (m := n + 1) (i := q) (by omega) (by omega))).1
            have c3 := (own64_cell ht4.out.1 hl4 (k := d) (x := (M.Fo j d : Int)) (by rw [List.getElem?_set_ne (by omega)]; exact M.partRow_at (by omega) (by omega))).1
            have hy1 := M.Fomodel_small (j := j) (m := m) (k := q - 1) (by omega) (by omega) (by omega)
            have hy2 := M.Fomodel_small (j := j) (m := m) (k := q + 1 - 1) (by omega) (by omega) (by omega)
            have hs : Hid (M.sumTo (fun x => M.TrN j (x + 1) * M.Fo j (m - 1 - x)) (q + 1 - 1) = y + M.TrN j q * M.Fo j d) := by
              show _ = _
              have e1 : q + 1 - 1 = (q - 1) + 1 := by omega
              have e2 : q - 1 + 1 = q := by omega
              have e3 : m - 1 - (q - 1) = d := by omega
              rw [e1, M.sumTo, hy.out, e2, e3]
            rw [hs.out] at hy2
            rw [hy.out] at hy1
            generalize M.TrN j q = a at *
            generalize M.Fo j d = b at *
            obtain ⟨ad, had⟩ : ∃ ad, Hid (a * b = ad) := ⟨_, rfl⟩
            rw [had.out] at hs hy2
            have hmul : ((a : Int) * (b : Int)) = (ad : Int) := by rw [← had.out]; exact (Int.natCast_mul a b).symm
            have hw1 : IntKind.i64.wrap ((a : Int) * (b : Int)) = (ad : Int) := by rw [hmul]; exact IntWalk.i64_in _ (by omega)
            have hw2 : IntKind.i64.wrap ((y : Int) + (ad : Int)) = (y : Int) + (ad : Int) := IntWalk.i64_in _ (by omega)
            have hw3 : IntKind.i64.wrap ((m : Int) - (q : Int)) = (d : Int) := by rw [IntWalk.i64_in _ (by omega)]; omega
            have hi1 : (0 : Int) ≤ (d : Int) := by omega
            have hi2 : (d : Int) < (n : Int) + 1 := by omega
            have hi3 : (0 : Int) ≤ (q : Int) := by omega
            have hi4 : (q : Int) < (n : Int) + 1 := by omega
            have hi5 : (m : Int) < (n : Int) + 1 := by omega
            have hset4 := ht4.out.set hl4 m ((y : Int) + (ad : Int))
            rw [List.set_set] at hset4
            have hset4 := Lib.hid hset4
            have hb4 := Lib.hid (below_setCell (k := m) hbr4.out Hg7.out (.int .i64 ((y : Int) + (ad : Int))))
            have ecast : Hid (((y + ad : Nat) : Int) = (y : Int) + (ad : Int)) := Int.natCast_add y ad
            have hl4 := Lib.hid hl4
            clear hmul hdo ht4 hbr4
            go_wp2
            go_region
            go_wp2
            go_roundw
            case rel => exact ⟨q + 1, y + ad, by omega, by omega, by go_num, hs, by rw [ecast.out]; exact hset4.out, hb4.out.drew⟩
            case measure => simp [intOf]; omega
          · obtain rfl : q = m + 1 := by omega
            have hge : ¬ ((m + 1 : Nat) : Int) ≤ (m : Int) := by omega
            have hL : Hid (M.Fo j m = y) := (M.Fo_model (by omega)).trans hy.out
            have ht5 : Hid (Two wr W.heap.size (.slice (some ⟨g7, 0, none⟩) (n + 1) (n + 1)) (.slice (some ⟨g6, 0, none⟩) (n + 1) c6) (M.partRow (M.Fo j) (n + 1) (m + 1)) (M.lowRow n j)) := by rw [← M.partRow_step, hL.out]; exact ht4.out
            clear hl4
            go_wp2
            go_roundw
            case rel => exact ⟨m + 1, by omega, by omega, by go_num, ht5, hbr4⟩
            case measure => simp [intOf]; omega
      · obtain rfl : m = n + 1 := by omega
        have hge : ¬ ((n + 1 : Nat) : Int) ≤ (n : Int) := by omega
        have hz := Hsz.out
        have hO : Hid (Own64 wr w.heap.size (.slice (some ⟨w.heap.size, 0, none⟩) (n + 1) (n + 1)) ((M.partRow (M.TrN (j + 1)) (n + 1) 0).set 0 0)) := by rw [M.partRow_here]; exact own_be hst.out hbr.out
        have hO1 : Hid (Own64 wr w.heap.size (.slice (some ⟨w.heap.size, 0, none⟩) (n + 1) (n + 1)) (M.partRow (M.TrN (j + 1)) (n + 1) 1)) := by
          have e : M.TrN (j + 1) 0 = 0 := by simp [M.TrN]
          have h1 := hO.out
          have h2 := M.partRow_step (f := M.TrN (j + 1)) (N := n + 1) (m := 0)
          rw [e] at h2
          exact own64_eq h1 h2
        have hF : Hid (Own64 wr W.heap.size (.slice (some ⟨g7, 0, none⟩) (n + 1) (n + 1)) (M.partRow (M.Fo j) (n + 1) (n + 1))) := ht2.out.1
        have hB2 : Hid (Below w.heap.size w wr) := hb0.out.trans (hbr.out.mono (by omega))
        clear hO hst ht2 hbr hb0
        go_wp2
        go_loopw [10] (fun s10 wr => ∃ m : Nat, 1 ≤ m ∧ m ≤ n + 1 ∧ s10 = .int .i64 (m : Int) ∧ Hid (Own64 wr w.heap.size (.slice (some ⟨w.heap.size, 0, none⟩) (n + 1) (n + 1)) (M.partRow (M.TrN (j + 1)) (n + 1) m)) ∧ Hid (Own64 wr W.heap.size (.slice (some ⟨g7, 0, none⟩) (n + 1) (n + 1)) (M.partRow (M.Fo j) (n + 1) (n + 1))) ∧ Hid (Below w.heap.size w wr)) (fun s10 _ => 40 - (intOf s10).toNat)
        case atStart => exact ⟨1, Nat.le_refl _, by omega, rfl, hO1, hF, hB2⟩
        case round =>
          obtain ⟨m, hm1, hm, rfl, hO, hF, hB⟩ := hrel
          clear hO1 hB2
          by_cases hmn : m ≤ n
          · have hmn2 : (m : Int) ≤ (n : Int) := by omega
            obtain ⟨d, hd⟩ : ∃ d, Hid (m - 1 = d) := ⟨_, rfl⟩
            have hdo := hd.out
            have hsub : (m : Int) - 1 = (d : Int) := by omega
            have c3 := (own64_cell hF.out (M.partRow_len _ _ _) (M.partRow_at (f := M.Fo j) (N := n + 1) (m := n + 1) (i := d) (by omega) (by omega))).1
            obtain ⟨yo, hyo⟩ : ∃ yo, (M.partRow (M.TrN (j + 1)) (n + 1) m)[m]? = some yo := ⟨_, List.getElem?_eq_getElem (by rw [M.partRow_len]; omega)⟩
            obtain ⟨c1, c1f, _, _⟩ := own64_cell hO.out (M.partRow_len _ _ _) hyo
            have hTr : M.TrN (j + 1) m = M.Fo j d := by rw [← hd.out]; simp [M.TrN]; omega
            have hsetO := own64_set hO.out (M.partRow_len _ _ _) m (M.Fo j d : Int)
            rw [← hTr, M.partRow_step] at hsetO
            rw [← hTr] at c3
            have hsetO := Lib.hid hsetO
            have hsetF := Lib.hid (own_far (g := w.heap.size) (k := m) hF.out (by omega) (.int .i64 (M.TrN (j + 1) m : Int)))
            have hbO := Lib.hid (below_setCell (k := m) hB.out (Nat.le_refl _) (.int .i64 (M.TrN (j + 1) m : Int)))
            have hi5 : (m : Int) < (n : Int) + 1 := by omega
            have hi6 : (d : Int) < (n : Int) + 1 := by omega
            generalize M.TrN (j + 1) m = x at *
            clear hTr hyo hdo hO hF hB
            go_wp2
            go_roundw
            case rel => exact ⟨m + 1, by omega, by omega, by go_num, hsetO, hsetF, hbO⟩
            case measure => simp [intOf]; omega
          · obtain rfl : m = n + 1 := by omega
            have hge : ¬ ((n + 1 : Nat) : Int) ≤ (n : Int) := by omega
            go_wp2
            go_ret
            exact ⟨_, _, rfl, hO, hB⟩

theorem lowAt (n : Nat) (hn : n ≤ 30) : ∀ levels : Nat, levels ≤ 31 → LowAt n levels := by
  intro levels
  induction levels with
  | zero => intro _; exact low_zero n hn
  | succ j ih =>
    intro hj w
    have ec : ((j + 1 : Nat) : Int) - 1 = (j : Int) := by omega
    rw [ec]
    exact low_step n j hn (by omega) (ih (by omega)) w
end Go.Proofs.Ytdgcjkgbglofbaa

/- CountByHeight, the program's and the model's: the number of trees by their height, or a code. -/
namespace Go.Proofs.Ytdgcjkgbglofbaa
open Go.RowKit

def F_CountByHeight (n k : Int) : Int × Int := if (1 ≤ n ∧ n ≤ 30) ∧ 0 ≤ k ∧ k ≤ n then ((M.TrN (k.toNat + 1) n.toNat : Int) - (M.TrN k.toNat n.toNat : Int), 0) else (0, 2)
theorem TrN_small {h n : Nat} (hn : n ≤ 30) : M.TrN h n ≤ 10000000000000000 := by
  rw [M.TrN]
  split
  · omega
  · exact M.Fo_small (by omega)

set_option maxHeartbeats 1000000 in
/-- treesWithin at one node or more, at whatever height from -1 on -/
theorem treesAt (b m levels : Nat) (W : World) (hm : m + 1 ≤ 30) (hl : levels ≤ 31) (hM : Hid (Memo Fk W b)) :
    Calls Try.prog 224 #[.map (some b), .int .i64 ((m : Int) + 1), .int .i64 ((levels : Int) - 1)] W fun e W' => e = .returned (.int .i64 (M.TrN levels (m + 1) : Int)) ∧ Hid (Memo Fk W' b) ∧ Hid (W.grownBy W' (some b)) := by
  cases levels with
  | zero =>
    have := treesWithin_neg b (m + 1) W hM
    have e1 : ((m + 1 : Nat) : Int) = (m : Int) + 1 := by omega
    rw [e1] at this
    exact this
  | succ j =>
    have e : ((j + 1 : Nat) : Int) - 1 = (j : Int) := by omega
    have e2 : M.TrN (j + 1) (m + 1) = M.Fo j m := by simp [M.TrN]
    rw [e, e2]
    exact treesWithin_at b m j (j : Int) ((j : Int) - 1) W (by omega) (by omega) rfl (withinAt b j (by omega) m (by omega)) hM

set_option maxHeartbeats 1000000 in
set_option maxRecDepth 100000 in
theorem impl_CountByHeight : GivesNumN2 94 F_CountByHeight := by
  intro n k w _ _ _ _
  obtain ⟨b, hb⟩ : ∃ b, Hid (((decide ((1 : Int) ≤ n) && decide (n ≤ 30)) && (decide (0 ≤ k) && decide (k ≤ n))) = b) := ⟨_, rfl⟩
  cases b
  · have hF : F_CountByHeight n k = (0, 2) := if_neg (fun h => by have := counted_iff.2 h; rw [hb.out] at this; cases this)
    rw [hF]
    clear hF
    go_enter Try.func94, Try.ntmps94
    go_wp2_with (go_at_call 220; refine (countedAny _ _ _ _ hb).mono ?_; rintro e w' ⟨rfl, rfl⟩)
    go_ret2
    exact ⟨rfl, b0 _⟩
  · have h12 := counted_iff.1 hb.out
    obtain ⟨m, hm0⟩ := Int.eq_ofNat_of_zero_le (show 0 ≤ n - 1 by omega)
    obtain rfl : n = (m : Int) + 1 := by omega
    clear hm0
    obtain ⟨t, rfl⟩ := Int.eq_ofNat_of_zero_le (show 0 ≤ k by omega)
    have hF : F_CountByHeight ((m : Int) + 1) t = ((M.TrN (t + 1) (m + 1) : Int) - (M.TrN t (m + 1) : Int), 0) := by
      have e1 : ((m : Int) + 1).toNat = m + 1 := by omega
      rw [F_CountByHeight, if_pos h12, e1, Int.toNat_natCast]
    have hm : m ≤ 29 := by omega
    have ht : t ≤ 30 := by omega
    have hc1 := treesAt w.heap.size m (t + 1) (w.alloc (.map #[] 0)) (by omega) (by omega) (Memo.new Fk w)
    have ec : ((t + 1 : Nat) : Int) - 1 = (t : Int) := by omega
    rw [ec] at hc1
    have hc2 : ∀ W, Hid (Memo Fk W w.heap.size) → Calls Try.prog 224 #[.map (some w.heap.size), .int .i64 ((m : Int) + 1), .int .i64 ((t : Int) - 1)] W fun e W' => e = .returned (.int .i64 (M.TrN t (m + 1) : Int)) ∧ Hid (Memo Fk W' w.heap.size) ∧ Hid (W.grownBy W' (some w.heap.size)) := fun W hM => treesAt w.heap.size m t W (by omega) (by omega) hM
    have hs1 := TrN_small (h := t + 1) (n := m + 1) (by omega)
    have hs2 := TrN_small (h := t) (n := m + 1) (by omega)
    rw [hF]
    generalize M.TrN (t + 1) (m + 1) = x1 at *
    generalize M.TrN t (m + 1) = x2 at *
    have HC1 := Lib.hid hc1
    have HC2 := Lib.hid hc2
    have hmm := @run_makeMap Try.prog
    clear hF h12 hc1 hc2 ec
    go_enter Try.func94, Try.ntmps94
    go_wp2_with (go_at_call 220; refine (countedAny _ _ _ _ hb).mono ?_; rintro e w' ⟨rfl, rfl⟩)
    refine HC1.out.mono ?_
    rintro e w2 ⟨rfl, hM, hg⟩
    have hB : Hid (Below w.heap.size w w2) := (bal (b0 w) (.map #[] 0)).grown hg.out (by simp) (fun k e => by injection e with e; omega)
    clear hmm HC1
    go_wp2_with fail
    refine (HC2.out _ hM).mono ?_
    rintro e w3 ⟨rfl, hM3, hg3⟩
    have hB3 : Hid (Below w.heap.size w w3) := hB.out.grown hg3.out hB.out.size (fun k e => by injection e with e; omega)
    clear HC2
    go_wp2
    go_ret2
    exact ⟨rfl, hB3.out⟩

set_option maxHeartbeats 2000000 in
set_option maxRecDepth 100000 in
theorem spec_CountByHeight : GivesNumN2 95 F_CountByHeight := by
  intro n k w _ _ _ _
  obtain ⟨b, hb⟩ : ∃ b, Hid (((decide ((1 : Int) ≤ n) && decide (n ≤ 30)) && (decide (0 ≤ k) && decide (k ≤ n))) = b) := ⟨_, rfl⟩
  cases b
  · have hF : F_CountByHeight n k = (0, 2) := if_neg (fun h => by have := counted_iff.2 h; rw [hb.out] at this; cases this)
    rw [hF]
    clear hF
    go_enter Try.func95, Try.ntmps95
    go_wp2_with (go_at_call 222; refine (l02Numbers _ _ _ _ hb).mono ?_; rintro e w' ⟨rfl, rfl⟩)
    go_ret2
    exact ⟨rfl, b0 _⟩
  · have h12 := counted_iff.1 hb.out
    obtain ⟨n, rfl⟩ := Int.eq_ofNat_of_zero_le (show 0 ≤ n by omega)
    obtain ⟨t, rfl⟩ := Int.eq_ofNat_of_zero_le (show 0 ≤ k by omega)
    have hF : F_CountByHeight n t = ((M.TrN (t + 1) n : Int) - (M.TrN t n : Int), 0) := by rw [F_CountByHeight, if_pos h12]; rfl
    have hn1 : 1 ≤ n := by omega
    have hn : n ≤ 30 := by omega
    have ht : t ≤ n := by omega
    have hs1 := TrN_small (h := t + 1) hn
    have hs2 := TrN_small (h := t) hn
    have ec : ((t + 1 : Nat) : Int) - 1 = (t : Int) := by omega
    have low : ∀ levels : Nat, levels ≤ 31 → ∀ W, Calls Try.prog 225 #[.int .i64 (n : Int), .int .i64 ((levels : Int) - 1)] W fun e w' => ∃ g c', e = .returned (.slice (some ⟨g, 0, none⟩) (n + 1) c') ∧ w'.cell? ⟨g, n, none⟩ = some (.int .i64 (M.TrN levels n : Int)) ∧ g < w'.heap.size ∧ Hid (Below W.heap.size W w') := fun levels hl W => by
      refine (lowAt n hn levels hl W).mono ?_
      rintro e w' ⟨A', c', rfl, ho, hbw⟩
      obtain ⟨g, rfl⟩ := own64_shape ho.out (by omega)
      have hcl := own64_cell ho.out (M.partRow_len _ _ _) (M.partRow_at (f := M.TrN levels) (N := n + 1) (m := n + 1) (i := n) (by omega) (by omega))
      exact ⟨g, c', rfl, hcl.1, hcl.2.2.2, hbw⟩
    have hc1 := low (t + 1) (by omega)
    have hc2 := low t (by omega)
    rw [ec] at hc1
    rw [hF]
    generalize M.TrN (t + 1) n = x1 at *
    generalize M.TrN t n = x2 at *
    have HC1 := Lib.hid hc1
    have HC2 := Lib.hid hc2
    have hw1 : IntKind.i64.wrap ((t : Int) - 1) = (t : Int) - 1 := IntWalk.i64_in _ (by omega)
    have hw2 : IntKind.i64.wrap ((x1 : Int) - (x2 : Int)) = (x1 : Int) - (x2 : Int) := IntWalk.i64_in _ (by omega)
    have hi1 : (0 : Int) ≤ (n : Int) := by omega
    have hi2 : (n : Int) < (n : Int) + 1 := by omega
    clear hF h12 hc1 hc2 ec low
    go_enter Try.func95, Try.ntmps95
    go_wp2_with (go_at_call 222; refine (l02Numbers _ _ _ _ hb).mono ?_; rintro e w' ⟨rfl, rfl⟩)
    go_region_with (first | (go_at_call_of 225 (Value.int IntKind.i64 (t : Int)); (with_reducible refine (HC1.out _).mono ?_); rintro e w7 ⟨g7, c7, rfl, k7, hg7, hb7⟩) | (go_at_call 225; (with_reducible refine (HC2.out _).mono ?_); rintro e w8 ⟨g8, c8, rfl, k8, hg8, hb8⟩; have k7' := (hb8.out.cell (p := ⟨g7, n, none⟩) hg7).trans k7))
    all_goals (go_wp2)
    all_goals (go_ret2)
    all_goals exact ⟨rfl, below_of_drew (hb7.out.trans (hb8.out.mono hb7.out.size))⟩
end Go.Proofs.Ytdgcjkgbglofbaa

/- CountByRoot, the program's and the model's: the number of trees by the children of the root, or a code. -/
namespace Go.Proofs.Ytdgcjkgbglofbaa
open Go.RowKit

theorem below_of_drewR {B : Nat} {a w : World} (h : Below B a.drew w) : Below B a w := ⟨h.os, h.tape, h.output, h.size, h.block⟩

namespace M
/-- k trees of 0 to n - 1 nodes together -/
def wayRow (n k : Nat) : List Int := (List.range n).map fun m => (L m k : Int)
theorem wayRow_len (n k : Nat) : (wayRow n k).length = n := by simp [wayRow]
theorem wayRow_at {n k m : Nat} (h : m < n) : (wayRow n k)[m]? = some (L m k : Int) := by simp [wayRow, h]
theorem wayRow_start {n : Nat} : (List.replicate n (0 : Int)).set 0 1 = wayRow n 0 := by
  apply List.ext_getElem?
  intro j
  rcases Nat.lt_or_ge j n with hj | hj
  · rw [wayRow_at hj, L_base (.inr rfl)]
    rcases Nat.eq_zero_or_pos j with h0 | h0
    · subst h0; rw [List.getElem?_set_self (by simp; omega)]; rfl
    · rw [List.getElem?_set_ne (by omega), List.getElem?_replicate, if_pos hj, if_neg (by omega)]; rfl
  · rw [List.getElem?_eq_none (by simp; omega), List.getElem?_eq_none (by rw [wayRow_len]; exact hj)]
/-- the first m of them -/
def nextTo (n k m : Nat) : List Int := (List.range n).map fun i => if i < m then (L i k : Int) else 0
theorem nextTo_len (n k m : Nat) : (nextTo n k m).length = n := by simp [nextTo]
theorem nextTo_start (n k : Nat) : nextTo n k 0 = List.replicate n 0 := by
  apply List.ext_getElem?
  intro j
  simp only [nextTo, List.getElem?_map, List.getElem?_replicate]
  rcases Nat.lt_or_ge j n with hj | hj
  · rw [List.getElem?_range hj, if_pos hj]; simp
  · rw [List.getElem?_eq_none (by simp; omega), if_neg (by omega)]; rfl
theorem nextTo_end (n k : Nat) : nextTo n k n = wayRow n k := by
  apply List.ext_getElem?
  intro j
  simp only [nextTo, wayRow, List.getElem?_map]
  rcases Nat.lt_or_ge j n with hj | hj
  · rw [List.getElem?_range hj]; simp [hj]
  · rw [List.getElem?_eq_none (by simp; omega)]; rfl
theorem nextTo_here {n k m : Nat} (h : m < n) : (nextTo n k m).set m 0 = nextTo n k m := by
  apply List.ext_getElem?
  intro j
  by_cases hj : m = j
  · subst hj
    rw [List.getElem?_set_self (by rw [nextTo_len]; exact h)]
    simp [nextTo, h]
  · rw [List.getElem?_set_ne hj]
theorem nextTo_step {n k m : Nat} (h : m < n) : (nextTo n k m).set m (L m k : Int) = nextTo n k (m + 1) := by
  apply List.ext_getElem?
  intro j
  by_cases hj : m = j
  · subst hj
    rw [List.getElem?_set_self (by rw [nextTo_len]; exact h)]
    simp [nextTo, h]
  · rw [List.getElem?_set_ne hj]
    simp only [nextTo, List.getElem?_map]
    rcases Nat.lt_or_ge j n with hjn | hjn
    · rw [List.getElem?_range hjn]
      simp only [Option.map_some]
      congr 1
      by_cases h3 : j < m
      · rw [if_pos h3, if_pos (by omega)]
      · rw [if_neg h3, if_neg (by omega)]
    · rw [List.getElem?_eq_none (by simp; omega)]; rfl
theorem conv_sum {m k j : Nat} (hm : m ≤ 29) (hk : k ≤ 30) (hj : j ≤ m) : sumTo (fun x => L (x + 1) 1 * L (m - 1 - x) k) j ≤ 1152921504606846976 := by
  have h1 := sumTo_le (f := fun x => L (x + 1) 1 * L (m - 1 - x) k) hj
  have h2 := L_small (n := m) (t := k + 1) (by omega)
  rw [L_first (by omega) hk] at h2
  omega
end M

def F_CountByRoot (n k : Int) : Int × Int := if (1 ≤ n ∧ n ≤ 30) ∧ 0 ≤ k ∧ k ≤ n then ((M.L (n.toNat - 1) k.toNat : Int), 0) else (0, 2)

set_option maxHeartbeats 1000000 in
set_option maxRecDepth 100000 in
theorem impl_CountByRoot : GivesNumN2 96 F_CountByRoot := by
  intro n k w _ _ _ _
  obtain ⟨b, hb⟩ : ∃ b, Hid (((decide ((1 : Int) ≤ n) && decide (n ≤ 30)) && (decide (0 ≤ k) && decide (k ≤ n))) = b) := ⟨_, rfl⟩
  cases b
  · have hF : F_CountByRoot n k = (0, 2) := if_neg (fun h => by have := counted_iff.2 h; rw [hb.out] at this; cases this)
    rw [hF]
    clear hF
    go_enter Try.func96, Try.ntmps96
    go_wp2_with (go_at_call 220; refine (countedAny _ _ _ _ hb).mono ?_; rintro e w' ⟨rfl, rfl⟩)
    go_ret2
    exact ⟨rfl, b0 _⟩
  · have h12 := counted_iff.1 hb.out
    obtain ⟨m, hm0⟩ := Int.eq_ofNat_of_zero_le (show 0 ≤ n - 1 by omega)
    obtain rfl : n = (m : Int) + 1 := by omega
    clear hm0
    obtain ⟨t, rfl⟩ := Int.eq_ofNat_of_zero_le (show 0 ≤ k by omega)
    have hF : F_CountByRoot ((m : Int) + 1) t = ((M.L m t : Int), 0) := by
      have e1 : ((m : Int) + 1).toNat - 1 = m := by omega
      rw [F_CountByRoot, if_pos h12, e1, Int.toNat_natCast]
    have hm : m ≤ 29 := by omega
    have hc := Lib.hid (listsAt w.heap.size m (by omega) t (w.alloc (.map #[] 0)) (by omega) (Memo.new M.L w))
    have hmm := @run_makeMap Try.prog
    rw [hF]
    clear hF h12
    go_enter Try.func96, Try.ntmps96
    go_wp2_with (go_at_call 220; refine (countedAny _ _ _ _ hb).mono ?_; rintro e w' ⟨rfl, rfl⟩)
    refine hc.out.mono ?_
    rintro e w2 ⟨rfl, hM, hg⟩
    have hB : Hid (Below w.heap.size w w2) := (bal (b0 w) (.map #[] 0)).grown hg.out (by simp) (fun k e => by injection e with e; omega)
    clear hmm hc
    go_wp2
    go_ret2
    exact ⟨rfl, hB.out⟩

set_option maxHeartbeats 4000000 in
set_option maxRecDepth 100000 in
theorem spec_CountByRoot : GivesNumN2 97 F_CountByRoot := by
  intro n k w _ _ _ _
  obtain ⟨b, hb⟩ : ∃ b, Hid (((decide ((1 : Int) ≤ n) && decide (n ≤ 30)) && (decide (0 ≤ k) && decide (k ≤ n))) = b) := ⟨_, rfl⟩
  cases b
  · have hF : F_CountByRoot n k = (0, 2) := if_neg (fun h => by have := counted_iff.2 h; rw [hb.out] at this; cases this)
    rw [hF]
    clear hF
    go_enter Try.func97, Try.ntmps97
    go_wp2_with (go_at_call 222; refine (l02Numbers _ _ _ _ hb).mono ?_; rintro e w' ⟨rfl, rfl⟩)
    go_ret2
    exact ⟨rfl, b0 _⟩
  · have h12 := counted_iff.1 hb.out
    obtain ⟨n, rfl⟩ := Int.eq_ofNat_of_zero_le (show 0 ≤ n by omega)
    obtain ⟨t, rfl⟩ := Int.eq_ofNat_of_zero_le (show 0 ≤ k by omega)
    have hF : F_CountByRoot n t = ((M.L (n - 1) t : Int), 0) := by rw [F_CountByRoot, if_pos h12]; rfl
    have hn1 : 1 ≤ n := by omega
    have hn : n ≤ 30 := by omega
    have htn : t ≤ n := by omega
    have hmk := run_make_row' (P := Try.prog) 24 2 (.int .i64 0) 8 Try.underlying24 info64 rfl .i64 .i64 n (by omega) (by omega)
    obtain ⟨d1, hd1⟩ : ∃ d, Hid (n - 1 = d) := ⟨_, rfl⟩
    rw [hF, hd1.out]
    clear hF h12
    go_enter Try.func97, Try.ntmps97
    go_upto_region 3 with (go_at_call 222; refine (l02Numbers _ _ _ _ hb).mono ?_; rintro e w' ⟨rfl, rfl⟩)
    go_cut [6, 7] (fun s6 s7 wx => ∃ (A6 : Option Addr) (c6 g7 : Nat), s6 = .slice A6 (n + 1) c6 ∧ s7 = .slice (some ⟨g7, 0, none⟩) n n ∧ Hid (Two wx w.heap.size (.slice (some ⟨g7, 0, none⟩) n n) (.slice A6 (n + 1) c6) (List.replicate n 0) (M.cats n)) ∧ Hid (Below w.heap.size w wx))
    case first =>
      have hN : ∀ W', Hid (Below w.heap.size w W') → Calls Try.prog 226 #[.int .i64 (n : Int)] W' fun e w' => ∃ A' c', e = .returned (.slice A' (n + 1) c') ∧ Hid (Own64 w' W'.heap.size (.slice A' (n + 1) c') (M.cats n)) ∧ Hid (Below W'.heap.size W' w') := fun W' _ =>
        l02Catalan n W' hn1 hn
      go_region_with (first | (go_at_call 226; refine (l02Catalan n _ hn1 hn).mono ?_; rintro e w7 ⟨A7, c7, rfl, ho7, hb7⟩))
      all_goals (go_wp2_with fail)
      all_goals (go_meet)
      · have hb := below_of_drewR hb7
        have z := hb.size
        exact ⟨A7, c7, w7.heap.size, rfl, rfl, ⟨own_mono (own64_made (w := w7) (B := w7.heap.size) (n := n) (Nat.le_refl _) (by unfold maxLen; omega)) z, own_mono (ho7.alloc _) (by simp), fun b e e2 => by
          have e1 : b = w7.heap.size := by injection e with e; exact e.symm
          have := (World.ownsRow.lt ho7 b e2).2
          omega⟩, bal hb _⟩
      · have hb := below_of_drewR hb7
        have z := hb.size
        exact ⟨A7, c7, w.heap.size, rfl, rfl, ⟨own_be (own64_made (w := w) (B := w.heap.size) (n := n) (Nat.le_refl _) (by unfold maxLen; omega)) hb, own_mono ho7 (by simp), fun b e e2 => by
          have e1 : b = w.heap.size := by injection e with e; exact e.symm
          have := (World.ownsRow.lt ho7 b e2).1
          simp at this
          omega⟩, btr (bal (b0 w) _) hb⟩
    case rest =>
      obtain ⟨A6, c6, g7, rfl, rfl, ht2, hbx⟩ := hcut
      have hset := ht2.out.set (by simp) 0 1
      rw [M.wayRow_start] at hset
      have hset := Lib.hid hset
      obtain ⟨c1, c2, hg7, _⟩ := own64_cell ht2.out.1 (by simp) (k := 0) (x := 0) (by rw [List.getElem?_replicate, if_pos (by omega)])
      have hbs := Lib.hid (below_setCell (k := 0) hbx.out hg7 (.int .i64 1))
      clear ht2 hbx
      go_wp2
      go_loopw [1, 7, 8, 9, 10] (fun s1 s7 _ _ _ wr => ∃ (r j g : Nat), r + j = t ∧ s1 = .int .i64 (r : Int) ∧ s7 = .slice (some ⟨g, 0, none⟩) n n ∧ Hid (Own64 wr w.heap.size (.slice (some ⟨g, 0, none⟩) n n) (M.wayRow n j)) ∧ Hid (Own64 wr w.heap.size (.slice A6 (n + 1) c6) (M.cats n)) ∧ Hid (Below w.heap.size w wr)) (fun s1 _ _ _ _ _ => (intOf s1).toNat)
      case atStart => exact ⟨t, 0, g7, by omega, rfl, rfl, hset.out.1, hset.out.2.1, hbs⟩
      case round =>
        obtain ⟨r, j, g, hrj, rfl, rfl, ho1, ho2, hbr⟩ := hrel
        clear c1 c2 hset hbs
        by_cases hr : 0 < r
        · have hr2 : (0 : Int) < (r : Int) := by omega
          have z2 := hbr.out.size
          obtain ⟨w2, rfl⟩ : ∃ w2 : World, w2 = wr := ⟨_, rfl⟩
          have hst : Hid (Own64 (w2.alloc (.cells (madeCells #[.int .i64 0] n) 2)) w2.heap.size (.slice (some ⟨w2.heap.size, 0, none⟩) n n) (M.nextTo n (j + 1) 0)) := by rw [M.nextTo_start]; exact own64_made (w := w2) (B := w2.heap.size) (n := n) (Nat.le_refl _) (by unfold maxLen; omega)
          have hb0 : Hid (Below w2.heap.size w2 (w2.alloc (.cells (madeCells #[.int .i64 0] n) 2))) := bal (b0 w2) _
          obtain ⟨g6, rfl⟩ := own64_shape ho2.out (by omega)
          go_wp2
          go_loopw [9, 10] (fun s9 _ wr => ∃ m : Nat, m ≤ n ∧ s9 = .int .i64 (m : Int) ∧ Hid (Own64 wr w2.heap.size (.slice (some ⟨w2.heap.size, 0, none⟩) n n) (M.nextTo n (j + 1) m)) ∧ Hid (Below w2.heap.size w2 wr)) (fun s9 _ _ => 40 - (intOf s9).toNat)
          case atStart => exact ⟨0, Nat.zero_le _, rfl, hst, hb0⟩
          case round =>
            obtain ⟨m, hm, rfl, ho3, hbr3⟩ := hrel
            clear hst hb0
            by_cases hmn : m < n
            · have hmn2 : (m : Int) < (n : Int) := by omega
              have hst : Hid (Own64 wr w2.heap.size (.slice (some ⟨w2.heap.size, 0, none⟩) n n) ((M.nextTo n (j + 1) m).set m 0)) := by rw [M.nextTo_here hmn]; exact ho3.out
              go_wp2
              go_loopw [10] (fun s10 wr => ∃ (q y : Nat), 1 ≤ q ∧ q ≤ m + 1 ∧ s10 = .int .i64 (q : Int) ∧ Hid (M.sumTo (fun x => M.L (x + 1) 1 * M.L (m - 1 - x) j) (q - 1) = y) ∧ Hid (Own64 wr w2.heap.size (.slice (some ⟨w2.heap.size, 0, none⟩) n n) ((M.nextTo n (j + 1) m).set m (y : Int))) ∧ Hid (Below w2.heap.size w2 wr)) (fun s10 _ => 40 - (intOf s10).toNat)
              case atStart => exact ⟨1, 0, Nat.le_refl _, by omega, rfl, rfl, hst, hbr3⟩
              case round =>
                obtain ⟨q, y, hq1, hq, rfl, hy, ho4, hbr4⟩ := hrel
                clear hst
                have hl4 : ((M.nextTo n (j + 1) m).set m (y : Int)).length = n := by rw [List.length_set, M.nextTo_len]
                by_cases hqm : q ≤ m
                · have hqm2 : (q : Int) ≤ (m : Int) := by omega
                  obtain ⟨d, hd⟩ : ∃ d, Hid (m - q = d) := ⟨_, rfl⟩
                  have hdo := hd.out
                  obtain ⟨c1, c1f, _, _⟩ := own64_cell ho4.out hl4 (k := m) (x := (y : Int)) (List.getElem?_set_self (by rw [M.nextTo_len]; exact hmn))
                  have c2 := (own64_cell (own_be ho2.out hbr4.out) (M.cats_len n) (M.cats_at (n := n) (k := q) (by omega))).1
                  have c3 := (own64_cell (own_be ho1.out hbr4.out) (M.wayRow_len n j) (M.wayRow_at (n := n) (k := j) (m := d) (by omega))).1
                  have hy1 := M.conv_sum (m := m) (k := j) (j := q - 1) (by omega) (by omega) (by omega)
                  have hy2 := M.conv_sum (m := m) (k := j) (j := q + 1 - 1) (by omega) (by omega) (by omega)
                  have hs : Hid (M.sumTo (fun x => M.L (x + 1) 1 * M.L (m - 1 - x) j) (q + 1 - 1) = y + M.L q 1 * M.L d j) := by
                    show _ = _
                    have e1 : q + 1 - 1 = (q - 1) + 1 := by omega
                    have e2 : q - 1 + 1 = q := by omega
                    have e3 : m - 1 - (q - 1) = d := by omega
                    rw [e1, M.sumTo, hy.out, e2, e3]
                  rw [hs.out] at hy2
                  rw [hy.out] at hy1
                  generalize M.L q 1 = a at *
                  generalize M.L d j = b at *
                  obtain ⟨ad, had⟩ : ∃ ad, Hid (a * b = ad) := ⟨_, rfl⟩
                  rw [had.out] at hs hy2
                  have hmul : ((a : Int) * (b : Int)) = (ad : Int) := by rw [← had.out]; exact (Int.natCast_mul a b).symm
                  have hw1 : IntKind.i64.wrap ((a : Int) * (b : Int)) = (ad : Int) := by rw [hmul]; exact IntWalk.i64_in _ (by omega)
                  have hw2 : IntKind.i64.wrap ((y : Int) + (ad : Int)) = (y : Int) + (ad : Int) := IntWalk.i64_in _ (by omega)
                  have hw3 : IntKind.i64.wrap ((m : Int) - (q : Int)) = (d : Int) := by rw [IntWalk.i64_in _ (by omega)]; omega
                  have hi1 : (0 : Int) ≤ (d : Int) := by omega
                  have hi2 : (d : Int) < (n : Int) := by omega
                  have hi3 : (0 : Int) ≤ (q : Int) := by omega
                  have hi4 : (q : Int) < (n : Int) + 1 := by omega
                  have hset4 := own64_set ho4.out hl4 m ((y : Int) + (ad : Int))
                  rw [List.set_set] at hset4
                  have hset4 := Lib.hid hset4
                  have hb4 := Lib.hid (below_setCell (k := m) hbr4.out (Nat.le_refl _) (.int .i64 ((y : Int) + (ad : Int))))
                  have ecast : Hid (((y + ad : Nat) : Int) = (y : Int) + (ad : Int)) := Int.natCast_add y ad
                  have hl4 := Lib.hid hl4
                  clear hmul hdo ho4 hbr4
                  go_wp2
                  go_region
                  go_wp2
                  go_roundw
                  case rel => exact ⟨q + 1, y + ad, by omega, by omega, by go_num, hs, by rw [ecast.out]; exact hset4.out, hb4.out.drew⟩
                  case measure => simp [intOf]; omega
                · obtain rfl : q = m + 1 := by omega
                  have hge : ¬ ((m + 1 : Nat) : Int) ≤ (m : Int) := by omega
                  have hL : Hid (M.L m (j + 1) = y) := (M.L_first (by omega) (by omega)).trans hy.out
                  have ho5 : Hid (Own64 wr w2.heap.size (.slice (some ⟨w2.heap.size, 0, none⟩) n n) (M.nextTo n (j + 1) (m + 1))) := by rw [← M.nextTo_step hmn, hL.out]; exact ho4.out
                  clear hl4
                  go_wp2
                  go_roundw
                  case rel => exact ⟨m + 1, by omega, by go_num, ho5, hbr4⟩
                  case measure => simp [intOf]; omega
            · obtain rfl : m = n := by omega
              have hge : ¬ (m : Int) < (m : Int) := by omega
              have ho5 : Hid (Own64 wr w.heap.size (.slice (some ⟨w2.heap.size, 0, none⟩) m m) (M.wayRow m (j + 1))) := by rw [← M.nextTo_end]; exact own_mono ho3.out z2
              have ho6 := Lib.hid (own_be ho2.out hbr3.out)
              have hb6 := Lib.hid (btr hbr.out hbr3.out)
              go_wp2
              go_roundw
              case rel => exact ⟨r - 1, j + 1, w2.heap.size, by omega, by go_num, rfl, ho5, ho6, hb6⟩
              case measure => simp [intOf]; omega
        · obtain rfl : r = 0 := by omega
          obtain rfl : j = t := by omega
          have c3 := (own64_cell ho1.out (M.wayRow_len n j) (M.wayRow_at (n := n) (k := j) (m := n - 1) (by omega))).1
          rw [hd1.out] at c3
          have hw3 : (n : Int) - 1 = (d1 : Int) := by have := hd1.out; omega
          go_wp2
          go_ret2
          exact ⟨rfl, hbr.out⟩
end Go.Proofs.Ytdgcjkgbglofbaa

/- CountTrees, the program's and the model's: the number of trees of n nodes, or a code. -/
namespace Go.Proofs.Ytdgcjkgbglofbaa
open Go.RowKit

def F_CountTrees (n : Int) : Int × Int := if 1 ≤ n ∧ n ≤ 30 then ((M.L n.toNat 1 : Int), 0) else (0, 2)

set_option maxHeartbeats 1000000 in
set_option maxRecDepth 100000 in
theorem impl_CountTrees : GivesNumN1 90 F_CountTrees := by
  intro n w _ _
  obtain ⟨b, hb⟩ : ∃ b, Hid ((decide ((1 : Int) ≤ n) && decide (n ≤ 30)) = b) := ⟨_, rfl⟩
  cases b
  · have hF : F_CountTrees n = (0, 2) := if_neg (by have := hb.out; simp at this; omega)
    rw [hF]
    clear hF
    go_enter Try.func90, Try.ntmps90
    go_wp2_with (go_at_call 216; refine (withinAny _ _ _ _ _ hb).mono ?_; rintro e w' ⟨rfl, rfl⟩)
    go_ret2
    exact ⟨rfl, b0 _⟩
  · have h12 := hb.out
    simp only [Bool.and_eq_true, decide_eq_true_eq] at h12
    obtain ⟨m, rfl⟩ := Int.eq_ofNat_of_zero_le (show 0 ≤ n by omega)
    have hF : F_CountTrees m = ((M.L m 1 : Int), 0) := if_pos h12
    have hc := Lib.hid (listsAt w.heap.size m (by omega) 1 (w.alloc (.map #[] 0)) (by omega) (Memo.new M.L w))
    have hmm := @run_makeMap Try.prog
    rw [hF]
    clear hF h12
    go_enter Try.func90, Try.ntmps90
    go_wp2_with (go_at_call 216; refine (withinAny _ _ _ _ _ hb).mono ?_; rintro e w' ⟨rfl, rfl⟩)
    refine hc.out.mono ?_
    rintro e w2 ⟨rfl, hM, hg⟩
    have hB : Hid (Below w.heap.size w w2) := (bal (b0 w) (.map #[] 0)).grown hg.out (by simp) (fun k e => by injection e with e; omega)
    clear hmm hc
    go_wp2
    go_ret2
    exact ⟨rfl, hB.out⟩

set_option maxHeartbeats 1000000 in
set_option maxRecDepth 100000 in
theorem spec_CountTrees : GivesNumN1 215 F_CountTrees := by
  intro n w _ _
  obtain ⟨b, hb⟩ : ∃ b, Hid ((decide ((1 : Int) ≤ n) && decide (n ≤ 30)) = b) := ⟨_, rfl⟩
  cases b
  · have hF : F_CountTrees n = (0, 2) := if_neg (by have := hb.out; simp at this; omega)
    rw [hF]
    clear hF
    go_enter Try.func215, Try.ntmps215
    go_wp2_with (go_at_call 229; refine (inAny _ _ _ _ _ hb).mono ?_; rintro e w' ⟨rfl, rfl⟩)
    go_ret2
    exact ⟨rfl, b0 _⟩
  · have h12 := hb.out
    simp only [Bool.and_eq_true, decide_eq_true_eq] at h12
    obtain ⟨m, rfl⟩ := Int.eq_ofNat_of_zero_le (show 0 ≤ n by omega)
    have hF : F_CountTrees m = ((M.L m 1 : Int), 0) := if_pos h12
    have hm1 : 1 ≤ m := by omega
    have hm2 : m ≤ 30 := by omega
    rw [hF]
    clear hF h12
    go_enter Try.func215, Try.ntmps215
    go_wp2_with (go_at_call 229; refine (inAny _ _ _ _ _ hb).mono ?_; rintro e w' ⟨rfl, rfl⟩)
    refine (l02Catalan m _ hm1 hm2).mono ?_
    rintro e w2 ⟨A', c', rfl, ho, hb2⟩
    obtain ⟨g, rfl⟩ := own64_shape ho (by omega)
    have c1 := (own64_cell ho (M.cats_len m) (M.cats_at (n := m) (k := m) (by omega))).1
    have hB := Lib.hid hb2
    clear ho hb2
    go_wp2
    go_ret2
    exact ⟨rfl, hB.out⟩
end Go.Proofs.Ytdgcjkgbglofbaa

/- Where a subtree ends: l01End, partAt, sizeAt: each stops within the list if the loop does. -/
namespace Go.Proofs.Ytdgcjkgbglofbaa
open Go.RowKit

set_option maxHeartbeats 1000000 in
theorem l01End (A : Option Addr) (xs : List Int) (c v E : Nat) (w : World) (hE : Hid (v + M.span 1 (xs.drop v) = E)) (hx : xs.length ≤ 24) (hk : Hid (M.ok 1 (xs.drop v))) (h : Ints w w.heap.size A xs) :
    Calls Try.prog 170 #[.agg #[.slice A xs.length c], .int .i64 v] w fun e w' => e = .returned (.int .i64 E) ∧ Below w.heap.size w w' := by
  have hv := M.ok_in (by omega) hk.out
  have hh := h.al (.cells #[.slice A xs.length c] 26)
  clear h
  go_enter Try.func170, Try.ntmps170
  go_wp2
  go_loop [1, 5] (fun i q => ∃ (k : Nat) (o : Int), v ≤ k ∧ k ≤ xs.length ∧ i = .int .i64 k ∧ q = .int .i64 o ∧ 0 ≤ o ∧ o ≤ 1 + 24 * k ∧ Hid (M.ok o (xs.drop k)) ∧ Hid (E = k + M.span o (xs.drop k))) (fun i _ => xs.length - (intOf i).toNat)
  case atStart => exact ⟨v, 1, Nat.le_refl _, by omega, rfl, rfl, by omega, by omega, hk, hE.out.symm⟩
  case round =>
    obtain ⟨k, o, hvk, hkn, rfl, rfl, ho0, ho1, hok, hs⟩ := hrel
    clear hk
    by_cases ho : 0 < o
    · have hlt := M.ok_in ho hok.out
      obtain ⟨b, off, x, rfl, hbB, g, hX⟩ := hh.at_ hlt
      have hst := M.ok_step hX.out ho hok.out
      have hx0 := hst.1
      have hx1 := hst.2.1
      have hok' := Lib.hid hst.2.2
      have hs' := Lib.hid (show E = (k + 1) + M.span (o - 1 + x) (xs.drop (k + 1)) by have h1 := M.span_step hX.out ho; have h2 := hs.out; omega)
      clear hst hh hok hs
      go_wp2
      go_round
      case rel => exact ⟨k + 1, o - 1 + x, by omega, by omega, by go_num, rfl, by omega, by omega, hok', hs'⟩
      case measure => simp [intOf]; omega
    · have hs' := hs.out
      rw [M.span_stop (o := o) (by omega) (xs.drop k), Nat.add_zero] at hs'
      have Hs : Hid (E = k) := hs'
      have ho' : o ≤ 0 := by omega
      clear hs hs' hh ho
      go_wp2
      go_ret
      exact ⟨by rw [Hs.out]; rfl, bal (b0 w) _⟩

set_option maxHeartbeats 1000000 in
theorem partAt (A : Option Addr) (xs : List Int) (c v E : Nat) (w : World) (hE : Hid (v + M.span 1 (xs.drop v) = E)) (hx : xs.length ≤ 24) (hc : xs.length ≤ c) (hc' : c ≤ 9223372036854775807) (hk : Hid (M.ok 1 (xs.drop v))) (h : Ints w w.heap.size A xs) :
    Calls Try.prog 195 #[.slice A xs.length c, .int .i64 v] w fun e w' => (∃ b off, A = some ⟨b, off, none⟩ ∧ e = .returned (.slice (some ⟨b, off + v, none⟩) (E - v) (E - v))) ∧ w = w' := by
  have hv := M.ok_in (by omega) hk.out
  obtain ⟨b, off, rfl, hbB, hcell⟩ := h (by omega)
  have Hcell := Lib.hid hcell
  clear h hcell
  go_enter Try.func195, Try.ntmps195
  go_wp2
  go_loop [5, 6] (fun i q => ∃ (k : Nat) (o : Int), v ≤ k ∧ k ≤ xs.length ∧ i = .int .i64 k ∧ q = .int .i64 o ∧ 0 ≤ o ∧ o ≤ 1 + 24 * k ∧ Hid (o = 0 → v < k) ∧ Hid (M.ok o (xs.drop k)) ∧ Hid (E = k + M.span o (xs.drop k))) (fun i _ => xs.length - (intOf i).toNat)
  case atStart => exact ⟨v, 1, Nat.le_refl _, by omega, rfl, rfl, by omega, by omega, by simp [Hid], hk, hE.out.symm⟩
  case round =>
    obtain ⟨k, o, hvk, hkn, rfl, rfl, ho0, ho1, hpos, hok, hs⟩ := hrel
    clear hk
    by_cases ho : 0 < o
    · have hlt := M.ok_in ho hok.out
      have hX : xs[k]? = some xs[k] := List.getElem?_eq_getElem hlt
      have g := Hcell.out k _ hX
      generalize xs[k] = x at hX g
      have hst := M.ok_step hX ho hok.out
      have hx0 := hst.1
      have hx1 := hst.2.1
      have hok' := Lib.hid hst.2.2
      have hs' := Lib.hid (show E = (k + 1) + M.span (o - 1 + x) (xs.drop (k + 1)) by have h1 := M.span_step hX ho; have h2 := hs.out; omega)
      have eo : o - 1 + x = o + (x - 1) := by omega
      rw [eo] at hok' hs'
      clear hst hok hs hX eo hpos
      go_wp2
      go_round
      case rel => exact ⟨k + 1, o + (x - 1), by omega, by omega, by go_num, rfl, by omega, by omega, fun _ => by omega, hok', hs'⟩
      case measure => simp [intOf]; omega
    · have hs' := hs.out
      have ho' : o ≤ 0 := by omega
      have hvk' : v < k := hpos.out (by omega)
      rw [M.span_stop (o := o) ho' (xs.drop k), Nat.add_zero] at hs'
      have Hs : Hid (E = k) := hs'
      have hvc : ¬ v = k := by omega
      have hkv : k - v ≠ 0 := by omega
      clear hs hs' ho
      go_wp2
      go_ret
      rw [Hs.out]
      first | exact ⟨⟨b, off, rfl, rfl⟩, rfl⟩ | exact ⟨⟨b, off, ⟨rfl, rfl⟩, rfl⟩, rfl⟩

theorem sizeAt (A : Option Addr) (xs : List Int) (c v S : Nat) (w : World) (hS : Hid (M.span 1 (xs.drop v) = S)) (hx : xs.length ≤ 24) (hc : xs.length ≤ c) (hc' : c ≤ 9223372036854775807) (hk : Hid (M.ok 1 (xs.drop v))) (h : Ints w w.heap.size A xs) :
    Calls Try.prog 167 #[.slice A xs.length c, .int .i64 v] w fun e w' => e = .returned (.int .i64 S) ∧ w = w' := by
  have hp := partAt A xs c v (v + S) w (by show _ = _; rw [hS.out]) hx hc hc' hk h
  rw [Nat.add_sub_cancel_left] at hp
  have HP := Lib.hid hp
  clear hp
  go_enter Try.func167, Try.ntmps167
  go_wp2_with fail
  refine HP.out.mono ?_
  rintro e w' ⟨⟨b, off, rfl, rfl⟩, rfl⟩
  go_wp2
  go_ret
  exact ⟨rfl, rfl⟩
end Go.Proofs.Ytdgcjkgbglofbaa

/- eachChild: the iterator over the places and the children of a node: for every loop body that keeps what lay below a block and the box of the degrees. -/
namespace Go.Proofs.Ytdgcjkgbglofbaa
open Go.RowKit Go.Shelf
attribute [local go_sem] Oper.semAt_some

/-- what a round of a loop over the children must keep: all below n₀, and the box of the degrees -/
def KeepK (n₀ Bd : Nat) (W W' : World) : Prop := Below n₀ W W' ∧ W'.heap[Bd]? = W.heap[Bd]?
theorem KeepK.t {n₀ Bd : Nat} {A B C : World} (h : KeepK n₀ Bd A B) (k : KeepK n₀ Bd B C) : KeepK n₀ Bd A C := ⟨h.1.trans k.1, k.2.trans h.2⟩
theorem KeepK.b {n₀ Bd : Nat} {w : World} (hn : n₀ ≤ w.heap.size) (hB : Bd < w.heap.size) (W : World) (l : Nat) (o o' : Obj) (hl : w.heap.size ≤ l) (h : W.heap[l]? = some o) (h1 : o.isCells = false) (h2 : o.isWalk = false) : KeepK n₀ Bd W (W.putObj l o') :=
  ⟨belowK_b hn W l o o' hl h h1 h2, (grownBy_putObj' W l o').block Bd (by have := (Array.getElem?_eq_some_iff.1 h).1; omega) (fun e => by cases e; omega)⟩

/-- the places and the children that have come behind k rounds -/
def kids (xs : List Int) (v k : Nat) : List (Nat × Nat) := (List.range k).map fun i => (i, M.kidAt xs v i)
theorem kids_succ (xs : List Int) (v k : Nat) : kids xs v (k + 1) = kids xs v k ++ [(k, M.kidAt xs v k)] := by simp [kids, List.range_succ]
theorem kids_length (xs : List Int) (v k : Nat) : (kids xs v k).length = k := by simp [kids]

set_option maxRecDepth 100000 in
set_option maxHeartbeats 2000000 in
theorem each1 {α : Type} (mk : Nat → α) (encs : α → Array Value) (n : Nat) (hn : 1 ≤ n) (l Bv Bd n₀ : Nat) (A : Option Addr) (xs : List Int) (c v d : Nat) (hx : xs.length ≤ 24) (hcl : xs.length ≤ c) (hcu : c ≤ 9223372036854775807) (ht : Hid (M.isTree xs = true)) (hd : Hid (xs[v]? = some (d : Int)))
    (hmk : ∀ k, k < d → encs (mk k) = #[.int .i64 (k : Int), .int .i64 (M.kidAt xs v k : Int)]) (J Jx : List α → World → Prop)
    (hY : ∀ pre x W, J pre W → pre.length < d → YieldAt Fence.wide (n - 1) Try.prog l (encs x) W fun e W' =>
      (e = .returned (.bool true) ∧ J (pre ++ [x]) W' ∧ KeepK n₀ Bd W W') ∨ (e = .returned (.bool false) ∧ Jx (pre ++ [x]) W'))
    (W : World) (hBv : W.cell? ⟨Bv, 0, none⟩ = some (.int .i64 v)) (hBd : Boxed W Bd 24 (.slice A xs.length c)) (hI : Ints W n₀ A xs) (hn0 : n₀ ≤ W.heap.size) (h0 : J [] W) :
    CallsIn Fence.wide n Try.prog 332 #[.func (.yield l) #[] #[], .pointer (some ⟨Bv, 0, none⟩), .pointer (some ⟨Bd, 0, none⟩)] W fun e W' => (∃ u, e = .returned u) ∧
      ((∃ ys, ys = (List.range d).map mk ∧ J ys W') ∨ (∃ pre, (∃ k, k ≤ d ∧ pre = (List.range k).map mk) ∧ Jx pre W')) := by
  have hv : v < xs.length := (List.getElem?_eq_some_iff.1 hd.out).1
  have hd24 : d ≤ 24 := by have := M.tree_deg ht.out hd.out; omega
  obtain ⟨b, off, rfl, hbB, hcells⟩ := hI (by omega)
  have Hcells := Lib.hid hcells
  have hc0 := hcells v _ hd.out
  have hcd := hBd.cell
  have HBd := Lib.hid hBd
  have HI := Lib.hid hI
  clear hcells hI hBd
  refine callsIn_of_wp Try.func332 rfl trivial ?_ rfl
  simp only [Try.ntmps332, List.size_toArray, List.length_cons, List.length_nil, Nat.reduceAdd, Nat.reduceSub, Array.replicate_succ, Array.replicate_zero, List.push_toArray, List.append_toArray, List.nil_append, List.cons_append]
  gi_wp2
  gi_loopw [4, 5, 12] (fun q _ i wr => ∃ k : Nat, k ≤ d ∧ i = .int .i64 k ∧ q = .int .i64 (M.kidAt xs v k) ∧ J ((List.range k).map mk) wr ∧ Hid (KeepK n₀ Bd W wr))
    (fun _ _ i _ => d - (intOf i).toNat)
  case atStart => exact ⟨0, Nat.zero_le _, rfl, by simp [M.kidAt], h0, ⟨Below.refl _ _, rfl⟩⟩
  case round =>
    obtain ⟨k, hk, rfl, rfl, hJs, hnx⟩ := hrel
    clear hc0 hcd
    by_cases hlt : k < d
    · have hYk := hY _ (mk k) wr hJs (by simpa using hlt)
      rw [hmk k hlt] at hYk
      obtain ⟨fn, tmps, assign, body, hy, hR⟩ := hYk
      have hkl := M.kid_lt ht.out hd.out (i := k) (by omega)
      have hsp := M.span_le (xs.drop (M.kidAt xs v k)) 1
      have hsp2 : (xs.drop (M.kidAt xs v k)).length ≤ xs.length := by simp
      have hok := Lib.hid (M.tree_ok ht.out hkl)
      have hks : Hid (M.kidAt xs v (k + 1) = M.kidAt xs v k + M.span 1 (xs.drop (M.kidAt xs v k))) := rfl
      generalize hC : M.kidAt xs v k = C at *
      obtain ⟨S, hS⟩ : ∃ S, Hid (M.span 1 (xs.drop C) = S) := ⟨_, rfl⟩
      have hS2 : S ≤ 24 := by have := hS.out; omega
      have HC := Lib.hid hC
      clear hsp hsp2 hC
      gi_wp2
      refine hR.mono ?_
      rintro e W3 (⟨rfl, hJ3, hk3⟩ | ⟨rfl, hJx3⟩)
      · have hk4 : Hid (KeepK n₀ Bd W W3) := hnx.out.t hk3
        have hbd3 : Boxed W3 Bd 24 (.slice (some ⟨b, off, none⟩) xs.length c) := hk4.out.2.trans HBd.out
        have hc3 := hbd3.cell
        have hI3 := Lib.hid ((HI.out.below hk4.out.1 (Nat.le_refl _)).more (Nat.le_trans hn0 hk4.out.1.size))
        have hK3 := Lib.hid hk3
        clear hk3 hbd3
        gi_wp2_with (refine ⟨trivial, ?_⟩; gi_at_call 167; refine (callsIn_wide.2 (sizeAt _ xs c C S _ hS hx hcl hcu hok hI3.out)).mono ?_; rintro e w' ⟨rfl, rfl⟩)
        have hks2 : Hid (M.kidAt xs v (k + 1) = C + S) := by show _ = _; rw [hks.out, hS.out]
        go_roundw
        case rel => exact ⟨k + 1, by omega, by go_num, by rw [hks2.out]; go_num, by rw [List.range_succ, List.map_append]; exact hJ3, hk4⟩
        case measure => simp [intOf]; omega
      · gi_wp2
        refine bodyPost_ret (results_none rfl _ _ _) rfl ?_
        exact ⟨⟨_, rfl⟩, .inr ⟨_, ⟨k + 1, by omega, by rw [List.range_succ, List.map_append]; rfl⟩, hJx3⟩⟩
    · obtain rfl : k = d := by omega
      gi_wp2
      go_end0
      exact ⟨⟨_, rfl⟩, .inl ⟨_, rfl, hJs⟩⟩

set_option maxHeartbeats 1000000 in
/-- eachChild: both arguments are boxed; the function value captures the boxes -/
theorem eachIn (n : Nat) (A : Option Addr) (m c : Nat) (v : Int) (w : World) :
    CallsIn Fence.wide n Try.prog 275 #[.slice A m c, .int .i64 v] w fun e w' => e = .returned (.func (.func 332) #[] #[.pointer (some ⟨w.heap.size + 1, 0, none⟩), .pointer (some ⟨w.heap.size, 0, none⟩)]) ∧
      w' = (w.alloc (.cells #[.slice A m c] 24)).alloc (.cells #[.int .i64 v] 2) := by
  refine callsIn_of_wp Try.func275 rfl trivial ?_ rfl
  simp only [Try.ntmps275, List.size_toArray, List.length_cons, List.length_nil, Nat.reduceAdd, Nat.reduceSub, Array.replicate_succ, Array.replicate_zero, List.push_toArray, List.append_toArray, List.nil_append, List.cons_append]
  gi_wp2
  go_ret
  exact ⟨rfl, rfl⟩

/-- what a range over the children of v gives: all of them in order, or a beginning where a round has said 'no more'; the elements as the caller names them -/
theorem each_stopsF {α : Type} (mk : Nat → α) (encs : α → Array Value) (n : Nat) (hn : 1 ≤ n) (Bv Bd n₀ : Nat) (A : Option Addr) (xs : List Int) (c v d : Nat) (hx : xs.length ≤ 24) (hcl : xs.length ≤ c) (hcu : c ≤ 9223372036854775807) (ht : Hid (M.isTree xs = true)) (hd : Hid (xs[v]? = some (d : Int)))
    (hmk : ∀ k, k < d → encs (mk k) = #[.int .i64 (k : Int), .int .i64 (M.kidAt xs v k : Int)]) (w : World) (hBv : w.cell? ⟨Bv, 0, none⟩ = some (.int .i64 v)) (hBd : Boxed w Bd 24 (.slice A xs.length c)) (hI : Ints w n₀ A xs) (hn0 : n₀ ≤ w.heap.size) :
    SeqStopsK Fence.wide n Try.prog 332 #[.pointer (some ⟨Bv, 0, none⟩), .pointer (some ⟨Bd, 0, none⟩)] encs (KeepK n₀ Bd)
      (fun ys => ys = (List.range d).map mk) (fun pre => ∃ k, k ≤ d ∧ pre = (List.range k).map mk) d w := fun l J Jx W hW _ _ hY h0 =>
  each1 mk encs n hn l Bv Bd n₀ A xs c v d hx hcl hcu ht hd hmk J Jx hY W ((hW.cell (p := ⟨Bv, 0, none⟩) (World.block_lt_of_cell? _ _ hBv)).trans hBv) ((hW.block Bd hBd.lt).trans hBd) (hI.below hW hn0) (Nat.le_trans hn0 hW.size) h0

/-- what a range over the children of v gives: all of them in order, or a beginning where a round has said 'no more' -/
theorem each_stops (n : Nat) (hn : 1 ≤ n) (Bv Bd n₀ : Nat) (A : Option Addr) (xs : List Int) (c v d : Nat) (hx : xs.length ≤ 24) (hcl : xs.length ≤ c) (hcu : c ≤ 9223372036854775807) (ht : Hid (M.isTree xs = true)) (hd : Hid (xs[v]? = some (d : Int)))
    (w : World) (hBv : w.cell? ⟨Bv, 0, none⟩ = some (.int .i64 v)) (hBd : Boxed w Bd 24 (.slice A xs.length c)) (hI : Ints w n₀ A xs) (hn0 : n₀ ≤ w.heap.size) :
    SeqStopsK Fence.wide n Try.prog 332 #[.pointer (some ⟨Bv, 0, none⟩), .pointer (some ⟨Bd, 0, none⟩)] (fun x : Nat × Nat => #[Value.int .i64 (x.1 : Int), Value.int .i64 (x.2 : Int)]) (KeepK n₀ Bd)
      (fun ys => ys = kids xs v d) (fun pre => ∃ k, k ≤ d ∧ pre = kids xs v k) d w :=
  each_stopsF (fun i => (i, M.kidAt xs v i)) _ n hn Bv Bd n₀ A xs c v d hx hcl hcu ht hd (fun _ _ => rfl) w hBv hBd hI hn0
end Go.Proofs.Ytdgcjkgbglofbaa

/- A range over a function whose elements lie in memory: what the iterator has laid ahead of a round (C) is told to the body. No program is named here. -/
namespace Go.Proofs.Ytdgcjkgbglofbaa
open Go.RowKit

section
variable {F : Fence} {n : Nat} {P : Program}

/-- the contract of an iterator that lays its elements in memory: C pre x W: what can be said of x, in W, when it is handed over -/
def SeqRows {α : Type} (F : Fence) (n : Nat) (P : Program) (g : Nat) (lb : Array Value) (encs : α → Array Value) (C : List α → α → World → Prop) (Kp : World → World → Prop) (S Sp : List α → Prop) (w : World) : Prop :=
  ∀ (l : Nat) (J Jx : List α → World → Prop) (W : World), Below w.heap.size w W →
    (∀ s X Y, J s X → X.grownBy Y none → J s Y) →
    (∀ s X Y, Jx s X → X.grownBy Y none → Jx s Y) →
    (∀ pre x W1, J pre W1 → C pre x W1 → YieldAt F (n - 1) P l (encs x) W1 fun e W' =>
      (e = .returned (.bool true) ∧ J (pre ++ [x]) W' ∧ Kp W1 W') ∨ (e = .returned (.bool false) ∧ Jx (pre ++ [x]) W')) →
    J [] W →
    CallsIn F n P g (#[.func (.yield l) #[] #[]] ++ lb) W fun e W' => (∃ v, e = .returned v) ∧ ((∃ ys, S ys ∧ J ys W') ∨ (∃ pre, Sp pre ∧ Jx pre W'))

/-- the two blocks of a loop's book-keeping: the mark's at D, the record's behind it -/
def Books (D : Nat) (r : Loop) (W : World) : Prop := W.heap[D + 1]? = some (.loop r) ∧ W.heap[D]? = some (.deferred (some []))

theorem Books.turn {D : Nat} {r r' : Loop} {W : World} (h : Books D r W) : Books D r' (W.putObj (D + 1) (.loop r')) :=
  ⟨World.putObj_heap_same (Array.getElem?_eq_some_iff.1 h.1).1, (World.putObj_heap_other (by omega)).trans h.2⟩
theorem Books.grown {D : Nat} {r : Loop} {W W' : World} (h : Books D r W) (hg : W.grownBy W' none) : Books D r W' :=
  ⟨(hg.block _ (Array.getElem?_eq_some_iff.1 h.1).1 (by simp)).trans h.1, (hg.block _ (Array.getElem?_eq_some_iff.1 h.2).1 (by simp)).trans h.2⟩
theorem Books.from {D : Nat} {r : Loop} {W W' : World} (h : Books D r W) (hk : KeepsFrom D W W') : Books D r W' :=
  ⟨hk.same _ _ (by omega) h.1 rfl, hk.same _ _ (Nat.le_refl _) h.2 rfl⟩

theorem wpIn_rangeRows {α : Type} {g : Operand} {ps : Array Tmp} {assign body : Code} {Q : Exit → Act → World → Prop} {a : Act} {w : World}
    (hro : F.round = none) (h1 : 1 ≤ n) {gf : Nat} {lb : Array Value} (hg : a.eval g = .func (.func gf) #[] lb) (hFg : F.fn gf) (eg : ∀ args w, (callFunc gf args).run P w = .ok (.enter gf args) w)
    {encs : α → Array Value} {C : List α → α → World → Prop} {Kp : World → World → Prop} {S Sp : List α → Prop} {w0 : World} (hseq : SeqRows F (n - 1) P gf lb encs C Kp S Sp w0) (hb0 : Below w0.heap.size w0 w)
    (hKt : ∀ {X Y Z : World}, Kp X Y → Kp Y Z → Kp X Z) (hKb : ∀ (W : World) (r r' : Loop), W.heap[w.heap.size + 1]? = some (.loop r) → Kp W (W.putObj (w.heap.size + 1) (.loop r'))) (hps : ∀ x, (encs x).size = ps.size)
    (I : List α → World → Prop) (Ix : Code → List α → World → Prop) (hI : OwnFrom w.heap.size I) (hIx : ∀ c, OwnFrom w.heap.size (Ix c)) (hC : OwnFrom w.heap.size (fun (s : List α × α) W => C s.1 s.2 W)) (h0 : I [] w) (a₁ : α → Act)
    (hassign : ∀ (l : Nat) (x : α) (W : World) (K : Act → World → Prop), K (a₁ x) W →
      assign.wpIn (F.inRound l) (n - 1 - 1) P (Exit.then K (fun _ _ _ => False)) { tmps := (ps.zip (encs x)).foldl (fun t (p, v) => t.setIfInBounds p v) a.tmps, defers := [] } W)
    (hbody : ∀ (l : Nat) (pre : List α) (x : α) (W : World), I pre W → C pre x W → body.wpIn (F.inRound l) (n - 1 - 1) P (ownPostG w.heap.size Kp I Ix (pre ++ [x]) W) (a₁ x) W)
    (hdone : ∀ (D : Nat) (xs : List α) (W : World), w.heap.size ≤ D → S xs → I xs W → W.heap[D]? = some (.deferred (some [])) → Q .normal { a with defers := { target := .collected D, args := #[] } :: a.defers } W)
    (hstop : ∀ (D : Nat) (c : Code) (pre : List α) (W : World), w.heap.size ≤ D → Sp pre → Ix c pre W → W.heap[D]? = some (.deferred (some [])) → c.wpIn F n P Q { a with defers := { target := .collected D, args := #[] } :: a.defers } W) :
    (Code.rangeFunc g ps assign body).wpIn F n P Q a w := by
  refine wpIn_rangeFunc fun fn hfn => ?_
  rw [hro]
  obtain ⟨D, hD⟩ : ∃ D, w.heap.size = D := ⟨_, rfl⟩
  obtain ⟨R, hR⟩ : ∃ R : LoopState → Option Code → Loop, R = fun st pe => { state := st, pending := pe, fn, tmps := a.tmps, params := ps, assign, body, defers := D } := ⟨_, rfl⟩
  have hgr : w.grownBy ((w.alloc (.deferred (some []))).alloc (.loop (R .ready none))) none := (World.grownBy_alloc w _ none).trans (World.grownBy_alloc _ _ none)
  have hbk : Books D (R .ready none) ((w.alloc (.deferred (some []))).alloc (.loop (R .ready none))) := by
    refine ⟨?_, (Below.heap_alloc _ _ _ (by rw [← hD]; simp)).trans (by rw [← hD]; exact World.alloc_heap_new w _)⟩
    have := World.alloc_heap_new (w.alloc (.deferred (some []))) (.loop (R .ready none))
    rwa [World.size_alloc, hD] at this
  have hbW : Below w0.heap.size w0 ((w.alloc (.deferred (some []))).alloc (.loop (R .ready none))) := hb0.trans (((Below.refl w.heap.size w).grown hgr (Nat.le_refl _) (fun k e => by cases e)).mono hb0.size)
  have hent := run_enterLoop_outer (P := P) (w := w) fn a.tmps ps assign body
  rw [hD] at hent hI hIx hC hbody hdone hstop hKb
  have hi1 : I [] ((w.alloc (.deferred (some []))).alloc (.loop (R .ready none))) := hI _ _ _ _ h0 hgr (fun k e => by cases e)
  generalize hW1 : (w.alloc (.deferred (some []))).alloc (.loop (R .ready none)) = W1 at *
  refine ⟨D + 1, [{ target := .collected D, args := #[] }], W1, { target := .fn (.func gf) lb, args := #[.func (.yield (D + 1)) #[] #[]] }, W1, gf, #[.func (.yield (D + 1)) #[] #[]] ++ lb, W1, ?_, ?_, ?_, ?_, fun _ => h1, ?_⟩
  · rw [hent, ← hW1, hR]
  · simp only [resolve, hg]
    simp [go_sem]
  · intro f' hf'
    simp [Target.leads] at hf'
    rw [← hf']
    exact hFg
  · simp [invoke, go_sem, eg]
  refine (hseq (D + 1) (fun pre W => I pre W ∧ Books D (R .ready none) W) (fun pre W => ∃ c, Ix c pre W ∧ Books D (R .done (some c)) W) W1 hbW
    (fun s X Y h hg => ⟨hI _ _ _ _ h.1 hg (fun k e => by cases e), h.2.grown hg⟩) (fun s X Y ⟨c, h, hk⟩ hg => ⟨c, hIx c _ _ _ _ h hg (fun k e => by cases e), hk.grown hg⟩) ?_ ⟨hi1, hbk⟩).mono ?_
  · -- one round
    rintro pre x W ⟨hi, hk⟩ hc
    have hy := run_yield (P := P) (args := encs x) hk.1 (by rw [hR]; exact hps x)
    refine ⟨fn, _, assign, body, by rw [hR] at hy; exact hy, roundIn_of_wpIn hfn (hassign _ x W _ ⟨_, run_beginRound hk.1 (by rw [hR]), ?_⟩)⟩
    have hk2 := hk.turn (r' := { R .ready none with state := .busy })
    refine wpIn_mono (hbody _ pre x _ (hI.putObj _ hi (by omega) hk.1 rfl) (hC.putObj (s := (pre, x)) _ hc (by omega) hk.1 rfl)) ?_
    have fin : ∀ (jump : Option Code) (W3 : World), KeepsFrom D (W.putObj (D + 1) (.loop { R .ready none with state := .busy })) W3 →
        (Instr.endRound (D + 1) jump).run P W3 = .ok (.bool jump.isNone) (W3.putObj (D + 1) (.loop (R (if jump.isNone then .ready else .done) jump))) ∧ Books D { R .ready none with state := .busy } W3 := fun jump W3 h3 => by
      have h4 := hk2.from h3
      have := run_endRound (P := P) jump h4.1
      rw [hR] at this ⊢
      exact ⟨this, by rw [hR] at h4; exact h4⟩
    have hKs : Kp W (W.putObj (D + 1) (.loop { R .ready none with state := .busy })) := hKb _ _ _ hk.1
    intro e a3 W3 hp
    cases e with
    | normal =>
      obtain ⟨p1, p2, p3⟩ := hp
      obtain ⟨q1, q2⟩ := fin none W3 p1
      exact ⟨_, _, q1, .inl ⟨rfl, ⟨hI.putObj _ p3 (by omega) q2.1 rfl, q2.turn⟩, hKt (hKt hKs p2) (hKb _ _ _ q2.1)⟩⟩
    | ret =>
      obtain ⟨p1, p3⟩ := hp
      obtain ⟨q1, q2⟩ := fin (some .ret) W3 p1
      exact ⟨_, _, q1, .inr ⟨rfl, .ret, (hIx _).putObj _ p3 (by omega) q2.1 rfl, q2.turn⟩⟩
    | exit id =>
      obtain ⟨p1, p3⟩ := hp
      obtain ⟨q1, q2⟩ := fin (some (.exit id)) W3 p1
      exact ⟨_, _, q1, .inr ⟨rfl, .exit id, (hIx _).putObj _ p3 (by omega) q2.1 rfl, q2.turn⟩⟩
    | goto t =>
      obtain ⟨p1, p3⟩ := hp
      obtain ⟨q1, q2⟩ := fin (some (.goto t)) W3 p1
      exact ⟨_, _, q1, .inr ⟨rfl, .goto t, (hIx _).putObj _ p3 (by omega) q2.1 rfl, q2.turn⟩⟩
    | panic ch => exact hp.elim
    | outgrown => exact hp.elim
  · -- behind the iterator
    rintro e W2 ⟨⟨v, rfl⟩, (⟨xs, hS, hi, hk⟩ | ⟨pre, hSp, c, hi, hk⟩)⟩
    · have hr := run_endLoop (P := P) hk.1 (by rw [hR]; simp)
      refine ⟨none, _, by rw [hR] at hr; exact hr, hdone D xs _ (Nat.le_refl _) hS (hI.putObj _ hi (by omega) hk.1 rfl) ((World.putObj_heap_other (by omega)).trans hk.2)⟩
    · have hr := run_endLoop (P := P) hk.1 (by rw [hR]; simp)
      refine ⟨some c, _, by rw [hR] at hr; exact hr, hstop D c pre _ (Nat.le_refl _) hSp ((hIx c).putObj _ hi (by omega) hk.1 rfl) ((World.putObj_heap_other (by omega)).trans hk.2)⟩
end
end Go.Proofs.Ytdgcjkgbglofbaa

/- slices.Backward: the iterator over the indices and the elements of a slice from its end, for every loop body that keeps what lay below a block and the box of the slice. -/
namespace Go.Proofs.Ytdgcjkgbglofbaa
open Go.RowKit Go.Shelf
attribute [local go_sem] Oper.semAt_some

set_option maxRecDepth 100000 in
set_option maxHeartbeats 2000000 in
theorem back1 (encs : Nat → Array Value) (n : Nat) (hn : 1 ≤ n) (l Bd n₀ : Nat) (A : Option Addr) (xs : List Int) (c : Nat) (hx : xs.length ≤ 1000)
    (hmk : Hid (∀ k v (x : Int), k + 1 + v = xs.length → xs[v]? = some x → encs k = #[.int .i64 (v : Int), .int .i64 x])) (J Jx : List Nat → World → Prop)
    (hY : ∀ pre x W, J pre W → (pre = List.range x ∧ x < xs.length) → YieldAt Fence.wide (n - 1) Try.prog l (encs x) W fun e W' =>
      (e = .returned (.bool true) ∧ J (pre ++ [x]) W' ∧ KeepK n₀ Bd W W') ∨ (e = .returned (.bool false) ∧ Jx (pre ++ [x]) W'))
    (W : World) (hBd : Boxed W Bd 24 (.slice A xs.length c)) (hI : Ints W n₀ A xs) (_ : n₀ ≤ W.heap.size) (h0 : J [] W) :
    CallsIn Fence.wide n Try.prog 333 #[.func (.yield l) #[] #[], .pointer (some ⟨Bd, 0, none⟩)] W fun e W' => (∃ u, e = .returned u) ∧
      ((∃ ys, ys = List.range xs.length ∧ J ys W') ∨ (∃ pre, True ∧ Jx pre W')) := by
  have hcd := hBd.cell
  have HBd := Lib.hid hBd
  have HI := Lib.hid hI
  obtain ⟨m, hm⟩ : ∃ m, Hid (xs.length = m) := ⟨_, rfl⟩
  rw [hm.out] at hx hmk hY hcd HBd ⊢
  clear hI hBd
  refine callsIn_of_wp Try.func333 rfl trivial ?_ rfl
  simp only [Try.ntmps333, List.size_toArray, List.length_cons, List.length_nil, Nat.reduceAdd, Nat.reduceSub, Array.replicate_succ, Array.replicate_zero, List.push_toArray, List.append_toArray, List.nil_append, List.cons_append]
  gi_wp2
  gi_loopw [3] (fun i wr => ∃ k : Nat, k ≤ m ∧ i = .int .i64 ((m : Int) - 1 - (k : Int)) ∧ J (List.range k) wr ∧ Hid (KeepK n₀ Bd W wr))
    (fun i _ => (intOf i + 1).toNat)
  case atStart => exact ⟨0, Nat.zero_le _, by simp, h0, ⟨Below.refl _ _, rfl⟩⟩
  case round =>
    obtain ⟨k, hk, rfl, hJs, hnx⟩ := hrel
    clear hcd
    by_cases hlt : k < m
    · obtain ⟨v, hv⟩ : ∃ v : Nat, k + 1 + v = m := ⟨m - 1 - k, by omega⟩
      have hv2 : (m : Int) - 1 - (k : Int) = (v : Int) := by omega
      have hvm : (v : Int) < (m : Int) := by omega
      have hv0 : (0 : Int) ≤ (v : Int) := by omega
      obtain ⟨x, hX⟩ : ∃ x, xs[v]? = some x := ⟨_, List.getElem?_eq_getElem (by have := hm.out; omega)⟩
      have hYk := hY _ k wr hJs ⟨rfl, hlt⟩
      rw [hmk.out k v x hv hX] at hYk
      obtain ⟨fn, tmps, assign, body, hy, hR⟩ := hYk
      have hbd1 : Boxed wr Bd 24 (.slice A m c) := hnx.out.2.trans HBd.out
      have hc1 := hbd1.cell
      obtain ⟨b, off, rfl, hbB, hcells⟩ := (HI.out.below hnx.out.1 (Nat.le_refl _)) (by have := hm.out; omega)
      have hc0 := hcells v x hX
      rw [hv2]
      clear hbd1 hcells hX hbB hJs
      gi_wp2
      refine hR.mono ?_
      rintro e W3 (⟨rfl, hJ3, hk3⟩ | ⟨rfl, hJx3⟩)
      · have hk4 : Hid (KeepK n₀ Bd W W3) := hnx.out.t hk3
        have hv3 : (v : Int) - 1 = (m : Int) - 1 - ((k + 1 : Nat) : Int) := by omega
        clear hk3 hy hc1 hc0
        gi_wp2
        go_roundw
        case rel => exact ⟨k + 1, by omega, by go_num, by rw [List.range_succ]; exact hJ3, hk4⟩
        case measure => simp [intOf]; omega
      · gi_wp2
        refine bodyPost_ret (results_none rfl _ _ _) rfl ?_
        exact ⟨⟨_, rfl⟩, .inr ⟨_, trivial, hJx3⟩⟩
    · obtain rfl : k = m := by omega
      have hv2 : (k : Int) - 1 - (k : Int) = -1 := by omega
      rw [hv2]
      gi_wp2
      go_end0
      exact ⟨⟨_, rfl⟩, .inl ⟨_, rfl, hJs⟩⟩

set_option maxHeartbeats 1000000 in
/-- slices.Backward: the argument is boxed; the function value captures the box -/
theorem backIn (n : Nat) (A : Option Addr) (m c : Nat) (w : World) :
    CallsIn Fence.wide n Try.prog 279 #[.slice A m c] w fun e w' => e = .returned (.func (.func 333) #[] #[.pointer (some ⟨w.heap.size, 0, none⟩)]) ∧
      w' = w.alloc (.cells #[.slice A m c] 24) := by
  refine callsIn_of_wp Try.func279 rfl trivial ?_ rfl
  simp only [Try.ntmps279, List.size_toArray, List.length_cons, List.length_nil, Nat.reduceAdd, Nat.reduceSub, Array.replicate_succ, Array.replicate_zero, List.push_toArray, List.append_toArray, List.nil_append, List.cons_append]
  gi_wp2
  go_ret
  exact ⟨rfl, rfl⟩

/-- what a range over a slice from its end gives: all elements, in order, or a beginning where a round has said 'no more' -/
theorem back_rows (encs : Nat → Array Value) (n : Nat) (hn : 1 ≤ n) (Bd n₀ : Nat) (A : Option Addr) (xs : List Int) (c : Nat) (hx : xs.length ≤ 1000)
    (hmk : ∀ k v (x : Int), k + 1 + v = xs.length → xs[v]? = some x → encs k = #[.int .i64 (v : Int), .int .i64 x]) (w : World) (hBd : Boxed w Bd 24 (.slice A xs.length c)) (hI : Ints w n₀ A xs) (hn0 : n₀ ≤ w.heap.size) :
    SeqRows Fence.wide n Try.prog 333 #[.pointer (some ⟨Bd, 0, none⟩)] encs (fun pre x _ => pre = List.range x ∧ x < xs.length) (KeepK n₀ Bd)
      (fun ys => ys = List.range xs.length) (fun _ => True) w := fun l J Jx W hW _ _ hY h0 =>
  back1 encs n hn l Bd n₀ A xs c hx hmk J Jx hY W ((hW.block Bd hBd.lt).trans hBd) (hI.below hW hn0) (Nat.le_trans hn0 hW.size) h0
end Go.Proofs.Ytdgcjkgbglofbaa

/- Ranks, their mathematics: the sum over the nodes and over the lesser degrees. No program is named here. -/
namespace Go.Proofs.Ytdgcjkgbglofbaa.M
/-- what is due ahead of node v, as a number -/
def dueN (xs : List Int) (v : Nat) : Nat := (due xs v).toNat
/-- the trees of which node v has one of the first k degrees, after the same nodes -/
def inR (xs : List Int) (v k : Nat) : Nat := sumTo (fun d => L (xs.length - v - 1) (dueN xs v - 1 + d)) k
def rankTo (xs : List Int) : Nat → Nat
  | 0 => 0
  | v + 1 => rankTo xs v + inR xs v (xs[v]?.getD 0).toNat
theorem rankTo_at {xs : List Int} {v d : Nat} (h : xs[v]? = some (d : Int)) : rankTo xs (v + 1) = rankTo xs v + inR xs v d := by simp [rankTo, h]
theorem dueN_zero (xs : List Int) : dueN xs 0 = 1 := by simp [dueN, due, bal]
theorem dueN_pos {xs : List Int} (ht : isTree xs = true) {v : Nat} (hv : v < xs.length) : 1 ≤ dueN xs v := by
  have := due_pos ht hv
  simp only [dueN]; omega
theorem dueN_succ {xs : List Int} (ht : isTree xs = true) {v d : Nat} (h : xs[v]? = some (d : Int)) : dueN xs (v + 1) = dueN xs v - 1 + d := by
  have hv := (List.getElem?_eq_some_iff.1 h).1
  have h1 := due_pos ht hv
  have h2 := due_succ h
  simp only [dueN]; omega
theorem due_most {xs : List Int} (ht : isTree xs = true) : ∀ v, v ≤ xs.length → due xs v ≤ 1 + 24 * v := by
  intro v
  induction v with
  | zero => intro _; simp [due, bal]
  | succ v ih =>
    intro hv
    obtain ⟨d, hd, hd2⟩ := tree_degN ht (v := v) (by omega)
    have := due_succ hd
    have := ih (by omega)
    omega
theorem dueN_most {xs : List Int} (ht : isTree xs = true) {v : Nat} (hv : v ≤ xs.length) : dueN xs v ≤ 601 := by
  have := due_most ht v hv
  have := (tree_len ht).2
  simp only [dueN]; omega
theorem bal_low : ∀ (l : List Int), (∀ x ∈ l, 0 ≤ x) → -(l.length : Int) ≤ bal l := by
  intro l
  induction l with
  | nil => intro _; simp [bal]
  | cons x r ih =>
    intro h
    have h1 := h x (by simp)
    have h2 := ih fun y hy => h y (by simp [hy])
    simp only [bal, List.length_cons]
    omega
/-- no more is due than there are nodes left -/
theorem due_left {xs : List Int} (ht : isTree xs = true) {v : Nat} : dueN xs v ≤ xs.length - v := by
  have h1 := due_drop ht v
  have h2 := bal_low (xs.drop v) fun x hx => by
    obtain ⟨i, hi⟩ := List.getElem?_of_mem (List.mem_of_mem_drop hx)
    exact (tree_deg ht hi).1
  rw [List.length_drop] at h2
  simp only [dueN]
  omega
theorem L_mid {n t : Nat} (hn : n ≤ 23) : L n t ≤ 70368744177664 := by
  rcases Nat.lt_or_ge n t with h | h
  · rw [L_base (.inl h)]; split <;> omega
  · have h1 := L_le n t h
    have h2 : 2 ^ (2 * n - t) ≤ 2 ^ 46 := Nat.pow_le_pow_right (by omega) (by omega)
    have h3 : (2 : Nat) ^ 46 = 70368744177664 := by decide
    omega
theorem inR_le {xs : List Int} (hx : xs.length ≤ 24) (v : Nat) : ∀ k, inR xs v k ≤ 70368744177664 * k := by
  intro k
  induction k with
  | zero => exact Nat.le_refl _
  | succ k ih =>
    have := L_mid (n := xs.length - v - 1) (t := dueN xs v - 1 + k) (by omega)
    simp only [inR, sumTo] at ih ⊢
    omega
theorem rankTo_le {xs : List Int} (ht : isTree xs = true) : ∀ v, v ≤ xs.length → rankTo xs v ≤ 70368744177664 * (24 * v) := by
  have hx := (tree_len ht).2
  intro v
  induction v with
  | zero => intro _; exact Nat.le_refl _
  | succ v ih =>
    intro hv
    obtain ⟨d, hd, hd2⟩ := tree_degN ht (v := v) (by omega)
    have h1 := inR_le hx v d
    have h2 := ih (by omega)
    rw [rankTo_at hd]
    omega
end Go.Proofs.Ytdgcjkgbglofbaa.M

/- Trees of ranks, their mathematics: each degree is the greatest that the rank allows. No program is named here. -/
namespace Go.Proofs.Ytdgcjkgbglofbaa.M
def digGo (l p : Nat) : Nat → Nat → Nat → Nat × Nat
  | 0, r, d => (d, r)
  | f + 1, r, d => if r < L l (p + d) then (d, r) else digGo l p f (r - L l (p + d)) (d + 1)
/-- o trees of l nodes together, the list of rank r -/
def unrank : Nat → Nat → Nat → List Int
  | 0, _, _ => []
  | l + 1, o, r => ((digGo l (o - 1) 30 r 0).1 : Int) :: unrank l (o - 1 + (digGo l (o - 1) 30 r 0).1) (digGo l (o - 1) 30 r 0).2
theorem unrank_len : ∀ (l o r : Nat), (unrank l o r).length = l := by
  intro l
  induction l with
  | zero => intro o r; rfl
  | succ l ih => intro o r; simp [unrank, ih]
/-- what the search for a degree holds at d -/
def DigAt (l p R d r : Nat) : Prop := digGo l p (30 - d) r d = digGo l p 30 R 0 ∧ sumTo (fun x => L l (p + x)) d + r = R
theorem dig_start (l p R : Nat) : DigAt l p R 0 R := ⟨rfl, by simp [sumTo]⟩
theorem dig_total {l p : Nat} (h : p ≤ l) : L (l + 1) (p + 1) = sumTo (fun x => L l (p + x)) (l - p + 1) := by
  rw [L_rec (by omega) (by omega)]
  have e : l + 1 - (p + 1) + 1 = l - p + 1 := by omega
  rw [e]
  exact sumTo_congr fun x _ => rfl
theorem dig_le {l p R d r : Nat} (hp : p ≤ l) (hR : R < L (l + 1) (p + 1)) (h : DigAt l p R d r) : d ≤ l - p := by
  rcases Nat.lt_or_ge (l - p) d with h1 | h1
  · have h2 := sumTo_le (f := fun x => L l (p + x)) (j := l - p + 1) (k := d) (by omega)
    have h3 := h.2
    rw [dig_total hp] at hR
    omega
  · exact h1
theorem dig_step {l p R d r : Nat} (hd : d < 30) (h : DigAt l p R d r) (hr : L l (p + d) ≤ r) : DigAt l p R (d + 1) (r - L l (p + d)) := by
  obtain ⟨h1, h2⟩ := h
  have e : 30 - d = (30 - (d + 1)) + 1 := by omega
  rw [e, digGo, if_neg (by omega)] at h1
  refine ⟨h1, ?_⟩
  simp only [sumTo]
  omega
theorem dig_stop {l p R d r : Nat} (hd : d < 30) (h : DigAt l p R d r) (hr : r < L l (p + d)) : digGo l p 30 R 0 = (d, r) := by
  obtain ⟨h1, h2⟩ := h
  have e : 30 - d = (30 - (d + 1)) + 1 := by omega
  rw [e, digGo, if_pos hr] at h1
  exact h1.symm
/-- the walk over the nodes: what has come, and the rest -/
def UnAt (n : Nat) (U : List Int) (v o r : Nat) (pre : List Int) : Prop := pre.length = v ∧ pre ++ unrank (n - v) o r = U ∧ r < L (n - v) o
theorem un_start {n r : Nat} (h : r < L n 1) : UnAt n (unrank n 1 r) 0 1 r [] := ⟨rfl, rfl, h⟩
theorem un_open {n v o r : Nat} {U pre : List Int} (h : UnAt n U v o r pre) (hv : v < n) : 1 ≤ o ∧ o ≤ n - v := by
  have h3 := h.2.2
  by_cases h1 : n - v < o ∨ o = 0
  · rw [L_base h1] at h3
    split at h3 <;> omega
  · omega
theorem un_step {n v o r d r' : Nat} {U pre : List Int} (h : UnAt n U v o r pre) (hv : v < n) (hd : digGo (n - v - 1) (o - 1) 30 r 0 = (d, r')) (hr : r' < L (n - v - 1) (o - 1 + d)) : UnAt n U (v + 1) (o - 1 + d) r' (pre ++ [(d : Int)]) := by
  obtain ⟨h1, h2, h3⟩ := h
  have e : n - v = (n - v - 1) + 1 := by omega
  rw [e, unrank, hd] at h2
  have e2 : n - (v + 1) = n - v - 1 := by omega
  refine ⟨by simp [h1], ?_, by rw [e2]; exact hr⟩
  rw [e2, List.append_assoc]
  exact h2
theorem un_end {n o r : Nat} {U pre : List Int} (h : UnAt n U n o r pre) : pre = U := by
  have := h.2.1
  rw [Nat.sub_self, unrank, List.append_nil] at this
  exact this
theorem L_24 {n t : Nat} (hn : n ≤ 24) : L n t ≤ 281474976710656 := by
  rcases Nat.lt_or_ge n t with h | h
  · rw [L_base (.inl h)]; split <;> omega
  · have h1 := L_le n t h
    have h2 : 2 ^ (2 * n - t) ≤ 2 ^ 48 := Nat.pow_le_pow_right (by omega) (by omega)
    have h3 : (2 : Nat) ^ 48 = 281474976710656 := by decide
    omega
/-- the tree of a rank, or nothing -/
def unTree (n r : Nat) : List Int := if r < L n 1 then unrank n 1 r else []
theorem set_mid (pre : List Int) (x y : Int) (post : List Int) : (pre ++ (x :: post)).set pre.length y = pre ++ (y :: post) := by
  simp
theorem at_mid (pre : List Int) (x : Int) (post : List Int) : (pre ++ (x :: post))[pre.length]? = some x := by
  simp
end Go.Proofs.Ytdgcjkgbglofbaa.M

/- Next trees, their mathematics: the last node that can take one child more takes it; the rank goes up by one. No program is named here. -/
namespace Go.Proofs.Ytdgcjkgbglofbaa.M
/-- the rank of a list of o trees -/
def rk : Nat → List Int → Nat
  | _, [] => 0
  | o, d :: r => sumTo (fun x => L r.length (o - 1 + x)) d.toNat + rk (o - 1 + d.toNat) r
theorem go_long {o : Nat} {ds : List Int} (h : isGo (o : Int) ds = true) : o ≤ ds.length := by
  rcases Nat.lt_or_ge ds.length o with h1 | h1
  · rw [isGo_big ds o (by omega)] at h; cases h
  · exact h1
theorem go_cons {o : Nat} {d : Int} {r : List Int} (h : isGo (o : Int) (d :: r) = true) : ∃ (p e : Nat), o = p + 1 ∧ d = (e : Int) ∧ e ≤ 24 ∧ isGo ((p + e : Nat) : Int) r = true ∧ p + e ≤ r.length := by
  simp only [isGo] at h
  split at h
  · cases h
  · rename_i hc
    simp at hc
    have e1 : (o : Int) - 1 + d = ((o - 1 + d.toNat : Nat) : Int) := by omega
    rw [e1] at h
    exact ⟨o - 1, d.toNat, by omega, by omega, by omega, h, go_long h⟩
theorem rk_cons (p e : Nat) (r : List Int) : rk (p + 1) ((e : Int) :: r) = sumTo (fun x => L r.length (p + x)) e + rk (p + e) r := by simp [rk]
theorem rk_lt : ∀ (ds : List Int) (o : Nat), isGo (o : Int) ds = true → rk o ds < L ds.length o := by
  intro ds
  induction ds with
  | nil => intro o h; have := go_long h; obtain rfl : o = 0 := by simpa using this
           simp [rk, L]
  | cons d r ih =>
    intro o h
    obtain ⟨p, e, rfl, rfl, _, h2, h3⟩ := go_cons h
    have h4 := ih _ h2
    have h5 := sumTo_le (f := fun x => L r.length (p + x)) (j := e + 1) (k := r.length - p + 1) (by omega)
    rw [rk_cons, List.length_cons, dig_total (by omega)]
    simp only [sumTo] at h5 ⊢
    omega
theorem dig_at {l p d R R' : Nat} (hd : d ≤ 24) (hR : sumTo (fun x => L l (p + x)) d + R' = R) (hR' : R' < L l (p + d)) : digGo l p 30 R 0 = (d, R') := by
  have h : ∀ j, j ≤ d → ∃ r, DigAt l p R j r := by
    intro j
    induction j with
    | zero => intro _; exact ⟨R, dig_start l p R⟩
    | succ j ih =>
      intro hj
      obtain ⟨r, hr⟩ := ih (by omega)
      have h1 := sumTo_le (f := fun x => L l (p + x)) (j := j + 1) (k := d) (by omega)
      have h2 := hr.2
      refine ⟨_, dig_step (by omega) hr ?_⟩
      simp only [sumTo] at h1
      omega
  obtain ⟨r, hr⟩ := h d (Nat.le_refl _)
  obtain rfl : r = R' := by have := hr.2; omega
  exact dig_stop (by omega) hr hR'
theorem unrank_rk : ∀ (ds : List Int) (o : Nat), isGo (o : Int) ds = true → unrank ds.length o (rk o ds) = ds := by
  intro ds
  induction ds with
  | nil => intro o _; rfl
  | cons d r ih =>
    intro o h
    obtain ⟨p, e, rfl, rfl, h1, h2, _⟩ := go_cons h
    rw [List.length_cons, unrank, Nat.add_sub_cancel, dig_at (d := e) (R' := rk (p + e) r) h1 (rk_cons p e r).symm (rk_lt r _ h2), ih _ h2]
theorem firstL_zero {m t : Nat} (h : 2 ≤ t) : firstL (m + 1) t = 0 :: firstL m (t - 1) := by
  apply List.ext_getElem?
  intro j
  cases j with
  | zero => simp [firstL, firstTo]; omega
  | succ j =>
    rw [List.getElem?_cons_succ]
    simp only [firstL, firstTo, List.getElem?_map]
    by_cases hj : j < m
    · rw [List.getElem?_range hj, List.getElem?_range (by omega)]
      simp only [Option.map_some]
      congr 1
      by_cases h3 : t ≤ j + 1 + 1 ∧ j + 1 < m + 1 - 1
      · rw [if_pos h3, if_pos (by omega)]
      · rw [if_neg h3, if_neg (by omega)]
    · rw [List.getElem?_eq_none (by simp; omega), List.getElem?_eq_none (by simp; omega)]
      rfl
theorem firstL_path {m : Nat} (h : 1 ≤ m) : firstL (m + 1) 1 = 1 :: firstL m 1 := by
  apply List.ext_getElem?
  intro j
  cases j with
  | zero => simp [firstL, firstTo]; omega
  | succ j =>
    rw [List.getElem?_cons_succ]
    simp only [firstL, firstTo, List.getElem?_map]
    by_cases hj : j < m
    · rw [List.getElem?_range hj, List.getElem?_range (by omega)]
      simp only [Option.map_some]
      congr 1
      by_cases h3 : 1 ≤ j + 1 + 1 ∧ j + 1 < m + 1 - 1
      · rw [if_pos h3, if_pos (by omega)]
      · rw [if_neg h3, if_neg (by omega)]
    · rw [List.getElem?_eq_none (by simp; omega), List.getElem?_eq_none (by simp; omega)]
      rfl
theorem firstL_last : firstL 1 1 = [0] := by decide
theorem firstL_go : ∀ (m t : Nat), 1 ≤ t → t ≤ m → isGo (t : Int) (firstL m t) = true ∧ rk t (firstL m t) = 0 := by
  intro m
  induction m with
  | zero => intro t h1 h2; omega
  | succ m ih =>
    intro t h1 h2
    rcases Nat.lt_or_ge t 2 with h3 | h3
    · obtain rfl : t = 1 := by omega
      rcases Nat.eq_zero_or_pos m with h4 | h4
      · subst h4; rw [firstL_last]; decide
      · obtain ⟨i1, i2⟩ := ih 1 (by omega) (by omega)
        rw [firstL_path h4]
        refine ⟨?_, ?_⟩
        · rw [isGo, if_neg (by decide)]; exact i1
        · have := rk_cons 0 1 (firstL m 1)
          simp only [Nat.zero_add] at this
          rw [show (1 : Int) = ((1 : Nat) : Int) from rfl, this, i2, firstL_len]
          simp only [sumTo]
          rw [L_base (.inr (by omega)), if_neg (by omega)]
    · obtain ⟨i1, i2⟩ := ih (t - 1) (by omega) (by omega)
      rw [firstL_zero h3]
      refine ⟨?_, ?_⟩
      · rw [isGo, if_neg (by simp; omega), show (t : Int) - 1 + 0 = ((t - 1 : Nat) : Int) by omega]; exact i1
      · have := rk_cons (t - 1) 0 (firstL m (t - 1))
        rw [show t - 1 + 1 = t by omega] at this
        rw [show (0 : Int) = ((0 : Nat) : Int) from rfl, this, Nat.add_zero, i2]
        simp [sumTo]
/-- the next list of o trees -/
def nextF : Nat → List Int → Option (List Int)
  | _, [] => none
  | o, d :: r => match nextF (o - 1 + d.toNat) r with
    | some r' => some (d :: r')
    | none => if o - 1 + d.toNat < r.length then some ((d + 1) :: firstL r.length (o - 1 + d.toNat + 1)) else none
theorem next_rk : ∀ (ds : List Int) (o : Nat), ds.length ≤ 24 → isGo (o : Int) ds = true →
    match nextF o ds with
    | some ys => isGo (o : Int) ys = true ∧ ys.length = ds.length ∧ rk o ys = rk o ds + 1
    | none => rk o ds + 1 = L ds.length o := by
  intro ds
  induction ds with
  | nil => intro o _ h; have := go_long h; obtain rfl : o = 0 := by simpa using this
           simp [nextF, rk, L]
  | cons d r ih =>
    intro o hl h
    obtain ⟨p, e, rfl, rfl, h1, h2, h3⟩ := go_cons h
    have hi := ih _ (by simp only [List.length_cons] at hl; omega) h2
    have hcl : (r.length : Int) + 1 ≤ 24 := by simp only [List.length_cons] at hl; omega
    simp only [nextF, Int.toNat_natCast, Nat.add_sub_cancel]
    cases hn : nextF (p + e) r with
    | some r' =>
      rw [hn] at hi
      obtain ⟨i1, i2, i3⟩ := hi
      refine ⟨?_, by simp [i2], ?_⟩
      · rw [isGo, if_neg (by simp; omega), show ((p + 1 : Nat) : Int) - 1 + (e : Int) = ((p + e : Nat) : Int) by omega]; exact i1
      · rw [rk_cons, rk_cons, i2, i3]; omega
    | none =>
      rw [hn] at hi
      simp only at hi ⊢
      by_cases hlt : p + e < r.length
      · rw [if_pos hlt]
        obtain ⟨f1, f2⟩ := firstL_go r.length (p + e + 1) (by omega) (by omega)
        refine ⟨?_, by simp [firstL_len], ?_⟩
        · rw [isGo, if_neg (by simp; omega), show ((p + 1 : Nat) : Int) - 1 + ((e : Int) + 1) = ((p + e + 1 : Nat) : Int) by omega]; exact f1
        · rw [show (e : Int) + 1 = ((e + 1 : Nat) : Int) by omega, rk_cons, rk_cons, firstL_len, show p + (e + 1) = p + e + 1 by omega, f2]
          simp only [sumTo]
          omega
      · rw [if_neg hlt]
        show _ = L (r.length + 1) (p + 1)
        rw [dig_total (by omega), rk_cons, show r.length - p + 1 = e + 1 by omega]
        simp only [sumTo]
        omega
theorem rankTo_rk {xs : List Int} (ht : isTree xs = true) : ∀ v, v ≤ xs.length → rankTo xs v + rk (dueN xs v) (xs.drop v) = rk 1 xs := by
  intro v
  induction v with
  | zero => intro _; simp [rankTo, dueN_zero]
  | succ v ih =>
    intro hv
    obtain ⟨d, hd, _⟩ := tree_degN ht (v := v) (by omega)
    have h1 := ih (by omega)
    have h2 := dueN_pos ht (v := v) (by omega)
    rw [drop_at hd, show dueN xs v = (dueN xs v - 1) + 1 by omega, rk_cons] at h1
    rw [rankTo_at hd, dueN_succ ht hd]
    have e1 : (xs.drop (v + 1)).length = xs.length - v - 1 := by simp; omega
    rw [e1] at h1
    simp only [inR]
    omega
theorem rank_rk {xs : List Int} (ht : isTree xs = true) : rankTo xs xs.length = rk 1 xs := by
  have := rankTo_rk ht xs.length (Nat.le_refl _)
  rw [List.drop_length] at this
  simpa [rk] using this
/-- the next tree, or nothing -/
theorem next_un {xs : List Int} (ht : isTree xs = true) : unTree xs.length (rankTo xs xs.length + 1) = (nextF 1 xs).getD [] ∧ decide (rankTo xs xs.length + 1 < L xs.length 1) = (nextF 1 xs).isSome := by
  have h := next_rk xs 1 (tree_len ht).2 (tree_go ht)
  rw [rank_rk ht, unTree]
  cases hn : nextF 1 xs with
  | some ys =>
    rw [hn] at h
    obtain ⟨h1, h2, h3⟩ := h
    have h4 := rk_lt ys 1 h1
    have h5 := unrank_rk ys 1 h1
    rw [h2] at h4 h5
    rw [← h3, if_pos h4]
    exact ⟨h5, by simpa using h4⟩
  | none =>
    rw [hn] at h
    simp only at h
    rw [if_neg (by omega)]
    exact ⟨rfl, by simp; omega⟩
theorem next_tree {xs ys : List Int} (ht : isTree xs = true) (h : nextF 1 xs = some ys) : isTree ys = true ∧ ys.length = xs.length := by
  have h1 := next_rk xs 1 (tree_len ht).2 (tree_go ht)
  rw [h] at h1
  have h2 := tree_len ht
  refine ⟨?_, h1.2.1⟩
  rw [isTree_is (by omega) (by omega)]
  exact h1.1
/-- the way back over the nodes: those from v on can't take one child more -/
theorem next_end {xs : List Int} : nextF (dueN xs xs.length) (xs.drop xs.length) = none := by rw [List.drop_length]; rfl
theorem next_miss {xs : List Int} (ht : isTree xs = true) {v d : Nat} (hd : xs[v]? = some (d : Int)) (h : nextF (dueN xs (v + 1)) (xs.drop (v + 1)) = none) (hm : ¬ dueN xs (v + 1) < xs.length - 1 - v) : nextF (dueN xs v) (xs.drop v) = none := by
  rw [dueN_succ ht hd] at h hm
  rw [drop_at hd, nextF, Int.toNat_natCast, h]
  simp only
  rw [if_neg (by simp; omega)]
theorem next_pre {xs : List Int} (ht : isTree xs = true) : ∀ (v : Nat) (ys : List Int), v ≤ xs.length → nextF (dueN xs v) (xs.drop v) = some ys → nextF 1 xs = some (xs.take v ++ ys) := by
  intro v
  induction v with
  | zero => intro ys _ h; rw [dueN_zero] at h; simpa using h
  | succ v ih =>
    intro ys hv h
    obtain ⟨d, hd, _⟩ := tree_degN ht (v := v) (by omega)
    rw [dueN_succ ht hd] at h
    have h1 := ih ((d : Int) :: ys) (by omega) (by rw [drop_at hd, nextF, Int.toNat_natCast, h])
    rw [h1, List.take_add_one, hd]
    simp
theorem next_hit {xs : List Int} (ht : isTree xs = true) {v d : Nat} (hd : xs[v]? = some (d : Int)) (h : nextF (dueN xs (v + 1)) (xs.drop (v + 1)) = none) (hm : dueN xs (v + 1) < xs.length - 1 - v) : nextF 1 xs = some (xs.take v ++ [((d : Int) + 1)] ++ firstL (xs.length - 1 - v) (dueN xs (v + 1) + 1)) := by
  have hv := (List.getElem?_eq_some_iff.1 hd).1
  rw [List.append_assoc]
  refine next_pre ht v _ (by omega) ?_
  rw [dueN_succ ht hd] at h hm ⊢
  rw [drop_at hd, nextF, Int.toNat_natCast, h]
  simp only
  have e1 : (xs.drop (v + 1)).length = xs.length - 1 - v := by simp; omega
  rw [e1, if_pos hm]
  rfl
theorem due_end_N {xs : List Int} (ht : isTree xs = true) : dueN xs xs.length = 0 := by simp [dueN, due_end ht]
end Go.Proofs.Ytdgcjkgbglofbaa.M

/- The code of a tree and of numbers that have to be its nodes: codeOf and l01Nodes return the same number. -/
namespace Go.Proofs.Ytdgcjkgbglofbaa
open Go.RowKit

set_option maxHeartbeats 1000000 in
theorem codeOf (A An : Option Addr) (xs ns : List Int) (c cn : Nat) (w : World) (hx : xs.length ≤ 1000000000000) (hns : ns.length ≤ 1000) (h : Ints w w.heap.size A xs) (hn : Ints w w.heap.size An ns) (r : Int) (hr : Hid (M.code xs ns = r)) :
    Calls Try.prog 166 #[.agg #[.slice A xs.length c], .slice An ns.length cn] w fun e w' => e = .returned (.int .i64 r) ∧ Below w.heap.size w w' := by
  have hc := implIsTree A xs c (w.alloc (.cells #[.slice A xs.length c] 26)) hx (h.al _)
  cases ht : M.isTree xs
  · rw [ht] at hc
    have HC := Lib.hid hc
    have hr' : r = 1 := by rw [← hr.out]; simp [M.code, ht]
    subst hr'
    clear hc ht hr h hn
    go_enter Try.func166, Try.ntmps166
    go_wp2_with fail
    refine HC.out.mono ?_
    rintro e w1 ⟨rfl, hb⟩
    have hB := btr (bal (b0 w) _) hb
    go_wp2
    go_ret
    exact ⟨rfl, hB⟩
  · rw [ht] at hc
    have HC := Lib.hid hc
    have hr' : Hid (M.codeGo xs.length ns = r) := by show _ = _; rw [← hr.out]; simp [M.code, ht]
    have hlen := (M.tree_len ht).2
    clear hc ht hr
    go_enter Try.func166, Try.ntmps166
    go_wp2_with fail
    refine HC.out.mono ?_
    rintro e w1 ⟨rfl, hb⟩
    have hB := btr (bal (b0 w) _) hb
    have hcell : w1.cell? ⟨w.heap.size, 0, none⟩ = some (.slice A xs.length c) := cell_be (by simp) hb
    have h1 := (hn.al _).be hb
    clear hb h hn HC
    go_wp2
    go_loop [6, 12] (fun _ i => ∃ (k : Nat), k ≤ ns.length ∧ i = .int .i64 k ∧ Hid (M.codeGo xs.length (ns.drop k) = r)) (fun _ i => ns.length - (intOf i).toNat)
    case atStart => exact ⟨0, Nat.zero_le _, rfl, hr'⟩
    case round =>
      obtain ⟨k, hk, rfl, hg⟩ := hrel
      clear hr'
      by_cases hlt : k < ns.length
      · obtain ⟨b, off, v, rfl, hbB, g, hX⟩ := h1.at_ hlt
        clear h1
        by_cases hv0 : v < 0
        · have hs : Hid (r = 2) := hg.out.symm.trans (M.codeGo_hit hX.out (.inl hv0))
          go_wp2
          go_ret
          exact ⟨by rw [hs.out]; rfl, hB⟩
        · have hd0 : decide (v < 0) = false := decide_eq_false hv0
          have hv1 : 0 ≤ v := by omega
          by_cases hv2 : (xs.length : Int) ≤ v
          · have hs : Hid (r = 2) := hg.out.symm.trans (M.codeGo_hit hX.out (.inr hv2))
            clear hv0
            go_wp2
            go_ret
            exact ⟨by rw [hs.out]; rfl, hB⟩
          · have hs : Hid (M.codeGo xs.length (ns.drop (k + 1)) = r) := (M.codeGo_miss hX.out hv1 (by omega)).symm.trans hg.out
            have hd1 : decide ((xs.length : Int) ≤ v) = false := decide_eq_false hv2
            have hv3 : v < (xs.length : Int) := by omega
            clear hv0 hv2
            go_wp2
            go_round
            case rel => exact ⟨k + 1, by omega, by go_num, hs⟩
            case measure => simp [intOf]; omega
      · obtain rfl : k = ns.length := by omega
        have hs := hg.out
        rw [List.drop_length] at hs
        have Hs : Hid (r = 0) := hs.symm
        clear hs hg
        go_wp2
        go_ret
        exact ⟨by rw [Hs.out]; rfl, hB⟩

set_option maxHeartbeats 400000 in
set_option maxRecDepth 100000 in
theorem l01Nodes (A An : Option Addr) (xs ns : List Int) (c cn : Nat) (w : World) (hx : xs.length ≤ 1000000000000) (hns : ns.length ≤ 1000) (h : Ints w w.heap.size A xs) (hn : Ints w w.heap.size An ns) (r : Int) (hr : Hid (M.code xs ns = r)) :
    Calls Try.prog 183 #[.agg #[.slice A xs.length c], .slice An ns.length cn] w fun e w' => e = .returned (.int .i64 r) ∧ Below w.heap.size w w' := by
  have hc := specIs A xs c (w.alloc (.cells #[.slice A xs.length c] 26)) hx (h.al _)
  cases ht : M.isTree xs
  · rw [ht] at hc
    have HC := Lib.hid hc
    have hr' : r = 1 := by rw [← hr.out]; simp [M.code, ht]
    subst hr'
    clear hc ht hr h hn
    go_enter Try.func183, Try.ntmps183
    go_wp2_with fail
    refine HC.out.mono ?_
    rintro e w1 ⟨rfl, hb⟩
    have hB := btr (bal (b0 w) _) hb
    go_wp2
    go_ret
    exact ⟨rfl, hB⟩
  · rw [ht] at hc
    have HC := Lib.hid hc
    have hr' : Hid (M.codeGo xs.length ns = r) := by show _ = _; rw [← hr.out]; simp [M.code, ht]
    have hlen := (M.tree_len ht).2
    clear hc ht hr
    go_enter Try.func183, Try.ntmps183
    go_wp2_with fail
    refine HC.out.mono ?_
    rintro e w1 ⟨rfl, hb⟩
    have hB := btr (bal (b0 w) _) hb
    have hcell : w1.cell? ⟨w.heap.size, 0, none⟩ = some (.slice A xs.length c) := cell_be (by simp) hb
    have HcellA := Lib.hid hcell
    have h1 := (hn.al _).be hb
    clear hb h hn HC
    go_wp2
    clear hcell
    go_loopw [5] (fun i wr => ∃ (k : Nat), k ≤ ns.length ∧ i = .int .i64 k ∧ Hid (M.codeGo xs.length (ns.drop k) = r) ∧ Hid (Below w1.heap.size w1 wr)) (fun i _ => ns.length - (intOf i).toNat)
    case atStart => exact ⟨0, Nat.zero_le _, rfl, hr', b0 w1⟩
    case round =>
      obtain ⟨k, hk, rfl, hg, hbr⟩ := hrel
      clear hr'
      by_cases hlt : k < ns.length
      · obtain ⟨b, off, v, rfl, hbB, g, hX⟩ := (h1.be hbr.out).at_ hlt
        clear h1
        have hki : (k : Int) < (ns.length : Int) := by omega
        have hki0 : (0 : Int) ≤ (k : Int) := by omega
        have hcr := cell_be HcellA.out hbr.out
        have hN : ∀ W, Hid (Below wr.heap.size wr W) → Calls Try.prog 169 #[.agg #[.slice A xs.length c]] W fun e w' => e = .returned (.int .i64 xs.length) ∧ Hid (Below wr.heap.size wr w') := fun W hW =>
          (l01N A xs.length c W).mono fun e w' ⟨he, hb⟩ => ⟨he, btr hW.out hb⟩
        have HN := Lib.hid hN
        clear hN
        obtain ⟨bv, hbv⟩ : ∃ bv, Hid ((decide ((0 : Int) ≤ v) && decide (v ≤ (xs.length : Int) - 1)) = bv) := ⟨_, rfl⟩
        have hkeep : ∀ W, Hid (Below wr.heap.size wr W) → W.cell? ⟨b, off + k, none⟩ = some (.int .i64 v) ∧ W.cell? ⟨w.heap.size, 0, none⟩ = some (.slice A xs.length c) := fun W hW =>
          ⟨(hW.out.cell (p := ⟨b, off + k, none⟩) hbB).trans g, cell_be hcr hW.out⟩
        have HK := Lib.hid hkeep
        clear hkeep
        go_wp2
        have hK0 : Hid (Below wr.heap.size wr wr.drew) := (Below.refl _ _).drew
        have g0 : wr.drew.cell? ⟨b, off + k, none⟩ = some (.int .i64 v) := g
        have hcr0 : wr.drew.cell? ⟨w.heap.size, 0, none⟩ = some (.slice A xs.length c) := hcr
        have hwrap : IntKind.i64.wrap ((xs.length : Int) - 1) = (xs.length : Int) - 1 := IntWalk.i64_in _ (by omega)
        go_region_held3 (fun w' => w'.cell? ⟨b, off + k, none⟩ = some (.int .i64 v) ∧ w'.cell? ⟨w.heap.size, 0, none⟩ = some (.slice A xs.length c) ∧ Hid (Below wr.heap.size wr w')) (first | exact ⟨g0, hcr0, hK0⟩ | exact ⟨(HK.out _ (by assumption)).1, (HK.out _ (by assumption)).2, by assumption⟩) (first | (go_at_call 169; refine (HN.out _ (by assumption)).mono ?_; rintro e w7 ⟨rfl, hb7⟩) | (go_at_call 229; refine (inAny _ _ _ _ bv hbv).mono ?_; rintro e w8 ⟨rfl, rfl⟩))
        clear hwrap g0 hcr0 hK0 HN HK
        have hbw : Hid (Below w1.heap.size w1 w7) := btr hbr.out hb7.out
        cases bv
        · have hs : Hid (r = 2) := hg.out.symm.trans (M.codeGo_hit hX.out (by have := hbv.out; simp at this; omega))
          go_wp2
          go_ret
          exact ⟨by rw [hs.out]; rfl, btr hB hbw.out⟩
        · have hv := hbv.out
          simp only [Bool.and_eq_true, decide_eq_true_eq] at hv
          have hs : Hid (M.codeGo xs.length (ns.drop (k + 1)) = r) := (M.codeGo_miss hX.out hv.1 (by omega)).symm.trans hg.out
          clear hv
          go_wp2
          go_roundw
          case rel => exact ⟨k + 1, by omega, by go_num, hs, hbw⟩
          case measure => simp [intOf]; omega
      · obtain rfl : k = ns.length := by omega
        have hs := hg.out
        rw [List.drop_length] at hs
        have Hs : Hid (r = 0) := hs.symm
        clear hs hg
        go_wp2
        go_ret
        exact ⟨by rw [Hs.out]; rfl, btr hB hbr.out⟩

theorem ints_new (w : World) (cs : Array Value) (zs : List Int) (h : cs.toList = zs.map (Value.int .i64)) : Ints (w.alloc (.cells cs 2)) (w.alloc (.cells cs 2)).heap.size (some ⟨w.heap.size, 0, none⟩) zs := fun _ =>
  ⟨w.heap.size, 0, rfl, by simp, fun j x hx => by
    rw [Nat.zero_add, World.cell?_alloc_new]
    rw [← Array.getElem?_toList, h, List.getElem?_map, hx]
    rfl⟩
end Go.Proofs.Ytdgcjkgbglofbaa

/- the model's subtree. -/
namespace Go.Proofs.Ytdgcjkgbglofbaa
open Go.RowKit

theorem ints_sub {w : World} {B b off : Nat} {xs : List Int} (h : Ints w B (some ⟨b, off, none⟩) xs) (v m : Nat) : Ints w B (some ⟨b, off + v, none⟩) ((xs.drop v).take m) := fun hpos => by
  have hl : 0 < xs.length := by simp only [List.length_take, List.length_drop] at hpos; omega
  obtain ⟨b', off', e, hb, hc⟩ := h hl
  injection e with e
  injection e with e1 e2
  subst e1
  subst e2
  refine ⟨b, off + v, rfl, hb, fun j x hj => ?_⟩
  rw [List.getElem?_take] at hj
  split at hj
  · rw [List.getElem?_drop] at hj
    rw [Nat.add_assoc]
    exact hc _ _ hj
  · cases hj

set_option maxHeartbeats 1000000 in
set_option maxRecDepth 100000 in
theorem l01Subtree (A : Option Addr) (xs : List Int) (c v E : Nat) (w : World) (hx : xs.length ≤ 24) (hcl : xs.length ≤ c) (ht : Hid (M.isTree xs = true)) (hv : v < xs.length) (hE : Hid (v + M.span 1 (xs.drop v) = E)) (h : Ints w w.heap.size A xs) :
    Calls Try.prog 210 #[.agg #[.slice A xs.length c], .int .i64 v] w fun e w' => ∃ A' c', e = .returned (.agg #[.slice A' (E - v) c']) ∧ Own64 w' w.heap.size (.slice A' (E - v) c') (M.sub xs v) ∧ Below w.heap.size w w' := by
  obtain ⟨b, off, rfl, hbB, hcells⟩ := h (by omega)
  have Hh := Lib.hid h
  have hok := Lib.hid (M.tree_ok ht.out hv)
  have hEn := M.end_le (xs := xs) (v := v) (by omega)
  rw [hE.out] at hEn
  have hvE0 : v ≤ E := by have := hE.out; omega
  have hsl : Hid ((M.sub xs v).length = E - v) := by show _ = _; rw [M.sub_length]; have := hE.out; omega
  clear hcells h
  go_enter Try.func210, Try.ntmps210
  go_wp2
  obtain ⟨W, hW⟩ : ∃ W, W = (w.alloc (.cells #[.slice (some ⟨b, off, none⟩) xs.length c] 26)).alloc (.cells #[.slice none 0 0] 26) := ⟨_, rfl⟩
  have hcell : W.cell? ⟨w.heap.size, 0, none⟩ = some (.slice (some ⟨b, off, none⟩) xs.length c) := by subst hW; exact cell_al (by simp) _
  have hres : W.heap[w.heap.size + 1]? = some (.cells #[.slice none 0 0] 26 (0, 0)) := by subst hW; have := World.alloc_heap_new (w.alloc (.cells #[.slice (some ⟨b, off, none⟩) xs.length c] 26)) (.cells #[.slice none 0 0] 26); simpa using this
  have hIW := Lib.hid (((Hh.out.al (.cells #[.slice (some ⟨b, off, none⟩) xs.length c] 26)).al (.cells #[.slice none 0 0] 26)))
  have hBW := bal (bal (b0 w) (.cells #[.slice (some ⟨b, off, none⟩) xs.length c] 26)) (.cells #[.slice none 0 0] 26)
  rw [← hW] at hIW hBW ⊢
  have HBW := Lib.hid hBW
  have hWs : w.heap.size + 1 < W.heap.size := lt_of_block hres
  have Hres := Lib.hid hres
  clear hW hBW hres
  have hvE : (v : Int) ≤ (E : Int) := by omega
  have hEc : (E : Int) ≤ (c : Int) := by omega
  have hv0 : (0 : Int) ≤ (v : Int) := by omega
  have hvc : ¬ c = v := by omega
  have hK0 : Hid (Below (w.heap.size + 1) W W.drew) := (Below.refl _ _).drew
  have hK1 : Hid (Below W.heap.size W W.drew) := (Below.refl _ _).drew
  have hcell0 : W.drew.cell? ⟨w.heap.size, 0, none⟩ = some (.slice (some ⟨b, off, none⟩) xs.length c) := hcell
  have hEnd : ∀ W', Hid (Below W.heap.size W W') → Calls Try.prog 170 #[.agg #[.slice (some ⟨b, off, none⟩) xs.length c], .int .i64 v] W' fun e w' => e = .returned (.int .i64 E) ∧ Hid (Below W.heap.size W w') := fun W' hW' =>
    (l01End _ xs c v E W' hE hx hok (hIW.out.be hW'.out)).mono fun e w' ⟨he, hb⟩ => ⟨he, btr hW'.out hb⟩
  have HEnd := Lib.hid hEnd
  have hMake : ∀ W', Hid (Below W.heap.size W W') → Calls Try.prog 271 #[.slice (some ⟨b, off + v, none⟩) (E - v) (c - v)] W' fun e w' => ∃ A' c', e = .returned (.agg #[.slice A' (E - v) c']) ∧ Hid (Own64 w' W.heap.size (.slice A' (E - v) c') (M.sub xs v)) ∧ Hid (Below W.heap.size W w') := fun W' hW' => by
    have hi : Hid (Ints W' W'.heap.size (some ⟨b, off + v, none⟩) (M.sub xs v)) := (ints_sub (hIW.out.be hW'.out) v (M.span 1 (xs.drop v)))
    exact (l01Make _ (M.sub xs v) (E - v) (c - v) W' hsl (by omega) (fun e => by cases e) hi).mono fun e w' ⟨A', c', he, ho, hb⟩ => ⟨A', c', he, own_mono ho hW'.out.size, btr hW'.out hb⟩
  have HMake := Lib.hid hMake
  have hR : ∀ W', Hid (Below W.heap.size W W') → W'.cell? ⟨w.heap.size + 1, 0, none⟩ = some (.slice none 0 0) ∧ W'.frozen? ⟨w.heap.size + 1, 0, none⟩ = false := fun W' hW' => by
    have h1 := (hW'.out.block (w.heap.size + 1) hWs).trans Hres.out
    exact ⟨cell_of_one h1, free_of_one h1⟩
  have HR := Lib.hid hR
  have hS : ∀ W', Hid (Below W.heap.size W W') → W'.cell? ⟨w.heap.size, 0, none⟩ = some (.slice (some ⟨b, off, none⟩) xs.length c) ∧ Hid (Below (w.heap.size + 1) W W') := fun W' hW' => ⟨cell_be hcell hW'.out, hW'.out.mono (by omega)⟩
  have HS := Lib.hid hS
  clear hMake hEnd hR hS hcell
  go_region_held3 (fun w' => w'.cell? ⟨w.heap.size, 0, none⟩ = some (.slice (some ⟨b, off, none⟩) xs.length c) ∧ Hid (Below (w.heap.size + 1) W w')) (first | exact ⟨hcell0, hK0⟩ | exact HS.out _ (by assumption) | exact ⟨(World.cell?_setCell_other _ _ _ _ (by simp)).trans (HS.out _ (by assumption)).1, below_setCell (HS.out _ (by assumption)).2.out (Nat.le_refl _) _⟩) (first | (go_at_call 170; refine (HEnd.out _ (by assumption)).mono ?_; rintro e w7 ⟨rfl, hb7⟩) | (go_at_call 271; refine (HMake.out _ (by assumption)).mono ?_; rintro e w8 ⟨A8, c8, rfl, ho8, hb8⟩; obtain ⟨hr8, hf8⟩ := HR.out _ hb8))
  clear HS HR HMake HEnd hcell0 hK0 hK1
  go_wp2
  refine bodyPost_ret (v := .agg #[.slice A8 (E - v) c8]) (by simp [results, Try.results210, go_sem, hr8]) rfl ?_
  exact ⟨A8, c8, rfl, own_mono (own_far ho8.out hWs _) (by omega), below_setCell (btr HBW.out hb8.out) (by omega) _⟩
end Go.Proofs.Ytdgcjkgbglofbaa

/- childrenIn: the children of a node in a row of its own; l01Children: the same. -/
namespace Go.Proofs.Ytdgcjkgbglofbaa
open Go.RowKit Go.Shelf
attribute [local go_sem] Oper.semAt_some

/-- the children, as numbers -/
def kidsI (pre : List (Nat × Nat)) : List Int := pre.map fun x => (x.2 : Int)
theorem kidsI_snoc (pre : List (Nat × Nat)) (x : Nat × Nat) : kidsI (pre ++ [x]) = kidsI pre ++ [(x.2 : Int)] := by simp [kidsI]
theorem kidsI_length (pre : List (Nat × Nat)) : (kidsI pre).length = pre.length := by simp [kidsI]

theorem keepK_appended {W w1 : World} {n₀ B Bd : Nat} {tmp : Obj} {v v' : Value} {u : Value} {n : Nat} {xs : List Value} (hB : Below n₀ W (w1.setCell ⟨B, 0, none⟩ v')) (hgrow : (W.alloc tmp).grownBy w1 v.ownBlock)
    (hrow : W.ownsRow n₀ 2 1 v n xs) (hd : Boxed W Bd 24 u) (hne : Bd ≠ B) : KeepK n₀ Bd W (w1.setCell ⟨B, 0, none⟩ v') := by
  have h1 : Boxed w1 Bd 24 u := (hd.alloc tmp).kept hgrow (hd.not_row (by decide) hrow)
  exact ⟨hB, (show Boxed _ Bd _ u from h1.other hne v').trans (show W.heap[Bd]? = _ from hd).symm⟩

set_option maxRecDepth 100000 in
set_option maxHeartbeats 2000000 in
theorem childrenIn_in (A : Option Addr) (xs : List Int) (c v d : Nat) (w : World) (hx : xs.length ≤ 24) (hcl : xs.length ≤ c) (hcu : c ≤ 9223372036854775807) (ht : Hid (M.isTree xs = true)) (hd : Hid (xs[v]? = some (d : Int))) (hI : Ints w w.heap.size A xs) :
    CallsIn Fence.wide 5 Try.prog 177 #[.slice A xs.length c, .int .i64 v] w fun e w' => ∃ u, e = .returned u ∧ w'.ownsRow w.heap.size 2 1 u (kidsI (kids xs v d)).length ((kidsI (kids xs v d)).map (Value.int .i64)) ∧ Below w.heap.size w w' := by
  obtain ⟨i0, hi0, hz0, hz1, hz2⟩ := info_parts info64
  have hd24 : d ≤ 24 := by have := (M.tree_deg ht.out hd.out).2; omega
  refine callsIn_of_wp_marks Try.func177 rfl trivial ?_ rfl
  simp only [Try.ntmps177, List.size_toArray, List.length_cons, List.length_nil, Nat.reduceAdd, Nat.reduceSub, Array.replicate_succ, Array.replicate_zero, List.push_toArray, List.append_toArray, List.nil_append, List.cons_append]
  gi_wp2_with (refine ⟨trivial, ?_⟩; gi_at_call 275; refine (eachIn 4 A xs.length c v _).mono ?_; rintro e w' ⟨rfl, rfl⟩)
  have bO := Boxed.new w 24 (.slice none 0 0)
  have bD := Boxed.new (w.alloc (.cells #[.slice none 0 0] 24)) 24 (.slice A xs.length c)
  have bV := Boxed.new ((w.alloc (.cells #[.slice none 0 0] 24)).alloc (.cells #[.slice A xs.length c] 24)) 2 (.int .i64 v)
  simp only [World.size_alloc] at bD bV
  have hB0 := bal (bal (bal (b0 w) (.cells #[.slice none 0 0] 24)) (.cells #[.slice A xs.length c] 24)) (.cells #[.int .i64 v] 2)
  have hKb := KeepK.b (n₀ := w.heap.size) (Bd := w.heap.size + 1) (w := ((w.alloc (.cells #[.slice none 0 0] 24)).alloc (.cells #[.slice A xs.length c] 24)).alloc (.cells #[.int .i64 v] 2)) (by simp; omega) (by simp)
  have h15 : 1 ≤ 5 := by omega
  refine wpIn_rangeFunc_ownG (α := Nat × Nat) rfl h15 (gf := 332) (lb := #[.pointer (some ⟨w.heap.size + 2, 0, none⟩), .pointer (some ⟨w.heap.size + 1, 0, none⟩)]) rfl trivial (enters_of Try.func332 (by kernel_rfl) rfl)
    (each_stops 4 (by omega) (w.heap.size + 2) (w.heap.size + 1) w.heap.size A xs c v d hx hcl hcu ht hd _ bV.cell (bD.alloc _) (hI.below hB0 (Nat.le_refl _)) (by simp; omega)) (fun h k => h.t k) hKb (Below.refl _ _) (fun _ => rfl)
    (fun pre W => (∃ u, Boxed W w.heap.size 24 u ∧ W.ownsRow w.heap.size 2 1 u (kidsI pre).length ((kidsI pre).map (Value.int .i64)) ∧ True) ∧ Boxed W (w.heap.size + 1) 24 (.slice A xs.length c) ∧ Below w.heap.size w W)
    (fun _ _ _ => False)
    (OwnFrom.and (Own.from (holdsRow_own w.heap.size w.heap.size 24 2 1 (fun pre => (kidsI pre).length) (fun pre => (kidsI pre).map (Value.int .i64)) (fun _ _ => True)) _) (OwnFrom.and (Own.from (boxed_own (w.heap.size + 1) 24 (fun _ => .slice A xs.length c)) _) (ownFrom_below (Nat.le_refl _) (by simp; omega))))
    (fun _ _ _ _ _ hs _ _ => hs)
    ⟨⟨_, (bO.alloc _).alloc _, World.ownsRow_nil _ _ _ _, trivial⟩, bD.alloc _, hB0⟩
    (fun x => { tmps := #[.slice A xs.length c, .int .i64 v, undef, undef, .slice none 0 0, .pointer (some ⟨w.heap.size, 0, none⟩), undef, .int .i64 (x.2 : Int), .slice A xs.length c, .int .i64 v, .func (.func 332) #[] #[.pointer (some ⟨w.heap.size + 2, 0, none⟩), .pointer (some ⟨w.heap.size + 1, 0, none⟩)], .int .i64 (x.1 : Int), .int .i64 (x.2 : Int), undef, undef, undef, undef, undef], defers := [] }) ?assign ?body ?done ?stop
  case assign =>
    intro l x W K hK
    gi_wp2
    exact hK
  case body =>
    rintro l pre x W ⟨⟨u, hu, hrow, _⟩, hbd, hB⟩ hlt
    have hc := hu.cell
    have hpl := kidsI_length pre
    have hpl2 : (kidsI pre).length ≤ 24 := by omega
    clear hpl
    gi_wp2_with (gi_at_builtin; refine wpListIn_append_own _ rfl _ _ 24 rfl w.heap.size 2 i0 (.int .i64 0) 1 8 Try.underlying24 hi0 hz0 hz1 hz2 rfl (by decide) _ _ _ rfl (hrow.alloc _) ⟨W.heap.size, 0, none⟩ 1 1 [.int .i64 (x.2 : Int)] rfl rfl (cell_one_new _ _ _) (by simp [Value.oneCell']) (by unfold maxLen; omega) (by omega) (by have := hB.size; simp; omega) ?_; intro v' w1 hown' hgrow _; obtain ⟨g', cap', rfl⟩ := ownsRow_succ hown'; obtain ⟨hv1, hv2, hr2, hk2, hb2⟩ := hu.appended (by decide) hrow hB.size (Nat.le_refl _) hown' hgrow; have hc1 := hv1.cell; have hf1 := hv1.frozen)
    have hkk := keepK_appended hb2 hgrow hrow hbd (by omega)
    exact ⟨hk2.from _, hkk, ⟨_, hv2, by rw [kidsI_snoc]; simpa using hr2, trivial⟩, hkk.2.trans hbd, hB.trans hb2⟩
  case done =>
    rintro D ys W hD rfl ⟨⟨u, hu, hrow, _⟩, hbd, hB⟩ hK
    have hc := hu.cell
    gi_wp2
    refine ⟨by simp, .inl ⟨_, _, rfl, run_takeDeferred hK, ?_⟩⟩
    exact ⟨_, results_tmp rfl _ _ _, u, rfl, ownsRow_putObj hrow _ hK rfl, hB.trans (belowK_b (w := w) (Nat.le_refl _) W D _ _ (by simp at hD; omega) hK rfl rfl)⟩
  case stop =>
    rintro D c pre W _ _ h _
    exact h.elim

theorem kidsI_kids (xs : List Int) (v k : Nat) : kidsI (kids xs v k) = M.childs xs v k := by simp [kidsI, kids, M.childs]

theorem childrenIn (A : Option Addr) (xs : List Int) (c v d : Nat) (w : World) (hx : xs.length ≤ 24) (hcl : xs.length ≤ c) (hcu : c ≤ 9223372036854775807) (ht : Hid (M.isTree xs = true)) (hd : Hid (xs[v]? = some (d : Int))) (hI : Ints w w.heap.size A xs) :
    Calls Try.prog 177 #[.slice A xs.length c, .int .i64 v] w fun e w' => ∃ A' c', e = .returned (.slice A' d c') ∧ Own64 w' w.heap.size (.slice A' d c') (M.childs xs v d) ∧ Below w.heap.size w w' := by
  refine ((callsIn_wide (n := 5)).1 (childrenIn_in A xs c v d w hx hcl hcu ht hd hI)).mono ?_
  rintro e w' ⟨u, rfl, ho, hb⟩
  rw [kidsI_kids, M.childs_length] at ho
  obtain ⟨A', c', rfl⟩ := own_shape ho
  exact ⟨A', c', rfl, by unfold Own64; rw [M.childs_length]; exact ho, hb⟩

set_option maxHeartbeats 2000000 in
theorem l01Children (A : Option Addr) (xs : List Int) (c v d : Nat) (w : World) (hx : xs.length ≤ 24) (ht : Hid (M.isTree xs = true)) (hd : Hid (xs[v]? = some (d : Int))) (h : Ints w w.heap.size A xs) :
    Calls Try.prog 178 #[.agg #[.slice A xs.length c], .int .i64 v] w fun e w' => ∃ A' c', e = .returned (.slice A' d c') ∧ Own64 w' w.heap.size (.slice A' d c') (M.childs xs v d) ∧ Below w.heap.size w w' := by
  have hv : v < xs.length := (List.getElem?_eq_some_iff.1 hd.out).1
  have hd24 : d ≤ 24 := by have := (M.tree_deg ht.out hd.out).2; omega
  have Hh := Lib.hid h
  obtain ⟨b, off, rfl, hbB, hcells⟩ := h (by omega)
  have hc0 := hcells v _ hd.out
  clear hcells
  go_enter Try.func178, Try.ntmps178
  go_wp2
  go_loopw [5, 6, 7] (fun q at_ i wr => ∃ (k : Nat) (A' : Option Addr) (n c' : Nat), k ≤ d ∧ i = .int .i64 ((d : Int) - k) ∧ at_ = .int .i64 (M.kidAt xs v k) ∧ q = .slice A' n c' ∧ Hid (Own64 wr (w.heap.size + 1) (.slice A' n c') (M.childs xs v k)) ∧ Hid (Below (w.heap.size + 1) (w.alloc (.cells #[.slice (some ⟨b, off, none⟩) xs.length c] 26)) wr)) (fun _ _ i _ => (intOf i).toNat)
  case atStart => exact ⟨0, some ⟨w.heap.size + 1, 0, none⟩, 0, 0, Nat.zero_le _, by go_num, by simp [M.kidAt], rfl, by have := own64_empty (w := w.alloc (.cells #[.slice (some ⟨b, off, none⟩) xs.length c] 26)) (B := w.heap.size + 1) (by simp); exact Lib.hid (by simpa [M.childs] using this), (Below.refl _ _).alloc (by simp) _⟩
  case round =>
    obtain ⟨k, A', n, c', hk, rfl, rfl, rfl, ho, hbr⟩ := hrel
    have hnr : n ≤ 1000000 := by have h1 := own64_len ho.out; rw [M.childs_length] at h1; omega
    clear hc0
    have hB1 := hbr.out.size
    by_cases hlt : k < d
    · have hkl := M.kid_lt ht.out hd.out (i := k) (by omega)
      have hok := Lib.hid (M.tree_ok ht.out hkl)
      have hsp := M.span_le (xs.drop (M.kidAt xs v k)) 1
      have hsp2 : (xs.drop (M.kidAt xs v k)).length ≤ xs.length := by simp
      obtain ⟨C2, hC2e⟩ : ∃ C2, Hid (M.kidAt xs v (k + 1) = C2) := ⟨_, rfl⟩
      have hks : Hid (M.kidAt xs v k + M.span 1 (xs.drop (M.kidAt xs v k)) = C2) := hC2e
      have hcs := Lib.hid (M.childs_succ xs v k)
      generalize M.kidAt xs v k = C at *
      have hC2 : C2 ≤ 48 := by have := hks.out; omega
      clear hsp hsp2
      have hB2 : w.heap.size + 1 ≤ wr.heap.size := by simpa using hB1
      have HbB := Lib.hid hbB
      clear hB1 hbB
      go_wp2_with (at_builtin; refine push64 rfl (.tmp 20) (.tmp 22) rfl wr (w.heap.size + 1) A' n c' (M.childs xs v k) (C : Int) rfl rfl ho hB2 hnr ?_; intro A2 c2 w2 ho2 hb2; have hb3 := Lib.hid (hbr.out.trans hb2.out); have hcell2 := (hb3.out.cell (p := ⟨w.heap.size, 0, none⟩) (Nat.lt_succ_self _)).trans (World.cell?_alloc_new w #[.slice (some ⟨b, off, none⟩) xs.length c] 26 0))
      have hsz2 : w.heap.size ≤ w2.heap.size := by have := hb3.out.size; simp at this; omega
      have hI2 := Lib.hid (((Hh.out.alloc (Nat.le_refl _) (.cells #[.slice (some ⟨b, off, none⟩) xs.length c] 26)).below hb3.out (Nat.le_succ _)).more hsz2)
      refine (l01End _ xs c C C2 _ hks hx hok hI2.out).mono ?_
      rintro e w3 ⟨rfl, hb⟩
      have hb4 := Lib.hid (hb3.out.trans (hb.mono (by have := hb3.out.size; simp at this; omega)))
      have ho4 := Lib.hid (own_be (own64_eq ho2.out hcs.out.symm) hb)
      clear hb
      go_wp2
      go_roundw
      case rel => exact ⟨k + 1, A2, _, c2, by omega, by go_num, by rw [hC2e.out], rfl, ho4, hb4⟩
      case measure => simp [intOf]; omega
    · obtain rfl : k = d := by omega
      go_wp2
      go_ret
      have hn := own64_len ho.out
      rw [M.childs_length] at hn
      subst hn
      exact ⟨A', c', rfl, own_mono ho.out (by omega), (bal (b0 w) _).trans (hbr.out.mono (by omega))⟩
end Go.Proofs.Ytdgcjkgbglofbaa

/- The order by levels as mathematics: nodes met are never more than the tree has, since their subtrees' sizes add up. -/
namespace Go.Proofs.Ytdgcjkgbglofbaa.M

theorem span_add : ∀ (l : List Int) (a b : Int), (∀ x ∈ l, 0 ≤ x) → 0 ≤ a → 0 ≤ b → span (a + b) l = span a l + span b (l.drop (span a l)) := by
  intro l
  induction l with
  | nil => intro a b _ _ _; simp [span]
  | cons x r ih =>
    intro a b h ha hb
    have hx := h x (by simp)
    by_cases h0 : a ≤ 0
    · obtain rfl : a = 0 := by omega
      rw [span_stop (Int.le_refl 0)]
      simp
    · have e1 : span (a + b) (x :: r) = span (a + b - 1 + x) r + 1 := by rw [span, if_neg (by omega)]
      have e2 : span a (x :: r) = span (a - 1 + x) r + 1 := by rw [span, if_neg (by omega)]
      have e3 : a + b - 1 + x = (a - 1 + x) + b := by omega
      rw [e1, e2, e3, ih _ _ (fun y hy => h y (by simp [hy])) (by omega) hb]
      simp only [List.drop_succ_cons]
      omega

theorem tree_nonneg {xs : List Int} (h : isTree xs = true) : ∀ x ∈ xs, 0 ≤ x := by
  intro x hx
  obtain ⟨i, hi, e⟩ := List.getElem_of_mem hx
  exact (tree_deg h (v := i) (x := x) (by rw [List.getElem?_eq_getElem hi, e])).1

theorem kid_span {xs : List Int} (h : isTree xs = true) (v : Nat) : ∀ k : Nat, kidAt xs v k = v + 1 + span k (xs.drop (v + 1)) := by
  intro k
  induction k with
  | zero => simp only [kidAt]; rw [span_stop (by simp)]
  | succ k ih =>
    simp only [kidAt]
    have e := span_add (xs.drop (v + 1)) k 1 (fun x hx => tree_nonneg h x (List.mem_of_mem_drop hx)) (by omega) (by omega)
    rw [List.drop_drop] at e
    have e2 : ((k + 1 : Nat) : Int) = (k : Int) + 1 := by omega
    rw [ih, e2, e]
    omega

theorem kid_end {xs : List Int} (h : isTree xs = true) {v d : Nat} (hd : xs[v]? = some (d : Int)) : kidAt xs v d = v + span 1 (xs.drop v) := by
  rw [kid_span h, span_step hd (by omega)]
  have e : (1 : Int) - 1 + d = d := by omega
  rw [e]
  omega

def szs (xs l : List Int) : Nat := (l.map fun v => span 1 (xs.drop v.toNat)).sum
theorem szs_append (xs a b : List Int) : szs xs (a ++ b) = szs xs a + szs xs b := by simp [szs]
theorem szs_childs (xs : List Int) (v k : Nat) : v + 1 + szs xs (childs xs v k) = kidAt xs v k := by
  induction k with
  | zero => simp [childs, szs, kidAt]
  | succ k ih =>
    rw [childs_succ, szs_append]
    simp only [kidAt]
    have : szs xs [(kidAt xs v k : Int)] = span 1 (xs.drop (kidAt xs v k)) := by simp [szs]
    omega
theorem szs_len {xs : List Int} : ∀ l : List Int, (∀ v ∈ l, 0 ≤ v ∧ v.toNat < xs.length) → l.length ≤ szs xs l := by
  intro l
  induction l with
  | nil => intro _; simp
  | cons a r ih =>
    intro h
    have h1 := ih (fun v hv => h v (by simp [hv]))
    have h2 := span_pos (xs := xs) (h a (by simp)).2
    simp only [szs, List.map_cons, List.sum_cons, List.length_cons] at *
    omega

def lev (xs : List Int) : Nat → List Int → Nat → List Int
  | 0, out, _ => out
  | f + 1, out, i => match out[i]? with
    | none => out
    | some v => lev xs f (out ++ childs xs v.toNat (xs[v.toNat]?.getD 0).toNat) (i + 1)
def level (xs : List Int) : List Int := lev xs xs.length [0] 0
def lgood (xs : List Int) (i : Nat) (out : List Int) : Prop := i ≤ out.length ∧ i + szs xs (out.drop i) = xs.length ∧ ∀ v ∈ out, 0 ≤ v ∧ v.toNat < xs.length

theorem lgood_len {xs out : List Int} {i : Nat} (h : lgood xs i out) : out.length ≤ xs.length := by
  obtain ⟨h1, h2, h3⟩ := h
  have := szs_len (xs := xs) (out.drop i) (fun v hv => h3 v (List.mem_of_mem_drop hv))
  simp only [List.length_drop] at this
  omega
theorem childs_in {xs : List Int} (h : isTree xs = true) {v d : Nat} (hd : xs[v]? = some (d : Int)) : ∀ u ∈ childs xs v d, 0 ≤ u ∧ u.toNat < xs.length := by
  intro u hu
  simp only [childs, List.mem_map, List.mem_range] at hu
  obtain ⟨i, hi, rfl⟩ := hu
  exact ⟨by omega, by simpa using kid_lt h hd (i := i) (by omega)⟩
theorem lgood_step {xs out : List Int} {i v d : Nat} (ht : isTree xs = true) (h : lgood xs i out) (hv : out[i]? = some (v : Int)) (hd : xs[v]? = some (d : Int)) : lgood xs (i + 1) (out ++ childs xs v d) := by
  obtain ⟨h1, h2, h3⟩ := h
  have hi := (List.getElem?_eq_some_iff.1 hv).1
  refine ⟨by simp; omega, ?_, fun u hu => ?_⟩
  · rw [List.drop_append_of_le_length (by omega), szs_append]
    rw [drop_at hv] at h2
    have e1 : szs xs ((v : Int) :: out.drop (i + 1)) = span 1 (xs.drop v) + szs xs (out.drop (i + 1)) := by simp [szs]
    have e2 := szs_childs xs v d
    have e3 := kid_end ht hd
    omega
  · rcases List.mem_append.1 hu with hu | hu
    · exact h3 u hu
    · exact childs_in ht hd u hu
theorem lgood_start {xs : List Int} (ht : isTree xs = true) : lgood xs 0 [0] := by
  have hl := (tree_len ht).1
  refine ⟨by simp, ?_, fun v hv => by simp at hv; subst hv; simp; omega⟩
  have h0 : due xs 0 = 1 := by simp [due, bal]
  have h1 := due_span ht (v := 0) hl
  have h2 := end_le (xs := xs) (v := 0) (by omega)
  simp only [List.drop_zero, Nat.zero_add] at h1 h2
  have h3 : ¬ span 1 xs < xs.length := fun hlt => by have := due_pos ht hlt; omega
  simp [szs]
  omega
theorem lev_step {xs out : List Int} {n i v d : Nat} (hn : i < n) (hv : out[i]? = some (v : Int)) (hd : xs[v]? = some (d : Int)) : lev xs (n - i) out i = lev xs (n - (i + 1)) (out ++ childs xs v d) (i + 1) := by
  have e : n - i = (n - (i + 1)) + 1 := by omega
  rw [e, lev, hv]
  simp [hd]
theorem lev_end {xs out : List Int} {f i : Nat} (h : out.length ≤ i) : lev xs f out i = out := by
  cases f with
  | zero => rfl
  | succ f => rw [lev, List.getElem?_eq_none h]
theorem lev_len {xs : List Int} (ht : isTree xs = true) : ∀ (f : Nat) (out : List Int) (i : Nat), lgood xs i out → (lev xs f out i).length ≤ xs.length := by
  intro f
  induction f with
  | zero => intro out i h; exact lgood_len h
  | succ f ih =>
    intro out i h
    rw [lev]
    split
    · exact lgood_len h
    · rename_i v hv
      obtain ⟨h0, h1⟩ := h.2.2 v (List.mem_of_getElem? hv)
      obtain ⟨n, rfl⟩ := Int.eq_ofNat_of_zero_le h0
      obtain ⟨d, hd, _⟩ := tree_degN ht h1
      simp only [Int.toNat_natCast] at hd h1 ⊢
      rw [hd]
      exact ih _ _ (by simpa using lgood_step ht h hv hd)
end Go.Proofs.Ytdgcjkgbglofbaa.M

/- Parents and meets as mathematics: subtrees are nested, each node but the root is a child of one node, and the meet is the greatest node that has both below it. -/
namespace Go.Proofs.Ytdgcjkgbglofbaa.M

def fin (xs : List Int) (v : Nat) : Nat := v + span 1 (xs.drop v)
theorem span_min : ∀ (l : List Int) (o : Int) (k : Nat), k < span o l → 1 ≤ o + bal (l.take k) := by
  intro l
  induction l with
  | nil => intro o k h; simp [span] at h
  | cons x r ih =>
    intro o k h
    rw [span] at h
    split at h
    · omega
    · cases k with
      | zero => simp only [List.take_zero, bal]; omega
      | succ k =>
        have := ih (o - 1 + x) k (by omega)
        simp only [List.take_succ_cons, bal]
        omega
theorem due_in {xs : List Int} {v q : Nat} (h1 : v ≤ q) (h2 : q < fin xs v) : due xs v ≤ due xs q := by
  have h := span_min (xs.drop v) 1 (q - v) (by simp only [fin] at h2; omega)
  have e : xs.take q = xs.take v ++ (xs.drop v).take (q - v) := by
    have := List.take_add (l := xs) (i := v) (j := q - v)
    rw [← this]
    congr 1
    omega
  simp only [due]
  rw [e, bal_append]
  omega
theorem fin_gt {xs : List Int} {v : Nat} (h : v < xs.length) : v < fin xs v := by have := span_pos h; simp only [fin]; omega
theorem fin_le {xs : List Int} {v : Nat} (h : v ≤ xs.length) : fin xs v ≤ xs.length := end_le h
theorem fin_root {xs : List Int} (ht : isTree xs = true) : fin xs 0 = xs.length := by
  have := (lgood_start ht).2.1
  simpa [szs, fin] using this
theorem nest {xs : List Int} (ht : isTree xs = true) {v q : Nat} (hv : v < xs.length) (h1 : v ≤ q) (h2 : q < fin xs v) : fin xs q ≤ fin xs v := by
  have hl := fin_le (xs := xs) (v := v) (by omega)
  rcases Nat.lt_or_ge (fin xs v) (fin xs q) with h | h
  · have e1 := due_in (xs := xs) (v := q) (q := fin xs v) (by omega) h
    have e2 := due_span ht hv
    have e3 := due_in h1 h2
    simp only [fin] at e1
    omega
  · exact h
theorem kid_le {xs : List Int} {v i j : Nat} (h : i ≤ j) : kidAt xs v i ≤ kidAt xs v j := by
  induction j with
  | zero => obtain rfl : i = 0 := by omega
            exact Nat.le_refl _
  | succ j ih =>
    rcases Nat.lt_or_ge i (j + 1) with h1 | h1
    · have := ih (by omega)
      simp only [kidAt]
      omega
    · obtain rfl : i = j + 1 := by omega
      exact Nat.le_refl _
theorem kid_tile {xs : List Int} {v at_ : Nat} (h : v < at_) : ∀ i, at_ < kidAt xs v i → ∃ j, j < i ∧ kidAt xs v j ≤ at_ ∧ at_ < kidAt xs v (j + 1) := by
  intro i
  induction i with
  | zero => intro h1; simp only [kidAt] at h1; omega
  | succ i ih =>
    intro h1
    rcases Nat.lt_or_ge at_ (kidAt xs v i) with h2 | h2
    · obtain ⟨j, hj, h3⟩ := ih h2
      exact ⟨j, by omega, h3⟩
    · exact ⟨i, by omega, h2, h1⟩
def IsKid (xs : List Int) (u c : Nat) : Prop := ∃ (d : Nat) (i : Nat), xs[u]? = some (d : Int) ∧ i < d ∧ kidAt xs u i = c
theorem kid_bounds {xs : List Int} (ht : isTree xs = true) {u c : Nat} (h : IsKid xs u c) : u < c ∧ c < fin xs u ∧ c < xs.length := by
  obtain ⟨d, i, hd, hi, rfl⟩ := h
  have h1 := kid_due ht hd i (by omega)
  have h2 := kid_lt ht hd (i := i) (by omega)
  have h3 := kid_end ht hd
  have h4 := kid_le (xs := xs) (v := u) (i := i + 1) (j := d) (by omega)
  have h5 := span_pos h2
  simp only [kidAt] at h4
  simp only [fin]
  omega
theorem kid_up {xs : List Int} (ht : isTree xs = true) {p c r : Nat} (h : IsKid xs p c) (h1 : r < c) (h2 : c < fin xs r) : r ≤ p := by
  obtain ⟨hb1, hb2, hb3⟩ := kid_bounds ht h
  rcases Nat.lt_or_ge p r with hlt | hge
  · obtain ⟨d, i, hd, hi, hk⟩ := h
    have he := kid_end ht hd
    obtain ⟨j, hj, hj1, hj2⟩ := kid_tile (xs := xs) (v := p) (at_ := r) hlt d (by simp only [fin] at hb2; omega)
    have hjl := kid_lt ht hd (i := j) (by omega)
    have hn := nest ht hjl hj1 (by simp only [kidAt] at hj2; exact hj2)
    have hn2 : fin xs (kidAt xs p j) = kidAt xs p (j + 1) := by simp only [fin, kidAt]
    rcases Nat.lt_or_ge i (j + 1) with hij | hij
    · have := kid_le (xs := xs) (v := p) (i := i) (j := j) (by omega)
      omega
    · have := kid_le (xs := xs) (v := p) (i := j + 1) (j := i) hij
      omega
  · exact hge
theorem kid_unique {xs : List Int} (ht : isTree xs = true) {p q c : Nat} (h : IsKid xs p c) (h' : IsKid xs q c) : p = q := by
  have a := kid_bounds ht h
  have b := kid_bounds ht h'
  have := kid_up ht h b.1 b.2.1
  have := kid_up ht h' a.1 a.2.1
  omega
theorem kid_exists {xs : List Int} (ht : isTree xs = true) {c : Nat} (hc : c < xs.length) : ∀ (m u : Nat), c - u ≤ m → u < c → c < fin xs u → ∃ p, IsKid xs p c := by
  intro m
  induction m with
  | zero => intro u h1 h2; omega
  | succ m ih =>
    intro u h1 h2 h3
    obtain ⟨d, hd, _⟩ := tree_degN ht (v := u) (by omega)
    have he := kid_end ht hd
    obtain ⟨j, hj, hj1, hj2⟩ := kid_tile (xs := xs) h2 d (by simp only [fin] at h3; omega)
    rcases Nat.lt_or_ge (kidAt xs u j) c with h4 | h4
    · have h5 := (kid_due ht hd j (by omega)).2.2
      exact ih (kidAt xs u j) (by omega) h4 (by simp only [kidAt] at hj2; exact hj2)
    · exact ⟨u, d, j, hd, hj, by omega⟩
theorem kid_has {xs : List Int} (ht : isTree xs = true) {c : Nat} (h0 : 0 < c) (hc : c < xs.length) : ∃ p, IsKid xs p c :=
  kid_exists ht hc c 0 (by omega) h0 (by rw [fin_root ht]; exact hc)

/-- v stands at u or below it -/
def bel (xs : List Int) (v u : Nat) : Bool := decide (u ≤ v) && decide (v < fin xs u)
theorem bel_iff {xs : List Int} {v u : Nat} : bel xs v u = true ↔ u ≤ v ∧ v < fin xs u := by simp [bel]
def meetDown (xs : List Int) (v w : Nat) : Nat → Nat
  | 0 => 0
  | u + 1 => if bel xs v (u + 1) && bel xs w (u + 1) then u + 1 else meetDown xs v w u
theorem meetDown_hit {xs : List Int} {v w u : Nat} (h : (bel xs v u && bel xs w u) = true) : meetDown xs v w u = u := by
  cases u with
  | zero => rfl
  | succ u => rw [meetDown, if_pos h]
theorem meetDown_miss {xs : List Int} {v w u : Nat} (h : (bel xs v (u + 1) && bel xs w (u + 1)) = false) : meetDown xs v w (u + 1) = meetDown xs v w u := by rw [meetDown, if_neg (by simp [h])]
theorem meetDown_le (xs : List Int) (v w : Nat) : ∀ u, meetDown xs v w u ≤ u := by
  intro u
  induction u with
  | zero => exact Nat.le_refl _
  | succ u ih => rw [meetDown]; split <;> omega
theorem meetDown_bel {xs : List Int} (ht : isTree xs = true) {v w : Nat} (hv : v < xs.length) (hw : w < xs.length) : ∀ u, bel xs v (meetDown xs v w u) = true ∧ bel xs w (meetDown xs v w u) = true := by
  intro u
  induction u with
  | zero => simp only [meetDown, bel_iff, fin_root ht]; omega
  | succ u ih =>
    rw [meetDown]
    split
    · rename_i h; simpa using h
    · exact ih
theorem meetDown_max {xs : List Int} {v w : Nat} : ∀ u r, r ≤ u → bel xs v r = true → bel xs w r = true → r ≤ meetDown xs v w u := by
  intro u
  induction u with
  | zero => intro r h _ _; omega
  | succ u ih =>
    intro r h h1 h2
    rcases Nat.lt_or_ge r (u + 1) with h3 | h3
    · have := ih r (by omega) h1 h2
      rw [meetDown]
      split <;> omega
    · obtain rfl : r = u + 1 := by omega
      rw [meetDown_hit (by simp [h1, h2])]
      exact Nat.le_refl _
def meet (xs : List Int) (v w : Nat) : Nat := meetDown xs v w (min v w)
/-- the model's walk: at the stop -/
theorem meet_stop {xs : List Int} {v w a : Nat} (h1 : bel xs v a = true) (h2 : bel xs w a = true) (h3 : meet xs v w ≤ a) : a = meet xs v w := by
  have b1 := bel_iff.1 h1
  have b2 := bel_iff.1 h2
  have := meetDown_max (xs := xs) (v := v) (w := w) (min v w) a (by omega) h1 h2
  simp only [meet] at *
  omega
/-- the model's walk: a step to the parent -/
theorem meet_step {xs : List Int} (ht : isTree xs = true) {v w a p : Nat} (hv : v < xs.length) (hw : w < xs.length) (h1 : bel xs v a = true) (h2 : bel xs w a = false) (h3 : meet xs v w ≤ a) (hp : IsKid xs p a) :
    bel xs v p = true ∧ meet xs v w ≤ p := by
  obtain ⟨m1, m2⟩ := meetDown_bel ht hv hw (min v w)
  have b1 := bel_iff.1 h1
  have hb := kid_bounds ht hp
  have hn := nest ht (v := p) (q := a) (by omega) (by omega) hb.2.1
  refine ⟨bel_iff.2 (by omega), ?_⟩
  have hm : meet xs v w ≠ a := fun e => by
    rw [← e] at h2
    simp only [meet] at h2
    rw [m2] at h2
    cases h2
  have b2 := bel_iff.1 m1
  exact kid_up ht hp (by omega) (by simp only [meet]; omega)
theorem meet_start {xs : List Int} {v w : Nat} (hv : v < xs.length) : bel xs v v = true ∧ meet xs v w ≤ v := by
  have := meetDown_le xs v w (min v w)
  have h2 := fin_gt hv
  exact ⟨bel_iff.2 ⟨Nat.le_refl _, h2⟩, by simp only [meet]; omega⟩
end Go.Proofs.Ytdgcjkgbglofbaa.M

/- Addresses, their mathematics: the place of the child toward a node, again and again. No program is named here. -/
namespace Go.Proofs.Ytdgcjkgbglofbaa.M
/-- the last of the first k places whose child is not behind v -/
def lastP (xs : List Int) (a v : Nat) : Nat → Nat
  | 0 => 0
  | k + 1 => if kidAt xs a k ≤ v then k else lastP xs a v k
theorem lastP_hit {xs : List Int} {a v k : Nat} (h : kidAt xs a k ≤ v) : lastP xs a v (k + 1) = k := by rw [lastP, if_pos h]
theorem lastP_miss {xs : List Int} {a v k : Nat} (h : v < kidAt xs a k) : ∀ j, k ≤ j → lastP xs a v j = lastP xs a v k := by
  intro j
  induction j with
  | zero => intro hj; obtain rfl : k = 0 := by omega
            rfl
  | succ j ih =>
    intro hj
    rcases Nat.lt_or_ge k (j + 1) with h1 | h1
    · have := kid_le (xs := xs) (v := a) (i := k) (j := j) (by omega)
      rw [lastP, if_neg (by omega), ih (by omega)]
    · obtain rfl : k = j + 1 := by omega
      rfl
/-- the number of children -/
def deg (xs : List Int) (a : Nat) : Nat := (xs[a]?.getD 0).toNat
theorem deg_at {xs : List Int} {a d : Nat} (h : xs[a]? = some (d : Int)) : deg xs a = d := by simp [deg, h]
def place (xs : List Int) (a v : Nat) : Nat := lastP xs a v (deg xs a)
theorem place_is {xs : List Int} {a v d j : Nat} (hd : xs[a]? = some (d : Int)) (hj : j < d) (h1 : kidAt xs a j ≤ v) (h2 : v < kidAt xs a (j + 1)) : place xs a v = j := by
  rw [place, deg_at hd]
  rcases Nat.lt_or_ge (j + 1) d with h3 | h3
  · rw [lastP_miss h2 d (by omega), lastP_hit h1]
  · obtain rfl : d = j + 1 := by omega
    exact lastP_hit h1
/-- there is one: a is above v, and is not v -/
theorem place_at {xs : List Int} (ht : isTree xs = true) {a v : Nat} (h1 : a < v) (h2 : v < fin xs a) (hv : v < xs.length) : ∃ d : Nat, xs[a]? = some (d : Int) ∧ d ≤ 24 ∧ place xs a v < d ∧ kidAt xs a (place xs a v) ≤ v ∧ v < kidAt xs a (place xs a v + 1) := by
  obtain ⟨d, hd, h24⟩ := tree_degN ht (v := a) (by omega)
  have he := kid_end ht hd
  obtain ⟨j, hj, hj1, hj2⟩ := kid_tile (xs := xs) h1 d (by simp only [fin] at h2; omega)
  have hp := place_is hd hj hj1 hj2
  exact ⟨d, hd, h24, by omega, by rw [hp]; exact hj1, by rw [hp]; exact hj2⟩
def next (xs : List Int) (a v : Nat) : Nat := kidAt xs a (place xs a v)
theorem next_ok {xs : List Int} (ht : isTree xs = true) {a v : Nat} (h1 : a < v) (h2 : v < fin xs a) (hv : v < xs.length) : a < next xs a v ∧ next xs a v ≤ v ∧ v < fin xs (next xs a v) := by
  obtain ⟨d, hd, _, hp, h3, h4⟩ := place_at ht h1 h2 hv
  exact ⟨(kid_due ht hd _ (by omega)).2.2, h3, by simp only [kidAt] at h4; exact h4⟩
def addrGo (xs : List Int) (v : Nat) : Nat → Nat → List Int
  | 0, _ => []
  | f + 1, a => if a = v then [] else (place xs a v : Int) :: addrGo xs v f (next xs a v)
theorem addrGo_len (xs : List Int) (v : Nat) : ∀ f a, (addrGo xs v f a).length ≤ f := by
  intro f
  induction f with
  | zero => intro a; exact Nat.le_refl _
  | succ f ih =>
    intro a
    rw [addrGo]
    split
    · simp
    · simp only [List.length_cons]; have := ih (next xs a v); omega
def address (xs : List Int) (v : Nat) : List Int := addrGo xs v xs.length 0
/-- the walk down: what has come, and where it stands -/
def AddrAt (xs : List Int) (v a : Nat) (pre R : List Int) : Prop := a ≤ v ∧ v < fin xs a ∧ pre.length ≤ a ∧ ∃ f, v - a ≤ f ∧ pre ++ addrGo xs v f a = R
theorem addr_start {xs : List Int} (ht : isTree xs = true) {v : Nat} (hv : v < xs.length) : AddrAt xs v 0 [] (address xs v) :=
  ⟨Nat.zero_le _, by rw [fin_root ht]; exact hv, Nat.le_refl _, xs.length, by omega, rfl⟩
theorem addr_end {xs : List Int} {v : Nat} {pre R : List Int} (h : AddrAt xs v v pre R) : pre = R := by
  obtain ⟨_, _, _, f, _, h⟩ := h
  cases f with
  | zero => simpa [addrGo] using h
  | succ f => simpa [addrGo] using h
theorem addr_step {xs : List Int} (ht : isTree xs = true) {v a : Nat} {pre R : List Int} (hv : v < xs.length) (h : AddrAt xs v a pre R) (hn : a ≠ v) : AddrAt xs v (next xs a v) (pre ++ [(place xs a v : Int)]) R := by
  obtain ⟨h1, h2, h3, f, hf, h⟩ := h
  obtain ⟨k1, k2, k3⟩ := next_ok ht (a := a) (v := v) (by omega) h2 hv
  cases f with
  | zero => omega
  | succ f =>
    rw [addrGo, if_neg hn] at h
    exact ⟨k2, k3, by simp; omega, f, by omega, by rw [List.append_assoc]; exact h⟩
end Go.Proofs.Ytdgcjkgbglofbaa.M

/- Postorder: the mathematics, and appendPostorder (a call of itself in the body of a range over a function). -/
namespace Go.Proofs.Ytdgcjkgbglofbaa
open Go.RowKit Go.Shelf Go.Maps
attribute [local go_sem] Oper.semAt_some

namespace M
/-- the nodes of v's subtree in postorder, f levels deep at most -/
def postGo (xs : List Int) : Nat → Nat → List Int
  | 0, _ => []
  | f + 1, v => ((List.range (deg xs v)).flatMap fun i => postGo xs f (kidAt xs v i)) ++ [(v : Int)]
/-- those of the first k children -/
def postK (xs : List Int) (f v k : Nat) : List Int := (List.range k).flatMap fun i => postGo xs f (kidAt xs v i)
theorem postK_succ (xs : List Int) (f v k : Nat) : postK xs f v (k + 1) = postK xs f v k ++ postGo xs f (kidAt xs v k) := by simp [postK, List.range_succ]
theorem postGo_at {xs : List Int} {f v d : Nat} (h : xs[v]? = some (d : Int)) : postGo xs (f + 1) v = postK xs f v d ++ [(v : Int)] := by rw [postGo, deg_at h]; rfl
theorem postGo_len {xs : List Int} (ht : isTree xs = true) : ∀ f v, v < xs.length → 24 - v ≤ f → (postGo xs f v).length = span 1 (xs.drop v) := by
  intro f
  induction f with
  | zero => intro v hv h; have := (tree_len ht).2; omega
  | succ f ih =>
    intro v hv hf
    obtain ⟨d, hd, _⟩ := tree_degN ht hv
    have hK : ∀ k, k ≤ d → (postK xs f v k).length + (v + 1) = kidAt xs v k := by
      intro k
      induction k with
      | zero => intro _; simp [postK, kidAt]
      | succ k ihk =>
        intro hk
        have hkl := kid_lt ht hd (i := k) (by omega)
        have hkv := (kid_due ht hd k (by omega)).2.2
        rw [postK_succ, List.length_append, ih _ hkl (by omega)]
        have := ihk (by omega)
        simp only [kidAt]
        omega
    have h1 := hK d (Nat.le_refl _)
    have h2 := kid_end ht hd
    rw [postGo_at hd, List.length_append, List.length_singleton]
    omega
theorem postGo_le {xs : List Int} (ht : isTree xs = true) {f v : Nat} (hv : v < xs.length) (hf : 24 - v ≤ f) : (postGo xs f v).length ≤ 24 := by
  rw [postGo_len ht f v hv hf]
  have := span_le (xs.drop v) 1
  have := (tree_len ht).2
  simp at *
  omega
end M

/-- a child, whatever the place -/
def kidO (xs : List Int) (v d x : Nat) : Nat := M.kidAt xs v (min x (d - 1))
theorem kidO_at (xs : List Int) {v d x : Nat} (h : x < d) : kidO xs v d x = M.kidAt xs v x := by rw [kidO, show min x (d - 1) = x by omega]

theorem grown_trans {X Y Z : World} {r1 r2 : Option Nat} (h : X.grownBy Y r1) (k : Y.grownBy Z r2) (hr : ∀ g, r2 = some g → some g = r1 ∨ X.heap.size ≤ g) : X.grownBy Z r1 :=
  ⟨k.os.trans h.os, k.tape.trans h.tape, k.output.trans h.output, Nat.le_trans h.size k.size, fun j hj hne =>
    (k.block j (Nat.lt_of_lt_of_le hj h.size) (fun e => by
      rcases hr j e.symm with h1 | h1
      · exact hne h1
      · omega)).trans (h.block j hj hne)⟩
theorem row_cells {W : World} {base e size k : Nat} {v : Value} {xs : List Value} (h : W.ownsRow base e size v k xs) (j : Nat) (o : Obj) (hj : v.ownBlock = some j) (ho : W.heap[j]? = some o) : o.isCells = true := by
  rcases h.2 with ⟨rfl, _⟩ | ⟨g, cap, cur, rfl, _, hg, _⟩
  · simp [Value.ownBlock] at hj
  · obtain rfl : g = j := by simpa [Value.ownBlock] using hj
    rw [hg] at ho
    cases ho
    rfl
theorem row_kept {W W' : World} {base e size k B : Nat} {v : Value} {xs : List Value} {row : Option Nat} (h : W.ownsRow base e size v k xs) (hg : W.grownBy W' row) (hr : ∀ r, row = some r → B ≤ r ∧ ∃ o : Obj, W.heap[r]? = some o ∧ o.isCells = false) : W'.ownsRow base e size v k xs := by
  refine h.kept hg ?_
  cases hv : v.ownBlock with
  | none => exact .inl rfl
  | some g =>
    refine .inr fun e' => ?_
    obtain ⟨_, o, ho, hc⟩ := hr g e'.symm
    rw [row_cells h g o hv ho] at hc
    cases hc

/-- what a call must do with a row that it takes over -/
def PostAt (A : Option Addr) (xs : List Int) (c B f v : Nat) : Prop :=
  ∀ (U : Option Addr) (n c' : Nat) (zs : List Int) (W : World), n ≤ 600 * (v + 1) → Hid (Own64 W B (.slice U n c') zs) → Hid (Ints W B A xs) → B ≤ W.heap.size →
    Calls Try.prog 175 #[.slice U n c', .slice A xs.length c, .int .i64 (v : Int)] W fun e w' => ∃ U2 c2 n2, e = .returned (.slice U2 n2 c2) ∧ Hid (Own64 w' B (.slice U2 n2 c2) (zs ++ M.postGo xs f v)) ∧
      Hid (W.grownBy w' (Value.slice U n c').ownBlock) ∧ Hid (∀ g, (Value.slice U2 n2 c2).ownBlock = some g → some g = (Value.slice U n c').ownBlock ∨ W.heap.size ≤ g)

set_option maxRecDepth 100000 in
set_option maxHeartbeats 4000000 in
theorem appendPost_step (A : Option Addr) (xs : List Int) (c B f v d : Nat) (hx : xs.length ≤ 24) (hcl : xs.length ≤ c) (hcu : c ≤ 9223372036854775807) (ht : Hid (M.isTree xs = true)) (hd : Hid (xs[v]? = some (d : Int))) (hf : 24 - v ≤ f + 1)
    (ih : Hid (∀ C, v < C → C < xs.length → PostAt A xs c B f C)) (U : Option Addr) (n c' : Nat) (zs : List Int) (w : World) (hn : n ≤ 600 * (v + 1)) (hown : Hid (Own64 w B (.slice U n c') zs)) (hI : Hid (Ints w B A xs)) (hBw : B ≤ w.heap.size) :
    CallsIn Fence.wide 5 Try.prog 175 #[.slice U n c', .slice A xs.length c, .int .i64 (v : Int)] w fun e w' => ∃ U2 c2 n2, e = .returned (.slice U2 n2 c2) ∧ Hid (Own64 w' B (.slice U2 n2 c2) (zs ++ M.postGo xs (f + 1) v)) ∧
      Hid (w.grownBy w' (Value.slice U n c').ownBlock) ∧ Hid (∀ g, (Value.slice U2 n2 c2).ownBlock = some g → some g = (Value.slice U n c').ownBlock ∨ w.heap.size ≤ g) := by
  obtain ⟨i0, hi0, hz0, hz1, hz2⟩ := info_parts info64
  have hd24 : d ≤ 24 := by have := (M.tree_deg ht.out hd.out).2; omega
  have hv : v < xs.length := (List.getElem?_eq_some_iff.1 hd.out).1
  obtain ⟨row, hrow⟩ : ∃ row, (Value.slice U n c').ownBlock = row := ⟨_, rfl⟩
  rw [hrow]
  refine callsIn_of_wp_marks Try.func175 rfl trivial ?_ rfl
  simp only [Try.ntmps175, List.size_toArray, List.length_cons, List.length_nil, Nat.reduceAdd, Nat.reduceSub, Array.replicate_succ, Array.replicate_zero, List.push_toArray, List.append_toArray, List.nil_append, List.cons_append]
  gi_wp2_with (refine ⟨trivial, ?_⟩; gi_at_call 275; refine (eachIn 4 A xs.length c v _).mono ?_; rintro e w' ⟨rfl, rfl⟩)
  have bO0 := Boxed.new w 24 (.slice U n c')
  have bG0 := Boxed.new (w.alloc (.cells #[.slice U n c'] 24)) 24 (.slice A xs.length c)
  have bD0 := Boxed.new ((w.alloc (.cells #[.slice U n c'] 24)).alloc (.cells #[.slice A xs.length c] 24)) 24 (.slice A xs.length c)
  have bA0 := Boxed.new (((w.alloc (.cells #[.slice U n c'] 24)).alloc (.cells #[.slice A xs.length c] 24)).alloc (.cells #[.slice A xs.length c] 24)) 2 (.int .i64 (v : Int))
  simp only [World.size_alloc] at bG0 bD0 bA0
  have bO := ((bO0.alloc (.cells #[.slice A xs.length c] 24)).alloc (.cells #[.slice A xs.length c] 24)).alloc (.cells #[.int .i64 (v : Int)] 2)
  have bG := (bG0.alloc (.cells #[.slice A xs.length c] 24)).alloc (.cells #[.int .i64 (v : Int)] 2)
  have bD := bD0.alloc (.cells #[.int .i64 (v : Int)] 2)
  have hg0 : w.grownBy ((((w.alloc (.cells #[.slice U n c'] 24)).alloc (.cells #[.slice A xs.length c] 24)).alloc (.cells #[.slice A xs.length c] 24)).alloc (.cells #[.int .i64 (v : Int)] 2)) row :=
    (((World.grownBy_alloc w _ _).trans (World.grownBy_alloc _ _ _)).trans (World.grownBy_alloc _ _ _)).trans (World.grownBy_alloc _ _ _)
  have hr0 : Own64 ((((w.alloc (.cells #[.slice U n c'] 24)).alloc (.cells #[.slice A xs.length c] 24)).alloc (.cells #[.slice A xs.length c] 24)).alloc (.cells #[.int .i64 (v : Int)] 2)) B (.slice U n c') zs :=
    (((hown.out.alloc _).alloc _).alloc _).alloc _
  obtain ⟨W0, hW0⟩ : ∃ W0, W0 = ((((w.alloc (.cells #[.slice U n c'] 24)).alloc (.cells #[.slice A xs.length c] 24)).alloc (.cells #[.slice A xs.length c] 24)).alloc (.cells #[.int .i64 (v : Int)] 2)) := ⟨_, rfl⟩
  have hsz : W0.heap.size = w.heap.size + 1 + 1 + 1 + 1 := by rw [hW0]; simp
  rw [← hW0] at bO bG bD bA0 hg0 hr0 ⊢
  clear hW0 bO0 bG0 bD0
  have hrowB : Hid (∀ k, row = some k → B ≤ k ∧ k < w.heap.size) := fun k e => World.ownsRow.lt hown.out k (hrow.trans e)
  have hnz : Hid (n = zs.length) := own64_len hown.out
  have hb0 : Below B w W0 := (Below.refl B w).grown hg0 hBw (fun k e => (hrowB.out k e).1)
  have hKb := KeepK.b (n₀ := B) (Bd := w.heap.size + 1 + 1) (w := W0) (by omega) (by omega)
  have h15 : 1 ≤ 5 := by omega
  refine wpIn_rangeFunc_ownG (α := Nat) rfl h15 (gf := 332) (lb := #[.pointer (some ⟨w.heap.size + 1 + 1 + 1, 0, none⟩), .pointer (some ⟨w.heap.size + 1 + 1, 0, none⟩)]) rfl trivial (enters_of Try.func332 (by kernel_rfl) rfl)
    (each_stopsF (fun i => i) (fun x => #[.int .i64 (x : Int), .int .i64 (kidO xs v d x : Int)]) 4 (by omega) (w.heap.size + 1 + 1 + 1) (w.heap.size + 1 + 1) B A xs c v d hx hcl (by omega) ht hd (fun k hk => by rw [kidO_at xs hk]) W0 bA0.cell bD (hI.out.below hb0 (Nat.le_refl _)) (by omega)) (fun h k => h.t k) hKb (Below.refl _ _) (fun _ => rfl)
    (fun pre W => (∃ (u : Value) (ys : List Int), Boxed W w.heap.size 24 u ∧ Own64 W B u ys ∧ (pre = List.range pre.length → pre.length ≤ d → ys = zs ++ M.postK xs f v pre.length) ∧ ys.length ≤ n + 24 * pre.length ∧ ∀ g, u.ownBlock = some g → some g = row ∨ w.heap.size ≤ g) ∧
      Boxed W (w.heap.size + 1) 24 (.slice A xs.length c) ∧ Boxed W (w.heap.size + 1 + 1) 24 (.slice A xs.length c) ∧ w.grownBy W row)
    (fun _ _ _ => False)
    (fun pre X Y r' ⟨⟨u, ys, h1, h2, h3, h4, h5⟩, h6, h7, h8⟩ hg hr =>
      ⟨⟨u, ys, h1.kept hg (fun e => by have := (hr _ e.symm).1; omega), row_kept h2 hg hr, h3, h4, h5⟩, h6.kept hg (fun e => by have := (hr _ e.symm).1; omega), h7.kept hg (fun e => by have := (hr _ e.symm).1; omega), grown_trans h8 hg (fun g e => .inr (by have := (hr g e).1; omega))⟩)
    (fun _ _ _ _ _ hs _ _ => hs)
    ⟨⟨_, zs, bO, hr0, fun _ _ => by simp [M.postK], by simp [hnz.out], fun g e => .inl (by rw [← hrow]; exact e.symm)⟩, bG, bD, hg0⟩
    (fun x => { tmps := #[.slice U n c', .slice A xs.length c, .int .i64 (v : Int), .pointer (some ⟨w.heap.size, 0, none⟩), .pointer (some ⟨w.heap.size + 1, 0, none⟩), undef, .slice none 0 0, undef, .int .i64 (kidO xs v d x : Int), .slice A xs.length c, .int .i64 (v : Int), .func (.func 332) #[] #[.pointer (some ⟨w.heap.size + 1 + 1 + 1, 0, none⟩), .pointer (some ⟨w.heap.size + 1 + 1, 0, none⟩)], .int .i64 (x : Int), .int .i64 (kidO xs v d x : Int), undef, undef, undef, undef, undef, undef, undef, undef], defers := [] }) ?assign ?body ?done ?stop
  case assign =>
    intro l x W K hK
    gi_wp2
    exact hK
  case body =>
    rintro l pre x W ⟨⟨u, ys, h1, h2, h3, h4, h5⟩, h6, h7, h8⟩ hlt
    obtain ⟨U1, c1, hu⟩ := own_shape h2
    have hmin : min x (d - 1) < d := by omega
    have hCl : kidO xs v d x < xs.length := M.kid_lt ht.out hd.out (i := min x (d - 1)) (by omega)
    have hCv : v < kidO xs v d x := (M.kid_due ht.out hd.out (min x (d - 1)) (by omega)).2.2
    have hWsz := h8.size
    have hbW : Below B w W := (Below.refl B w).grown h8 hBw (fun k e => (hrowB.out k e).1)
    have hCall := Lib.hid (ih.out _ hCv hCl U1 ys.length c1 ys W (by omega) (hu ▸ h2) (hI.out.below hbW (Nat.le_refl _)) (by omega))
    have hlenC := M.postGo_le ht.out (f := f) hCl (by omega)
    have hkey : Hid (pre ++ [x] = List.range (pre ++ [x]).length → (pre ++ [x]).length ≤ d → ys ++ M.postGo xs f (kidO xs v d x) = zs ++ M.postK xs f v (pre ++ [x]).length) := fun e hd' => by
      simp only [List.length_append, List.length_cons, List.length_nil, Nat.zero_add] at e hd' ⊢
      rw [List.range_succ] at e
      obtain ⟨e1, e2⟩ := List.append_inj' e rfl
      injection e2 with e2
      rw [h3 e1 (by omega), M.postK_succ, List.append_assoc, ← kidO_at xs (by omega), ← e2]
    subst hu
    have c1' := h1.cell
    have c2' := h6.cell
    generalize kidO xs v d x = C at *
    gi_wp2_with (refine ⟨trivial, ?_⟩; gi_at_call 175; refine (CallsIn.inRound l (callsIn_wide.2 hCall.out)).mono ?_; rintro e W1 ⟨U2, c2, n2, rfl, ho2, hg2, hfr⟩; have hv1 := h1.kept hg2.out (h1.not_row (by decide) h2); have cv1 := hv1.cell; have fv1 := hv1.frozen)
    have hKO : KeepsOthers W (W1.setCell ⟨w.heap.size, 0, none⟩ (.slice U2 n2 c2)) := (KeepsOthers.of_grownBy hg2.out (fun j o ej hj => row_cells h2 j o ej hj)).trans (KeepsOthers.setCell _ _ _)
    have k6 : Boxed (W1.setCell ⟨w.heap.size, 0, none⟩ (.slice U2 n2 c2)) (w.heap.size + 1) 24 (.slice A xs.length c) := (h6.kept hg2.out (h6.not_row (by decide) h2)).other (by omega) _
    have k7 : Boxed (W1.setCell ⟨w.heap.size, 0, none⟩ (.slice U2 n2 c2)) (w.heap.size + 1 + 1) 24 (.slice A xs.length c) := (h7.kept hg2.out (h7.not_row (by decide) h2)).other (by omega) _
    have kB : Below B W (W1.setCell ⟨w.heap.size, 0, none⟩ (.slice U2 n2 c2)) := below_setCell ((Below.refl B W).grown hg2.out (by omega) (fun k e => (World.ownsRow.lt h2 k e).1)) hBw _
    have kO : Own64 (W1.setCell ⟨w.heap.size, 0, none⟩ (.slice U2 n2 c2)) B (.slice U2 n2 c2) (ys ++ M.postGo xs f C) := ho2.out.kept (grownBy_setCell' W1 w.heap.size _) (.inr (hv1.not_row (by decide) ho2.out).symm)
    have kG : w.grownBy (W1.setCell ⟨w.heap.size, 0, none⟩ (.slice U2 n2 c2)) row := grown_trans (grown_trans h8 hg2.out h5) (grownBy_setCell' W1 w.heap.size _) (fun g e => .inr (by injection e with e; omega))
    refine ⟨hKO.from _, ⟨kB, k7.trans (show W.heap[_]? = _ from h7).symm⟩, ⟨_, _, hv1.set _, kO, hkey.out, ?_, fun g e => ?_⟩, k6, k7, kG⟩
    · simp only [List.length_append, List.length_cons, List.length_nil]
      omega
    · rcases hfr.out g e with e1 | e1
      · exact h5 g e1.symm
      · exact .inr (by omega)
  case done =>
    rintro D ys0 W hD rfl ⟨⟨u, ys, h1, h2, h3, h4, h5⟩, h6, h7, h8⟩ hK
    have hys := h3 (by simp) (by simp)
    simp only [List.length_range, List.map_id'] at hys h4
    have hpo : Hid (zs ++ M.postGo xs (f + 1) v = ys ++ [(v : Int)]) := by show _ = _; rw [M.postGo_at hd.out, hys, List.append_assoc]
    obtain ⟨U1, c1, hu⟩ := own_shape h2
    subst hu
    have hWsz := h8.size
    have c1' := h1.cell
    have hyl : ys.length ≤ 100000 := by omega
    have hrowc := Lib.hid (fun j o ej hj => row_cells (h2.alloc (.cells #[.int .i64 (v : Int)] 2)) j o ej hj)
    have HK := Lib.hid hK
    have H8 := Lib.hid h8
    have H5 := Lib.hid h5
    clear hys h3 h1 h6 h7 hK h8 h5
    gi_wp2_with (gi_at_builtin; refine wpListIn_append_own_at _ rfl _ _ 24 rfl B 2 i0 (.int .i64 0) 1 8 Try.underlying24 hi0 hz0 hz1 hz2 rfl (by decide) _ _ _ rfl (h2.alloc _) ⟨W.heap.size, 0, none⟩ 1 1 [.int .i64 (v : Int)] rfl rfl (cell_one_new _ _ _) (by simp [Value.oneCell']) (by unfold maxLen; omega) (by omega) (by simp; omega) ?_; intro v' w1 hown' hgrow _ hat; obtain ⟨g', cap', rfl⟩ := ownsRow_succ hown')
    have hK1 : w1.heap[D]? = some (.deferred (some [])) := (KeepsOthers.of_grownBy hgrow hrowc.out).same D _ ((Below.heap_alloc _ _ _ (Array.getElem?_eq_some_iff.1 HK.out).1).trans HK.out) rfl
    have kG : w.grownBy (w1.putObj D (.deferred none)) row := grown_trans (grown_trans (grown_trans H8.out (World.grownBy_alloc W _ none) (fun g e => by cases e)) hgrow H5.out) (grownBy_putObj' w1 D _) (fun g e => .inr (by injection e with e; omega))
    refine ⟨by simp, .inl ⟨_, _, rfl, run_takeDeferred hK1, ?_⟩⟩
    refine ⟨_, results_tmp rfl _ _ _, some ⟨g', 0, none⟩, cap', ys.length + 1, rfl, ?_, kG, fun g e => ?_⟩
    · show Own64 _ _ _ _
      rw [hpo.out]
      have := ownsRow_putObj hown' (.deferred none) hK1 rfl
      simpa [Own64] using this
    · rcases hat with e1 | e1
      · exact H5.out g (e1.symm.trans e)
      · have e2 := e.symm.trans e1
        injection e2 with e2
        refine .inr ?_
        simp at e2
        omega
  case stop =>
    rintro D cc pre W _ _ h _
    exact h.elim

theorem appendPost (A : Option Addr) (xs : List Int) (c B : Nat) (hx : xs.length ≤ 24) (hcl : xs.length ≤ c) (hcu : c ≤ 9223372036854775807) (ht : Hid (M.isTree xs = true)) : ∀ f v, v < xs.length → 24 - v ≤ f → PostAt A xs c B f v := by
  intro f
  induction f with
  | zero => intro v hv h; omega
  | succ f ih =>
    intro v hv hf U n c' zs W hn hown hI hB
    obtain ⟨d, hd, _⟩ := M.tree_degN ht.out hv
    exact (callsIn_wide (n := 5)).1 (appendPost_step A xs c B f v d hx hcl hcu ht hd hf (fun C hC hCl => ih C hCl (by omega)) U n c' zs W hn hown hI hB)
end Go.Proofs.Ytdgcjkgbglofbaa

/- nextDegrees: the next tree in a row of its own, or nil (a range over a slice from its end, with a return in it). -/
namespace Go.Proofs.Ytdgcjkgbglofbaa
open Go.RowKit Go.Shelf Go.Maps
attribute [local go_sem] Oper.semAt_some

theorem keepsOthers_be {W W' : World} (h : Below W.heap.size W W') : KeepsOthers W W' := ⟨h.size, fun k _ hk _ => (h.block k (Array.getElem?_eq_some_iff.1 hk).1).trans hk⟩
theorem keepK_turn {n₀ Bd D : Nat} (hn : n₀ ≤ D) (hB : Bd < D) (W : World) (o o' : Obj) (h : W.heap[D + 1]? = some o) : KeepK n₀ Bd W (W.putObj (D + 1) o') := by
  have hl := (Array.getElem?_eq_some_iff.1 h).1
  exact ⟨(Below.refl n₀ W).grown (grownBy_putObj' W (D + 1) o') (by omega) (fun k e => by injection e with e; omega), (grownBy_putObj' W (D + 1) o').block Bd (by omega) (fun e => by injection e with e; omega)⟩

/-- what nextDegrees hands back -/
def IsNext (w : World) (B : Nat) (xs : List Int) (e : Ending) (w' : World) : Prop :=
  match M.nextF 1 xs with
  | some ys => ∃ g c', e = .returned (.slice (some ⟨g, 0, none⟩) ys.length c') ∧ Own64 w' B (.slice (some ⟨g, 0, none⟩) ys.length c') ys ∧ Below B w w'
  | none => e = .returned (.slice none 0 0) ∧ Below B w w'

set_option maxRecDepth 100000 in
set_option maxHeartbeats 8000000 in
theorem nextDegrees_in (A : Option Addr) (xs : List Int) (c : Nat) (w : World) (ht : Hid (M.isTree xs = true)) (hcl : xs.length ≤ c) (hcu : c ≤ 9223372036854775807) (hI : Hid (Ints w w.heap.size A xs)) :
    CallsIn Fence.wide 5 Try.prog 287 #[.slice A xs.length c] w fun e w' => IsNext w w.heap.size xs e w' := by
  obtain ⟨i0, hi0, hz0, hz1, hz2⟩ := info_parts info64
  have hx := (M.tree_len ht.out).2
  have hx1 := (M.tree_len ht.out).1
  obtain ⟨b, off, rfl, _⟩ := hI.out (by omega)
  refine callsIn_of_wp_marks Try.func287 rfl trivial ?_ rfl
  simp only [Try.ntmps287, List.size_toArray, List.length_cons, List.length_nil, Nat.reduceAdd, Nat.reduceSub, Array.replicate_succ, Array.replicate_zero, List.push_toArray, List.append_toArray, List.nil_append, List.cons_append]
  gi_wp2_with (refine ⟨trivial, ?_⟩; gi_at_call 279; refine (backIn 4 (some ⟨b, off, none⟩) xs.length c _).mono ?_; rintro e w' ⟨rfl, rfl⟩)
  have bG0 := Boxed.new w 24 (.slice (some ⟨b, off, none⟩) xs.length c)
  have bR0 := Boxed.new (w.alloc (.cells #[.slice (some ⟨b, off, none⟩) xs.length c] 24)) 24 (.slice none 0 0)
  have bM0 := Boxed.new ((w.alloc (.cells #[.slice (some ⟨b, off, none⟩) xs.length c] 24)).alloc (.cells #[.slice none 0 0] 24)) 2 (.int .i64 0)
  have bD0 := Boxed.new (((w.alloc (.cells #[.slice (some ⟨b, off, none⟩) xs.length c] 24)).alloc (.cells #[.slice none 0 0] 24)).alloc (.cells #[.int .i64 0] 2)) 24 (.slice (some ⟨b, off, none⟩) xs.length c)
  simp only [World.size_alloc] at bR0 bM0 bD0
  have bG := ((bG0.alloc (.cells #[.slice none 0 0] 24)).alloc (.cells #[.int .i64 0] 2)).alloc (.cells #[.slice (some ⟨b, off, none⟩) xs.length c] 24)
  have bR := (bR0.alloc (.cells #[.int .i64 0] 2)).alloc (.cells #[.slice (some ⟨b, off, none⟩) xs.length c] 24)
  have bM := bM0.alloc (.cells #[.slice (some ⟨b, off, none⟩) xs.length c] 24)
  have hB0 := bal (bal (bal (bal (b0 w) (.cells #[.slice (some ⟨b, off, none⟩) xs.length c] 24)) (.cells #[.slice none 0 0] 24)) (.cells #[.int .i64 0] 2)) (.cells #[.slice (some ⟨b, off, none⟩) xs.length c] 24)
  obtain ⟨W0, hW0⟩ : ∃ W0, W0 = ((((w.alloc (.cells #[.slice (some ⟨b, off, none⟩) xs.length c] 24)).alloc (.cells #[.slice none 0 0] 24)).alloc (.cells #[.int .i64 0] 2)).alloc (.cells #[.slice (some ⟨b, off, none⟩) xs.length c] 24)) := ⟨_, rfl⟩
  have hsz : W0.heap.size = w.heap.size + 1 + 1 + 1 + 1 := by rw [hW0]; simp
  rw [← hW0] at bG bR bM bD0 hB0 ⊢
  clear hW0 bG0 bR0 bM0
  have h15 : 1 ≤ 5 := by omega
  have hend := M.next_end (xs := xs)
  have hdue := M.due_end_N ht.out
  refine wpIn_rangeRows rfl h15 (gf := 333) (lb := #[.pointer (some ⟨w.heap.size + 1 + 1 + 1, 0, none⟩)]) rfl trivial (enters_of Try.func333 (by kernel_rfl) rfl)
    (back_rows (fun k => #[.int .i64 ((xs.length - 1 - k : Nat) : Int), .int .i64 (xs[xs.length - 1 - k]?.getD 0)]) 4 (by omega) (w.heap.size + 1 + 1 + 1) w.heap.size (some ⟨b, off, none⟩) xs c (by omega) (fun k v x hk hv => by rw [show xs.length - 1 - k = v by omega, hv]; rfl) W0 bD0 (hI.out.below hB0 (Nat.le_refl _)) (by omega)) (Below.refl _ _) (fun h k => h.t k)
    (fun W r r' h => by rw [hsz] at h ⊢; exact keepK_turn (by omega) (by omega) W (.loop r) (.loop r') h) (fun _ => rfl)
    (fun pre W => (∃ m : Nat, Boxed W (w.heap.size + 1 + 1) 2 (.int .i64 (m : Int)) ∧ (pre = List.range pre.length → pre.length ≤ xs.length → m = M.dueN xs (xs.length - pre.length) ∧ M.nextF (M.dueN xs (xs.length - pre.length)) (xs.drop (xs.length - pre.length)) = none)) ∧
      Boxed W w.heap.size 24 (.slice (some ⟨b, off, none⟩) xs.length c) ∧ Boxed W (w.heap.size + 1) 24 (.slice none 0 0) ∧ Boxed W (w.heap.size + 1 + 1 + 1) 24 (.slice (some ⟨b, off, none⟩) xs.length c) ∧ Below w.heap.size w W)
    (fun cc _ W => cc = .ret ∧ ∃ ys g c', M.nextF 1 xs = some ys ∧ Boxed W (w.heap.size + 1) 24 (.slice (some ⟨g, 0, none⟩) ys.length c') ∧ Own64 W (w.heap.size + 1 + 1) (.slice (some ⟨g, 0, none⟩) ys.length c') ys ∧ Below w.heap.size w W)
    (fun pre X Y r' ⟨⟨m, h1, h2⟩, h3, h4, h5, h6⟩ hg hr =>
      ⟨⟨m, h1.kept hg (fun e => by have := (hr _ e.symm).1; omega), h2⟩, h3.kept hg (fun e => by have := (hr _ e.symm).1; omega), h4.kept hg (fun e => by have := (hr _ e.symm).1; omega), h5.kept hg (fun e => by have := (hr _ e.symm).1; omega), h6.grown hg h6.size (fun k e => by have := (hr _ e).1; omega)⟩)
    (fun cc pre X Y r' ⟨h1, ys, g, c', h2, h3, h4, h5⟩ hg hr => ⟨h1, ys, g, c', h2, h3.kept hg (fun e => by have := (hr _ e.symm).1; omega), row_kept h4 hg hr, h5.grown hg h5.size (fun k e => by have := (hr _ e).1; omega)⟩)
    (fun _ _ _ _ h _ _ => h)
    ⟨⟨0, bM, fun _ _ => ⟨by simp [hdue], by simpa using hend⟩⟩, bG, bR, bD0, hB0⟩
    (fun x => { tmps := #[.slice (some ⟨b, off, none⟩) xs.length c, .pointer (some ⟨w.heap.size, 0, none⟩), .pointer (some ⟨w.heap.size + 1, 0, none⟩), .pointer (some ⟨w.heap.size + 1 + 1, 0, none⟩), .int .i64 ((xs.length - 1 - x : Nat) : Int), .int .i64 (xs[xs.length - 1 - x]?.getD 0), undef, undef, .slice (some ⟨b, off, none⟩) xs.length c, .func (.func 333) #[] #[.pointer (some ⟨w.heap.size + 1 + 1 + 1, 0, none⟩)], .int .i64 ((xs.length - 1 - x : Nat) : Int), .int .i64 (xs[xs.length - 1 - x]?.getD 0), undef, undef, undef, undef, undef, undef, undef, undef, undef, undef, undef, undef, undef, undef, undef, undef, undef, undef, undef, undef, undef, undef, undef, undef, undef], defers := [] }) ?assign ?body ?done ?stop
  case assign =>
    intro l x W K hK
    gi_wp2
    exact hK
  case body =>
    rintro l pre x W ⟨⟨m, h1, h2⟩, h3, h4, h5, h6⟩ ⟨hpre, hlt⟩
    subst hpre
    obtain ⟨hm, hnone⟩ := h2 (by simp) (by simp; omega)
    rw [List.length_range] at hm hnone
    obtain ⟨v, hv⟩ : ∃ v, v + 1 + x = xs.length := ⟨xs.length - 1 - x, by omega⟩
    obtain ⟨d, hd, hd24⟩ := M.tree_degN ht.out (v := v) (by omega)
    rw [show xs.length - x = v + 1 by omega] at hm hnone
    have hmle := M.due_left ht.out (v := v + 1)
    have hdv := M.dueN_succ ht.out hd
    have hdp := M.dueN_pos ht.out (v := v) (by omega)
    rw [show xs.length - 1 - x = v by omega, hd, Option.getD_some]
    have hWsz := h6.size
    have hleft : (xs.length : Int) - 1 - (v : Int) = (x : Int) := by omega
    have c1 := h1.cell
    have c3 := h3.cell
    by_cases hmx : m < x
    · have hmx2 : (m : Int) < (x : Int) := by omega
      have hhit := M.next_hit ht.out hd hnone (by omega)
      rw [show xs.length - 1 - v = x by omega, ← hm] at hhit
      have Hhit := Lib.hid hhit
      have hvc : (v : Int) ≤ (c : Int) := by omega
      have hv0 : (0 : Int) ≤ (v : Int) := by omega
      obtain ⟨T, hT⟩ : ∃ T, Hid (xs.take v = T) := ⟨_, rfl⟩
      have hTl : Hid (T.length = v) := by show _ = _; rw [← hT.out, List.length_take]; omega
      have hIT : Hid (Ints W W.heap.size (some ⟨b, off, none⟩) T) := by
        have := ints_sub ((hI.out.below h6 (Nat.le_refl _)).more hWsz) 0 v
        rw [← hT.out]
        simpa [Hid] using this
      have HCl := Lib.hid (clone ⟨b, off, none⟩ T v c W hTl (by omega) hIT)
      have HAF : Hid (∀ (A : Option Addr) (n c' : Nat) (zs : List Int) (W' : World), n ≤ 1000 → Hid (Own64 W' W.heap.size (.slice A n c') zs) → W.heap.size ≤ W'.heap.size → Calls Try.prog 218 #[.slice A n c', .int .i64 (x : Int), .int .i64 ((m : Int) + 1)] W' fun e w' => ∃ A' c'', e = .returned (.slice A' (n + x) c'') ∧ Own64 w' W.heap.size (.slice A' (n + x) c'') (zs ++ M.firstL x (m + 1)) ∧ Below W.heap.size W' w') := fun A n c' zs W' hn ho hB => by
        have := appendFirst A n c' zs x (m + 1) W' W.heap.size (by omega) (by omega) (by omega) (by omega) hn ho hB
        rw [show ((m + 1 : Nat) : Int) = (m : Int) + 1 by omega] at this
        exact this
      clear hhit hmle hdv hdp hnone h2 hm hIT
      gi_wp2_with (first | (refine ⟨trivial, ?_⟩; gi_at_call 194; refine (CallsIn.inRound l (callsIn_wide.2 HCl.out)).mono ?_; rintro e W1 ⟨A1, c1', rfl, ho1, hb1⟩; have zb1 := hb1.size; have hT1 := hTl.out) | (gi_at_builtin; refine wpListIn_append_own _ rfl _ _ 24 rfl W.heap.size 2 i0 (.int .i64 0) 1 8 Try.underlying24 hi0 hz0 hz1 hz2 rfl (by decide) _ _ _ rfl (ho1.alloc _) ⟨W1.heap.size, 0, none⟩ 1 1 [.int .i64 ((d : Int) + 1)] rfl rfl (cell_one_new _ _ _) (by simp [Value.oneCell']) (by unfold maxLen; omega) (by omega) (by simp; omega) ?_; intro v' W2 hown2 hg2 _; obtain ⟨g2, c2, rfl⟩ := ownsRow_succ hown2; have hb2 : Hid (Below W.heap.size W W2) := (hb1.alloc zb1 _).grown hg2 (by simp; omega) (fun k e => (World.ownsRow.lt ho1 k e).1); have zb2 := hb2.out.size; have cM2 := (show Boxed W2 (w.heap.size + 1 + 1) 2 (.int .i64 (m : Int)) from (hb2.out.block _ h1.lt).trans h1).cell; have ho2 : Hid (Own64 W2 W.heap.size (.slice (some ⟨g2, 0, none⟩) (v + 1) c2) (T ++ [(d : Int) + 1])) := (by show Own64 _ _ _ _; unfold Own64; rw [List.length_append, List.map_append, hTl.out]; rw [hTl.out] at hown2; exact hown2)) | (refine ⟨trivial, ?_⟩; gi_at_call 218; refine (CallsIn.inRound l (callsIn_wide.2 (HAF.out _ _ _ _ _ (by omega) ho2 zb2))).mono ?_; rintro e W3 ⟨A3, c3, rfl, ho3, hb3⟩; have hb4 : Hid (Below W.heap.size W W3) := hb2.out.trans hb3; have bR3 : Hid (Boxed W3 (w.heap.size + 1) 24 (.slice none 0 0)) := (hb4.out.block _ h4.lt).trans h4; have cR3 := bR3.out.cell; have fR3 := bR3.out.frozen))
      have hys : Hid ((T ++ [(d : Int) + 1] ++ M.firstL x (m + 1)).length = xs.length) := by show _ = _; rw [List.length_append, List.length_append, hTl.out, M.firstL_len]; exact hv
      have z1 := h1.lt
      rw [hv] at ho3
      obtain ⟨g3, rfl⟩ : ∃ g, A3 = some ⟨g, 0, none⟩ := by
        rcases ho3.2 with ⟨h0, _⟩ | ⟨g, cap, cur, hvv, _⟩
        · injection h0 with _ e _; omega
        · injection hvv with e1; exact ⟨g, e1⟩
      have hN : M.nextF 1 xs = some (T ++ [(d : Int) + 1] ++ M.firstL x (m + 1)) := by rw [← hT.out]; exact Hhit.out
      refine ⟨((keepsOthers_be hb4.out).trans (KeepsOthers.setCell _ _ _)).from _, rfl, _, g3, c3, hN, ?_, ?_, ?_⟩
      · rw [hys.out]; exact bR3.out.set _
      · rw [hys.out]; exact own_mono (own_far ho3 (by omega) _) (by omega)
      · exact h6.trans (below_setCell (hb4.out.mono hWsz) (by omega) _)
    · have hmx2 : ¬ (m : Int) < (x : Int) := by omega
      have hmiss := Lib.hid (M.next_miss ht.out hd hnone (by omega))
      obtain ⟨m', hm'⟩ : ∃ m', M.dueN xs v = m' := ⟨_, rfl⟩
      have hmm : (m : Int) + (1 - (d : Int)) = (m' : Int) := by omega
      have hm24 : (m' : Int) ≤ 24 := by have := M.due_left ht.out (v := v); omega
      have hwr : IntKind.i64.wrap (m' : Int) = (m' : Int) := IntWalk.i64_in _ (by omega)
      have f1 := h1.frozen
      have HM := Lib.hid hm'
      clear hmle hdv hdp hnone h2 hm hm'
      gi_wp2
      try rw [IntWalk.wrap64_in _ (by omega)]
      have k1 : Below w.heap.size W (W.setCell ⟨w.heap.size + 1 + 1, 0, none⟩ (.int .i64 (m' : Int))) := below_setCell (Below.refl _ _) (by omega) _
      have k5 : Boxed (W.setCell ⟨w.heap.size + 1 + 1, 0, none⟩ (.int .i64 (m' : Int))) (w.heap.size + 1 + 1 + 1) 24 (.slice (some ⟨b, off, none⟩) xs.length c) := h5.other (by omega) _
      refine ⟨(KeepsOthers.setCell W _ _).from _, ⟨k1, k5.trans (show W.heap[_]? = _ from h5).symm⟩, ⟨m', h1.set _, fun _ _ => ?_⟩, h3.other (by omega) _, h4.other (by omega) _, k5, h6.trans k1⟩
      rw [List.length_append, List.length_range, List.length_singleton, show xs.length - (x + 1) = v by omega]
      exact ⟨HM.out.symm, hmiss.out⟩
  case done =>
    rintro D ys W hD rfl ⟨⟨m, h1, h2⟩, h3, h4, h5, h6⟩ hK
    have hn : Hid (M.nextF 1 xs = none) := by
      have := (h2 (by simp) (by simp)).2
      simp only [List.length_range, Nat.sub_self, List.drop_zero] at this
      rw [M.dueN_zero] at this
      exact this
    have c1 := h4.cell
    have f1 := h4.frozen
    have HK := Lib.hid hK
    have H6 := Lib.hid h6
    have H4 := Lib.hid h4
    clear h1 h2 h3 h4 h5 h6 hK
    gi_wp2
    have hne : D ≠ w.heap.size + 1 := by omega
    have hKD : (W.setCell ⟨w.heap.size + 1, 0, none⟩ (.slice none 0 0)).heap[D]? = some (.deferred (some [])) := (Below.heap_setCell W ⟨w.heap.size + 1, 0, none⟩ (.slice none 0 0) D hne).trans HK.out
    have hR := ((H4.out.set (.slice none 0 0)).kept (grownBy_putObj' _ D (.deferred none)) (fun e => by injection e with e; omega)).cell
    refine ⟨by simp, .inl ⟨_, _, rfl, run_takeDeferred hKD, ?_⟩⟩
    refine ⟨.slice none 0 0, by simp [results, Try.results287, go_sem, hR], ?_⟩
    unfold IsNext
    rw [hn.out]
    exact ⟨rfl, (below_setCell H6.out (by omega) _).trans (belowK_b (w := w) (Nat.le_refl _) _ D _ _ (by omega) hKD rfl rfl)⟩
  case stop =>
    rintro D cc pre W hD _ ⟨rfl, ys, g, c', h2, h3, h4, h5⟩ hK
    have c1 := h3.cell
    gi_wp2
    have hR := (h3.kept (grownBy_putObj' W D (.deferred none)) (fun e => by injection e with e; omega)).cell
    refine ⟨by simp, .inl ⟨_, _, rfl, run_takeDeferred hK, ?_⟩⟩
    refine ⟨.slice (some ⟨g, 0, none⟩) ys.length c', by simp [results, Try.results287, go_sem, hR], ?_⟩
    unfold IsNext
    rw [h2]
    exact ⟨g, c', rfl, own_mono (ownsRow_putObj h4 _ hK rfl) (by omega), h5.trans (belowK_b (w := w) (Nat.le_refl _) W D _ _ (by omega) hK rfl rfl)⟩

theorem nextDegrees (A : Option Addr) (xs : List Int) (c : Nat) (w : World) (ht : Hid (M.isTree xs = true)) (hcl : xs.length ≤ c) (hcu : c ≤ 9223372036854775807) (hI : Hid (Ints w w.heap.size A xs)) :
    Calls Try.prog 287 #[.slice A xs.length c] w fun e w' => IsNext w w.heap.size xs e w' :=
  (callsIn_wide (n := 5)).1 (nextDegrees_in A xs c w ht hcl hcu hI)
end Go.Proofs.Ytdgcjkgbglofbaa

/- treesBehind: the iterator over the trees behind one; each comes in a row of its own. -/
namespace Go.Proofs.Ytdgcjkgbglofbaa
open Go.RowKit Go.Shelf Go.Maps
attribute [local go_sem] Oper.semAt_some

namespace M
/-- the k-th tree behind xs -/
def tafter (xs : List Int) : Nat → Option (List Int)
  | 0 => nextF 1 xs
  | k + 1 => (tafter xs k).bind (nextF 1)
theorem tafter_ok {xs : List Int} (ht : isTree xs = true) : ∀ (k : Nat) (ys : List Int), tafter xs k = some ys → isTree ys = true ∧ ys.length = xs.length ∧ rk 1 ys = rk 1 xs + k + 1 := by
  intro k
  induction k with
  | zero =>
    intro ys h
    have h1 := next_tree ht h
    have h2 := next_rk xs 1 (tree_len ht).2 (tree_go ht)
    rw [show nextF 1 xs = some ys from h] at h2
    exact ⟨h1.1, h1.2, h2.2.2⟩
  | succ k ih =>
    intro ys h
    simp only [tafter] at h
    cases hz : tafter xs k with
    | none => rw [hz] at h; cases h
    | some zs =>
      rw [hz] at h
      obtain ⟨i1, i2, i3⟩ := ih zs hz
      have h0 : nextF 1 zs = some ys := h
      have h1 := next_tree i1 h0
      have h2 := next_rk zs 1 (tree_len i1).2 (tree_go i1)
      rw [h0] at h2
      exact ⟨h1.1, h1.2.trans i2, by rw [h2.2.2, i3]; omega⟩
theorem tafter_lt {xs ys : List Int} (ht : isTree xs = true) {k : Nat} (h : tafter xs k = some ys) : rk 1 xs + k + 1 < L xs.length 1 := by
  obtain ⟨h1, h2, h3⟩ := tafter_ok ht k ys h
  have := rk_lt ys 1 (tree_go h1)
  rw [h2, h3] at this
  exact this
theorem tafter_succ {xs ys : List Int} {k : Nat} (h : tafter xs k = some ys) : tafter xs (k + 1) = nextF 1 ys := by simp [tafter, h]
end M

/-- what a round of a loop over the trees behind one must keep: the rows of numbers -/
def KeepRows (W W' : World) : Prop := W.heap.size ≤ W'.heap.size ∧ ∀ (j : Nat) (cur : Array Value), W.heap[j]? = some (.cells cur 2 (0, 0)) → W'.heap[j]? = some (.cells cur 2 (0, 0))
theorem KeepRows.t {A B C : World} (h : KeepRows A B) (k : KeepRows B C) : KeepRows A C := ⟨Nat.le_trans h.1 k.1, fun j cur e => k.2 j cur (h.2 j cur e)⟩
theorem KeepRows.own {W W' : World} (h : KeepRows W W') {B : Nat} {v : Value} {zs : List Int} (ho : Own64 W B v zs) : Own64 W' B v zs := by
  refine ⟨ho.1, ?_⟩
  rcases ho.2 with h1 | ⟨g, cap, cur, h1, h2, h3, h4⟩
  · exact .inl h1
  · exact .inr ⟨g, cap, cur, h1, h2, h.2 g cur h3, h4⟩

theorem keepRows_turn {W : World} {l : Nat} {r r' : Loop} (h : W.heap[l]? = some (.loop r)) : KeepRows W (W.putObj l (.loop r')) :=
  ⟨(grownBy_putObj' W l _).size, fun j cur hj => ((grownBy_putObj' W l _).block j (Array.getElem?_eq_some_iff.1 hj).1 (fun e => by
    injection e with e
    subst e
    rw [hj] at h
    cases h)).trans hj⟩

/-- the numbers of a row in memory -/
def rowOf (W : World) : Value → List Int
  | .slice (some a) m _ => (List.range m).map fun j => match W.cell? ⟨a.block, j, none⟩ with
    | some v => intOf v
    | none => 0
  | _ => []
theorem rowOf_own {W : World} {B g n c : Nat} {zs : List Int} (h : Own64 W B (.slice (some ⟨g, 0, none⟩) n c) zs) : rowOf W (.slice (some ⟨g, 0, none⟩) n c) = zs := by
  have hn := own64_len h
  subst hn
  apply List.ext_getElem?
  intro j
  simp only [rowOf, List.getElem?_map]
  by_cases hj : j < zs.length
  · have hz : zs[j]? = some zs[j] := List.getElem?_eq_getElem hj
    obtain ⟨h1, _⟩ := own64_cell h rfl hz
    rw [List.getElem?_range hj, hz]
    simp only [Option.map_some, h1, intOf]
  · rw [List.getElem?_eq_none (by simp; omega), List.getElem?_eq_none (by omega)]
    rfl
/-- how many trees are still to come, for the loop's end -/
def leftOf (n : Nat) (W : World) (q : Value) : Nat := match q with
  | .slice (some _) _ _ => M.L n 1 - M.rk 1 (rowOf W q)
  | _ => 0

/-- what is told of an element -/
def RowC (xs : List Int) (B : Nat) (pre : List Value) (x : Value) (W : World) : Prop :=
  ∃ (ys : List Int) (g c' : Nat), M.tafter xs pre.length = some ys ∧ x = .slice (some ⟨g, 0, none⟩) ys.length c' ∧ c' ≤ 9223372036854775807 ∧ Own64 W B x ys ∧ ∀ y ∈ pre, y.ownBlock ≠ some g

theorem RowC.from (xs : List Int) (B D : Nat) : OwnFrom D (fun (s : List Value × Value) W => RowC xs B s.1 s.2 W) := fun _ _ _ _ ⟨ys, g, c', h1, h2, h3, h4, h5⟩ hg hr => ⟨ys, g, c', h1, h2, h3, row_kept h4 hg hr, h5⟩

/-- where the iterator stands: the tree at hand, or nothing -/
def AtTree (xs : List Int) (B : Nat) (pre : List Value) (q : Value) (W : World) : Prop :=
  match M.tafter xs pre.length with
  | some _ => RowC xs B pre q W
  | none => q = .slice none 0 0

theorem at_next {xs ys : List Int} {B : Nat} {pre : List Value} {W W' : World} {e : Ending} (hB : B ≤ W.heap.size) (h : IsNext W W.heap.size ys e W') (ha : M.tafter xs pre.length = M.nextF 1 ys) (hp : ∀ y ∈ pre, ∀ g, y.ownBlock = some g → g < W.heap.size) :
    ∃ q, e = .returned q ∧ AtTree xs B pre q W' ∧ Below W.heap.size W W' := by
  unfold IsNext at h
  cases hn : M.nextF 1 ys with
  | none =>
    rw [hn] at h
    exact ⟨_, h.1, by unfold AtTree; rw [ha, hn], h.2⟩
  | some zs =>
    rw [hn] at h
    obtain ⟨g, c', h1, h2, h3⟩ := h
    refine ⟨_, h1, ?_, h3⟩
    unfold AtTree
    rw [ha, hn]
    have hc : c' ≤ 9223372036854775807 := by
      rcases h2.2 with ⟨h0, _⟩ | ⟨g', cap, cur, hv, _, _, _, h5, _⟩
      · cases h0
      · injection hv with _ _ e3
        subst e3
        unfold maxLen at h5
        omega
    refine ⟨zs, g, c', ha.trans hn, rfl, hc, own_mono h2 hB, fun y hy e' => ?_⟩
    have h6 := hp y hy g e'
    have h7 := (World.ownsRow.lt h2 g rfl).1
    omega

theorem own_cap' {w : World} {B n c : Nat} {A : Option Addr} {zs : List Int} (h : Own64 w B (.slice A n c) zs) : n ≤ c := by
  rcases h.2 with ⟨e, _⟩ | ⟨g, cap, cur, hv, _, _, h4, _⟩
  · injection e with e1 e2 e3; omega
  · injection hv with e1 e2 e3; omega

theorem grown_of_below {W W' : World} (h : Below W.heap.size W W') : W.grownBy W' none := ⟨h.os, h.tape, h.output, h.size, fun k hk _ => h.block k hk⟩

theorem at_left {xs : List Int} {B : Nat} {pre : List Value} {x q : Value} {W W' : World} (ht : M.isTree xs = true) (h : RowC xs B pre x W) (h' : AtTree xs B (pre ++ [x]) q W') : leftOf xs.length W' q < leftOf xs.length W x := by
  obtain ⟨ys, g, c', h1, rfl, _, h4, _⟩ := h
  obtain ⟨k1, k2, k3⟩ := M.tafter_ok ht _ ys h1
  have k4 := M.tafter_lt ht h1
  have e1 : leftOf xs.length W (.slice (some ⟨g, 0, none⟩) ys.length c') = M.L xs.length 1 - M.rk 1 ys := by simp only [leftOf, rowOf_own h4]
  rw [e1]
  unfold AtTree at h'
  rw [List.length_append, List.length_singleton] at h'
  cases hn : M.tafter xs (pre.length + 1) with
  | none =>
    rw [hn] at h'
    simp only at h'
    rw [h']
    show 0 < _
    omega
  | some zs =>
    rw [hn] at h'
    obtain ⟨zs', g', c2, j1, rfl, _, j4, _⟩ := h'
    rw [List.length_append, List.length_singleton] at j1
    obtain ⟨i1, i2, i3⟩ := M.tafter_ok ht _ zs' j1
    have i4 := M.tafter_lt ht j1
    have e2 : leftOf xs.length W' (.slice (some ⟨g', 0, none⟩) zs'.length c2) = M.L xs.length 1 - M.rk 1 zs' := by simp only [leftOf, rowOf_own j4]
    rw [e2]
    omega

set_option maxRecDepth 100000 in
set_option maxHeartbeats 4000000 in
theorem behind1 (n : Nat) (hn : 1 ≤ n) (l Bd B : Nat) (A : Option Addr) (xs : List Int) (c : Nat) (ht : Hid (M.isTree xs = true)) (hcl : xs.length ≤ c) (hcu : c ≤ 9223372036854775807) (J Jx : List Value → World → Prop)
    (hJ : Hid (∀ s X Y, J s X → X.grownBy Y none → J s Y))
    (hY : Hid (∀ pre x W, J pre W → RowC xs B pre x W → YieldAt Fence.wide (n - 1) Try.prog l #[x] W fun e W' =>
      (e = .returned (.bool true) ∧ J (pre ++ [x]) W' ∧ KeepRows W W') ∨ (e = .returned (.bool false) ∧ Jx (pre ++ [x]) W')))
    (W : World) (hBd : W.cell? ⟨Bd, 0, none⟩ = some (.slice A xs.length c)) (hI : Hid (Ints W W.heap.size A xs)) (hB : B ≤ W.heap.size) (h0 : Hid (J [] W)) :
    CallsIn Fence.wide n Try.prog 286 #[.func (.yield l) #[] #[], .pointer (some ⟨Bd, 0, none⟩)] W fun e W' => (∃ u, e = .returned u) ∧
      ((∃ ys, M.tafter xs ys.length = none ∧ J ys W') ∨ (∃ pre, True ∧ Jx pre W')) := by
  have HN := Lib.hid (nextDegrees A xs c W ht hcl hcu hI)
  have heq := fun W A m c => run_neq_slice_nil (P := Try.prog) W 24 2 A m c Try.underlying24
  refine callsIn_of_wp Try.func286 rfl trivial ?_ rfl
  simp only [Try.ntmps286, List.size_toArray, List.length_cons, List.length_nil, Nat.reduceAdd, Nat.reduceSub, Array.replicate_succ, Array.replicate_zero, List.push_toArray, List.append_toArray, List.nil_append, List.cons_append]
  gi_wp2_with (refine ⟨trivial, ?_⟩; gi_at_call 287; refine (callsIn_wide.2 HN.out).mono ?_; intro e W1 hn1; obtain ⟨q1, rfl, hq1, hb1⟩ := at_next (pre := []) hB hn1 rfl (fun y hy => by cases hy))
  have hst : Hid (J [] W1) := hJ.out _ _ _ h0.out (grown_of_below hb1)
  have Hq1 := Lib.hid hq1
  have Hb1 := Lib.hid hb1
  clear hq1 hb1 h0 HN
  gi_loopw [3] (fun q wr => ∃ pre, Hid (J pre wr) ∧ Hid (AtTree xs B pre q wr) ∧ Hid (∀ y ∈ pre, ∀ g, y.ownBlock = some g → g < wr.heap.size) ∧ Hid (B ≤ wr.heap.size))
    (fun q wr => leftOf xs.length wr q)
  case atStart => exact ⟨[], hst, Hq1, Lib.hid (fun y hy => by cases hy), Lib.hid (Nat.le_trans hB Hb1.out.size)⟩
  case round =>
    obtain ⟨pre, hJp, hat, hbl, hBw⟩ := hrel
    clear hst Hq1 hn1 Hb1 hBd
    cases haf : M.tafter xs pre.length with
    | none =>
      have hq := hat.out
      unfold AtTree at hq
      rw [haf] at hq
      simp only at hq
      subst hq
      have Haf := Lib.hid haf
      clear haf hat
      gi_wp2
      go_end0
      exact ⟨⟨_, rfl⟩, .inl ⟨pre, Haf.out, hJp.out⟩⟩
    | some ys0 =>
      have hq := hat.out
      unfold AtTree at hq
      rw [haf] at hq
      simp only at hq
      have HRow := Lib.hid hq
      obtain ⟨ys, g, c', h1, rfl, hc', ho, hfr⟩ := hq
      obtain ⟨fn, tmps, assign, body, hy, hR⟩ := hY.out pre _ wr hJp.out HRow.out
      have H1 := Lib.hid h1
      have Ho := Lib.hid ho
      have hok := Lib.hid (M.tafter_ok ht.out _ ys h1)
      clear haf hat h1 ho hfr hJp
      gi_wp2
      refine hR.mono ?_
      rintro e W3 (⟨rfl, hJ3, hk3⟩ | ⟨rfl, hJx3⟩)
      · have ho3 : Hid (Own64 W3 B (.slice (some ⟨g, 0, none⟩) ys.length c') ys) := hk3.own Ho.out
        have HJ3 := Lib.hid hJ3
        have hg := (World.ownsRow.lt Ho.out g rfl).2
        have hcap : ys.length ≤ c' := own_cap' Ho.out
        have hN3 := Lib.hid (nextDegrees (some ⟨g, 0, none⟩) ys c' W3 hok.out.1 hcap hc' (ints_of_own64 ho3.out))
        have hz3 : wr.heap.size ≤ W3.heap.size := hk3.1
        have hbl3 : Hid (∀ y ∈ pre ++ [Value.slice (some ⟨g, 0, none⟩) ys.length c'], ∀ g', y.ownBlock = some g' → g' < W3.heap.size) := fun y hy g' e' => by
          rcases List.mem_append.1 hy with h | h
          · exact Nat.lt_of_lt_of_le (hbl.out y h g' e') hz3
          · rw [List.mem_singleton.1 h] at e'
            have : g = g' := by injection e'
            omega
        have hB3 : B ≤ W3.heap.size := Nat.le_trans hBw.out hz3
        have hsucc : Hid (M.tafter xs (pre ++ [Value.slice (some ⟨g, 0, none⟩) ys.length c']).length = M.nextF 1 ys) := by show _ = _; rw [List.length_append, List.length_singleton]; exact M.tafter_succ H1.out
        clear hJ3 hk3 hy ho3
        gi_wp2_with (refine ⟨trivial, ?_⟩; gi_at_call 287; refine (callsIn_wide.2 hN3.out).mono ?_; intro e W4 hn4; obtain ⟨q4, rfl, hq4, hb4⟩ := at_next hB3 hn4 hsucc.out hbl3.out)
        have HJ4 := Lib.hid (hJ.out _ _ _ HJ3.out (grown_of_below hb4))
        have Hq4 := Lib.hid hq4
        have Hb4 := Lib.hid hb4
        clear hq4 hb4 hn4 hN3
        go_roundw
        case rel => exact ⟨_, HJ4, Hq4, fun y hy g' e' => Nat.lt_of_lt_of_le (hbl3.out y hy g' e') Hb4.out.size, Nat.le_trans hB3 Hb4.out.size⟩
        case measure => exact at_left ht.out HRow.out Hq4.out
      · gi_wp2
        refine bodyPost_ret (results_none rfl _ _ _) rfl ?_
        exact ⟨⟨_, rfl⟩, .inr ⟨_, trivial, hJx3⟩⟩

set_option maxHeartbeats 1000000 in
/-- treesBehind: the argument is boxed; the function value captures the box -/
theorem behindIn (n : Nat) (A : Option Addr) (m c : Nat) (w : World) :
    CallsIn Fence.wide n Try.prog 213 #[.slice A m c] w fun e w' => e = .returned (.func (.func 286) #[] #[.pointer (some ⟨w.heap.size, 0, none⟩)]) ∧
      w' = w.alloc (.cells #[.slice A m c] 24) := by
  refine callsIn_of_wp Try.func213 rfl trivial ?_ rfl
  simp only [Try.ntmps213, List.size_toArray, List.length_cons, List.length_nil, Nat.reduceAdd, Nat.reduceSub, Array.replicate_succ, Array.replicate_zero, List.push_toArray, List.append_toArray, List.nil_append, List.cons_append]
  gi_wp2
  go_ret
  exact ⟨rfl, rfl⟩

/-- what a range over the trees behind one gives -/
theorem behind_rows (n : Nat) (hn : 1 ≤ n) (Bd B : Nat) (A : Option Addr) (xs : List Int) (c : Nat) (ht : Hid (M.isTree xs = true)) (hcl : xs.length ≤ c) (hcu : c ≤ 9223372036854775807) (w : World)
    (hBd : Boxed w Bd 24 (.slice A xs.length c)) (hI : Ints w w.heap.size A xs) (hB : B ≤ w.heap.size) :
    SeqRows Fence.wide n Try.prog 286 #[.pointer (some ⟨Bd, 0, none⟩)] (fun x => #[x]) (RowC xs B) KeepRows (fun ys => M.tafter xs ys.length = none) (fun _ => True) w := fun l J Jx W hW hJ _ hY h0 =>
  behind1 n hn l Bd B A xs c ht hcl hcu J Jx hJ hY W (show Boxed W Bd _ _ from (hW.block Bd hBd.lt).trans hBd).cell (hI.be hW) (Nat.le_trans hB hW.size) h0
end Go.Proofs.Ytdgcjkgbglofbaa

/- A box made ahead of a call holds behind it. -/
namespace Go.Proofs.Ytdgcjkgbglofbaa
open Go.RowKit

theorem boxNew {X w1 : World} {v : Value} {t : TypeId} (hb : Below (X.alloc (.cells #[v] t)).heap.size (X.alloc (.cells #[v] t)) w1) : Boxed w1 X.heap.size t v :=
  (hb.block X.heap.size (by simp)).trans (World.alloc_heap_new X _)
theorem boxNewD {X w1 : World} {v : Value} {t : TypeId} (hb : Below (X.drew.alloc (.cells #[v] t)).heap.size (X.drew.alloc (.cells #[v] t)) w1) : Boxed w1 X.heap.size t v := boxNew (X := X.drew) hb
theorem boxKeep {W w1 : World} {b : Nat} {v : Value} {t : TypeId} (h : Boxed W b t v) (hb : Below W.heap.size W w1) : Boxed w1 b t v := (hb.block b h.lt).trans h
end Go.Proofs.Ytdgcjkgbglofbaa

/- Lists of trees in memory: a slice whose elements are trees, each with a row of its own; append of one; what the laws' helpers do with them. -/
namespace Go.Proofs.Ytdgcjkgbglofbaa
open Go.RowKit

theorem infoTree : (Try.prog.info? 26).map (fun i => (i.zero, i.size, i.bytes)) = some (some (.agg #[.slice none 0 0]), 1, 24) := by kernel_rfl

/-- a row's header: its block, its length, its capacity -/
abbrev Hdr := Nat × Nat × Nat
abbrev hdr (h : Hdr) : Value := .slice (some ⟨h.1, 0, none⟩) h.2.1 h.2.2

/-- the slice v has the trees zss, with the headers hs; all lies from block B on, and no two share memory -/
structure Woods (w : World) (B : Nat) (v : Value) (hs : List Hdr) (zss : List (List Int)) : Prop where
  row : w.ownsRow B 26 1 v hs.length (hs.map hdr)
  len : hs.length = zss.length
  each : ∀ (k : Nat) (h : Hdr) (zs : List Int), hs[k]? = some h → zss[k]? = some zs → Own64 w B (hdr h) zs
  apart : ∀ (i j : Nat) (h h' : Hdr), hs[i]? = some h → hs[j]? = some h' → i ≠ j → h.1 ≠ h'.1

theorem Woods.at_ {w : World} {B : Nat} {v : Value} {hs : List Hdr} {zss : List (List Int)} (h : Woods w B v hs zss) {k : Nat} {zs : List Int} (hk : zss[k]? = some zs) : ∃ h', hs[k]? = some h' ∧ Own64 w B (hdr h') zs ∧ h'.2.1 = zs.length := by
  have hl : k < hs.length := by rw [h.len]; exact (List.getElem?_eq_some_iff.1 hk).1
  have h1 := List.getElem?_eq_getElem hl
  have h2 := h.each k _ zs h1 hk
  exact ⟨_, h1, h2, own64_len h2⟩
theorem Woods.lt {w : World} {B : Nat} {v : Value} {hs : List Hdr} {zss : List (List Int)} (h : Woods w B v hs zss) {h' : Hdr} (hh : h' ∈ hs) : B ≤ h'.1 ∧ h'.1 < w.heap.size := by
  obtain ⟨k, hk⟩ := List.getElem?_of_mem hh
  have hl : k < zss.length := by rw [← h.len]; exact (List.getElem?_eq_some_iff.1 hk).1
  exact World.ownsRow.lt (h.each k h' _ hk (List.getElem?_eq_getElem hl)) h'.1 rfl
theorem Woods.cell {w : World} {B g n c : Nat} {hs : List Hdr} {zss : List (List Int)} (h : Woods w B (.slice (some ⟨g, 0, none⟩) n c) hs zss) {k : Nat} {h' : Hdr} (hk : hs[k]? = some h') : w.cell? ⟨g, k, none⟩ = some (hdr h') := by
  have := h.row.cells (g := g) rfl k (hdr h') (by simp [hk])
  have ha : (⟨g, 0, none⟩ : Addr).add k = ⟨g, k, none⟩ := by unfold Addr.add; split <;> simp_all
  rw [ha] at this
  exact this
theorem Woods.shape {w : World} {B n c : Nat} {A : Option Addr} {hs : List Hdr} {zss : List (List Int)} (h : Woods w B (.slice A n c) hs zss) : n = zss.length ∧ (0 < n → ∃ g, A = some ⟨g, 0, none⟩) := by
  have hl := h.len
  rcases h.row.2 with ⟨e, h0⟩ | ⟨g, cap, cur, hv, _⟩
  · injection e with e1 e2 e3
    exact ⟨by omega, fun hn => by omega⟩
  · injection hv with e1 e2 e3
    exact ⟨by omega, fun _ => ⟨g, e1⟩⟩
/-- the slice's block is none of the rows': they hold other things -/
theorem Woods.off {w : World} {B : Nat} {v : Value} {hs : List Hdr} {zss : List (List Int)} (h : Woods w B v hs zss) {h' : Hdr} (hh : h' ∈ hs) : v.ownBlock ≠ some h'.1 := by
  intro e
  obtain ⟨k, hk⟩ := List.getElem?_of_mem hh
  have hl : k < zss.length := by rw [← h.len]; exact (List.getElem?_eq_some_iff.1 hk).1
  have h1 := h.each k h' _ hk (List.getElem?_eq_getElem hl)
  rcases h.row.2 with ⟨e0, _⟩ | ⟨g, cap, cur, hv, _, hg, _⟩
  · rw [e0] at e; cases e
  · rcases h1.2 with ⟨e0, _⟩ | ⟨g', cap', cur', hv', _, hg', _⟩
    · cases e0
    · injection hv' with e1
      injection e1 with e1
      injection e1 with e1
      rw [hv] at e
      have e2 : g = h'.1 := by injection e
      rw [e2, e1, hg'] at hg
      injection hg with hg
      injection hg with _ hg
      exact absurd hg (by decide)
theorem Woods.kept {w w' : World} {B : Nat} {v : Value} {hs : List Hdr} {zss : List (List Int)} {row : Option Nat} (h : Woods w B v hs zss) (hg : w.grownBy w' row) (h1 : ∀ k, row = some k → v.ownBlock ≠ some k ∧ ∀ h' ∈ hs, h'.1 ≠ k) : Woods w' B v hs zss := by
  refine ⟨h.row.kept hg ?_, h.len, fun k h' zs hk hz => (h.each k h' zs hk hz).kept hg (.inr fun e => ?_), h.apart⟩
  · cases hv : v.ownBlock with
    | none => exact .inl rfl
    | some k => exact .inr fun e => (h1 k e.symm).1 hv
  · exact (h1 h'.1 e.symm).2 h' (List.mem_of_getElem? hk) rfl
theorem Woods.be {w w' : World} {B : Nat} {v : Value} {hs : List Hdr} {zss : List (List Int)} (h : Woods w B v hs zss) (hb : Below w.heap.size w w') : Woods w' B v hs zss :=
  ⟨own_be h.row hb, h.len, fun k h' zs hk hz => own_be (h.each k h' zs hk hz) hb, h.apart⟩
theorem Woods.alloc {w : World} {B : Nat} {v : Value} {hs : List Hdr} {zss : List (List Int)} (h : Woods w B v hs zss) (o : Obj) : Woods (w.alloc o) B v hs zss := h.be (bal (b0 w) o)
theorem Woods.mono {w : World} {B B' : Nat} {v : Value} {hs : List Hdr} {zss : List (List Int)} (h : Woods w B v hs zss) (hB : B' ≤ B) : Woods w B' v hs zss :=
  ⟨own_mono h.row hB, h.len, fun k h' zs hk hz => own_mono (h.each k h' zs hk hz) hB, h.apart⟩
theorem woods_empty {w : World} {B : Nat} (hB : B ≤ w.heap.size) : Woods (w.alloc (.cells #[] 26)) B (.slice (some ⟨w.heap.size, 0, none⟩) 0 0) [] [] :=
  ⟨World.ownsRow_made (e := 26) (size := 1) w #[] 0 hB (by simp [maxLen]) (by simp), rfl, fun k h zs hk => by simp at hk, fun i j h h' hi => by simp at hi⟩
theorem woods_nil (w : World) (B : Nat) : Woods w B (.slice none 0 0) [] [] :=
  ⟨World.ownsRow_nil _ _ _ _, rfl, fun k h zs hk => by simp at hk, fun i j h h' hi => by simp at hi⟩
theorem woods_one {w : World} {B : Nat} {h : Hdr} {zs : List Int} (hB : B ≤ w.heap.size) (ho : Own64 w B (hdr h) zs) : Woods (w.alloc (.cells #[hdr h] 26)) B (.slice (some ⟨w.heap.size, 0, none⟩) 1 1) [h] [zs] := by
  refine ⟨World.ownsRow_lit (e := 26) (size := 1) w #[hdr h] 1 hB (by simp [maxLen]) (by simp), rfl, fun k h' zs' hk hz => ?_, fun i j h1 h2 hi hj hij => ?_⟩
  · have hk0 : k = 0 := by have := (List.getElem?_eq_some_iff.1 hk).1; simp at this; exact this
    subst hk0
    injection hk with hk
    injection hz with hz
    subst hk
    subst hz
    exact ho.alloc _
  · have h1 := (List.getElem?_eq_some_iff.1 hi).1
    have h2 := (List.getElem?_eq_some_iff.1 hj).1
    simp at h1 h2
    omega
/-- behind an append of one tree -/
theorem woods_pushed {w w1 : World} {B : Nat} {v v' : Value} {hs : List Hdr} {zss : List (List Int)} {h0 : Hdr} {zs : List Int} (h : Woods w B v hs zss) (ho : Own64 w B (hdr h0) zs) (hne : v.ownBlock ≠ some h0.1) (hfr : ∀ h' ∈ hs, h'.1 ≠ h0.1) {o : Obj}
    (hown : w1.ownsRow B 26 1 v' (hs.length + 1) (hs.map hdr ++ [hdr h0])) (hg : (w.alloc o).grownBy w1 v.ownBlock) : Woods w1 B v' (hs ++ [h0]) (zss ++ [zs]) := by
  have hk0 : ∀ (h' : Hdr) (ys : List Int), Own64 w B (hdr h') ys → v.ownBlock ≠ some h'.1 → Own64 w1 B (hdr h') ys := fun h' ys ho' hv => (ho'.alloc _).kept hg (.inr fun e => hv e.symm)
  refine ⟨by rw [List.length_append, List.map_append]; exact hown, by rw [List.length_append, List.length_append, h.len]; rfl, fun k h' ys hk hy => ?_, fun i j h1 h2 hi hj hij => ?_⟩
  · rcases Nat.lt_or_ge k hs.length with hl | hl
    · rw [List.getElem?_append_left hl] at hk
      rw [List.getElem?_append_left (by rw [← h.len]; exact hl)] at hy
      exact hk0 h' ys (h.each k h' ys hk hy) (h.off (List.mem_of_getElem? hk))
    · rw [List.getElem?_append_right hl] at hk
      rw [List.getElem?_append_right (by rw [← h.len]; exact hl)] at hy
      have e1 : k - hs.length = 0 := by have := (List.getElem?_eq_some_iff.1 hk).1; simp at this; omega
      rw [e1] at hk
      rw [← h.len, e1] at hy
      injection hk with hk
      injection hy with hy
      subst hk
      subst hy
      exact hk0 h0 zs ho hne
  · have hsel : ∀ (k : Nat) (h' : Hdr), (hs ++ [h0])[k]? = some h' → (k < hs.length ∧ hs[k]? = some h') ∨ (k = hs.length ∧ h' = h0) := fun k h' hk => by
      rcases Nat.lt_or_ge k hs.length with hl | hl
      · rw [List.getElem?_append_left hl] at hk; exact .inl ⟨hl, hk⟩
      · rw [List.getElem?_append_right hl] at hk
        have e1 : k - hs.length = 0 := by have := (List.getElem?_eq_some_iff.1 hk).1; simp at this; omega
        rw [e1] at hk
        injection hk with hk
        exact .inr ⟨by omega, hk.symm⟩
    rcases hsel i h1 hi with ⟨a1, a2⟩ | ⟨a1, a2⟩ <;> rcases hsel j h2 hj with ⟨b1, b2⟩ | ⟨b1, b2⟩
    · exact h.apart i j h1 h2 a2 b2 hij
    · rw [b2]; exact hfr h1 (List.mem_of_getElem? a2)
    · rw [a2]; exact fun e => hfr h2 (List.mem_of_getElem? b2) e.symm
    · omega

/-- the trees of a slice, to be read -/
def Trees (w : World) (A : Option Addr) (zss : List (List Int)) : Prop :=
  0 < zss.length → ∃ b, A = some ⟨b, 0, none⟩ ∧ b < w.heap.size ∧ ∀ (k : Nat) (zs : List Int), zss[k]? = some zs → ∃ A' c', w.cell? ⟨b, k, none⟩ = some (.slice A' zs.length c') ∧ Ints w w.heap.size A' zs
theorem Woods.trees {w : World} {B n c : Nat} {A : Option Addr} {hs : List Hdr} {zss : List (List Int)} (h : Woods w B (.slice A n c) hs zss) : Trees w A zss := fun hp => by
  obtain ⟨h1, h2⟩ := h.shape
  obtain ⟨g, rfl⟩ := h2 (by omega)
  refine ⟨g, rfl, (World.ownsRow.lt h.row g rfl).2, fun k zs hk => ?_⟩
  obtain ⟨h', hk', ho, hl⟩ := h.at_ hk
  have hc := h.cell hk'
  obtain ⟨g', m, c'⟩ := h'
  simp only at hl
  subst hl
  exact ⟨_, _, hc, ints_of_own64 ho⟩
theorem Trees.be {w w' : World} {A : Option Addr} {zss : List (List Int)} (h : Trees w A zss) (hb : Below w.heap.size w w') : Trees w' A zss := fun hp => by
  obtain ⟨b, rfl, hlt, hk⟩ := h hp
  refine ⟨b, rfl, Nat.lt_of_lt_of_le hlt hb.size, fun k zs hz => ?_⟩
  obtain ⟨A', c', h1, h2⟩ := hk k zs hz
  exact ⟨A', c', (hb.cell (p := ⟨b, k, none⟩) hlt).trans h1, h2.be hb⟩
end Go.Proofs.Ytdgcjkgbglofbaa

/- Lists of lists of numbers: how many numbers they have; rows that are marked. -/
namespace Go.Proofs.Ytdgcjkgbglofbaa
namespace M
def tot : List (List Int) → Nat
  | [] => 0
  | zs :: r => zs.length + tot r
theorem tot_snoc (l : List (List Int)) (zs : List Int) : tot (l ++ [zs]) = tot l + zs.length := by
  induction l with
  | nil => simp [tot]
  | cons x r ih => simp only [List.cons_append, tot, ih]; omega
theorem tot_take {zss : List (List Int)} {k : Nat} {zs : List Int} (h : zss[k]? = some zs) : tot (zss.take (k + 1)) = tot (zss.take k) + zs.length := by
  rw [List.take_add_one, h, Option.toList_some, tot_snoc]
theorem tot_le {zss : List (List Int)} {b : Nat} (h : ∀ zs ∈ zss, zs.length ≤ b) : tot zss ≤ b * zss.length := by
  induction zss with
  | nil => exact Nat.zero_le _
  | cons x r ih =>
    have h1 := h x (by simp)
    have h2 := ih fun z hz => h z (by simp [hz])
    simp only [tot, List.length_cons, Nat.mul_add, Nat.mul_one]
    omega
theorem tot_mem {zss : List (List Int)} {zs : List Int} (h : zs ∈ zss) : zs.length ≤ tot zss := by
  induction zss with
  | nil => cases h
  | cons x r ih =>
    simp only [tot]
    rcases List.mem_cons.1 h with rfl | h
    · omega
    · have := ih h; omega
theorem tot_take_le (zss : List (List Int)) : ∀ k, tot (zss.take k) ≤ tot zss := by
  induction zss with
  | nil => intro k; simp [tot]
  | cons x r ih =>
    intro k
    cases k with
    | zero => simp [tot]
    | succ k => simp only [List.take_succ_cons, tot]; have := ih k; omega
/-- the first k rows are marked -/
def partM (m : Int) (zss : List (List Int)) (k : Nat) : List (List Int) := (List.range zss.length).map fun j => if j < k then marks (m + (tot (zss.take j) : Int)) (zss[j]?.getD []).length else zss[j]?.getD []
theorem partM_len (m : Int) (zss : List (List Int)) (k : Nat) : (partM m zss k).length = zss.length := by simp [partM]
theorem partM_zero (m : Int) (zss : List (List Int)) : partM m zss 0 = zss := by
  apply List.ext_getElem?
  intro j
  simp only [partM, List.getElem?_map]
  by_cases hj : j < zss.length
  · rw [List.getElem?_range hj]; simp [List.getElem?_eq_getElem hj]
  · rw [List.getElem?_eq_none (by simp; omega), List.getElem?_eq_none (by omega)]; rfl
theorem partM_lo {m : Int} {zss : List (List Int)} {k j : Nat} {zs : List Int} (h : zss[j]? = some zs) (hj : j < k) : (partM m zss k)[j]? = some (marks (m + (tot (zss.take j) : Int)) zs.length) := by
  have hl := (List.getElem?_eq_some_iff.1 h).1
  simp only [partM, List.getElem?_map, List.getElem?_range hl, Option.map_some, if_pos hj, h, Option.getD_some]
theorem partM_hi {m : Int} {zss : List (List Int)} {k j : Nat} {zs : List Int} (h : zss[j]? = some zs) (hj : ¬ j < k) : (partM m zss k)[j]? = some zs := by
  have hl := (List.getElem?_eq_some_iff.1 h).1
  simp only [partM, List.getElem?_map, List.getElem?_range hl, Option.map_some, if_neg hj, h, Option.getD_some]
theorem partM_other {m : Int} {zss : List (List Int)} {k j : Nat} (hj : j ≠ k) : (partM m zss (k + 1))[j]? = (partM m zss k)[j]? := by
  by_cases hl : j < zss.length
  · have h := List.getElem?_eq_getElem hl
    by_cases hjk : j < k
    · rw [partM_lo h hjk, partM_lo h (by omega)]
    · rw [partM_hi h hjk, partM_hi h (by omega)]
  · rw [List.getElem?_eq_none (by rw [partM_len]; omega), List.getElem?_eq_none (by rw [partM_len]; omega)]
end M
end Go.Proofs.Ytdgcjkgbglofbaa
