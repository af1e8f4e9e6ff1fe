/- l02Low: the model's numbers of trees of 0 to n nodes of at most a height. -/
import Derived.Test.YtdaghbfejcjknabForest
import Derived.Test.YtdaghbfejcjknabCatalan
import Derived.Test.YtdaghbfejcjknabTwo
import Derived.Deep.RegionHeld3
import Derived.Deep.DeepCutAuto
import Derived.BigRegion
import Derived.Outline
namespace Go.Proofs.Ytdaghbfejcjknab
open Go.RowKit

theorem below_of_drew {B : Nat} {a w : World} (h : Below B a.drew w) : Below B a w := ⟨h.os, h.tape, h.output, h.size, h.block⟩

namespace M
theorem Fo_model {j m : Nat} (hm : 0 < m) : Fo j m = sumTo (fun x => TrN j (x + 1) * Fo j (m - 1 - x)) m := by
  cases j with
  | zero =>
    have : ∀ k, sumTo (fun x => TrN 0 (x + 1) * Fo 0 (m - 1 - x)) k = 0 := by
      intro k
      induction k with
      | zero => rfl
      | succ k ih => rw [sumTo, ih]; simp [TrN]
    rw [this, Fo_zero hm]
  | succ j =>
    obtain ⟨m, rfl⟩ : ∃ m', m = m' + 1 := ⟨m - 1, by omega⟩
    rw [Fo_succ]
    refine sumTo_congr fun x hx => ?_
    have e1 : TrN (j + 1) (x + 1) = Fo j x := by simp [TrN]
    have e2 : m + 1 - 1 - x = m - x := by omega
    rw [e1, e2]
theorem Fomodel_small {j m k : Nat} (hm : m ≤ 30) (h0 : 0 < m) (hk : k ≤ m) : sumTo (fun x => TrN j (x + 1) * Fo j (m - 1 - x)) k ≤ 10000000000000000 := by
  have h1 := sumTo_le (f := fun x => TrN j (x + 1) * Fo j (m - 1 - x)) hk
  have h2 := Fo_small (h := j) hm
  rw [Fo_model h0] at h2
  omega
/-- a row of N numbers, of which the first m are told -/
def partRow (f : Nat → Nat) (N m : Nat) : List Int := (List.range N).map fun i => if i < m then (f i : Int) else 0
theorem partRow_len (f : Nat → Nat) (N m : Nat) : (partRow f N m).length = N := by simp [partRow]
theorem partRow_at {f : Nat → Nat} {N m i : Nat} (h : i < N) (hm : i < m) : (partRow f N m)[i]? = some (f i : Int) := by simp [partRow, h, hm]
theorem partRow_zero (f : Nat → Nat) (N : Nat) : partRow f N 0 = List.replicate N 0 := by
  apply List.ext_getElem?
  intro j
  simp only [partRow, List.getElem?_map, List.getElem?_replicate]
  rcases Nat.lt_or_ge j N with hj | hj
  · rw [List.getElem?_range hj, if_pos hj]; simp
  · rw [List.getElem?_eq_none (by simp; omega), if_neg (by omega)]; rfl
theorem partRow_here {f : Nat → Nat} {N m : Nat} : (partRow f N m).set m 0 = partRow f N m := by
  apply List.ext_getElem?
  intro j
  by_cases hj : m = j
  · subst hj
    rcases Nat.lt_or_ge m N with h | h
    · rw [List.getElem?_set_self (by rw [partRow_len]; exact h)]
      simp [partRow, h]
    · rw [List.getElem?_eq_none (by simp [partRow_len]; omega), List.getElem?_eq_none (by rw [partRow_len]; omega)]
  · rw [List.getElem?_set_ne hj]
theorem partRow_step {f : Nat → Nat} {N m : Nat} : (partRow f N m).set m (f m : Int) = partRow f N (m + 1) := by
  apply List.ext_getElem?
  intro j
  rcases Nat.lt_or_ge j N with hjn | hjn
  · by_cases hj : m = j
    · subst hj
      rw [List.getElem?_set_self (by rw [partRow_len]; exact hjn)]
      simp [partRow, hjn]
    · rw [List.getElem?_set_ne hj]
      simp only [partRow, List.getElem?_map]
      rw [List.getElem?_range hjn]
      simp only [Option.map_some]
      congr 1
      by_cases h3 : j < m
      · rw [if_pos h3, if_pos (by omega)]
      · rw [if_neg h3, if_neg (by omega)]
  · rw [List.getElem?_eq_none (by simp [partRow_len]; omega), List.getElem?_eq_none (by rw [partRow_len]; omega)]
/-- trees of 0 to n nodes of less than h levels -/
def lowRow (n h : Nat) : List Int := partRow (TrN h) (n + 1) (n + 1)
theorem lowRow_none (n : Nat) : lowRow n 0 = List.replicate (n + 1) 0 := by
  rw [lowRow, ← partRow_zero (TrN 0) (n + 1)]
  simp only [partRow]
  apply List.map_congr_left
  intro i _
  simp [TrN]
end M

/-- what l02Low does at a number of levels -/
def LowAt (n levels : Nat) : Prop := ∀ (w : World),
  Calls Try.prog 72 #[.int .i64 (n : Int), .int .i64 ((levels : Int) - 1)] w fun e w' => ∃ A' c', e = .returned (.slice A' (n + 1) c') ∧ Hid (Own64 w' w.heap.size (.slice A' (n + 1) c') (M.lowRow n levels)) ∧ Hid (Below w.heap.size w w')

set_option maxHeartbeats 1000000 in
set_option maxRecDepth 100000 in
theorem low_zero (n : Nat) (hn : n ≤ 30) : LowAt n 0 := by
  intro w
  have hmk := run_make_row' (P := Try.prog) 22 2 (.int .i64 0) 8 Try.underlying22 info64 rfl .i64 .i64 (n + 1) (by omega) (by omega)
  have ecast : ((n + 1 : Nat) : Int) = (n : Int) + 1 := by omega
  rw [ecast] at hmk
  have hst : Hid (Own64 (w.alloc (.cells (madeCells #[.int .i64 0] (n + 1)) 2)) w.heap.size (.slice (some ⟨w.heap.size, 0, none⟩) (n + 1) (n + 1)) (M.lowRow n 0)) := by rw [M.lowRow_none]; exact own64_made (w := w) (B := w.heap.size) (n := n + 1) (Nat.le_refl _) (by unfold maxLen; omega)
  have hb0 : Hid (Below w.heap.size w (w.alloc (.cells (madeCells #[.int .i64 0] (n + 1)) 2))) := bal (b0 w) _
  clear ecast
  go_enter Try.func72, Try.ntmps72
  go_wp2
  go_ret
  exact ⟨_, _, rfl, hst, hb0⟩

set_option maxHeartbeats 4000000 in
set_option maxRecDepth 100000 in
theorem low_step (n j : Nat) (hn : n ≤ 30) (hj : j ≤ 30) (ih : Hid (LowAt n j)) (w : World) :
    Calls Try.prog 72 #[.int .i64 (n : Int), .int .i64 (j : Int)] w fun e w' => ∃ A' c', e = .returned (.slice A' (n + 1) c') ∧ Hid (Own64 w' w.heap.size (.slice A' (n + 1) c') (M.lowRow n (j + 1))) ∧ Hid (Below w.heap.size w w') := by
  have hmk := run_make_row' (P := Try.prog) 22 2 (.int .i64 0) 8 Try.underlying22 info64 rfl .i64 .i64 (n + 1) (by omega) (by omega)
  have ecast : ((n + 1 : Nat) : Int) = (n : Int) + 1 := by omega
  rw [ecast] at hmk
  have hst : Hid (Own64 (w.alloc (.cells (madeCells #[.int .i64 0] (n + 1)) 2)) w.heap.size (.slice (some ⟨w.heap.size, 0, none⟩) (n + 1) (n + 1)) (M.partRow (M.TrN (j + 1)) (n + 1) 0)) := by rw [M.partRow_zero]; exact own64_made (w := w) (B := w.heap.size) (n := n + 1) (Nat.le_refl _) (by unfold maxLen; omega)
  have hb0 : Hid (Below w.heap.size w (w.alloc (.cells (madeCells #[.int .i64 0] (n + 1)) 2))) := bal (b0 w) _
  have h0 : ¬ (j : Int) < 0 := by omega
  clear ecast
  go_enter Try.func72, Try.ntmps72
  go_upto_region 4 with fail
  obtain ⟨W, hW⟩ : ∃ W, W = w.alloc (.cells (madeCells #[.int .i64 0] (n + 1)) 2) := ⟨_, rfl⟩
  have hsz : W.heap.size = w.heap.size + 1 := by subst hW; simp
  rw [← hW] at hst hb0 ⊢
  have Hsz := Lib.hid hsz
  clear hW hsz
  go_cut [6, 7] (fun s6 s7 wx => ∃ (A6 : Option Addr) (c6 g7 : Nat), s6 = .slice A6 (n + 1) c6 ∧ s7 = .slice (some ⟨g7, 0, none⟩) (n + 1) (n + 1) ∧ Hid (Two wx W.heap.size (.slice (some ⟨g7, 0, none⟩) (n + 1) (n + 1)) (.slice A6 (n + 1) c6) (List.replicate (n + 1) 0) (M.lowRow n j)) ∧ Hid (Below W.heap.size W wx))
  case first =>
    have hw1 : IntKind.i64.wrap ((j : Int) - 1) = (j : Int) - 1 := IntWalk.i64_in _ (by omega)
    have hw2 : IntKind.i64.wrap ((n : Int) + 1) = (n : Int) + 1 := IntWalk.i64_in _ (by omega)
    have hI : ∀ W', Calls Try.prog 72 #[.int .i64 (n : Int), .int .i64 ((j : Int) - 1)] W' fun e w' => ∃ A' c', e = .returned (.slice A' (n + 1) c') ∧ Hid (Own64 w' W'.heap.size (.slice A' (n + 1) c') (M.lowRow n j)) ∧ Hid (Below W'.heap.size W' w') := ih.out
    have HI := Lib.hid hI
    clear hI
    go_region_with (first | (go_at_call 72; (with_reducible refine (HI.out _).mono ?_); rintro e w7 ⟨A7, c7, rfl, ho7, hb7⟩))
    all_goals (go_wp2_with fail)
    all_goals (go_meet)
    · have hb := below_of_drew hb7.out
      have z := hb.size
      exact ⟨A7, c7, w7.heap.size, rfl, rfl, ⟨own_mono (own64_made (w := w7) (B := w7.heap.size) (n := n + 1) (Nat.le_refl _) (by unfold maxLen; omega)) z, own_mono (ho7.out.alloc _) (by simp), fun b e e2 => by
        have e1 : b = w7.heap.size := by injection e with e; exact e.symm
        have := (World.ownsRow.lt ho7.out b e2).2
        omega⟩, bal hb _⟩
    · have hb := below_of_drew hb7.out
      have z := hb.size
      exact ⟨A7, c7, W.heap.size, rfl, rfl, ⟨own_be (own64_made (w := W) (B := W.heap.size) (n := n + 1) (Nat.le_refl _) (by unfold maxLen; omega)) hb, own_mono ho7.out (by simp), fun b e e2 => by
        have e1 : b = W.heap.size := by injection e with e; exact e.symm
        have := (World.ownsRow.lt ho7.out b e2).1
        simp at this
        omega⟩, btr (bal (b0 W) _) hb⟩
  case rest =>
    obtain ⟨A6, c6, g7, rfl, rfl, ht2, hbx⟩ := hcut
    obtain ⟨g6, rfl⟩ := own64_shape ht2.out.2.1 (by omega)
    have hone : Hid ((List.replicate (n + 1) (0 : Int)).set 0 1 = M.partRow (M.Fo j) (n + 1) 1) := by
      show _ = _
      rw [← M.partRow_zero (M.Fo j), ← M.partRow_step, M.Fo_none]
      rfl
    have hset := ht2.out.set (by simp) 0 1
    rw [hone.out] at hset
    have hset := Lib.hid hset
    obtain ⟨c1, c2, hg7, _⟩ := own64_cell ht2.out.1 (by simp) (k := 0) (x := 0) (by rw [List.getElem?_replicate, if_pos (by omega)])
    have hbs := Lib.hid (below_setCell (k := 0) hbx.out hg7 (.int .i64 1))
    have Hg7 := Lib.hid hg7
    clear ht2 hbx hg7
    go_wp2
    go_loopw [8, 9] (fun s8 _ wr => ∃ m : Nat, 1 ≤ m ∧ m ≤ n + 1 ∧ s8 = .int .i64 (m : Int) ∧ Hid (Two wr W.heap.size (.slice (some ⟨g7, 0, none⟩) (n + 1) (n + 1)) (.slice (some ⟨g6, 0, none⟩) (n + 1) c6) (M.partRow (M.Fo j) (n + 1) m) (M.lowRow n j)) ∧ Hid (Below W.heap.size W wr)) (fun s8 _ _ => 40 - (intOf s8).toNat)
    case atStart => exact ⟨1, Nat.le_refl _, by omega, rfl, hset, hbs⟩
    case round =>
      obtain ⟨m, hm1, hm, rfl, ht2, hbr⟩ := hrel
      clear c1 c2 hset hbs
      by_cases hmn : m ≤ n
      · have hmn2 : (m : Int) ≤ (n : Int) := by omega
        have hst2 : Hid (Two wr W.heap.size (.slice (some ⟨g7, 0, none⟩) (n + 1) (n + 1)) (.slice (some ⟨g6, 0, none⟩) (n + 1) c6) ((M.partRow (M.Fo j) (n + 1) m).set m 0) (M.lowRow n j)) := by rw [M.partRow_here]; exact ht2.out
        go_wp2
        go_loopw [9] (fun s9 wr => ∃ (q y : Nat), 1 ≤ q ∧ q ≤ m + 1 ∧ s9 = .int .i64 (q : Int) ∧ Hid (M.sumTo (fun x => M.TrN j (x + 1) * M.Fo j (m - 1 - x)) (q - 1) = y) ∧ Hid (Two wr W.heap.size (.slice (some ⟨g7, 0, none⟩) (n + 1) (n + 1)) (.slice (some ⟨g6, 0, none⟩) (n + 1) c6) ((M.partRow (M.Fo j) (n + 1) m).set m (y : Int)) (M.lowRow n j)) ∧ Hid (Below W.heap.size W wr)) (fun s9 _ => 40 - (intOf s9).toNat)
        case atStart => exact ⟨1, 0, Nat.le_refl _, by omega, rfl, rfl, hst2, hbr⟩
        case round =>
          obtain ⟨q, y, hq1, hq, rfl, hy, ht4, hbr4⟩ := hrel
          clear hst2
          have hl4 : ((M.partRow (M.Fo j) (n + 1) m).set m (y : Int)).length = n + 1 := by rw [List.length_set, M.partRow_len]
          by_cases hqm : q ≤ m
          · have hqm2 : (q : Int) ≤ (m : Int) := by omega
            obtain ⟨d, hd⟩ : ∃ d, Hid (m - q = d) := ⟨_, rfl⟩
            have hdo := hd.out
            obtain ⟨c1, c1f, _, _⟩ := own64_cell ht4.out.1 hl4 (k := m) (x := (y : Int)) (List.getElem?_set_self (by rw [M.partRow_len]; omega))
            have c2 := (own64_cell ht4.out.2.1 (M.partRow_len _ _ _) (M.partRow_at (f := M.TrN j) (N := n + 1) (m := n + 1) (i := q) (by omega) (by omega))).1
            have c3 := (own64_cell ht4.out.1 hl4 (k := d) (x := (M.Fo j d : Int)) (by rw [List.getElem?_set_ne (by omega)]; exact M.partRow_at (by omega) (by omega))).1
            have hy1 := M.Fomodel_small (j := j) (m := m) (k := q - 1) (by omega) (by omega) (by omega)
            have hy2 := M.Fomodel_small (j := j) (m := m) (k := q + 1 - 1) (by omega) (by omega) (by omega)
            have hs : Hid (M.sumTo (fun x => M.TrN j (x + 1) * M.Fo j (m - 1 - x)) (q + 1 - 1) = y + M.TrN j q * M.Fo j d) := by
              show _ = _
              have e1 : q + 1 - 1 = (q - 1) + 1 := by omega
              have e2 : q - 1 + 1 = q := by omega
              have e3 : m - 1 - (q - 1) = d := by omega
              rw [e1, M.sumTo, hy.out, e2, e3]
            rw [hs.out] at hy2
            rw [hy.out] at hy1
            generalize M.TrN j q = a at *
            generalize M.Fo j d = b at *
            obtain ⟨ad, had⟩ : ∃ ad, Hid (a * b = ad) := ⟨_, rfl⟩
            rw [had.out] at hs hy2
            have hmul : ((a : Int) * (b : Int)) = (ad : Int) := by rw [← had.out]; exact (Int.natCast_mul a b).symm
            have hw1 : IntKind.i64.wrap ((a : Int) * (b : Int)) = (ad : Int) := by rw [hmul]; exact IntWalk.i64_in _ (by omega)
            have hw2 : IntKind.i64.wrap ((y : Int) + (ad : Int)) = (y : Int) + (ad : Int) := IntWalk.i64_in _ (by omega)
            have hw3 : IntKind.i64.wrap ((m : Int) - (q : Int)) = (d : Int) := by rw [IntWalk.i64_in _ (by omega)]; omega
            have hi1 : (0 : Int) ≤ (d : Int) := by omega
            have hi2 : (d : Int) < (n : Int) + 1 := by omega
            have hi3 : (0 : Int) ≤ (q : Int) := by omega
            have hi4 : (q : Int) < (n : Int) + 1 := by omega
            have hi5 : (m : Int) < (n : Int) + 1 := by omega
            have hset4 := ht4.out.set hl4 m ((y : Int) + (ad : Int))
            rw [List.set_set] at hset4
            have hset4 := Lib.hid hset4
            have hb4 := Lib.hid (below_setCell (k := m) hbr4.out Hg7.out (.int .i64 ((y : Int) + (ad : Int))))
            have ecast : Hid (((y + ad : Nat) : Int) = (y : Int) + (ad : Int)) := Int.natCast_add y ad
            have hl4 := Lib.hid hl4
            clear hmul hdo ht4 hbr4
            go_wp2
            go_region
            go_wp2
            go_roundw
            case rel => exact ⟨q + 1, y + ad, by omega, by omega, by go_num, hs, by rw [ecast.out]; exact hset4.out, hb4.out.drew⟩
            case measure => simp [intOf]; omega
          · obtain rfl : q = m + 1 := by omega
            have hge : ¬ ((m + 1 : Nat) : Int) ≤ (m : Int) := by omega
            have hL : Hid (M.Fo j m = y) := (M.Fo_model (by omega)).trans hy.out
            have ht5 : Hid (Two wr W.heap.size (.slice (some ⟨g7, 0, none⟩) (n + 1) (n + 1)) (.slice (some ⟨g6, 0, none⟩) (n + 1) c6) (M.partRow (M.Fo j) (n + 1) (m + 1)) (M.lowRow n j)) := by rw [← M.partRow_step, hL.out]; exact ht4.out
            clear hl4
            go_wp2
            go_roundw
            case rel => exact ⟨m + 1, by omega, by omega, by go_num, ht5, hbr4⟩
            case measure => simp [intOf]; omega
      · obtain rfl : m = n + 1 := by omega
        have hge : ¬ ((n + 1 : Nat) : Int) ≤ (n : Int) := by omega
        have hz := Hsz.out
        have hO : Hid (Own64 wr w.heap.size (.slice (some ⟨w.heap.size, 0, none⟩) (n + 1) (n + 1)) ((M.partRow (M.TrN (j + 1)) (n + 1) 0).set 0 0)) := by rw [M.partRow_here]; exact own_be hst.out hbr.out
        have hO1 : Hid (Own64 wr w.heap.size (.slice (some ⟨w.heap.size, 0, none⟩) (n + 1) (n + 1)) (M.partRow (M.TrN (j + 1)) (n + 1) 1)) := by
          have e : M.TrN (j + 1) 0 = 0 := by simp [M.TrN]
          have h1 := hO.out
          have h2 := M.partRow_step (f := M.TrN (j + 1)) (N := n + 1) (m := 0)
          rw [e] at h2
          exact own64_eq h1 h2
        have hF : Hid (Own64 wr W.heap.size (.slice (some ⟨g7, 0, none⟩) (n + 1) (n + 1)) (M.partRow (M.Fo j) (n + 1) (n + 1))) := ht2.out.1
        have hB2 : Hid (Below w.heap.size w wr) := hb0.out.trans (hbr.out.mono (by omega))
        clear hO hst ht2 hbr hb0
        go_wp2
        go_loopw [10] (fun s10 wr => ∃ m : Nat, 1 ≤ m ∧ m ≤ n + 1 ∧ s10 = .int .i64 (m : Int) ∧ Hid (Own64 wr w.heap.size (.slice (some ⟨w.heap.size, 0, none⟩) (n + 1) (n + 1)) (M.partRow (M.TrN (j + 1)) (n + 1) m)) ∧ Hid (Own64 wr W.heap.size (.slice (some ⟨g7, 0, none⟩) (n + 1) (n + 1)) (M.partRow (M.Fo j) (n + 1) (n + 1))) ∧ Hid (Below w.heap.size w wr)) (fun s10 _ => 40 - (intOf s10).toNat)
        case atStart => exact ⟨1, Nat.le_refl _, by omega, rfl, hO1, hF, hB2⟩
        case round =>
          obtain ⟨m, hm1, hm, rfl, hO, hF, hB⟩ := hrel
          clear hO1 hB2
          by_cases hmn : m ≤ n
          · have hmn2 : (m : Int) ≤ (n : Int) := by omega
            obtain ⟨d, hd⟩ : ∃ d, Hid (m - 1 = d) := ⟨_, rfl⟩
            have hdo := hd.out
            have hsub : (m : Int) - 1 = (d : Int) := by omega
            have c3 := (own64_cell hF.out (M.partRow_len _ _ _) (M.partRow_at (f := M.Fo j) (N := n + 1) (m := n + 1) (i := d) (by omega) (by omega))).1
            obtain ⟨yo, hyo⟩ : ∃ yo, (M.partRow (M.TrN (j + 1)) (n + 1) m)[m]? = some yo := ⟨_, List.getElem?_eq_getElem (by rw [M.partRow_len]; omega)⟩
            obtain ⟨c1, c1f, _, _⟩ := own64_cell hO.out (M.partRow_len _ _ _) hyo
            have hTr : M.TrN (j + 1) m = M.Fo j d := by rw [← hd.out]; simp [M.TrN]; omega
            have hsetO := own64_set hO.out (M.partRow_len _ _ _) m (M.Fo j d : Int)
            rw [← hTr, M.partRow_step] at hsetO
            rw [← hTr] at c3
            have hsetO := Lib.hid hsetO
            have hsetF := Lib.hid (own_far (g := w.heap.size) (k := m) hF.out (by omega) (.int .i64 (M.TrN (j + 1) m : Int)))
            have hbO := Lib.hid (below_setCell (k := m) hB.out (Nat.le_refl _) (.int .i64 (M.TrN (j + 1) m : Int)))
            have hi5 : (m : Int) < (n : Int) + 1 := by omega
            have hi6 : (d : Int) < (n : Int) + 1 := by omega
            generalize M.TrN (j + 1) m = x at *
            clear hTr hyo hdo hO hF hB
            go_wp2
            go_roundw
            case rel => exact ⟨m + 1, by omega, by omega, by go_num, hsetO, hsetF, hbO⟩
            case measure => simp [intOf]; omega
          · obtain rfl : m = n + 1 := by omega
            have hge : ¬ ((n + 1 : Nat) : Int) ≤ (n : Int) := by omega
            go_wp2
            go_ret
            exact ⟨_, _, rfl, hO, hB⟩

theorem lowAt (n : Nat) (hn : n ≤ 30) : ∀ levels : Nat, levels ≤ 31 → LowAt n levels := by
  intro levels
  induction levels with
  | zero => intro _; exact low_zero n hn
  | succ j ih =>
    intro hj w
    have ec : ((j + 1 : Nat) : Int) - 1 = (j : Int) := by omega
    rw [ec]
    exact low_step n j hn (by omega) (ih (by omega)) w
end Go.Proofs.Ytdaghbfejcjknab
