/- CountByRoot, the program's and the model's: the number of trees by the children of the root, or a code. -/
import Derived.Test.YtdaghbfejcjknabLists
import Derived.Test.YtdaghbfejcjknabCatalan
import Derived.Test.YtdaghbfejcjknabNumbers
import Derived.Deep.RegionHeld3
import Derived.Deep.DeepCutAuto
import Derived.BigRegion
namespace Go.Proofs.Ytdaghbfejcjknab
open Go.RowKit

theorem below_of_drew {B : Nat} {a w : World} (h : Below B a.drew w) : Below B a w := ⟨h.os, h.tape, h.output, h.size, h.block⟩

namespace M
/-- k trees of 0 to n - 1 nodes together -/
def wayRow (n k : Nat) : List Int := (List.range n).map fun m => (L m k : Int)
theorem wayRow_len (n k : Nat) : (wayRow n k).length = n := by simp [wayRow]
theorem wayRow_at {n k m : Nat} (h : m < n) : (wayRow n k)[m]? = some (L m k : Int) := by simp [wayRow, h]
theorem wayRow_start {n : Nat} : (List.replicate n (0 : Int)).set 0 1 = wayRow n 0 := by
  apply List.ext_getElem?
  intro j
  rcases Nat.lt_or_ge j n with hj | hj
  · rw [wayRow_at hj, L_base (.inr rfl)]
    rcases Nat.eq_zero_or_pos j with h0 | h0
    · subst h0; rw [List.getElem?_set_self (by simp; omega)]; rfl
    · rw [List.getElem?_set_ne (by omega), List.getElem?_replicate, if_pos hj, if_neg (by omega)]; rfl
  · rw [List.getElem?_eq_none (by simp; omega), List.getElem?_eq_none (by rw [wayRow_len]; exact hj)]
/-- the first m of them -/
def nextTo (n k m : Nat) : List Int := (List.range n).map fun i => if i < m then (L i k : Int) else 0
theorem nextTo_len (n k m : Nat) : (nextTo n k m).length = n := by simp [nextTo]
theorem nextTo_start (n k : Nat) : nextTo n k 0 = List.replicate n 0 := by
  apply List.ext_getElem?
  intro j
  simp only [nextTo, List.getElem?_map, List.getElem?_replicate]
  rcases Nat.lt_or_ge j n with hj | hj
  · rw [List.getElem?_range hj, if_pos hj]; simp
  · rw [List.getElem?_eq_none (by simp; omega), if_neg (by omega)]; rfl
theorem nextTo_end (n k : Nat) : nextTo n k n = wayRow n k := by
  apply List.ext_getElem?
  intro j
  simp only [nextTo, wayRow, List.getElem?_map]
  rcases Nat.lt_or_ge j n with hj | hj
  · rw [List.getElem?_range hj]; simp [hj]
  · rw [List.getElem?_eq_none (by simp; omega)]; rfl
theorem nextTo_here {n k m : Nat} (h : m < n) : (nextTo n k m).set m 0 = nextTo n k m := by
  apply List.ext_getElem?
  intro j
  by_cases hj : m = j
  · subst hj
    rw [List.getElem?_set_self (by rw [nextTo_len]; exact h)]
    simp [nextTo, h]
  · rw [List.getElem?_set_ne hj]
theorem nextTo_step {n k m : Nat} (h : m < n) : (nextTo n k m).set m (L m k : Int) = nextTo n k (m + 1) := by
  apply List.ext_getElem?
  intro j
  by_cases hj : m = j
  · subst hj
    rw [List.getElem?_set_self (by rw [nextTo_len]; exact h)]
    simp [nextTo, h]
  · rw [List.getElem?_set_ne hj]
    simp only [nextTo, List.getElem?_map]
    rcases Nat.lt_or_ge j n with hjn | hjn
    · rw [List.getElem?_range hjn]
      simp only [Option.map_some]
      congr 1
      by_cases h3 : j < m
      · rw [if_pos h3, if_pos (by omega)]
      · rw [if_neg h3, if_neg (by omega)]
    · rw [List.getElem?_eq_none (by simp; omega)]; rfl
theorem conv_sum {m k j : Nat} (hm : m ≤ 29) (hk : k ≤ 30) (hj : j ≤ m) : sumTo (fun x => L (x + 1) 1 * L (m - 1 - x) k) j ≤ 1152921504606846976 := by
  have h1 := sumTo_le (f := fun x => L (x + 1) 1 * L (m - 1 - x) k) hj
  have h2 := L_small (n := m) (t := k + 1) (by omega)
  rw [L_first (by omega) hk] at h2
  omega
end M

def F_CountByRoot (n k : Int) : Int × Int := if (1 ≤ n ∧ n ≤ 30) ∧ 0 ≤ k ∧ k ≤ n then ((M.L (n.toNat - 1) k.toNat : Int), 0) else (0, 2)

set_option maxHeartbeats 1000000 in
set_option maxRecDepth 100000 in
theorem impl_CountByRoot : GivesNumN2 42 F_CountByRoot := by
  intro n k w _ _ _ _
  obtain ⟨b, hb⟩ : ∃ b, Hid (((decide ((1 : Int) ≤ n) && decide (n ≤ 30)) && (decide (0 ≤ k) && decide (k ≤ n))) = b) := ⟨_, rfl⟩
  cases b
  · have hF : F_CountByRoot n k = (0, 2) := if_neg (fun h => by have := counted_iff.2 h; rw [hb.out] at this; cases this)
    rw [hF]
    clear hF
    go_enter Try.func42, Try.ntmps42
    go_wp2_with (go_at_call 70; refine (countedAny _ _ _ _ hb).mono ?_; rintro e w' ⟨rfl, rfl⟩)
    go_ret2
    exact ⟨rfl, b0 _⟩
  · have h12 := counted_iff.1 hb.out
    obtain ⟨m, hm0⟩ := Int.eq_ofNat_of_zero_le (show 0 ≤ n - 1 by omega)
    obtain rfl : n = (m : Int) + 1 := by omega
    clear hm0
    obtain ⟨t, rfl⟩ := Int.eq_ofNat_of_zero_le (show 0 ≤ k by omega)
    have hF : F_CountByRoot ((m : Int) + 1) t = ((M.L m t : Int), 0) := by
      have e1 : ((m : Int) + 1).toNat - 1 = m := by omega
      rw [F_CountByRoot, if_pos h12, e1, Int.toNat_natCast]
    have hm : m ≤ 29 := by omega
    have hc := Lib.hid (listsAt w.heap.size m (by omega) t (w.alloc (.map #[] 0)) (by omega) (Memo.new M.L w))
    have hmm := @run_makeMap Try.prog
    rw [hF]
    clear hF h12
    go_enter Try.func42, Try.ntmps42
    go_wp2_with (go_at_call 70; refine (countedAny _ _ _ _ hb).mono ?_; rintro e w' ⟨rfl, rfl⟩)
    refine hc.out.mono ?_
    rintro e w2 ⟨rfl, hM, hg⟩
    have hB : Hid (Below w.heap.size w w2) := (bal (b0 w) (.map #[] 0)).grown hg.out (by simp) (fun k e => by injection e with e; omega)
    clear hmm hc
    go_wp2
    go_ret2
    exact ⟨rfl, hB.out⟩

set_option maxHeartbeats 4000000 in
set_option maxRecDepth 100000 in
theorem spec_CountByRoot : GivesNumN2 41 F_CountByRoot := by
  intro n k w _ _ _ _
  obtain ⟨b, hb⟩ : ∃ b, Hid (((decide ((1 : Int) ≤ n) && decide (n ≤ 30)) && (decide (0 ≤ k) && decide (k ≤ n))) = b) := ⟨_, rfl⟩
  cases b
  · have hF : F_CountByRoot n k = (0, 2) := if_neg (fun h => by have := counted_iff.2 h; rw [hb.out] at this; cases this)
    rw [hF]
    clear hF
    go_enter Try.func41, Try.ntmps41
    go_wp2_with (go_at_call 68; refine (l02Numbers _ _ _ _ hb).mono ?_; rintro e w' ⟨rfl, rfl⟩)
    go_ret2
    exact ⟨rfl, b0 _⟩
  · have h12 := counted_iff.1 hb.out
    obtain ⟨n, rfl⟩ := Int.eq_ofNat_of_zero_le (show 0 ≤ n by omega)
    obtain ⟨t, rfl⟩ := Int.eq_ofNat_of_zero_le (show 0 ≤ k by omega)
    have hF : F_CountByRoot n t = ((M.L (n - 1) t : Int), 0) := by rw [F_CountByRoot, if_pos h12]; rfl
    have hn1 : 1 ≤ n := by omega
    have hn : n ≤ 30 := by omega
    have htn : t ≤ n := by omega
    have hmk := run_make_row' (P := Try.prog) 22 2 (.int .i64 0) 8 Try.underlying22 info64 rfl .i64 .i64 n (by omega) (by omega)
    obtain ⟨d1, hd1⟩ : ∃ d, Hid (n - 1 = d) := ⟨_, rfl⟩
    rw [hF, hd1.out]
    clear hF h12
    go_enter Try.func41, Try.ntmps41
    go_upto_region 3 with (go_at_call 68; refine (l02Numbers _ _ _ _ hb).mono ?_; rintro e w' ⟨rfl, rfl⟩)
    go_cut [6, 7] (fun s6 s7 wx => ∃ (A6 : Option Addr) (c6 g7 : Nat), s6 = .slice A6 (n + 1) c6 ∧ s7 = .slice (some ⟨g7, 0, none⟩) n n ∧ Hid (Two wx w.heap.size (.slice (some ⟨g7, 0, none⟩) n n) (.slice A6 (n + 1) c6) (List.replicate n 0) (M.cats n)) ∧ Hid (Below w.heap.size w wx))
    case first =>
      have hN : ∀ W', Hid (Below w.heap.size w W') → Calls Try.prog 67 #[.int .i64 (n : Int)] W' fun e w' => ∃ A' c', e = .returned (.slice A' (n + 1) c') ∧ Hid (Own64 w' W'.heap.size (.slice A' (n + 1) c') (M.cats n)) ∧ Hid (Below W'.heap.size W' w') := fun W' _ =>
        l02Catalan n W' hn1 hn
      go_region_with (first | (go_at_call 67; refine (l02Catalan n _ hn1 hn).mono ?_; rintro e w7 ⟨A7, c7, rfl, ho7, hb7⟩))
      all_goals (go_wp2_with fail)
      all_goals (go_meet)
      · have hb := below_of_drew hb7
        have z := hb.size
        exact ⟨A7, c7, w7.heap.size, rfl, rfl, ⟨own_mono (own64_made (w := w7) (B := w7.heap.size) (n := n) (Nat.le_refl _) (by unfold maxLen; omega)) z, own_mono (ho7.alloc _) (by simp), fun b e e2 => by
          have e1 : b = w7.heap.size := by injection e with e; exact e.symm
          have := (World.ownsRow.lt ho7 b e2).2
          omega⟩, bal hb _⟩
      · have hb := below_of_drew hb7
        have z := hb.size
        exact ⟨A7, c7, w.heap.size, rfl, rfl, ⟨own_be (own64_made (w := w) (B := w.heap.size) (n := n) (Nat.le_refl _) (by unfold maxLen; omega)) hb, own_mono ho7 (by simp), fun b e e2 => by
          have e1 : b = w.heap.size := by injection e with e; exact e.symm
          have := (World.ownsRow.lt ho7 b e2).1
          simp at this
          omega⟩, btr (bal (b0 w) _) hb⟩
    case rest =>
      obtain ⟨A6, c6, g7, rfl, rfl, ht2, hbx⟩ := hcut
      have hset := ht2.out.set (by simp) 0 1
      rw [M.wayRow_start] at hset
      have hset := Lib.hid hset
      obtain ⟨c1, c2, hg7, _⟩ := own64_cell ht2.out.1 (by simp) (k := 0) (x := 0) (by rw [List.getElem?_replicate, if_pos (by omega)])
      have hbs := Lib.hid (below_setCell (k := 0) hbx.out hg7 (.int .i64 1))
      clear ht2 hbx
      go_wp2
      go_loopw [1, 7, 8, 9, 10] (fun s1 s7 _ _ _ wr => ∃ (r j g : Nat), r + j = t ∧ s1 = .int .i64 (r : Int) ∧ s7 = .slice (some ⟨g, 0, none⟩) n n ∧ Hid (Own64 wr w.heap.size (.slice (some ⟨g, 0, none⟩) n n) (M.wayRow n j)) ∧ Hid (Own64 wr w.heap.size (.slice A6 (n + 1) c6) (M.cats n)) ∧ Hid (Below w.heap.size w wr)) (fun s1 _ _ _ _ _ => (intOf s1).toNat)
      case atStart => exact ⟨t, 0, g7, by omega, rfl, rfl, hset.out.1, hset.out.2.1, hbs⟩
      case round =>
        obtain ⟨r, j, g, hrj, rfl, rfl, ho1, ho2, hbr⟩ := hrel
        clear c1 c2 hset hbs
        by_cases hr : 0 < r
        · have hr2 : (0 : Int) < (r : Int) := by omega
          have z2 := hbr.out.size
          obtain ⟨w2, rfl⟩ : ∃ w2 : World, w2 = wr := ⟨_, rfl⟩
          have hst : Hid (Own64 (w2.alloc (.cells (madeCells #[.int .i64 0] n) 2)) w2.heap.size (.slice (some ⟨w2.heap.size, 0, none⟩) n n) (M.nextTo n (j + 1) 0)) := by rw [M.nextTo_start]; exact own64_made (w := w2) (B := w2.heap.size) (n := n) (Nat.le_refl _) (by unfold maxLen; omega)
          have hb0 : Hid (Below w2.heap.size w2 (w2.alloc (.cells (madeCells #[.int .i64 0] n) 2))) := bal (b0 w2) _
          obtain ⟨g6, rfl⟩ := own64_shape ho2.out (by omega)
          go_wp2
          go_loopw [9, 10] (fun s9 _ wr => ∃ m : Nat, m ≤ n ∧ s9 = .int .i64 (m : Int) ∧ Hid (Own64 wr w2.heap.size (.slice (some ⟨w2.heap.size, 0, none⟩) n n) (M.nextTo n (j + 1) m)) ∧ Hid (Below w2.heap.size w2 wr)) (fun s9 _ _ => 40 - (intOf s9).toNat)
          case atStart => exact ⟨0, Nat.zero_le _, rfl, hst, hb0⟩
          case round =>
            obtain ⟨m, hm, rfl, ho3, hbr3⟩ := hrel
            clear hst hb0
            by_cases hmn : m < n
            · have hmn2 : (m : Int) < (n : Int) := by omega
              have hst : Hid (Own64 wr w2.heap.size (.slice (some ⟨w2.heap.size, 0, none⟩) n n) ((M.nextTo n (j + 1) m).set m 0)) := by rw [M.nextTo_here hmn]; exact ho3.out
              go_wp2
              go_loopw [10] (fun s10 wr => ∃ (q y : Nat), 1 ≤ q ∧ q ≤ m + 1 ∧ s10 = .int .i64 (q : Int) ∧ Hid (M.sumTo (fun x => M.L (x + 1) 1 * M.L (m - 1 - x) j) (q - 1) = y) ∧ Hid (Own64 wr w2.heap.size (.slice (some ⟨w2.heap.size, 0, none⟩) n n) ((M.nextTo n (j + 1) m).set m (y : Int))) ∧ Hid (Below w2.heap.size w2 wr)) (fun s10 _ => 40 - (intOf s10).toNat)
              case atStart => exact ⟨1, 0, Nat.le_refl _, by omega, rfl, rfl, hst, hbr3⟩
              case round =>
                obtain ⟨q, y, hq1, hq, rfl, hy, ho4, hbr4⟩ := hrel
                clear hst
                have hl4 : ((M.nextTo n (j + 1) m).set m (y : Int)).length = n := by rw [List.length_set, M.nextTo_len]
                by_cases hqm : q ≤ m
                · have hqm2 : (q : Int) ≤ (m : Int) := by omega
                  obtain ⟨d, hd⟩ : ∃ d, Hid (m - q = d) := ⟨_, rfl⟩
                  have hdo := hd.out
                  obtain ⟨c1, c1f, _, _⟩ := own64_cell ho4.out hl4 (k := m) (x := (y : Int)) (List.getElem?_set_self (by rw [M.nextTo_len]; exact hmn))
                  have c2 := (own64_cell (own_be ho2.out hbr4.out) (M.cats_len n) (M.cats_at (n := n) (k := q) (by omega))).1
                  have c3 := (own64_cell (own_be ho1.out hbr4.out) (M.wayRow_len n j) (M.wayRow_at (n := n) (k := j) (m := d) (by omega))).1
                  have hy1 := M.conv_sum (m := m) (k := j) (j := q - 1) (by omega) (by omega) (by omega)
                  have hy2 := M.conv_sum (m := m) (k := j) (j := q + 1 - 1) (by omega) (by omega) (by omega)
                  have hs : Hid (M.sumTo (fun x => M.L (x + 1) 1 * M.L (m - 1 - x) j) (q + 1 - 1) = y + M.L q 1 * M.L d j) := by
                    show _ = _
                    have e1 : q + 1 - 1 = (q - 1) + 1 := by omega
                    have e2 : q - 1 + 1 = q := by omega
                    have e3 : m - 1 - (q - 1) = d := by omega
                    rw [e1, M.sumTo, hy.out, e2, e3]
                  rw [hs.out] at hy2
                  rw [hy.out] at hy1
                  generalize M.L q 1 = a at *
                  generalize M.L d j = b at *
                  obtain ⟨ad, had⟩ : ∃ ad, Hid (a * b = ad) := ⟨_, rfl⟩
                  rw [had.out] at hs hy2
                  have hmul : ((a : Int) * (b : Int)) = (ad : Int) := by rw [← had.out]; exact (Int.natCast_mul a b).symm
                  have hw1 : IntKind.i64.wrap ((a : Int) * (b : Int)) = (ad : Int) := by rw [hmul]; exact IntWalk.i64_in _ (by omega)
                  have hw2 : IntKind.i64.wrap ((y : Int) + (ad : Int)) = (y : Int) + (ad : Int) := IntWalk.i64_in _ (by omega)
                  have hw3 : IntKind.i64.wrap ((m : Int) - (q : Int)) = (d : Int) := by rw [IntWalk.i64_in _ (by omega)]; omega
                  have hi1 : (0 : Int) ≤ (d : Int) := by omega
                  have hi2 : (d : Int) < (n : Int) := by omega
                  have hi3 : (0 : Int) ≤ (q : Int) := by omega
                  have hi4 : (q : Int) < (n : Int) + 1 := by omega
                  have hset4 := own64_set ho4.out hl4 m ((y : Int) + (ad : Int))
                  rw [List.set_set] at hset4
                  have hset4 := Lib.hid hset4
                  have hb4 := Lib.hid (below_setCell (k := m) hbr4.out (Nat.le_refl _) (.int .i64 ((y : Int) + (ad : Int))))
                  have ecast : Hid (((y + ad : Nat) : Int) = (y : Int) + (ad : Int)) := Int.natCast_add y ad
                  have hl4 := Lib.hid hl4
                  clear hmul hdo ho4 hbr4
                  go_wp2
                  go_region
                  go_wp2
                  go_roundw
                  case rel => exact ⟨q + 1, y + ad, by omega, by omega, by go_num, hs, by rw [ecast.out]; exact hset4.out, hb4.out.drew⟩
                  case measure => simp [intOf]; omega
                · obtain rfl : q = m + 1 := by omega
                  have hge : ¬ ((m + 1 : Nat) : Int) ≤ (m : Int) := by omega
                  have hL : Hid (M.L m (j + 1) = y) := (M.L_first (by omega) (by omega)).trans hy.out
                  have ho5 : Hid (Own64 wr w2.heap.size (.slice (some ⟨w2.heap.size, 0, none⟩) n n) (M.nextTo n (j + 1) (m + 1))) := by rw [← M.nextTo_step hmn, hL.out]; exact ho4.out
                  clear hl4
                  go_wp2
                  go_roundw
                  case rel => exact ⟨m + 1, by omega, by go_num, ho5, hbr4⟩
                  case measure => simp [intOf]; omega
            · obtain rfl : m = n := by omega
              have hge : ¬ (m : Int) < (m : Int) := by omega
              have ho5 : Hid (Own64 wr w.heap.size (.slice (some ⟨w2.heap.size, 0, none⟩) m m) (M.wayRow m (j + 1))) := by rw [← M.nextTo_end]; exact own_mono ho3.out z2
              have ho6 := Lib.hid (own_be ho2.out hbr3.out)
              have hb6 := Lib.hid (btr hbr.out hbr3.out)
              go_wp2
              go_roundw
              case rel => exact ⟨r - 1, j + 1, w2.heap.size, by omega, by go_num, rfl, ho5, ho6, hb6⟩
              case measure => simp [intOf]; omega
        · obtain rfl : r = 0 := by omega
          obtain rfl : j = t := by omega
          have c3 := (own64_cell ho1.out (M.wayRow_len n j) (M.wayRow_at (n := n) (k := j) (m := n - 1) (by omega))).1
          rw [hd1.out] at c3
          have hw3 : (n : Int) - 1 = (d1 : Int) := by have := hd1.out; omega
          go_wp2
          go_ret2
          exact ⟨rfl, hbr.out⟩
end Go.Proofs.Ytdaghbfejcjknab
