/- l01Parents: the model's row of parents. -/
import Derived.Test.YtdgcjkgbglofbaaKids
import Derived.Test.YtdgcjkgbglofbaaTwo
import Derived.Test.YtdgcjkgbglofbaaPar
namespace Go.Proofs.Ytdgcjkgbglofbaa
open Go.RowKit

namespace M
def PartP (xs : List Int) (k j : Nat) (ps : List Int) : Prop :=
  ps.length = xs.length ∧ ps[0]? = some (-1) ∧ (∀ p c, p < k → IsKid xs p c → ps[c]? = some (p : Int)) ∧ (∀ i, i < j → ps[kidAt xs k i]? = some (k : Int))
def ParsOK (xs ps : List Int) : Prop := ps.length = xs.length ∧ ps[0]? = some (-1) ∧ ∀ p c, IsKid xs p c → ps[c]? = some (p : Int)
theorem partP_start {xs : List Int} (ht : isTree xs = true) : PartP xs 0 0 ((List.replicate xs.length (0 : Int)).set 0 (-1)) := by
  have := (tree_len ht).1
  refine ⟨by simp, ?_, fun p c h => by omega, fun i h => by omega⟩
  rw [List.getElem?_set_self (by simp; omega)]
theorem partP_step {xs ps : List Int} {k j d : Nat} (ht : isTree xs = true) (h : PartP xs k j ps) (hd : xs[k]? = some (d : Int)) (hj : j < d) : PartP xs k (j + 1) (ps.set (kidAt xs k j) (k : Int)) := by
  obtain ⟨h1, h2, h3, h4⟩ := h
  have hkid : IsKid xs k (kidAt xs k j) := ⟨d, j, hd, hj, rfl⟩
  have hb := kid_bounds ht hkid
  refine ⟨by simp [h1], ?_, fun p c hp hc => ?_, fun i hi => ?_⟩
  · rw [List.getElem?_set_ne (by omega)]; exact h2
  · have hne : kidAt xs k j ≠ c := fun e => by
      subst e
      have := kid_unique ht hc hkid
      omega
    rw [List.getElem?_set_ne hne]
    exact h3 p c hp hc
  · rcases Nat.lt_or_ge i j with h5 | h5
    · have h6 := kid_le (xs := xs) (v := k) (i := i + 1) (j := j) (by omega)
      have h7 := kid_lt ht hd (i := i) (by omega)
      have h8 := span_pos h7
      simp only [kidAt] at h6
      rw [List.getElem?_set_ne (by omega)]
      exact h4 i h5
    · obtain rfl : i = j := by omega
      rw [List.getElem?_set_self (by omega)]
theorem partP_next {xs ps : List Int} {k d : Nat} (h : PartP xs k d ps) (hd : xs[k]? = some (d : Int)) : PartP xs (k + 1) 0 ps := by
  obtain ⟨h1, h2, h3, h4⟩ := h
  refine ⟨h1, h2, fun p c hp hc => ?_, fun i h => by omega⟩
  rcases Nat.lt_or_ge p k with h5 | h5
  · exact h3 p c h5 hc
  · obtain rfl : p = k := by omega
    obtain ⟨d', i, hd', hi, rfl⟩ := hc
    rw [hd] at hd'
    injection hd' with hd'
    exact h4 i (by omega)
theorem partP_done {xs ps : List Int} (ht : isTree xs = true) (h : PartP xs xs.length 0 ps) : ParsOK xs ps :=
  ⟨h.1, h.2.1, fun p c hc => h.2.2.1 p c (by have := kid_bounds ht hc; omega) hc⟩
end M

theorem own64_made_set {w : World} {B n : Nat} (hB : B ≤ w.heap.size) (hn : n ≤ maxLen) (x : Int) :
    Own64 (w.alloc (.cells ((madeCells #[.int .i64 0] n).setIfInBounds 0 (.int .i64 x)) 2)) B (.slice (some ⟨w.heap.size, 0, none⟩) n n) ((List.replicate n 0).set 0 x) := by
  have h := World.ownsRow_lit (e := 2) (size := 1) w ((madeCells #[.int .i64 0] n).setIfInBounds 0 (.int .i64 x)) n hB hn (by simp [size_madeCells])
  rw [Array.toList_setIfInBounds, toList_madeCells_one] at h
  simpa [Own64, List.map_set] using h

set_option maxHeartbeats 4000000 in
set_option maxRecDepth 100000 in
theorem l01Parents (A : Option Addr) (xs : List Int) (c : Nat) (w : World) (ht : Hid (M.isTree xs = true)) (h : Ints w w.heap.size A xs) :
    Calls Try.prog 172 #[.agg #[.slice A xs.length c]] w fun e w' => ∃ A' c' ps, e = .returned (.slice A' xs.length c') ∧ Hid (M.ParsOK xs ps) ∧ Own64 w' w.heap.size (.slice A' xs.length c') ps ∧ Below w.heap.size w w' := by
  have hlen := M.tree_len ht.out
  have hpos : 0 < xs.length := by omega
  have hmk := run_make_row' (P := Try.prog) 24 2 (.int .i64 0) 8 Try.underlying24 info64 rfl .i64 .i64 xs.length (by omega) (by omega)
  go_enter Try.func172, Try.ntmps172
  go_wp2_with fail
  refine (l01N A xs.length c _).mono ?_
  rintro e w1 ⟨rfl, hb⟩
  have hB := Lib.hid (btr (bal (b0 w) _) hb)
  have HcellA := Lib.hid (show w1.cell? ⟨w.heap.size, 0, none⟩ = some (.slice A xs.length c) from cell_be (by simp) hb)
  have h1 := Lib.hid ((h.al _).be hb)
  have z1 := hB.out.size
  have Hstart := Lib.hid (own64_made (w := w1) (B := w1.heap.size) (n := xs.length) (Nat.le_refl _) (by unfold maxLen; omega))
  obtain ⟨c1, c2, _, _⟩ := own64_cell Hstart.out (by simp) (k := 0) (x := 0) (by simp [hpos])
  have ho0 := Lib.hid (own64_made_set (w := w1) (B := w1.heap.size) (n := xs.length) (Nat.le_refl _) (by unfold maxLen; omega) (-1))
  have hp0 := Lib.hid (M.partP_start ht.out)
  have hb0 := Lib.hid (bal (b0 w1) (.cells ((madeCells #[.int .i64 0] xs.length).setIfInBounds 0 (.int .i64 (-1))) 2))
  clear hb h Hstart
  go_wp2
  clear hmk c1 c2
  go_loopw [4, 5, 6] (fun v _ _ wr => ∃ (k : Nat) (ps : List Int), k ≤ xs.length ∧ v = .int .i64 k ∧ Hid (M.PartP xs k 0 ps) ∧ Hid (Own64 wr w1.heap.size (.slice (some ⟨w1.heap.size, 0, none⟩) xs.length xs.length) ps) ∧ Hid (Below w1.heap.size w1 wr)) (fun v _ _ _ => xs.length - (intOf v).toNat)
  case atStart => exact ⟨0, _, Nat.zero_le _, rfl, hp0, ho0, hb0⟩
  case round =>
    obtain ⟨k, ps, hk, rfl, hp, ho, hbr⟩ := hrel
    have hcr := cell_be HcellA.out hbr.out
    clear hp0 ho0 hb0
    by_cases hlt : k < xs.length
    · obtain ⟨d, hd, hd2⟩ := M.tree_degN ht.out hlt
      have Hd := Lib.hid hd
      go_wp2_with fail
      refine (l01N A xs.length c _).mono ?_
      rintro e wn ⟨rfl, hb⟩
      have hbn := Lib.hid (btr hbr.out hb)
      have hon := Lib.hid (own_be ho.out hb)
      have hcn := cell_be hcr hb
      clear hb ho hcr hd
      have I1 := Lib.hid (h1.out.be hbn.out)
      have hgl := World.ownsRow.lt hon.out w1.heap.size rfl
      go_wp2_with fail
      refine (l01Children A xs c k d _ hlen.2 ht Hd I1.out).mono ?_
      rintro e w2 ⟨A2, c2, rfl, o2, hb⟩
      have hb2 := Lib.hid (btr hbn.out hb)
      have ht2 : Hid (Two w2 w1.heap.size (.slice (some ⟨w1.heap.size, 0, none⟩) xs.length xs.length) (.slice A2 d c2) ps (M.childs xs k d)) :=
        ⟨own_be hon.out hb, own_mono o2 hbn.out.size, fun b e e2 => by
          have e1 : b = w1.heap.size := by injection e with e; exact e.symm
          have := (World.ownsRow.lt o2 b e2).1
          omega⟩
      clear hb o2 hon hcn hgl hbn hbr I1
      go_wp2
      go_loopw [6] (fun i wr => ∃ (j : Nat) (ps : List Int), j ≤ d ∧ i = .int .i64 j ∧ Hid (M.PartP xs k j ps) ∧ Hid (Two wr w1.heap.size (.slice (some ⟨w1.heap.size, 0, none⟩) xs.length xs.length) (.slice A2 d c2) ps (M.childs xs k d)) ∧ Hid (Below w1.heap.size w1 wr)) (fun i _ => d - (intOf i).toNat)
      case atStart => exact ⟨0, ps, Nat.zero_le _, rfl, hp, ht2, hb2⟩
      case round =>
        obtain ⟨j, ps, hj, rfl, hp, ht2, hbr⟩ := hrel
        by_cases hjd : j < d
        · obtain ⟨g2, rfl⟩ := ht2.out.symm.shape.2 (by omega)
          have hkl := M.kid_lt ht.out Hd.out (i := j) (by omega)
          have hcat := M.childs_at xs k hjd
          have hpl := hp.out.1
          have hstep := Lib.hid (M.partP_step ht.out hp.out Hd.out hjd)
          have hset := Lib.hid (ht2.out.set hpl (M.kidAt xs k j) (k : Int))
          have gk := (own64_cell ht2.out.2.1 (M.childs_length xs k d) hcat).1
          obtain ⟨c1, c2, _, _⟩ := own64_cell ht2.out.1 hpl (k := M.kidAt xs k j) (x := ps[M.kidAt xs k j]'(by omega)) (List.getElem?_eq_getElem (by omega))
          generalize ps[M.kidAt xs k j]'(by omega) = y at c1
          generalize M.kidAt xs k j = K at *
          clear hcat hpl ht2 hp
          go_wp2
          go_roundw
          case rel => exact ⟨j + 1, _, by omega, by go_num, hstep, hset, below_setCell hbr.out (Nat.le_refl _) _⟩
          case measure => simp [intOf]; omega
        · obtain rfl : j = d := by omega
          have hnx := Lib.hid (M.partP_next hp.out Hd.out)
          clear hp
          go_wp2
          go_roundw
          case rel => exact ⟨k + 1, ps, by omega, by go_num, hnx, ht2.out.1, hbr⟩
          case measure => simp [intOf]; omega
    · obtain rfl : k = xs.length := by omega
      go_wp2_with fail
      refine (l01N A xs.length c _).mono ?_
      rintro e wn ⟨rfl, hb⟩
      have hbn := Lib.hid (btr hbr.out hb)
      have hon := Lib.hid (own_be ho.out hb)
      have hok := Lib.hid (M.partP_done ht.out hp.out)
      clear hb ho hcr hp
      go_wp2
      go_ret
      exact ⟨_, _, ps, rfl, hok, own_mono hon.out z1, btr hB.out hbn.out⟩
end Go.Proofs.Ytdgcjkgbglofbaa
