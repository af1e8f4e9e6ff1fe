/- slices.Grow of nil and slices.Concat: the parts one after the other, in a row of its own. -/
import Derived.Test.YtdgcjkgbglofbaaApp
import Derived.Test.YtdgcjkgbglofbaaTree
import Derived.Lib.AppendZeros
import Derived.RangeFuncRecord
import Derived.WalkSpells
namespace Go.Proofs.Ytdgcjkgbglofbaa
open Go.RowKit

namespace M
def catTo (X : Nat → List Int) : Nat → List Int
  | 0 => []
  | k + 1 => catTo X k ++ X k
theorem catTo_len (X : Nat → List Int) {k : Nat} (h : ∀ j, j < k → (X j).length ≤ 24) : (catTo X k).length ≤ 24 * k := by
  induction k with
  | zero => simp [catTo]
  | succ k ih =>
    have := ih fun j hj => h j (by omega)
    have := h k (by omega)
    simp only [catTo, List.length_append]
    omega
end M

set_option maxHeartbeats 1000000 in
set_option maxRecDepth 100000 in
theorem growNil (n : Nat) (w : World) (hn1 : 1 ≤ n) (hn : n ≤ 1000) :
    Calls Try.prog 277 #[.slice none 0 0, .int .i64 (n : Int)] w fun e w' => ∃ A' c', e = .returned (.slice A' 0 c') ∧ Own64 w' w.heap.size (.slice A' 0 c') [] ∧ Below w.heap.size w w' := by
  obtain ⟨i0, hi0, hz0, hz1, hz2⟩ := info_parts info64
  have hr : ∀ ty, _ := fun ty => Lib.run_append_nil_zeros (P := Try.prog) w 24 3 ty 2 i0 (.int .i64 0) .i64 .i64 Try.underlying24 Try.underlying3 hi0 hz0 n (by omega) (by omega) (by omega) (by rw [hz2]; omega)
  have hG : n ≤ grownCap w n 0 2 := grownCap_ge w _ _ _
  have hG2 : grownCap w n 0 2 ≤ maxLen := grownCap_le_maxLen w n 0 2 (by unfold maxLen; omega)
  generalize grownCap w n 0 2 = G at *
  have hG3 : G ≤ 9223372036854775807 := by unfold maxLen at hG2; omega
  have ho : Hid (Own64 (w.drew.alloc (.cells (Builtin.zeroCells (Value.int .i64 0).cells n ++ Builtin.zeroCells (Value.int .i64 0).cells (G - n)) 2)) w.heap.size (.slice (some ⟨w.heap.size, 0, none⟩) 0 G) []) := by
    refine ⟨by simp, .inr ⟨w.heap.size, G, _, by simp, Nat.le_refl _, World.alloc_heap_new w.drew _, by simp, hG2, ?_, by simp⟩⟩
    simp [Builtin.zeroCells, Value.cells]
    omega
  have hb : Hid (Below w.heap.size w (w.drew.alloc (.cells (Builtin.zeroCells (Value.int .i64 0).cells n ++ Builtin.zeroCells (Value.int .i64 0).cells (G - n)) 2))) := (Below.refl _ _).drew.alloc (Nat.le_refl _) _
  go_enter Try.func277, Try.ntmps277
  go_wp2_with (at_builtin; refine Lib.wpList_append_run _ rfl _ _ _ _ rfl _ _ rfl rfl _ _ (hr _) ?_)
  go_ret
  exact ⟨_, _, rfl, ho.out, hb.out⟩

/-- block g holds k slices: slice j reads X j -/
def Parts (w : World) (g k : Nat) (X : Nat → List Int) : Prop := ∀ j, j < k → ∃ A c, w.cell? ⟨g, j, none⟩ = some (.slice A (X j).length c) ∧ Ints w w.heap.size A (X j) ∧ (A = none → c = 0)
theorem Parts.be {w w' : World} {g k : Nat} {X : Nat → List Int} (h : Parts w g k X) (hg : g < w.heap.size) (hb : Below w.heap.size w w') : Parts w' g k X := fun j hj => by
  obtain ⟨A, c, h1, h2, h3⟩ := h j hj
  exact ⟨A, c, (hb.cell (p := ⟨g, j, none⟩) hg).trans h1, h2.be hb, h3⟩

set_option maxHeartbeats 2000000 in
set_option maxRecDepth 100000 in
theorem concat (g k : Nat) (X : Nat → List Int) (w : World) (hk : k ≤ 3) (hX : Hid (∀ j, j < k → (X j).length ≤ 24)) (hg : g < w.heap.size) (hP : Hid (Parts w g k X)) :
    Calls Try.prog 192 #[.slice (some ⟨g, 0, none⟩) k k] w fun e w' => ∃ A' c' n, e = .returned (.slice A' n c') ∧ Own64 w' w.heap.size (.slice A' n c') (M.catTo X k) ∧ Below w.heap.size w w' := by
  go_enter Try.func192, Try.ntmps192
  go_wp2
  go_loop [3, 5, 11] (fun s3 _ i => ∃ (j y : Nat), j ≤ k ∧ i = .int .i64 (j : Int) ∧ s3 = .int .i64 (y : Int) ∧ Hid ((M.catTo X j).length = y)) (fun _ _ i => k - (intOf i).toNat)
  case atStart => exact ⟨0, 0, Nat.zero_le _, rfl, rfl, rfl⟩
  case round =>
    obtain ⟨j, y, hj, rfl, rfl, hy⟩ := hrel
    have hyl := M.catTo_len X (k := j) fun i hi => hX.out i (by omega)
    rw [hy.out] at hyl
    by_cases hlt : j < k
    · have hlt2 : (j : Int) < (k : Int) := by omega
      obtain ⟨A, c, k1, k2, k3⟩ := hP.out j hlt
      have hxl := hX.out j hlt
      have hs : Hid ((M.catTo X (j + 1)).length = y + (X j).length) := by show _ = _; rw [M.catTo, List.length_append, hy.out]
      obtain ⟨m, hm⟩ : ∃ m, Hid ((X j).length = m) := ⟨_, rfl⟩
      rw [hm.out] at k1 hxl hs
      have hs2 : ¬ (y : Int) + (m : Int) < 0 := by omega
      clear k2 k3
      go_wp2
      go_round
      case rel => exact ⟨j + 1, y + m, by omega, by go_num, by go_num, hs⟩
      case measure => simp [intOf]; omega
    · obtain rfl : j = k := by omega
      have hge : ¬ (j : Int) < (j : Int) := by omega
      have hG : Hid (∃ _ : Unit, Calls Try.prog 277 #[.slice none 0 0, .int .i64 (y : Int)] w fun e w' => ∃ A' c', e = .returned (.slice A' 0 c') ∧ Own64 w' w.heap.size (.slice A' 0 c') [] ∧ Below w.heap.size w w') := by
        rcases Nat.eq_zero_or_pos y with h0 | h0
        · subst h0
          refine ⟨(), ?_⟩
          go_enter Try.func277, Try.ntmps277
          go_wp2
          go_ret
          exact ⟨none, 0, rfl, own64_nil _ _, Below.refl _ _⟩
        · exact ⟨(), growNil y w h0 (by omega)⟩
      obtain ⟨_, hG⟩ := hG.out
      have HG := Lib.hid hG
      clear hG
      go_wp2_with fail
      refine HG.out.mono ?_
      rintro e w1 ⟨A1, c1, rfl, ho1, hb1⟩
      have Ho1 := Lib.hid ho1
      have Hb1 := Lib.hid hb1
      clear ho1 hb1 HG
      go_wp2
      go_loopw [6, 8, 27] (fun q _ i wr => ∃ (t n : Nat) (A' : Option Addr) (c' : Nat), t ≤ j ∧ i = .int .i64 (t : Int) ∧ q = .slice A' n c' ∧ n ≤ 1000 ∧ Hid (Own64 wr w.heap.size (.slice A' n c') (M.catTo X t)) ∧ Hid (Below w.heap.size w wr)) (fun _ _ i _ => j - (intOf i).toNat)
      case atStart => exact ⟨0, 0, A1, c1, Nat.zero_le _, rfl, rfl, by omega, Ho1, Hb1⟩
      case round =>
        obtain ⟨t, n, A', c', ht, rfl, rfl, hn, ho, hbr⟩ := hrel
        clear Ho1 Hb1
        by_cases htj : t < j
        · have htj2 : (t : Int) < (j : Int) := by omega
          obtain ⟨A, c, k1, k2, k3⟩ := (hP.out.be hg hbr.out) t htj
          have hxl := hX.out t htj
          have hzr := hbr.out.size
          obtain ⟨m, hm⟩ : ∃ m, Hid ((X t).length = m) := ⟨_, rfl⟩
          have hsrc := Lib.hid k2
          have hz := Lib.hid k3
          rw [hm.out] at k1 hxl
          have hnt : n ≤ 72 := by
            have h5 := own64_len ho.out
            have h6 := M.catTo_len X (k := t) fun i hi => hX.out i (by omega)
            omega
          clear k2 k3
          go_wp2_with (at_builtin; refine appendInts rfl (.tmp 31) (.tmp 32) rfl wr w.heap.size A' n c' (M.catTo X t) A m c (X t) rfl rfl ho hsrc hm hz hzr (by omega) (by omega) ?_; intro A3 c3 w3 ho3 hb3)
          go_roundw
          case rel => exact ⟨t + 1, n + m, A3, c3, by omega, by go_num, rfl, by omega, ho3, hbr.out.trans hb3.out⟩
          case measure => simp [intOf]; omega
        · obtain rfl : t = j := by omega
          have hge3 : ¬ (t : Int) < (t : Int) := by omega
          go_wp2
          go_ret
          exact ⟨A', c', n, rfl, ho.out, hbr.out⟩
end Go.Proofs.Ytdgcjkgbglofbaa
