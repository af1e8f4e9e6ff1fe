/- PutIn, the program's: the tree with a node put in, or a code. -/
import Derived.Test.YtdgcjkgbglofbaaEdit
import Derived.Test.YtdgcjkgbglofbaaKids
import Derived.Test.YtdgcjkgbglofbaaFirst
import Derived.Test.YtdgcjkgbglofbaaNewBox
import Derived.Test.YtdgcjkgbglofbaaGives3
import Derived.Handy
import Derived.Deep.DeepCutAuto
namespace Go.Proofs.Ytdgcjkgbglofbaa
open Go.RowKit

/-- a box of three numbers -/
structure Box3 (w : World) (B : Nat) (x y z : Int) : Prop where
  c0 : w.cell? ⟨B, 0, none⟩ = some (.int .i64 x)
  c1 : w.cell? ⟨B, 1, none⟩ = some (.int .i64 y)
  c2 : w.cell? ⟨B, 2, none⟩ = some (.int .i64 z)
theorem Box3.be {w w' : World} {B : Nat} {x y z : Int} (h : Box3 w B x y z) (hb : Below w.heap.size w w') : Box3 w' B x y z :=
  ⟨((bcell hb).1 _ _ (World.block_lt_of_cell? _ _ h.c0)).trans h.c0, ((bcell hb).1 _ _ (World.block_lt_of_cell? _ _ h.c0)).trans h.c1, ((bcell hb).1 _ _ (World.block_lt_of_cell? _ _ h.c0)).trans h.c2⟩

theorem codeGives (A : Option Addr) (xs : List Int) (c : Nat) (v q : Int) (N : Nat) (W : World) (hN : W.heap.size = N) (hx : xs.length ≤ 1048576) (h : Hid (Ints W W.heap.size A xs)) (hq : Hid (M.code xs [v] = q)) :
    Calls Try.prog 166 #[.agg #[.slice A xs.length c], .slice (some ⟨N, 0, none⟩) 1 1] (W.alloc (.cells #[.int .i64 v] 2)) fun e w' => e = .returned (.int .i64 q) ∧ Hid (Below W.heap.size W w') := by
  subst hN
  have hc := codeOf A (some ⟨W.heap.size, 0, none⟩) xs [v] c 1 (W.alloc (.cells #[.int .i64 v] 2)) (by omega) (by simp) (h.out.al _) (ints_new W #[.int .i64 v] [v] rfl) q hq
  simp only [List.length_cons, List.length_nil, Nat.zero_add] at hc
  exact hc.mono fun e w' ⟨he, hb⟩ => ⟨he, btr (bal (b0 W) _) hb⟩

set_option maxHeartbeats 2000000 in
set_option maxRecDepth 100000 in
theorem puttingIn_code (A : Option Addr) (xs : List Int) (c : Nat) (v i k r : Int) (w : World) (hx : xs.length ≤ 1048576) (h : Ints w w.heap.size A xs) (hr : Hid (putCode xs v i k = r)) :
    Calls Try.prog 245 #[.agg #[.int .i64 v, .int .i64 i, .int .i64 k], .agg #[.slice A xs.length c]] w fun e w' => e = .returned (.int .i64 r) ∧ Below w.heap.size w w' := by
  obtain ⟨q, hq⟩ : ∃ q, Hid (M.code xs [v] = q) := ⟨_, rfl⟩
  obtain ⟨W, hW⟩ : ∃ W, W = (w.alloc (.cells #[.int .i64 v, .int .i64 i, .int .i64 k] 178)).alloc (.cells #[.slice A xs.length c] 26) := ⟨_, rfl⟩
  have hBW : Hid (Below w.heap.size w W) := by subst hW; exact bal (bal (b0 w) _) _
  have X1 : Hid (Box3 W w.heap.size v i k) := by subst hW; exact ⟨by simp [go_sem], by simp [go_sem], by simp [go_sem]⟩
  have T1 : W.cell? ⟨w.heap.size + 1, 0, none⟩ = some (.slice A xs.length c) := by subst hW; simp [go_sem]
  have I1 : Hid (Ints W W.heap.size A xs) := h.be hBW.out
  have hz : W.heap.size = w.heap.size + 1 + 1 := by subst hW; simp
  have HC := Lib.hid (codeGives A xs c v q (w.heap.size + 1 + 1) W hz hx I1 hq)
  have HW := Lib.hid hW
  obtain ⟨x0, x1, x2⟩ := X1.out
  clear hW h hz
  by_cases h0 : q = 0
  · subst h0
    have hn := M.code_node hq.out
    have ht := Lib.hid (M.code_tree hq.out)
    have hlen := (M.tree_len ht.out).2
    obtain ⟨v, rfl⟩ := Int.eq_ofNat_of_zero_le hn.1
    have hvl : v < xs.length := by simpa using hn.2.1
    obtain ⟨d, hd, hd24⟩ := M.tree_degN ht.out hvl
    have hpc : (if (decide (0 ≤ i) && decide (i ≤ (d : Int))) && (decide (0 ≤ k) && decide (k ≤ (d : Int) - i)) then (if xs.length = 24 then (3 : Int) else 0) else 2) = r := by
      have h1 := hr.out
      rw [putCode, if_pos hq.out, Int.toNat_natCast, M.deg_at hd] at h1
      exact h1
    obtain ⟨b, off, rfl, hbB, hcv⟩ := I1.out (by omega)
    have hdc := hcv v _ hd
    have hv0 : (0 : Int) ≤ (v : Int) := by omega
    have hv1 : (v : Int) < (xs.length : Int) := by omega
    have HD : Hid (∀ w', Hid (Below W.heap.size W w') → w'.cell? ⟨b, off + v, none⟩ = some (.int .i64 (d : Int))) := fun w' hb => ((bcell hb.out).1 _ _ hbB).trans hdc
    have hq0 : ((0 : Int) != 0) = false := by simp
    have Hpc := Lib.hid hpc
    clear hn hr hcv hdc hpc hd
    cases hb1 : decide (0 ≤ i) && decide (i ≤ (d : Int))
    · have e : r = 2 := by have := Hpc.out; rw [hb1] at this; simpa using this.symm
      subst e
      have Hb1 := Lib.hid hb1
      clear hb1
      go_enter Try.func245, Try.ntmps245
      go_wp2_with fail
      rw [← HW.out]
      refine HC.out.mono ?_
      rintro e w1 ⟨rfl, hb⟩
      have B1 := Lib.hid (btr hBW.out hb.out)
      obtain ⟨y0, y1, y2⟩ := X1.out.be hb.out
      have T2 := cell_be T1 hb.out
      have dc := HD.out _ hb
      clear x0 x1 x2 T1
      go_wp2_with fail
      refine (withinAny _ _ _ _ _ Hb1).mono ?_
      rintro e w' ⟨rfl, rfl⟩
      go_wp2
      go_ret
      exact ⟨rfl, B1⟩
    · have Hb1 := Lib.hid hb1
      have hi : 0 ≤ i ∧ i ≤ (d : Int) := by simpa using hb1
      have es : IntKind.i64.wrap ((d : Int) - i) = (d : Int) - i := IntWalk.i64_in _ (by omega)
      cases hb2 : decide (0 ≤ k) && decide (k ≤ (d : Int) - i)
      · have e : r = 2 := by have := Hpc.out; rw [hb1, hb2] at this; simpa using this.symm
        subst e
        have Hb2 := Lib.hid hb2
        clear hb1 hb2
        go_enter Try.func245, Try.ntmps245
        go_wp2_with fail
        rw [← HW.out]
        refine HC.out.mono ?_
        rintro e w1 ⟨rfl, hb⟩
        have B1 := Lib.hid (btr hBW.out hb.out)
        obtain ⟨y0, y1, y2⟩ := X1.out.be hb.out
        have T2 := cell_be T1 hb.out
        have dc := HD.out _ hb
        clear x0 x1 x2 T1
        go_wp2_with fail
        refine (withinAny _ _ _ _ _ Hb1).mono ?_
        rintro e w' ⟨rfl, rfl⟩
        go_wp2_with fail
        refine (withinAny _ _ _ _ _ Hb2).mono ?_
        rintro e w' ⟨rfl, rfl⟩
        go_wp2
        go_ret
        exact ⟨rfl, B1⟩
      · have Hb2 := Lib.hid hb2
        have hr2 : (if xs.length = 24 then (3 : Int) else 0) = r := by have := Hpc.out; rw [hb1, hb2] at this; simpa using this
        clear hb1 hb2
        by_cases hl : xs.length = 24
        · rw [if_pos hl] at hr2
          subst hr2
          have hle : ((xs.length : Int) == 24) = true := by simp; omega
          have Hl := Lib.hid hl
          clear hl
          go_enter Try.func245, Try.ntmps245
          go_wp2_with fail
          rw [← HW.out]
          refine HC.out.mono ?_
          rintro e w1 ⟨rfl, hb⟩
          have B1 := Lib.hid (btr hBW.out hb.out)
          obtain ⟨y0, y1, y2⟩ := X1.out.be hb.out
          have T2 := cell_be T1 hb.out
          have dc := HD.out _ hb
          clear x0 x1 x2 T1
          go_wp2_with fail
          refine (withinAny _ _ _ _ _ Hb1).mono ?_
          rintro e w' ⟨rfl, rfl⟩
          go_wp2_with fail
          refine (withinAny _ _ _ _ _ Hb2).mono ?_
          rintro e w' ⟨rfl, rfl⟩
          go_wp2
          go_ret
          exact ⟨rfl, B1⟩
        · rw [if_neg hl] at hr2
          subst hr2
          have hle : ((xs.length : Int) == 24) = false := by simp; omega
          have Hl := Lib.hid hl
          clear hl
          go_enter Try.func245, Try.ntmps245
          go_wp2_with fail
          rw [← HW.out]
          refine HC.out.mono ?_
          rintro e w1 ⟨rfl, hb⟩
          have B1 := Lib.hid (btr hBW.out hb.out)
          obtain ⟨y0, y1, y2⟩ := X1.out.be hb.out
          have T2 := cell_be T1 hb.out
          have dc := HD.out _ hb
          clear x0 x1 x2 T1
          go_wp2_with fail
          refine (withinAny _ _ _ _ _ Hb1).mono ?_
          rintro e w' ⟨rfl, rfl⟩
          go_wp2_with fail
          refine (withinAny _ _ _ _ _ Hb2).mono ?_
          rintro e w' ⟨rfl, rfl⟩
          go_wp2
          go_ret
          exact ⟨rfl, B1⟩
  · have hr2 : q = r := by have := hr.out; rw [putCode, hq.out, if_neg h0] at this; exact this
    subst hr2
    have hq2 : (q != 0) = true := by simp [h0]
    clear hr
    go_enter Try.func245, Try.ntmps245
    go_wp2_with fail
    rw [← HW.out]
    refine HC.out.mono ?_
    rintro e w1 ⟨rfl, hb⟩
    have B1 := Lib.hid (btr hBW.out hb.out)
    go_wp2
    go_ret
    exact ⟨rfl, B1⟩
end Go.Proofs.Ytdgcjkgbglofbaa
