/- l09Walk: what a list grows from a label on, the model's recursion. -/
import Derived.Test.YtdgcjkgbglofbaaWalkRow
import Derived.Test.YtdgcjkgbglofbaaAppTwo
namespace Go.Proofs.Ytdgcjkgbglofbaa
open Go.RowKit

theorem own64_litW {w : World} {B : Nat} (x : Int) (hB : B ≤ w.heap.size) : Own64 (w.alloc (.cells #[.int .i64 x] 2)) B (.slice (some ⟨w.heap.size, 0, none⟩) 1 1) [x] := by
  have h := World.ownsRow_lit (e := 2) (size := 1) w #[.int .i64 x] 1 hB (by simp [maxLen]) (by simp)
  simpa [Own64] using h

set_option maxRecDepth 100000 in
set_option maxHeartbeats 8000000 in
theorem walkAt (l : List Int) (A : Option Addr) (c : Nat) (hl : l.length ≤ 23) (hg : Hid (M.Grows l)) : ∀ d j, j ≤ l.length → l.length < j + d → ∀ w : World, Hid (Ints w w.heap.size A l) →
    Calls Try.prog 262 #[.slice A l.length c, .int .i64 (j : Int)] w fun e w' => ∃ A1 n1 c1 A2 n2 c2, e = .returned (.tuple #[.slice A1 n1 c1, .slice A2 n2 c2]) ∧ Hid (Two w' w.heap.size (.slice A1 n1 c1) (.slice A2 n2 c2) (M.W l j).1 (M.W l j).2) ∧ Hid (Below w.heap.size w w') := by
  intro d
  induction d with
  | zero =>
    intro j hj hd w hI
    omega
  | succ d ih0 =>
    intro j hj hd w hI
    have ih := Lib.hid ih0
    clear ih0
    obtain ⟨W, hW⟩ : ∃ W, W = (w.alloc (.cells #[.int .i64 0] 2)).alloc (.cells #[.int .i64 (j : Int)] 2) := ⟨_, rfl⟩
    have hbW : Hid (Below w.heap.size w W) := by rw [hW]; exact bal (bal (b0 w) _) _
    have hT0 : Hid (Two W w.heap.size (.slice (some ⟨w.heap.size, 0, none⟩) 1 1) (.slice (some ⟨w.heap.size + 1, 0, none⟩) 1 1) (M.WD l j 0) (M.WL l j 0)) := by
      rw [hW]
      have h1 := own64_litW (w := w) (B := w.heap.size) 0 (Nat.le_refl _)
      have h2 := own64_litW (w := w.alloc (.cells #[.int .i64 0] 2)) (B := w.heap.size) (j : Int) (by simp)
      have e1 : (w.alloc (.cells #[.int .i64 0] 2)).heap.size = w.heap.size + 1 := by simp
      rw [e1] at h2
      exact ⟨h1.alloc _, h2, fun b hb => by simp [Value.ownBlock] at hb ⊢; omega⟩
    go_enter Try.func262, Try.ntmps262
    go_wp2
    rw [← hW]
    clear hW
    go_loopw [6, 7, 8] (fun q1 q2 i wr => ∃ (k n1 c1 n2 c2 : Nat) (A1 A2 : Option Addr), k ≤ l.length ∧ i = .int .i64 ((k + 1 : Nat) : Int) ∧ q1 = .slice A1 n1 c1 ∧ q2 = .slice A2 n2 c2 ∧ Hid (Two wr w.heap.size (.slice A1 n1 c1) (.slice A2 n2 c2) (M.WD l j k) (M.WL l j k)) ∧ Hid (Below w.heap.size w wr)) (fun _ _ i _ => l.length + 1 - (intOf i).toNat)
    case atStart => exact ⟨0, 1, 1, 1, 1, _, _, Nat.zero_le _, rfl, rfl, rfl, hT0, hbW⟩
    case round =>
      clear hT0 hbW
      obtain ⟨k, n1, c1, n2, c2, A1, A2, hk, rfl, rfl, rfl, hT, hb⟩ := hrel
      by_cases hlt : k < l.length
      · have hle : ((k + 1 : Nat) : Int) ≤ (l.length : Int) := by omega
        have hwk : IntKind.i64.wrap (((k + 1 : Nat) : Int) - 1) = (k : Int) := by rw [IntWalk.i64_in _ (by omega)]; omega
        have hwk2 : IntKind.i64.wrap (((k + 1 : Nat) : Int) + 1) = ((k + 1 + 1 : Nat) : Int) := by rw [IntWalk.i64_in _ (by omega)]; omega
        obtain ⟨b, off, x, rfl, hbB, hcx, hX⟩ := (hI.out.below hb.out (Nat.le_refl _)).at_ hlt
        have hk0 : (0 : Int) ≤ (k : Int) := by omega
        have hki : (k : Int) < (l.length : Int) := by omega
        by_cases hx : x = (j : Int)
        · subst hx
          have hq : ((j : Int) == (j : Int)) = true := by simp
          have hjk := (hg.out k _ hX.out).2
          have hfew := M.WD_few hg.out hj (Nat.le_of_lt hlt)
          have hn1 := own64_len hT.out.1
          have hn2 := own64_len hT.out.2.1
          have hWl : 1 ≤ (M.WD l j k).length := by simp [M.WD]
          obtain ⟨g1, rfl⟩ := hT.out.shape.2 (by omega)
          obtain ⟨gd, gf, hg1, _⟩ := own64_cell hT.out.1 hn1.symm (M.WD_head l j k)
          have hset := Lib.hid (hT.out.set hn1.symm 0 (((M.kidsTo l j k).length : Int) + 1))
          have hDe := Lib.hid (M.WD_hit hX.out)
          have hLe := Lib.hid (M.WL_hit hX.out)
          obtain ⟨q, hq1⟩ : ∃ q, (M.kidsTo l j k).length = q := ⟨_, rfl⟩
          rw [hq1] at gd hset hDe hfew
          have hwq : IntKind.i64.wrap ((q : Int) + 1) = (q : Int) + 1 := IntWalk.i64_in _ (by omega)
          have h1n : (0 : Int) < (n1 : Int) := by omega
          have h1m : 0 < n1 := by omega
          have hbs := Lib.hid (below_setCell (g := g1) (k := 0) hb.out hg1 (.int .i64 ((q : Int) + 1)))
          have HIH := Lib.hid (ih.out (k + 1) (by omega) (by omega) (wr.setCell ⟨g1, 0, none⟩ (.int .i64 ((q : Int) + 1))) (Lib.hid (hI.out.be hbs.out)))
          have hm1 : n1 ≤ 1000000 := by omega
          have hm2 : n2 ≤ 1000000 := by omega
          have Hfew2 := Lib.hid (M.W_few hg.out (show k + 1 ≤ l.length by omega))
          have hsz : Hid (w.heap.size ≤ (wr.setCell ⟨g1, 0, none⟩ (.int .i64 ((q : Int) + 1))).heap.size) := hbs.out.size
          clear hT hfew hWl hq1 hX hn1 hn2 hjk
          go_wp2_with fail
          refine HIH.out.mono ?_
          rintro e w2 ⟨A3, n3, c3, A4, n4, c4, rfl, hT4, hb2⟩
          have hU1 := own64_len hT4.out.1
          have hU2 := own64_len hT4.out.2.1
          have hTm := Lib.hid (hset.out.be hb2.out)
          have o3 := Lib.hid (ints_of_own64 hT4.out.1)
          have o4 := hT4.out.2.1
          have z3 := Lib.hid (own64_z hT4.out.1)
          have z4 := Lib.hid (own64_z hT4.out.2.1)
          have hg1V : g1 < (wr.setCell ⟨g1, 0, none⟩ (.int .i64 ((q : Int) + 1))).heap.size := (hset.out.1.lt g1 rfl).2
          have hB2 : w.heap.size ≤ w2.heap.size := Nat.le_trans hsz.out hb2.out.size
          have O4 := Lib.hid (fun (X : World) (hX : w2.grownBy X (some g1)) => (show Hid (Ints X X.heap.size A4 (M.W l (k + 1)).2) from ints_of_own64 (own_grown o4 hX (fun k e => by injection e with e; exact .inl (by omega)))))
          have hl3 : n3 ≤ 1000000 := by have := Hfew2.out; omega
          have hl4 : n4 ≤ 1000000 := by have := Hfew2.out; omega
          have Hbb := Lib.hid (hbs.out.trans (hb2.out.mono hsz.out))
          have HU1 := Lib.hid hU1.symm
          have HU2 := Lib.hid hU2.symm
          clear hT4 hset hb2 o4 hbs hU1 hU2 HIH ih gd gf hb hcx
          go_wp2_with (first | (at_builtin; refine appTwo rfl (.tmp 38) (.tmp 39) rfl w2 w.heap.size (some ⟨g1, 0, none⟩) n1 c1 (.slice A2 n2 c2) ((M.WD l j k).set 0 ((q : Int) + 1)) (M.WL l j k) A3 n3 c3 (M.W l (k + 1)).1 rfl rfl hTm o3 HU1 z3 hB2 hm1 hl3 ?_; intro A5 c5 w3 hT5 hg5 hb5; have hT5' := Lib.hid hT5.out.symm; have hB3 := Nat.le_trans hB2 hb5.out.size; have o4 := O4.out _ hg5.out) | (at_builtin; refine appTwo rfl (.tmp 41) (.tmp 42) rfl w3 w.heap.size A2 n2 c2 (.slice A5 (n1 + n3) c5) (M.WL l j k) ((M.WD l j k).set 0 ((q : Int) + 1) ++ (M.W l (k + 1)).1) A4 n4 c4 (M.W l (k + 1)).2 rfl rfl hT5' o4 HU2 z4 hB3 hm2 hl4 ?_; intro A6 c6 w4 hT6 hg6 hb6))
          have hT7 := Lib.hid hT6.out.symm
          rw [← hDe.out, ← hLe.out] at hT7
          have hbf := Lib.hid ((Hbb.out.trans hb5.out).trans hb6.out)
          go_roundw
          case rel => exact ⟨k + 1, n1 + n3, c5, n2 + n4, c6, A5, A6, by omega, by go_num, rfl, rfl, hT7, hbf⟩
          case measure => simp [intOf]; omega
        · have hq : (x == (j : Int)) = false := by simp [hx]
          have hne : l[k]? ≠ some (j : Int) := fun e => hx (by have := hX.out; rw [e] at this; injection this with this; exact this.symm)
          rw [← M.WD_miss hne, ← M.WL_miss hne] at hT
          clear hne hX
          go_wp2
          go_roundw
          case rel => exact ⟨k + 1, n1, c1, n2, c2, A1, A2, by omega, by go_num, rfl, rfl, hT, hb⟩
          case measure => simp [intOf]; omega
      · obtain rfl : k = l.length := by omega
        have hle : ¬ ((l.length + 1 : Nat) : Int) ≤ (l.length : Int) := by omega
        rw [M.WD_end hg.out hj, M.WL_end hg.out hj] at hT
        go_wp2
        refine bodyPost_ret (v := .tuple #[.slice A1 n1 c1, .slice A2 n2 c2]) (by simp [results, Try.results262, go_sem]) rfl ?_
        exact ⟨A1, n1, c1, A2, n2, c2, rfl, hT, hb⟩
end Go.Proofs.Ytdgcjkgbglofbaa
