/- GrownTree, the program's and the model's: the tree that a list grows, its growth, or a code. -/
import Derived.Test.YtdgcjkgbglofbaaGrownF
import Derived.Test.YtdgcjkgbglofbaaGrownBy
import Derived.Test.YtdgcjkgbglofbaaWalkSp
import Derived.Test.YtdgcjkgbglofbaaFirst
namespace Go.Proofs.Ytdgcjkgbglofbaa
open Go.RowKit

/-- a list to a tree, a list and a code -/
def GivesGrown (f : Nat) (F : List Int → List Int × List Int × Int) : Prop :=
  ∀ (A : Option Addr) (xs : List Int) (c : Nat) (w : World), xs.length ≤ 1048576 → Ints w w.heap.size A xs →
    Calls Try.prog f #[.slice A xs.length c] w fun e w' => ∃ A1 c1 A2 c2, e = .returned (.tuple #[.agg #[.slice A1 (F xs).1.length c1], .slice A2 (F xs).2.1.length c2, .int .i64 (F xs).2.2]) ∧
      Two w' w.heap.size (.slice A1 (F xs).1.length c1) (.slice A2 (F xs).2.1.length c2) (F xs).1 (F xs).2.1 ∧ Below w.heap.size w w'
theorem two_nilG (w : World) (B : Nat) : Two w B (.slice none 0 0) (.slice none 0 0) [] [] := ⟨own64_nil w B, own64_nil w B, fun b hb => by simp [Value.ownBlock] at hb⟩
theorem two_farG {w : World} {B g k : Nat} {v1 v2 : Value} {xs ys : List Int} (h : Two w B v1 v2 xs ys) (hg : g < B) (u : Value) : Two (w.setCell ⟨g, k, none⟩ u) B v1 v2 xs ys := ⟨own_far h.1 hg u, own_far h.2.1 hg u, h.2.2⟩
theorem two_monoG {w : World} {B B' : Nat} {v1 v2 : Value} {xs ys : List Int} (h : Two w B v1 v2 xs ys) (hB : B' ≤ B) : Two w B' v1 v2 xs ys := ⟨own_mono h.1 hB, own_mono h.2.1 hB, h.2.2⟩

set_option maxRecDepth 100000 in
set_option maxHeartbeats 8000000 in
theorem impl_GrownTree : GivesGrown 155 F_GrownTree := by
  intro A l c w hl0 hI0
  have hI := Lib.hid hI0
  clear hI0
  obtain ⟨W, hW⟩ : ∃ W, W = w.alloc (.cells #[.slice none 0 0] 26) := ⟨_, rfl⟩
  have hbW : Hid (Below w.heap.size w W) := by rw [hW]; exact bal (b0 w) _
  have hzW : W.heap.size = w.heap.size + 1 := by rw [hW]; simp
  have hr0 : Hid (W.heap[w.heap.size]? = some (.cells #[.slice none 0 0] 26 (0, 0))) := by rw [hW]; exact heap_alloc_new w _
  have hrc := cell_of_one hr0.out
  have hrf := free_of_one hr0.out
  obtain ⟨D, G, r, hF⟩ : ∃ D G r, Hid (F_GrownTree l = (D, G, r)) := ⟨_, _, _, rfl⟩
  rw [hF.out]
  by_cases hl : l.length ≤ 23
  · have hlen : ¬ (24 : Int) ≤ (l.length : Int) := by omega
    go_enter Try.func155, Try.ntmps155
    go_wp2
    rw [← hW]
    clear hW
    go_loopw [15] (fun i wr => ∃ k : Nat, k ≤ l.length ∧ i = .int .i64 (k : Int) ∧ Hid (∀ j x, j < k → l[j]? = some x → 0 ≤ x ∧ x ≤ (j : Int)) ∧ W = wr) (fun i _ => l.length - (intOf i).toNat)
    case atStart => exact ⟨0, Nat.zero_le _, rfl, fun j x h => by omega, rfl⟩
    case round =>
      obtain ⟨k, hk, rfl, hok, rfl⟩ := hrel
      by_cases hlt : k < l.length
      · obtain ⟨b, off, x, rfl, hbB, hcx, hX⟩ := (hI.out.below hbW.out (Nat.le_refl _)).at_ hlt
        have hk0 : (0 : Int) ≤ (k : Int) := by omega
        have hki : (k : Int) < (l.length : Int) := by omega
        by_cases hx : 0 ≤ x ∧ x ≤ (k : Int)
        · have hd : Hid ((decide ((0 : Int) ≤ x) && decide (x ≤ (k : Int))) = true) := by simp [Hid, hx]
          have hok2 : Hid (∀ j y, j < k + 1 → l[j]? = some y → 0 ≤ y ∧ y ≤ (j : Int)) := fun j y hj hy => by
            rcases Nat.lt_or_ge j k with h | h
            · exact hok.out j y h hy
            · obtain rfl : j = k := by omega
              have := hX.out.symm.trans hy
              injection this with this
              subst this
              exact hx
          clear hX hok hx
          go_wp2_with fail
          refine (withinAny _ _ _ _ _ hd).mono ?_
          rintro e w1 ⟨rfl, rfl⟩
          go_wp2
          go_roundw
          case rel => exact ⟨k + 1, by omega, by go_num, hok2, by first | rfl | trivial⟩
          case measure => simp [intOf]; omega
        · have hd : Hid ((decide ((0 : Int) ≤ x) && decide (x ≤ (k : Int))) = false) := by
            show _ = _
            rw [Bool.and_eq_false_iff, decide_eq_false_iff_not, decide_eq_false_iff_not]
            omega
          have e1 := hF.out.symm.trans (F_GrownTree_no (M.growsB_no hX.out hx))
          injection e1 with e1 e2
          injection e2 with e2 e3
          subst e1
          subst e2
          subst e3
          clear hX hok hx hF
          go_wp2_with fail
          refine (withinAny _ _ _ _ _ hd).mono ?_
          rintro e w1 ⟨rfl, rfl⟩
          have HB := Lib.hid (below_setCell (g := w.heap.size) (k := 0) hbW.out (Nat.le_refl _) (.slice none 0 0))
          go_wp2
          refine bodyPost_ret (v := .tuple #[.agg #[.slice none 0 0], .slice none 0 0, .int .i64 2]) (by simp [results, Try.results155, go_sem, hrc]) rfl ?_
          exact ⟨none, 0, none, 0, rfl, two_nilG _ _, HB.out⟩
      · obtain rfl : k = l.length := by omega
        have hg : Hid (M.Grows l) := fun j x hx => hok.out j x (List.getElem?_eq_some_iff.1 hx).1 hx
        have e1 := hF.out.symm.trans (F_GrownTree_yes hl hg.out)
        injection e1 with e1 e2
        injection e2 with e2 e3
        subst e1
        subst e2
        subst e3
        clear hF
        have hge : ¬ (l.length : Int) < (l.length : Int) := by omega
        clear hok
        go_wp2_with fail
        refine (grownBy A l c _ hl hg (hI.out.be hbW.out)).mono ?_
        rintro e w2 ⟨A1, n1, c1, A2, n2, c2, rfl, hT, hb⟩
        obtain rfl := own64_len hT.out.1
        obtain rfl := own64_len hT.out.2.1
        have hr2 := (hb.out.block w.heap.size (by omega)).trans hr0.out
        have hrc2 := cell_of_one hr2
        have hrf2 := free_of_one hr2
        have F1 := Lib.hid (two_monoG (B' := w.heap.size) (two_farG (g := w.heap.size) (k := 0) hT.out (by omega) (.slice A1 (M.W l 0).1.length c1)) (by omega))
        have F2 := Lib.hid (below_setCell (g := w.heap.size) (k := 0) (hbW.out.trans (hb.out.mono (by omega))) (Nat.le_refl _) (.slice A1 (M.W l 0).1.length c1))
        clear hT hb hr2 hr0 hrc hrf
        go_wp2
        refine bodyPost_ret (v := .tuple #[.agg #[.slice A1 (M.W l 0).1.length c1], .slice A2 (M.posRow l).length c2, .int .i64 0]) (by simp [results, Try.results155, go_sem, hrc2]) rfl ?_
        exact ⟨A1, c1, A2, c2, rfl, F1.out, F2.out⟩
  · have hlen : (24 : Int) ≤ (l.length : Int) := by omega
    have e1 := hF.out.symm.trans (F_GrownTree_long hl)
    injection e1 with e1 e2
    injection e2 with e2 e3
    subst e1
    subst e2
    subst e3
    clear hF
    go_enter Try.func155, Try.ntmps155
    go_wp2
    refine bodyPost_ret (v := .tuple #[.agg #[.slice none 0 0], .slice none 0 0, .int .i64 2]) (by simp [results, Try.results155, go_sem]) rfl ?_
    rw [← hW]
    exact ⟨none, 0, none, 0, rfl, two_nilG _ _, hbW.out⟩
set_option maxRecDepth 100000 in
set_option maxHeartbeats 8000000 in
theorem spec_GrownTree : GivesGrown 153 F_GrownTree := by
  intro A l c w hl0 hI0
  have hI := Lib.hid hI0
  clear hI0
  obtain ⟨W, hW⟩ : ∃ W, W = w.alloc (.cells #[.slice none 0 0] 26) := ⟨_, rfl⟩
  have hbW : Hid (Below w.heap.size w W) := by rw [hW]; exact bal (b0 w) _
  have hzW : W.heap.size = w.heap.size + 1 := by rw [hW]; simp
  have hr0 : Hid (W.heap[w.heap.size]? = some (.cells #[.slice none 0 0] 26 (0, 0))) := by rw [hW]; exact heap_alloc_new w _
  have hrc := cell_of_one hr0.out
  have hrf := free_of_one hr0.out
  obtain ⟨D, G, r, hF⟩ : ∃ D G r, Hid (F_GrownTree l = (D, G, r)) := ⟨_, _, _, rfl⟩
  rw [hF.out]
  by_cases hl : l.length ≤ 23
  · have hlen : ¬ (23 : Int) < (l.length : Int) := by omega
    go_enter Try.func153, Try.ntmps153
    go_wp2
    rw [← hW]
    clear hW
    go_loopw [5] (fun i wr => ∃ k : Nat, k ≤ l.length ∧ i = .int .i64 (k : Int) ∧ Hid (∀ j x, j < k → l[j]? = some x → 0 ≤ x ∧ x ≤ (j : Int)) ∧ W = wr) (fun i _ => l.length - (intOf i).toNat)
    case atStart => exact ⟨0, Nat.zero_le _, rfl, fun j x h => by omega, rfl⟩
    case round =>
      obtain ⟨k, hk, rfl, hok, rfl⟩ := hrel
      by_cases hlt : k < l.length
      · obtain ⟨b, off, x, rfl, hbB, hcx, hX⟩ := (hI.out.below hbW.out (Nat.le_refl _)).at_ hlt
        have hk0 : (0 : Int) ≤ (k : Int) := by omega
        have hki : (k : Int) < (l.length : Int) := by omega
        by_cases hx : 0 ≤ x ∧ x ≤ (k : Int)
        · have hd : Hid ((decide ((0 : Int) ≤ x) && decide (x ≤ (k : Int))) = true) := by simp [Hid, hx]
          have hok2 : Hid (∀ j y, j < k + 1 → l[j]? = some y → 0 ≤ y ∧ y ≤ (j : Int)) := fun j y hj hy => by
            rcases Nat.lt_or_ge j k with h | h
            · exact hok.out j y h hy
            · obtain rfl : j = k := by omega
              have := hX.out.symm.trans hy
              injection this with this
              subst this
              exact hx
          clear hX hok hx
          go_wp2_with fail
          refine (inAny _ _ _ _ _ hd).mono ?_
          rintro e w1 ⟨rfl, rfl⟩
          go_wp2
          go_roundw
          case rel => exact ⟨k + 1, by omega, by go_num, hok2, by first | rfl | trivial⟩
          case measure => simp [intOf]; omega
        · have hd : Hid ((decide ((0 : Int) ≤ x) && decide (x ≤ (k : Int))) = false) := by
            show _ = _
            rw [Bool.and_eq_false_iff, decide_eq_false_iff_not, decide_eq_false_iff_not]
            omega
          have e1 := hF.out.symm.trans (F_GrownTree_no (M.growsB_no hX.out hx))
          injection e1 with e1 e2
          injection e2 with e2 e3
          subst e1
          subst e2
          subst e3
          clear hX hok hx hF
          go_wp2_with fail
          refine (inAny _ _ _ _ _ hd).mono ?_
          rintro e w1 ⟨rfl, rfl⟩
          have HB := Lib.hid (below_setCell (g := w.heap.size) (k := 0) hbW.out (Nat.le_refl _) (.slice none 0 0))
          go_wp2
          refine bodyPost_ret (v := .tuple #[.agg #[.slice none 0 0], .slice none 0 0, .int .i64 2]) (by simp [results, Try.results153, go_sem, hrc]) rfl ?_
          exact ⟨none, 0, none, 0, rfl, two_nilG _ _, HB.out⟩
      · obtain rfl : k = l.length := by omega
        have hg : Hid (M.Grows l) := fun j x hx => hok.out j x (List.getElem?_eq_some_iff.1 hx).1 hx
        have e1 := hF.out.symm.trans (F_GrownTree_yes hl hg.out)
        injection e1 with e1 e2
        injection e2 with e2 e3
        subst e1
        subst e2
        subst e3
        clear hF
        have hge : ¬ (l.length : Int) < (l.length : Int) := by omega
        clear hok
        go_wp2_with fail
        refine (walkAt l A c hl hg (l.length + 1) 0 (Nat.zero_le _) (by omega) W (Lib.hid (hI.out.be hbW.out))).mono ?_
        rintro e w2 ⟨A1, n1, c1, A2, n2, c2, rfl, hT, hb⟩
        obtain rfl := own64_len hT.out.1
        obtain rfl := own64_len hT.out.2.1
        have hWc := M.W_count hg.out
        have hr2 := Lib.hid ((hb.out.block w.heap.size (by omega)).trans hr0.out)
        have hbw2 := Lib.hid (hbW.out.trans (hb.out.mono (by omega)))
        have hmk := run_make_row' (P := Try.prog) (w := w2) 24 2 (.int .i64 0) 8 Try.underlying24 info64 rfl .i64 .i64 (M.W l 0).2.length (by omega) (by omega)
        obtain ⟨g2, rfl⟩ := hT.out.symm.shape.2 (by omega)
        have hz2 : w.heap.size + 1 ≤ w2.heap.size := by have := hb.out.size; omega
        have hm0 : Hid (Own64 (w2.alloc (.cells (madeCells #[.int .i64 0] (M.W l 0).2.length) 2)) w2.heap.size (.slice (some ⟨w2.heap.size, 0, none⟩) (M.W l 0).2.length (M.W l 0).2.length) (M.ordR l 0)) := by
          rw [M.ordR_zero, ← hWc]
          exact own64_made (Nat.le_refl _) (by unfold maxLen; omega)
        have hT2 := Lib.hid (fun (X : World) (hX : Below w2.heap.size w2 X) => (show Hid (Two X W.heap.size (.slice A1 (M.W l 0).1.length c1) (.slice (some ⟨g2, 0, none⟩) (M.W l 0).2.length c2) (M.W l 0).1 (M.W l 0).2) from ⟨own_below hT.out.1 hX (Nat.le_refl _), own_below hT.out.2.1 hX (Nat.le_refl _), hT.out.2.2⟩))
        have hlt1 : Hid (∀ b, (Value.slice A1 (M.W l 0).1.length c1).ownBlock = some b → b < w2.heap.size) := fun b hb => (hT.out.1.lt b hb).2
        have HWc := Lib.hid hWc
        clear hrc hrf hr0 hb hT hWc
        go_wp2
        go_loopw [9] (fun i wr => ∃ r : Nat, r ≤ (M.W l 0).2.length ∧ i = .int .i64 (r : Int) ∧ Hid (Own64 wr w2.heap.size (.slice (some ⟨w2.heap.size, 0, none⟩) (M.W l 0).2.length (M.W l 0).2.length) (M.ordR l r)) ∧ Hid (Below w2.heap.size w2 wr)) (fun i _ => (M.W l 0).2.length - (intOf i).toNat)
        case atStart => exact ⟨0, Nat.zero_le _, rfl, hm0, bal (b0 w2) _⟩
        case round =>
          clear hm0 hmk
          obtain ⟨r, hr, rfl, ho, hbr⟩ := hrel
          have hWc := HWc.out
          by_cases hrl : r < (M.W l 0).2.length
          · obtain ⟨q, hq1, hq2, hq3⟩ := M.W_labels hg.out (r := r) (by omega)
            have hTr := hT2.out _ hbr.out
            have cq := (own64_cell hTr.out.2.1 rfl hq1).1
            have hol : (M.ordR l r).length = (M.W l 0).2.length := by rw [M.ordR_len, hWc]
            obtain ⟨m1, m2, _, _⟩ := own64_cell ho.out hol (M.ordR_at hq2)
            have hs := Lib.hid (own64_set ho.out hol q (r : Int))
            rw [M.ordR_step hg.out hq2 hq3] at hs
            have hbs := Lib.hid (below_setCell (g := w2.heap.size) (k := q) hbr.out (Nat.le_refl _) (.int .i64 (r : Int)))
            have hr0 : (0 : Int) ≤ (r : Int) := by omega
            have hri : (r : Int) < ((M.W l 0).2.length : Int) := by omega
            have hq0 : (0 : Int) ≤ (q : Int) := by omega
            have hqi : (q : Int) < ((M.W l 0).2.length : Int) := by omega
            have hwr : IntKind.i64.wrap ((r : Int) + 1) = ((r + 1 : Nat) : Int) := by rw [IntWalk.i64_in _ (by omega)]; omega
            clear hTr hq1 hol ho hWc
            go_wp2
            go_roundw
            case rel => exact ⟨r + 1, by omega, by go_num, hs, hbs⟩
            case measure => simp [intOf]; omega
          · obtain rfl : r = (M.W l 0).2.length := by omega
            have hge2 : ¬ ((M.W l 0).2.length : Int) < ((M.W l 0).2.length : Int) := by omega
            have ho2 := ho.out
            rw [show M.ordR l (M.W l 0).2.length = M.posRow l by rw [hWc]; exact M.ordR_end hg.out] at ho2
            have hr3 := (hbr.out.block w.heap.size (by omega)).trans hr2.out
            have hrc3 := cell_of_one hr3
            have hrf3 := free_of_one hr3
            have hTr := hT2.out _ hbr.out
            have hPl : (M.posRow l).length = (M.W l 0).2.length := by rw [M.posRow_len, hWc]
            rw [← hPl] at ho2 ⊢
            have hT9 : Two wr (w.heap.size + 1) (.slice A1 (M.W l 0).1.length c1) (.slice (some ⟨w2.heap.size, 0, none⟩) (M.posRow l).length (M.posRow l).length) (M.W l 0).1 (M.posRow l) :=
              ⟨own_mono hTr.out.1 (by omega), own_mono ho2 (by omega), fun b hb1 hb2 => by
                have h1 := hlt1.out b hb1
                have hb2' : w2.heap.size = b := by simpa [Value.ownBlock] using hb2
                omega⟩
            have F1 := Lib.hid (two_monoG (B' := w.heap.size) (two_farG (g := w.heap.size) (k := 0) hT9 (by omega) (.slice A1 (M.W l 0).1.length c1)) (by omega))
            have F2 := Lib.hid (below_setCell (g := w.heap.size) (k := 0) (hbw2.out.trans (hbr.out.mono (by omega))) (Nat.le_refl _) (.slice A1 (M.W l 0).1.length c1))
            clear hT9 ho2 ho hr3 hTr hWc hPl
            go_wp2
            refine bodyPost_ret (v := .tuple #[.agg #[.slice A1 (M.W l 0).1.length c1], .slice (some ⟨w2.heap.size, 0, none⟩) (M.posRow l).length (M.posRow l).length, .int .i64 0]) (by simp [results, Try.results153, go_sem, hrc3]) rfl ?_
            exact ⟨A1, c1, some ⟨w2.heap.size, 0, none⟩, (M.posRow l).length, rfl, F1.out, F2.out⟩
  · have hlen : (23 : Int) < (l.length : Int) := by omega
    have e1 := hF.out.symm.trans (F_GrownTree_long hl)
    injection e1 with e1 e2
    injection e2 with e2 e3
    subst e1
    subst e2
    subst e3
    clear hF
    go_enter Try.func153, Try.ntmps153
    go_wp2
    refine bodyPost_ret (v := .tuple #[.agg #[.slice none 0 0], .slice none 0 0, .int .i64 2]) (by simp [results, Try.results153, go_sem]) rfl ?_
    rw [← hW]
    exact ⟨none, 0, none, 0, rfl, two_nilG _ _, hbW.out⟩
end Go.Proofs.Ytdgcjkgbglofbaa
