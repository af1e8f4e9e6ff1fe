/- TreeOfDepths, the program's and the model's: the tree of depths, or a code. -/
import Derived.Test.YtbnnlifpldgcfaaDepthsMo
import Derived.Test.YtbnnlifpldgcfaaGives2
namespace Go.Proofs.Ytbnnlifpldgcfaa
open Go.RowKit

def F_TreeOfDepths (l : List Int) : List Int × Int := M.treeOfDepths l
theorem F_TreeOfDepths_len (l : List Int) : (F_TreeOfDepths l).1.length ≤ 1048576 := M.treeOfDepths_len l
theorem F_TreeOfDepths_no {l : List Int} (h : ¬ 24 < l.length) (hb : degB l = false) : F_TreeOfDepths l = ([], 4) := by
  refine M.treeOfDepths_no h ?_
  have := of_decide_eq_false hb
  by_cases h1 : M.okTo l l.length = true
  · exact .inr (by have h2 : ¬ 0 < l.length := fun e => this ⟨h1, e⟩; omega)
  · exact .inl (by simpa using h1)
theorem F_TreeOfDepths_yes {l : List Int} (h : ¬ 24 < l.length) (hb : degB l = true) : F_TreeOfDepths l = (M.degTo l l.length l.length, 0) := by
  have := of_decide_eq_true hb
  exact M.treeOfDepths_yes h this.1 this.2

set_option maxHeartbeats 4000000 in
set_option maxRecDepth 100000 in
theorem impl_TreeOfDepths : GivesTreeI 18 F_TreeOfDepths := by
  intro A l c w hx hcc h hR
  obtain ⟨W0, hW0⟩ : ∃ W0, w.alloc (.cells #[.slice none 0 0] 24) = W0 := ⟨_, rfl⟩
  have hBW : Hid (Below w.heap.size w W0) := by rw [← hW0]; exact bal (b0 w) _
  have hcell : Hid (W0.heap[w.heap.size]? = some (.cells #[.slice none 0 0] 24 (0, 0))) := by rw [← hW0]; exact World.alloc_heap_new w _
  have hz0 : w.heap.size < W0.heap.size := by rw [← hW0]; simp
  have HW := Lib.hid hW0
  clear hW0
  by_cases hl : 24 < l.length
  · have hF : F_TreeOfDepths l = ([], 2) := M.treeOfDepths_long hl
    rw [hF]
    have hl2 : (24 : Int) < (l.length : Int) := by omega
    have hrc := cell_of_one hcell.out
    have hrf := free_of_one hcell.out
    clear hF
    go_enter Try.func18, Try.ntmps18
    go_wp2_with fail
    rw [HW.out]
    go_wp2
    refine bodyPost_ret (v := .tuple #[.agg #[.slice none 0 0], .int .i64 2]) (by simp [results, Try.results18, go_sem, hrc]) rfl ?_
    exact ⟨none, 0, rfl, own64_nil _ _, hBW.out⟩
  · have hl2 : ¬ (24 : Int) < (l.length : Int) := by omega
    have HD := Lib.hid (degreesOfDepths A l l.length c W0 rfl (by omega) (Lib.hid hR) (Lib.hid (h.be hBW.out)))
    cases hb : degB l
    · have hF := F_TreeOfDepths_no hl hb
      rw [hF]
      rw [hb] at HD
      clear hF hb
      go_enter Try.func18, Try.ntmps18
      go_wp2_with fail
      rw [HW.out]
      go_wp2_with fail
      refine HD.out.mono ?_
      rintro e w1 ⟨A', m', c', rfl, _, hb1⟩
      have hc1 := (hb1.out.block w.heap.size hz0).trans hcell.out
      have hrc := cell_of_one hc1
      have hrf := free_of_one hc1
      have hB1 := Lib.hid (btr hBW.out hb1.out)
      clear hc1 hb1 HD
      go_wp2
      refine bodyPost_ret (v := .tuple #[.agg #[.slice none 0 0], .int .i64 4]) (by simp [results, Try.results18, go_sem, hrc]) rfl ?_
      exact ⟨none, 0, rfl, own64_nil _ _, below_setCell hB1.out (Nat.le_refl _) _⟩
    · have hF := F_TreeOfDepths_yes hl hb
      rw [hF]
      have Hb := Lib.hid hb
      rw [hb] at HD
      have hdl : Hid ((M.degTo l l.length l.length).length = l.length) := M.degTo_len _ _ _
      clear hF hb
      go_enter Try.func18, Try.ntmps18
      go_wp2_with fail
      rw [HW.out]
      go_wp2_with fail
      refine HD.out.mono ?_
      rintro e w1 ⟨A', m', c', rfl, hq, hb1⟩
      obtain ⟨hm, ho⟩ := hq Hb.out
      subst hm
      have Ho := Lib.hid ho
      have hc1 := (hb1.out.block w.heap.size hz0).trans hcell.out
      have hrc := cell_of_one hc1
      have hrf := free_of_one hc1
      have hB1 := Lib.hid (btr hBW.out hb1.out)
      clear hc1 hb1 HD hq ho
      go_wp2
      refine bodyPost_ret (v := .tuple #[.agg #[.slice A' l.length c'], .int .i64 0]) (by simp [results, Try.results18, go_sem, hrc]) rfl ?_
      show ∃ A2 c2, _ = Ending.returned (.tuple #[.agg #[.slice A2 (M.degTo l l.length l.length).length c2], _]) ∧ Own64 _ _ (.slice A2 (M.degTo l l.length l.length).length c2) _ ∧ _
      rw [hdl.out]
      exact ⟨A', c', rfl, own_mono (own_far Ho.out hz0 _) (Nat.le_of_lt hz0), below_setCell hB1.out (Nat.le_refl _) _⟩

set_option maxHeartbeats 4000000 in
set_option maxRecDepth 100000 in
theorem spec_TreeOfDepths : GivesTreeI 16 F_TreeOfDepths := by
  intro A l c w hx hcc h hR
  obtain ⟨W0, hW0⟩ : ∃ W0, w.alloc (.cells #[.slice none 0 0] 24) = W0 := ⟨_, rfl⟩
  have hBW : Hid (Below w.heap.size w W0) := by rw [← hW0]; exact bal (b0 w) _
  have hcell : Hid (W0.heap[w.heap.size]? = some (.cells #[.slice none 0 0] 24 (0, 0))) := by rw [← hW0]; exact World.alloc_heap_new w _
  have hz0 : w.heap.size < W0.heap.size := by rw [← hW0]; simp
  have HW := Lib.hid hW0
  clear hW0
  by_cases hl : 24 < l.length
  · have hF : F_TreeOfDepths l = ([], 2) := M.treeOfDepths_long hl
    rw [hF]
    have hl2 : (24 : Int) < (l.length : Int) := by omega
    have hrc := cell_of_one hcell.out
    have hrf := free_of_one hcell.out
    clear hF
    go_enter Try.func16, Try.ntmps16
    go_wp2_with fail
    rw [HW.out]
    go_wp2
    refine bodyPost_ret (v := .tuple #[.agg #[.slice none 0 0], .int .i64 2]) (by simp [results, Try.results16, go_sem, hrc]) rfl ?_
    exact ⟨none, 0, rfl, own64_nil _ _, hBW.out⟩
  · have hl2 : ¬ (24 : Int) < (l.length : Int) := by omega
    have HD := Lib.hid (l05OfDepths A l l.length c W0 rfl (by omega) (Lib.hid hR) (Lib.hid (h.be hBW.out)))
    cases hb : degB l
    · have hF := F_TreeOfDepths_no hl hb
      rw [hF]
      rw [hb] at HD
      clear hF hb
      go_enter Try.func16, Try.ntmps16
      go_wp2_with fail
      rw [HW.out]
      go_wp2_with fail
      refine HD.out.mono ?_
      rintro e w1 ⟨A', m', c', rfl, _, hb1⟩
      have hc1 := (hb1.out.block w.heap.size hz0).trans hcell.out
      have hrc := cell_of_one hc1
      have hrf := free_of_one hc1
      have hB1 := Lib.hid (btr hBW.out hb1.out)
      have hc2 : (w1.alloc (.cells #[.slice A' m' c'] 24)).heap[w.heap.size]? = some (.cells #[.slice none 0 0] 24 (0, 0)) := (Below.heap_alloc _ _ _ (by have := hb1.out.size; omega)).trans hc1
      have hrc2 := cell_of_one hc2
      have hrf2 := free_of_one hc2
      clear hc1 hb1 HD hrc hrf hc2
      go_wp2
      refine bodyPost_ret (v := .tuple #[.agg #[.slice none 0 0], .int .i64 4]) (by simp [results, Try.results16, go_sem, hrc2]) rfl ?_
      exact ⟨none, 0, rfl, own64_nil _ _, below_setCell (bal hB1.out _) (Nat.le_refl _) _⟩
    · have hF := F_TreeOfDepths_yes hl hb
      rw [hF]
      have Hb := Lib.hid hb
      rw [hb] at HD
      have hdl : Hid ((M.degTo l l.length l.length).length = l.length) := M.degTo_len _ _ _
      clear hF hb
      go_enter Try.func16, Try.ntmps16
      go_wp2_with fail
      rw [HW.out]
      go_wp2_with fail
      refine HD.out.mono ?_
      rintro e w1 ⟨A', m', c', rfl, hq, hb1⟩
      obtain ⟨hm, ho⟩ := hq Hb.out
      subst hm
      have Ho := Lib.hid ho
      have hc1 := (hb1.out.block w.heap.size hz0).trans hcell.out
      have hB1 := Lib.hid (btr hBW.out hb1.out)
      have hc2 : (w1.alloc (.cells #[.slice A' l.length c'] 24)).heap[w.heap.size]? = some (.cells #[.slice none 0 0] 24 (0, 0)) := (Below.heap_alloc _ _ _ (by have := hb1.out.size; omega)).trans hc1
      have hrc2 := cell_of_one hc2
      have hrf2 := free_of_one hc2
      clear hc1 hb1 HD hq ho hc2
      go_wp2
      refine bodyPost_ret (v := .tuple #[.agg #[.slice A' l.length c'], .int .i64 0]) (by simp [results, Try.results16, go_sem, hrc2]) rfl ?_
      show ∃ A2 c2, _ = Ending.returned (.tuple #[.agg #[.slice A2 (M.degTo l l.length l.length).length c2], _]) ∧ Own64 _ _ (.slice A2 (M.degTo l l.length l.length).length c2) _ ∧ _
      rw [hdl.out]
      exact ⟨A', c', rfl, own_mono (own_far (Ho.out.alloc _) hz0 _) (Nat.le_of_lt hz0), below_setCell (bal hB1.out _) (Nat.le_refl _) _⟩
end Go.Proofs.Ytbnnlifpldgcfaa
