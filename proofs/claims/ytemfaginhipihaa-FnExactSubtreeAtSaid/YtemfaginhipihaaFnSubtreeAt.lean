/- SubtreeAt, the program's and the model's: the degrees of a subtree in a row of its own, or a code. -/
import Derived.Test.YtemfaginhipihaaCopy
namespace Go.Proofs.Ytemfaginhipihaa
open Go.RowKit

def F_SubtreeAt : List Int → Int → List Int × Int := M.subtreeAt
theorem F_SubtreeAt_len (xs : List Int) (v : Int) : (F_SubtreeAt xs v).1.length ≤ 1048576 := by
  by_cases h : M.code xs [v] = 0
  · obtain ⟨h0, h1, _⟩ := M.code_node h
    obtain ⟨n, rfl⟩ := Int.eq_ofNat_of_zero_le h0
    have hl := (M.tree_len (M.code_tree h)).2
    have h2 := M.span_le (xs.drop n) 1
    simp only [List.length_drop] at h2
    simp only [F_SubtreeAt]
    rw [M.subtreeAt_yes h, M.sub_length]
    omega
  · simp only [F_SubtreeAt]
    rw [M.subtreeAt_no h]
    simp

set_option maxHeartbeats 1000000 in
set_option maxRecDepth 100000 in
theorem impl_SubtreeAt : GivesTree1 48 F_SubtreeAt := by
  intro A xs c v w hx hcc h
  obtain ⟨r, hr⟩ : ∃ r, Hid (M.code xs [v] = r) := ⟨_, rfl⟩
  have hc := codeOf A (some ⟨w.heap.size + 2, 0, none⟩) xs [v] c 1 (((w.alloc (.cells #[.slice A xs.length c] 26)).alloc (.cells #[.slice none 0 0] 26)).alloc (.cells #[.int .i64 v] 2)) (by omega) (by simp) (((h.al _).al _).al _) (by have := ints_new ((w.alloc (.cells #[.slice A xs.length c] 26)).alloc (.cells #[.slice none 0 0] 26)) #[.int .i64 v] [v] rfl; simpa using this) r hr
  simp only [List.length_cons, List.length_nil, Nat.zero_add] at hc
  have HC := Lib.hid hc
  clear hc
  by_cases h0 : r = 0
  · subst h0
    have hn := M.code_node hr.out
    have ht := M.code_tree hr.out
    have hlen := (M.tree_len ht).2
    obtain ⟨n, rfl⟩ := Int.eq_ofNat_of_zero_le hn.1
    have hnl : n < xs.length := by simpa using hn.2.1
    have hF : F_SubtreeAt xs n = (M.sub xs n, 0) := M.subtreeAt_yes hr.out
    obtain ⟨E, hE⟩ : ∃ E, Hid (n + M.span 1 (xs.drop n) = E) := ⟨_, rfl⟩
    have hsl : Hid ((M.sub xs n).length = E - n) := by show _ = _; rw [M.sub_length]; have := hE.out; omega
    have hok := Lib.hid (M.tree_ok ht hnl)
    have hEn := M.end_le (xs := xs) (v := n) (by omega)
    rw [hE.out] at hEn
    rw [hF]
    clear hF hn ht
    go_enter Try.func48, Try.ntmps48
    go_wp2_with fail
    refine HC.out.mono ?_
    rintro e w1 ⟨rfl, hb⟩
    have hB := Lib.hid (btr (bal (bal (bal (b0 w) _) _) _) hb)
    have hcell : w1.cell? ⟨w.heap.size, 0, none⟩ = some (.slice A xs.length c) := cell_be (cell_al (cell_al (by simp) _) _) hb
    have hres : Hid (w1.heap[w.heap.size + 1]? = some (.cells #[.slice none 0 0] 26 (0, 0))) := (hb.block (w.heap.size + 1) (by simp)).trans (by
      have h1 := World.alloc_heap_new (w.alloc (.cells #[.slice A xs.length c] 26)) (.cells #[.slice none 0 0] 26)
      rw [World.size_alloc] at h1
      exact (Below.heap_alloc _ _ _ (by simp)).trans h1)
    have h1 := Lib.hid ((((h.al _).al _).al _).be hb)
    have z1 : w.heap.size + 1 < w1.heap.size := lt_of_block hres.out
    clear hb h HC
    go_wp2_with fail
    refine (partAt A xs c n E _ hE hlen hcc.1 hcc.2 hok h1.out).mono ?_
    rintro e w' ⟨⟨b, off, rfl, rfl⟩, rfl⟩
    have hi : Hid (Ints w1 w1.heap.size (some ⟨b, off + n, none⟩) (M.sub xs n)) := ints_sub h1.out n (M.span 1 (xs.drop n))
    have hl24 : E - n ≤ 1000000 := by omega
    go_wp2_with fail
    refine (clone _ (M.sub xs n) (E - n) _ _ hsl hl24 hi).mono ?_
    rintro e w2 ⟨A', c', rfl, ho, hb⟩
    have hB2 := Lib.hid (btr hB.out hb)
    have Ho := Lib.hid ho
    have hr2 : w2.cell? ⟨w.heap.size + 1, 0, none⟩ = some (.slice none 0 0) := cell_of_one ((hb.block _ z1).trans hres.out)
    have hf2 : w2.frozen? ⟨w.heap.size + 1, 0, none⟩ = false := free_of_one ((hb.block _ z1).trans hres.out)
    clear ho hb hcell
    go_wp2
    refine bodyPost_ret (v := .tuple #[.agg #[.slice A' (E - n) c'], .int .i64 0]) (by simp [results, Try.results48, go_sem, hr2]) rfl ?_
    rw [hsl.out]
    exact ⟨A', c', rfl, own_mono (own_far Ho.out z1 _) (by omega), below_setCell hB2.out (by omega) _⟩
  · have hF : F_SubtreeAt xs v = ([], r) := by rw [← hr.out]; exact M.subtreeAt_no (by rw [hr.out]; exact h0)
    rw [hF]
    have hq : (r != 0) = true := by simp [h0]
    clear hF h0
    go_enter Try.func48, Try.ntmps48
    go_wp2_with fail
    refine HC.out.mono ?_
    rintro e w1 ⟨rfl, hb⟩
    have hB := Lib.hid (btr (bal (bal (bal (b0 w) _) _) _) hb)
    have hres : Hid (w1.heap[w.heap.size + 1]? = some (.cells #[.slice none 0 0] 26 (0, 0))) := (hb.block (w.heap.size + 1) (by simp)).trans (by
      have h1 := World.alloc_heap_new (w.alloc (.cells #[.slice A xs.length c] 26)) (.cells #[.slice none 0 0] 26)
      rw [World.size_alloc] at h1
      exact (Below.heap_alloc _ _ _ (by simp)).trans h1)
    have hr2 := cell_of_one hres.out
    have hf2 := free_of_one hres.out
    clear hb
    go_wp2
    refine bodyPost_ret (v := .tuple #[.agg #[.slice none 0 0], .int .i64 r]) (by simp [results, Try.results48, go_sem, hr2]) rfl ?_
    exact ⟨none, 0, rfl, own64_nil _ _, below_setCell hB.out (by omega) _⟩

set_option maxHeartbeats 1000000 in
set_option maxRecDepth 100000 in
theorem spec_SubtreeAt : GivesTree1 71 F_SubtreeAt := by
  intro A xs c v w hx hcc h
  obtain ⟨r, hr⟩ : ∃ r, Hid (M.code xs [v] = r) := ⟨_, rfl⟩
  have hc := l01Nodes A (some ⟨w.heap.size + 2, 0, none⟩) xs [v] c 1 (((w.alloc (.cells #[.slice A xs.length c] 26)).alloc (.cells #[.slice none 0 0] 26)).alloc (.cells #[.int .i64 v] 2)) (by omega) (by simp) (((h.al _).al _).al _) (by have := ints_new ((w.alloc (.cells #[.slice A xs.length c] 26)).alloc (.cells #[.slice none 0 0] 26)) #[.int .i64 v] [v] rfl; simpa using this) r hr
  simp only [List.length_cons, List.length_nil, Nat.zero_add] at hc
  have HC := Lib.hid hc
  clear hc
  by_cases h0 : r = 0
  · subst h0
    have hn := M.code_node hr.out
    have ht := M.code_tree hr.out
    have hlen := (M.tree_len ht).2
    obtain ⟨n, rfl⟩ := Int.eq_ofNat_of_zero_le hn.1
    have hnl : n < xs.length := by simpa using hn.2.1
    have hF : F_SubtreeAt xs n = (M.sub xs n, 0) := M.subtreeAt_yes hr.out
    obtain ⟨E, hE⟩ : ∃ E, Hid (n + M.span 1 (xs.drop n) = E) := ⟨_, rfl⟩
    have hsl : Hid ((M.sub xs n).length = E - n) := by show _ = _; rw [M.sub_length]; have := hE.out; omega
    have Ht := Lib.hid ht
    rw [hF]
    clear hF hn ht
    go_enter Try.func71, Try.ntmps71
    go_wp2_with fail
    refine HC.out.mono ?_
    rintro e w1 ⟨rfl, hb⟩
    have hB := Lib.hid (btr (bal (bal (bal (b0 w) _) _) _) hb)
    have hcell : w1.cell? ⟨w.heap.size, 0, none⟩ = some (.slice A xs.length c) := cell_be (cell_al (cell_al (by simp) _) _) hb
    have hres : Hid (w1.heap[w.heap.size + 1]? = some (.cells #[.slice none 0 0] 26 (0, 0))) := (hb.block (w.heap.size + 1) (by simp)).trans (by
      have h1 := World.alloc_heap_new (w.alloc (.cells #[.slice A xs.length c] 26)) (.cells #[.slice none 0 0] 26)
      rw [World.size_alloc] at h1
      exact (Below.heap_alloc _ _ _ (by simp)).trans h1)
    have h1 := Lib.hid ((((h.al _).al _).al _).be hb)
    have z1 : w.heap.size + 1 < w1.heap.size := lt_of_block hres.out
    clear hb h HC
    go_wp2_with fail
    refine (l01Subtree A xs c n E _ hlen hcc.1 Ht hnl hE h1.out).mono ?_
    rintro e w2 ⟨A', c', rfl, ho, hb⟩
    have hB2 := Lib.hid (btr hB.out hb)
    have Ho := Lib.hid ho
    have hr2 : w2.cell? ⟨w.heap.size + 1, 0, none⟩ = some (.slice none 0 0) := cell_of_one ((hb.block _ z1).trans hres.out)
    have hf2 : w2.frozen? ⟨w.heap.size + 1, 0, none⟩ = false := free_of_one ((hb.block _ z1).trans hres.out)
    clear ho hb hcell
    go_wp2
    refine bodyPost_ret (v := .tuple #[.agg #[.slice A' (E - n) c'], .int .i64 0]) (by simp [results, Try.results71, go_sem, hr2]) rfl ?_
    rw [hsl.out]
    exact ⟨A', c', rfl, own_mono (own_far Ho.out z1 _) (by omega), below_setCell hB2.out (by omega) _⟩
  · have hF : F_SubtreeAt xs v = ([], r) := by rw [← hr.out]; exact M.subtreeAt_no (by rw [hr.out]; exact h0)
    rw [hF]
    have hq : (r != 0) = true := by simp [h0]
    clear hF h0
    go_enter Try.func71, Try.ntmps71
    go_wp2_with fail
    refine HC.out.mono ?_
    rintro e w1 ⟨rfl, hb⟩
    have hB := Lib.hid (btr (bal (bal (bal (b0 w) _) _) _) hb)
    have hres : Hid (w1.heap[w.heap.size + 1]? = some (.cells #[.slice none 0 0] 26 (0, 0))) := (hb.block (w.heap.size + 1) (by simp)).trans (by
      have h1 := World.alloc_heap_new (w.alloc (.cells #[.slice A xs.length c] 26)) (.cells #[.slice none 0 0] 26)
      rw [World.size_alloc] at h1
      exact (Below.heap_alloc _ _ _ (by simp)).trans h1)
    have hr2 := cell_of_one hres.out
    have hf2 := free_of_one hres.out
    clear hb
    go_wp2
    refine bodyPost_ret (v := .tuple #[.agg #[.slice none 0 0], .int .i64 r]) (by simp [results, Try.results71, go_sem, hr2]) rfl ?_
    exact ⟨none, 0, rfl, own64_nil _ _, below_setCell hB.out (by omega) _⟩
end Go.Proofs.Ytemfaginhipihaa
