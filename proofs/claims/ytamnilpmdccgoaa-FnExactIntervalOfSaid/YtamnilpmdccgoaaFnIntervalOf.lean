/- IntervalOf, the program's and the model's: the first and the last node of a subtree, or a code. -/
import Derived.Test.YtamnilpmdccgoaaNodes
import Derived.Test.YtamnilpmdccgoaaGives8
import Derived.Test.YtamnilpmdccgoaaHeavy
namespace Go.Proofs.Ytamnilpmdccgoaa
open Go.RowKit

set_option maxHeartbeats 1000000 in
theorem impl_IntervalOf : GivesPair1 32 M.intervalOf := by
  intro A xs c v w hx hcc h
  obtain ⟨r, hr⟩ : ∃ r, Hid (M.code xs [v] = r) := ⟨_, rfl⟩
  have hc := codeOf A (some ⟨w.heap.size + 1, 0, none⟩) xs [v] c 1 ((w.alloc (.cells #[.slice A xs.length c] 28)).alloc (.cells #[.int .i64 v] 2)) (by omega) (by simp) ((h.al _).al _) (by have := ints_new (w.alloc (.cells #[.slice A xs.length c] 28)) #[.int .i64 v] [v] rfl; simpa using this) r hr
  simp only [List.length_cons, List.length_nil, Nat.zero_add] at hc
  have HC := Lib.hid hc
  clear hc
  by_cases h0 : r = 0
  · subst h0
    have hn := M.code_node hr.out
    have ht := M.code_tree hr.out
    have hlen := (M.tree_len ht).2
    obtain ⟨n, rfl⟩ := Int.eq_ofNat_of_zero_le hn.1
    have hv : n < xs.length := by simpa using hn.2.1
    have hk := Lib.hid (M.tree_ok ht hv)
    obtain ⟨S, hS⟩ : ∃ S, Hid (M.span 1 (xs.drop n) = S) := ⟨_, rfl⟩
    have hSb : 1 ≤ S ∧ S ≤ 24 := by
      have h1 := M.span_le (xs.drop n) 1
      have h2 := M.span_pos hv
      have h3 := hS.out
      simp only [List.length_drop] at h1
      omega
    rw [M.intervalOf_yes hr.out, hS.out]
    have hw1 : IntKind.i64.wrap ((n : Int) + (S : Int)) = (n : Int) + (S : Int) := IntWalk.i64_in _ (by omega)
    have hw2 : IntKind.i64.wrap ((n : Int) + (S : Int) - 1) = (n : Int) + (S : Int) - 1 := IntWalk.i64_in _ (by omega)
    clear hn ht
    go_enter Try.func32, Try.ntmps32
    go_wp2_with fail
    refine HC.out.mono ?_
    rintro e w1 ⟨rfl, hb⟩
    have hB := Lib.hid (btr (bal (bal (b0 w) _) _) hb)
    have hcell : w1.cell? ⟨w.heap.size, 0, none⟩ = some (.slice A xs.length c) := cell_be (cell_al (by simp) _) hb
    have h1 := Lib.hid (((h.al _).al _).be hb)
    clear hb h HC
    go_wp2_with (go_at_call 80; refine (sizeAt A xs c n S _ hS hlen hcc.1 (by omega) hk h1.out).mono ?_; rintro e w' ⟨rfl, rfl⟩)
    go_ret3
    exact ⟨rfl, hB.out⟩
  · rw [M.intervalOf_no (by rw [hr.out]; exact h0), hr.out]
    have hq : (r != 0) = true := by simp [h0]
    clear h0
    go_enter Try.func32, Try.ntmps32
    go_wp2_with fail
    refine HC.out.mono ?_
    rintro e w1 ⟨rfl, hb⟩
    have hB := btr (bal (bal (b0 w) _) _) hb
    go_wp2
    go_ret3
    exact ⟨rfl, hB⟩

set_option maxHeartbeats 1000000 in
theorem spec_IntervalOf : GivesPair1 31 M.intervalOf := by
  intro A xs c v w hx hcc h
  obtain ⟨r, hr⟩ : ∃ r, Hid (M.code xs [v] = r) := ⟨_, rfl⟩
  have hc := l01Nodes A (some ⟨w.heap.size + 1, 0, none⟩) xs [v] c 1 ((w.alloc (.cells #[.slice A xs.length c] 28)).alloc (.cells #[.int .i64 v] 2)) (by omega) (by simp) ((h.al _).al _) (by have := ints_new (w.alloc (.cells #[.slice A xs.length c] 28)) #[.int .i64 v] [v] rfl; simpa using this) r hr
  simp only [List.length_cons, List.length_nil, Nat.zero_add] at hc
  have HC := Lib.hid hc
  clear hc
  by_cases h0 : r = 0
  · subst h0
    have hn := M.code_node hr.out
    have ht := M.code_tree hr.out
    have hlen := (M.tree_len ht).2
    obtain ⟨n, rfl⟩ := Int.eq_ofNat_of_zero_le hn.1
    have hv : n < xs.length := by simpa using hn.2.1
    have hk := Lib.hid (M.tree_ok ht hv)
    obtain ⟨E, hE⟩ : ∃ E, Hid (n + M.span 1 (xs.drop n) = E) := ⟨_, rfl⟩
    have hEb : 1 ≤ E ∧ E ≤ 48 := by
      have h1 := M.span_le (xs.drop n) 1
      have h2 := M.span_pos hv
      have h3 := hE.out
      simp only [List.length_drop] at h1
      omega
    have hF : (n : Int) + (M.span 1 (xs.drop n) : Int) - 1 = (E : Int) - 1 := by have := hE.out; omega
    rw [M.intervalOf_yes hr.out, hF]
    have hw1 : IntKind.i64.wrap ((E : Int) - 1) = (E : Int) - 1 := IntWalk.i64_in _ (by omega)
    clear hn ht hF
    go_enter Try.func31, Try.ntmps31
    go_wp2_with fail
    refine HC.out.mono ?_
    rintro e w1 ⟨rfl, hb⟩
    have hB := Lib.hid (btr (bal (bal (b0 w) _) _) hb)
    have hcell : w1.cell? ⟨w.heap.size, 0, none⟩ = some (.slice A xs.length c) := cell_be (cell_al (by simp) _) hb
    have h1 := Lib.hid (((h.al _).al _).be hb)
    clear hb h HC
    go_wp2_with fail
    refine (l01End A xs c n E _ hE hlen hk h1.out).mono ?_
    rintro e w2 ⟨rfl, hb2⟩
    have hB2 := Lib.hid (btr hB.out hb2)
    clear hb2
    go_wp2
    go_ret3
    exact ⟨rfl, hB2.out⟩
  · rw [M.intervalOf_no (by rw [hr.out]; exact h0), hr.out]
    have hq : (r != 0) = true := by simp [h0]
    clear h0
    go_enter Try.func31, Try.ntmps31
    go_wp2_with fail
    refine HC.out.mono ?_
    rintro e w1 ⟨rfl, hb⟩
    have hB := btr (bal (bal (b0 w) _) _) hb
    go_wp2
    go_ret3
    exact ⟨rfl, hB⟩
end Go.Proofs.Ytamnilpmdccgoaa
