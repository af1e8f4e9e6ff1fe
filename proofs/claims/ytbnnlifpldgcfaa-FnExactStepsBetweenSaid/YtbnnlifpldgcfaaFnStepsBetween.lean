/- StepsBetween, the program's and the model's: the distance, or a code. -/
import Derived.Test.YtbnnlifpldgcfaaWayIn
import Derived.Test.YtbnnlifpldgcfaaParentsIn
import Derived.Test.YtbnnlifpldgcfaaGives2
namespace Go.Proofs.Ytbnnlifpldgcfaa
open Go.RowKit

set_option maxHeartbeats 4000000 in
set_option maxRecDepth 100000 in
theorem impl_StepsBetween : GivesNum2 32 M.stepsBetween := by
  intro A xs c v u w hx hcc h
  obtain ⟨r, hr⟩ : ∃ r, Hid (M.code xs [v, u] = r) := ⟨_, rfl⟩
  have hc := codeOf A (some ⟨w.heap.size + 1, 0, none⟩) xs [v, u] c 2 ((w.alloc (.cells #[.slice A xs.length c] 24)).alloc (.cells #[.int .i64 v, .int .i64 u] 2)) (by omega) (by simp) ((h.al _).al _) (by have := ints_new (w.alloc (.cells #[.slice A xs.length c] 24)) #[.int .i64 v, .int .i64 u] [v, u] rfl; simpa using this) r hr
  simp only [List.length_cons, List.length_nil, Nat.zero_add, Nat.reduceAdd] at hc
  have HC := Lib.hid hc
  clear hc
  by_cases h0 : r = 0
  · subst h0
    have hn1 := M.code_node hr.out
    have hn2 := M.code_node hn1.2.2
    have Ht := Lib.hid (M.code_tree hr.out)
    have hlen := (M.tree_len Ht.out).2
    obtain ⟨v, rfl⟩ := Int.eq_ofNat_of_zero_le hn1.1
    obtain ⟨u, rfl⟩ := Int.eq_ofNat_of_zero_le hn2.1
    have hvl : v < xs.length := by simpa using hn1.2.1
    have hul : u < xs.length := by simpa using hn2.2.1
    have hF : M.stepsBetween xs (v : Int) (u : Int) = ((M.dist xs v u : Int), 0) := M.stepsBetween_yes hr.out
    rw [hF]
    clear hF hn1 hn2
    obtain ⟨D, hD⟩ : ∃ D, Hid (M.dist xs v u = D) := ⟨_, rfl⟩
    rw [hD.out]
    go_enter Try.func32, Try.ntmps32
    go_wp2_with fail
    refine HC.out.mono ?_
    rintro e w1 ⟨rfl, hb⟩
    have hB := Lib.hid (btr (bal (bal (b0 w) _) _) hb)
    have HcellA := Lib.hid (show w1.cell? ⟨w.heap.size, 0, none⟩ = some (.slice A xs.length c) from cell_be (cell_al (by simp) _) hb)
    have hcA := HcellA.out
    have h1 := Lib.hid (((h.al _).al _).be hb)
    clear hb h HC
    go_wp2_with fail
    refine ((callsIn_wide (n := 5)).1 (parentsIn_in A xs c _ hcc.1 hcc.2 Ht h1.out)).mono ?_
    rintro e w2 ⟨A', c', ps, rfl, hok, ho, hb⟩
    have hB2 := Lib.hid (btr hB.out hb)
    have z2 := hB2.out.size
    have HW := Lib.hid (distanceIn A' xs ps c' v u w2 Ht hok hvl hul (Lib.hid (ints_of_own64 ho)) D hD)
    clear ho hb hok hcA
    go_wp2_with fail
    refine HW.out.mono ?_
    rintro e w3 ⟨rfl, hb3⟩
    have hB3 := Lib.hid (btr hB2.out hb3.out)
    clear hb3 HW
    go_wp2
    go_ret2
    exact ⟨rfl, hB3.out⟩
  · have hF : M.stepsBetween xs v u = (0, r) := by rw [M.stepsBetween_no (by rw [hr.out]; exact h0), hr.out]
    rw [hF]
    have hq : (r != 0) = true := by simp [h0]
    clear hF h0
    go_enter Try.func32, Try.ntmps32
    go_wp2_with fail
    refine HC.out.mono ?_
    rintro e w1 ⟨rfl, hb⟩
    have hB := btr (bal (bal (b0 w) _) _) hb
    go_wp2
    go_ret2
    exact ⟨rfl, hB⟩

set_option maxHeartbeats 4000000 in
set_option maxRecDepth 100000 in
theorem spec_StepsBetween : GivesNum2 31 M.stepsBetween := by
  intro A xs c v u w hx hcc h
  obtain ⟨r, hr⟩ : ∃ r, Hid (M.code xs [v, u] = r) := ⟨_, rfl⟩
  have hc := l01Nodes A (some ⟨w.heap.size + 1, 0, none⟩) xs [v, u] c 2 ((w.alloc (.cells #[.slice A xs.length c] 24)).alloc (.cells #[.int .i64 v, .int .i64 u] 2)) (by omega) (by simp) ((h.al _).al _) (by have := ints_new (w.alloc (.cells #[.slice A xs.length c] 24)) #[.int .i64 v, .int .i64 u] [v, u] rfl; simpa using this) r hr
  simp only [List.length_cons, List.length_nil, Nat.zero_add, Nat.reduceAdd] at hc
  have HC := Lib.hid hc
  clear hc
  by_cases h0 : r = 0
  · subst h0
    have hn1 := M.code_node hr.out
    have hn2 := M.code_node hn1.2.2
    have Ht := Lib.hid (M.code_tree hr.out)
    obtain ⟨v, rfl⟩ := Int.eq_ofNat_of_zero_le hn1.1
    obtain ⟨u, rfl⟩ := Int.eq_ofNat_of_zero_le hn2.1
    have hvl : v < xs.length := by simpa using hn1.2.1
    have hul : u < xs.length := by simpa using hn2.2.1
    have hF : M.stepsBetween xs (v : Int) (u : Int) = ((M.dist xs v u : Int), 0) := M.stepsBetween_yes hr.out
    rw [hF]
    clear hF hn1 hn2
    have hl := M.way_len Ht.out (M.pars_ex Ht.out) hvl hul
    have HL := Lib.hid (fun W hW => l05Way A xs c v u W Ht hvl hul hW)
    obtain ⟨D, hD⟩ : ∃ D, M.dist xs v u = D := ⟨_, rfl⟩
    rw [hD]
    have hD2 : (((M.way xs v u).length : Nat) : Int) - 1 = (D : Int) := by rw [M.dist] at hD; omega
    generalize M.way xs v u = W at *
    clear hD
    go_enter Try.func31, Try.ntmps31
    go_wp2_with fail
    refine HC.out.mono ?_
    rintro e w1 ⟨rfl, hb⟩
    have hB := Lib.hid (btr (bal (bal (b0 w) _) _) hb)
    have hcell : w1.cell? ⟨w.heap.size, 0, none⟩ = some (.slice A xs.length c) := cell_be (cell_al (by simp) _) hb
    have h1 := Lib.hid (((h.al _).al _).be hb)
    have z1 := hB.out.size
    clear hb h HC
    go_wp2_with fail
    refine (HL.out _ h1).mono ?_
    rintro e w2 ⟨A3, c3, rfl, ho3, hb3⟩
    have hB3 := Lib.hid (btr hB.out hb3)
    clear ho3 hb3
    go_wp2
    go_ret2
    exact ⟨rfl, hB3.out⟩
  · have hF : M.stepsBetween xs v u = (0, r) := by rw [M.stepsBetween_no (by rw [hr.out]; exact h0), hr.out]
    rw [hF]
    have hq : (r != 0) = true := by simp [h0]
    clear hF h0
    go_enter Try.func31, Try.ntmps31
    go_wp2_with fail
    refine HC.out.mono ?_
    rintro e w1 ⟨rfl, hb⟩
    have hB := btr (bal (bal (b0 w) _) _) hb
    go_wp2
    go_ret2
    exact ⟨rfl, hB⟩
end Go.Proofs.Ytbnnlifpldgcfaa
