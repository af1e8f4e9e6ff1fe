/- CentresOf, the program's and the model's: the nodes with the least reach, or a code. -/
import Derived.Test.YtbnnlifpldgcfaaReachIn
import Derived.Test.YtbnnlifpldgcfaaReachSp
import Derived.Test.YtbnnlifpldgcfaaLeastIn
import Derived.Test.YtbnnlifpldgcfaaParentsIn
namespace Go.Proofs.Ytbnnlifpldgcfaa
open Go.RowKit

noncomputable def M.centres (xs : List Int) : List Int := M.least (M.reaches xs) xs.length
noncomputable def F_CentresOf (xs : List Int) : List Int × Int := M.cond xs (M.centres xs)
theorem F_CentresOf_len (xs : List Int) : (F_CentresOf xs).1.length ≤ 1048576 := by
  cases ht : M.isTree xs
  · rw [F_CentresOf, M.cond_no ht]; simp
  · rw [F_CentresOf, M.cond_yes ht]
    have h1 : (M.centres xs).length ≤ xs.length := M.least_len _ _
    have h2 := (M.tree_len ht).2
    show (M.centres xs).length ≤ _
    omega

set_option maxHeartbeats 2000000 in
set_option maxRecDepth 100000 in
theorem impl_CentresOf : GivesList 36 F_CentresOf := by
  intro A xs c w hx hcc h
  have hc := codeOf0 A xs c (w.alloc (.cells #[.slice A xs.length c] 24)) (by omega) (h.al _) _ rfl
  cases ht : M.isTree xs
  · rw [ht] at hc
    have HC := Lib.hid hc
    have hF : F_CentresOf xs = ([], 1) := M.cond_no ht
    rw [hF]
    clear hc ht hF
    go_enter Try.func36, Try.ntmps36
    go_wp2_with fail
    refine HC.out.mono ?_
    rintro e w1 ⟨rfl, hb⟩
    have hB := btr (bal (b0 w) _) hb
    go_wp2
    go_ret2
    exact ⟨none, 0, rfl, own64_nil _ _, hB⟩
  · rw [ht] at hc
    have HC := Lib.hid hc
    have hF : F_CentresOf xs = (M.centres xs, 0) := M.cond_yes ht
    have Ht := Lib.hid ht
    have hlen := M.tree_len ht
    rw [hF]
    clear hc ht hF
    go_enter Try.func36, Try.ntmps36
    go_wp2_with fail
    refine HC.out.mono ?_
    rintro e w1 ⟨rfl, hb⟩
    have hB := Lib.hid (btr (bal (b0 w) _) hb)
    have hcell : w1.cell? ⟨w.heap.size, 0, none⟩ = some (.slice A xs.length c) := cell_be (by simp) hb
    have h1 := Lib.hid ((h.al _).be hb)
    clear hb h HC
    go_wp2_with fail
    refine ((callsIn_wide (n := 5)).1 (parentsIn_in A xs c _ hcc.1 hcc.2 Ht h1.out)).mono ?_
    rintro e w2 ⟨A', c', ps, rfl, hok, ho, hb⟩
    have hB2 := Lib.hid (btr hB.out hb)
    have z2 := hB2.out.size
    have hI2 := Lib.hid (ints_of_own64 ho)
    clear ho hb hcell
    go_wp2_with fail
    refine (reachesIn A' xs ps c' w2 Ht hok hI2).mono ?_
    rintro e w3 ⟨A3, c3, rfl, ho3, hb3⟩
    have hB3 := Lib.hid (btr hB2.out hb3.out)
    have z3 := hB3.out.size
    have HL := Lib.hid (leastPlaces A3 (M.reaches xs) xs.length c3 w3 (Lib.hid (M.reaches_len xs)) (by omega) (by omega) (Lib.hid (ints_of_own64 ho3)))
    clear ho3 hb3
    go_wp2_with fail
    refine HL.out.mono ?_
    rintro e w4 ⟨A4, c4, rfl, ho4, hb4⟩
    have hB4 := Lib.hid (btr hB3.out hb4.out)
    have Ho4 := Lib.hid (own_mono (base' := w.heap.size) ho4 z3)
    clear ho4 hb4 HL
    go_wp2
    go_ret2
    exact ⟨A4, c4, rfl, Ho4.out, hB4.out⟩

set_option maxHeartbeats 2000000 in
set_option maxRecDepth 100000 in
theorem spec_CentresOf : GivesList 35 F_CentresOf := by
  intro A xs c w hx hcc h
  have hc := specIs A xs c (w.alloc (.cells #[.slice A xs.length c] 24)) (by omega) (h.al _)
  cases ht : M.isTree xs
  · rw [ht] at hc
    have HC := Lib.hid hc
    have hF : F_CentresOf xs = ([], 1) := M.cond_no ht
    rw [hF]
    clear hc ht hF
    go_enter Try.func35, Try.ntmps35
    go_wp2_with fail
    refine HC.out.mono ?_
    rintro e w1 ⟨rfl, hb⟩
    have hB := btr (bal (b0 w) _) hb
    go_wp2
    go_ret2
    exact ⟨none, 0, rfl, own64_nil _ _, hB⟩
  · rw [ht] at hc
    have HC := Lib.hid hc
    have hF : F_CentresOf xs = (M.centres xs, 0) := M.cond_yes ht
    have Ht := Lib.hid ht
    have hlen := M.tree_len ht
    rw [hF]
    clear hc ht hF
    go_enter Try.func35, Try.ntmps35
    go_wp2_with fail
    refine HC.out.mono ?_
    rintro e w1 ⟨rfl, hb⟩
    have hB2 := Lib.hid (btr (bal (b0 w) _) hb)
    have hcell : w1.cell? ⟨w.heap.size, 0, none⟩ = some (.slice A xs.length c) := cell_be (by simp) hb
    have h1 := Lib.hid ((h.al _).be hb)
    have z2 := hB2.out.size
    clear hb h HC
    go_wp2_with fail
    refine (l05Reaches A xs c _ Ht h1).mono ?_
    rintro e w3 ⟨A3, c3, rfl, ho3, hb3⟩
    have hB3 := Lib.hid (btr hB2.out hb3.out)
    have z3 := hB3.out.size
    have HL := Lib.hid (l05Least A3 (M.reaches xs) xs.length c3 w3 (Lib.hid (M.reaches_len xs)) (by omega) (Lib.hid (ints_of_own64 ho3)))
    clear ho3 hb3
    go_wp2_with fail
    refine HL.out.mono ?_
    rintro e w4 ⟨A4, c4, rfl, ho4, hb4⟩
    have hB4 := Lib.hid (btr hB3.out hb4.out)
    have Ho4 := Lib.hid (own_mono (base' := w.heap.size) ho4 z3)
    clear ho4 hb4 HL
    go_wp2
    go_ret2
    exact ⟨A4, c4, rfl, Ho4.out, hB4.out⟩
end Go.Proofs.Ytbnnlifpldgcfaa
