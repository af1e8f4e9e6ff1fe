/- ReachesOf, the program's and the model's: the reaches of all nodes, or a code. -/
import Derived.Test.YtbnnlifpldgcfaaReachIn
import Derived.Test.YtbnnlifpldgcfaaReachSp
import Derived.Test.YtbnnlifpldgcfaaParentsIn
namespace Go.Proofs.Ytbnnlifpldgcfaa
open Go.RowKit

noncomputable def F_ReachesOf (xs : List Int) : List Int × Int := M.cond xs (M.reaches xs)
theorem F_ReachesOf_len (xs : List Int) : (F_ReachesOf xs).1.length ≤ 1048576 := by
  cases ht : M.isTree xs
  · rw [F_ReachesOf, M.cond_no ht]; simp
  · rw [F_ReachesOf, M.cond_yes ht]
    have h1 : (M.reaches xs).length ≤ xs.length := Nat.le_of_eq (M.reaches_len xs)
    have h2 := (M.tree_len ht).2
    show (M.reaches xs).length ≤ _
    omega

set_option maxHeartbeats 2000000 in
set_option maxRecDepth 100000 in
theorem impl_ReachesOf : GivesList 34 F_ReachesOf := by
  intro A xs c w hx hcc h
  have hc := codeOf0 A xs c (w.alloc (.cells #[.slice A xs.length c] 24)) (by omega) (h.al _) _ rfl
  cases ht : M.isTree xs
  · rw [ht] at hc
    have HC := Lib.hid hc
    have hF : F_ReachesOf xs = ([], 1) := M.cond_no ht
    rw [hF]
    clear hc ht hF
    go_enter Try.func34, Try.ntmps34
    go_wp2_with fail
    refine HC.out.mono ?_
    rintro e w1 ⟨rfl, hb⟩
    have hB := btr (bal (b0 w) _) hb
    go_wp2
    go_ret2
    exact ⟨none, 0, rfl, own64_nil _ _, hB⟩
  · rw [ht] at hc
    have HC := Lib.hid hc
    have hF : F_ReachesOf xs = (M.reaches xs, 0) := M.cond_yes ht
    have Ht := Lib.hid ht
    have hlen := M.tree_len ht
    rw [hF]
    clear hc ht hF
    go_enter Try.func34, Try.ntmps34
    go_wp2_with fail
    refine HC.out.mono ?_
    rintro e w1 ⟨rfl, hb⟩
    have hB := Lib.hid (btr (bal (b0 w) _) hb)
    have hcell : w1.cell? ⟨w.heap.size, 0, none⟩ = some (.slice A xs.length c) := cell_be (by simp) hb
    have h1 := Lib.hid ((h.al _).be hb)
    clear hb h HC
    go_wp2_with fail
    refine ((callsIn_wide (n := 5)).1 (parentsIn_in A xs c _ hcc.1 hcc.2 Ht h1.out)).mono ?_
    rintro e w2 ⟨A', c', ps, rfl, hok, ho, hb⟩
    have hB2 := Lib.hid (btr hB.out hb)
    have z2 := hB2.out.size
    have hI2 := Lib.hid (ints_of_own64 ho)
    clear ho hb hcell
    go_wp2_with fail
    refine (reachesIn A' xs ps c' w2 Ht hok hI2).mono ?_
    rintro e w3 ⟨A3, c3, rfl, ho3, hb3⟩
    have hB3 := Lib.hid (btr hB2.out hb3.out)
    have z3 := hB3.out.size
    have Ho3 := Lib.hid (own_mono (base' := w.heap.size) ho3 z2)
    have hrl := Lib.hid (M.reaches_len xs)
    clear ho3 hb3
    go_wp2
    go_ret2
    rw [hrl.out]
    exact ⟨A3, c3, rfl, by have := Ho3.out; exact this, hB3.out⟩

set_option maxHeartbeats 2000000 in
set_option maxRecDepth 100000 in
theorem spec_ReachesOf : GivesList 33 F_ReachesOf := by
  intro A xs c w hx hcc h
  have hc := specIs A xs c (w.alloc (.cells #[.slice A xs.length c] 24)) (by omega) (h.al _)
  cases ht : M.isTree xs
  · rw [ht] at hc
    have HC := Lib.hid hc
    have hF : F_ReachesOf xs = ([], 1) := M.cond_no ht
    rw [hF]
    clear hc ht hF
    go_enter Try.func33, Try.ntmps33
    go_wp2_with fail
    refine HC.out.mono ?_
    rintro e w1 ⟨rfl, hb⟩
    have hB := btr (bal (b0 w) _) hb
    go_wp2
    go_ret2
    exact ⟨none, 0, rfl, own64_nil _ _, hB⟩
  · rw [ht] at hc
    have HC := Lib.hid hc
    have hF : F_ReachesOf xs = (M.reaches xs, 0) := M.cond_yes ht
    have Ht := Lib.hid ht
    have hlen := M.tree_len ht
    rw [hF]
    clear hc ht hF
    go_enter Try.func33, Try.ntmps33
    go_wp2_with fail
    refine HC.out.mono ?_
    rintro e w1 ⟨rfl, hb⟩
    have hB2 := Lib.hid (btr (bal (b0 w) _) hb)
    have hcell : w1.cell? ⟨w.heap.size, 0, none⟩ = some (.slice A xs.length c) := cell_be (by simp) hb
    have h1 := Lib.hid ((h.al _).be hb)
    have z2 := hB2.out.size
    clear hb h HC
    go_wp2_with fail
    refine (l05Reaches A xs c _ Ht h1).mono ?_
    rintro e w3 ⟨A3, c3, rfl, ho3, hb3⟩
    have hB3 := Lib.hid (btr hB2.out hb3.out)
    have z3 := hB3.out.size
    have Ho3 := Lib.hid (own_mono (base' := w.heap.size) ho3 z2)
    have hrl := Lib.hid (M.reaches_len xs)
    clear ho3 hb3
    go_wp2
    go_ret2
    rw [hrl.out]
    exact ⟨A3, c3, rfl, by have := Ho3.out; exact this, hB3.out⟩
end Go.Proofs.Ytbnnlifpldgcfaa
