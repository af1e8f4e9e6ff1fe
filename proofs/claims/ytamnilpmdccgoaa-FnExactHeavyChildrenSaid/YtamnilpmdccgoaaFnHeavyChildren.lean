/- HeavyChildren, the program's and the model's: the heavy children, or a code. -/
import Derived.Test.YtamnilpmdccgoaaHeavyIn
import Derived.Test.YtamnilpmdccgoaaGives
namespace Go.Proofs.Ytamnilpmdccgoaa
open Go.RowKit

def F_HeavyChildren (xs : List Int) : List Int × Int := M.cond xs (M.heavy xs)
theorem F_HeavyChildren_len (xs : List Int) : (F_HeavyChildren xs).1.length ≤ 1048576 := by
  cases ht : M.isTree xs
  · rw [F_HeavyChildren, M.cond_no ht]; simp
  · rw [F_HeavyChildren, M.cond_yes ht]
    have h2 := (M.tree_len ht).2
    show (M.heavy xs).length ≤ _
    rw [M.heavy_len]
    omega

set_option maxHeartbeats 2000000 in
theorem impl_HeavyChildren : GivesList 38 F_HeavyChildren := by
  intro A xs c w hx hcc h
  have hc := codeOf0 A xs c (w.alloc (.cells #[.slice A xs.length c] 28)) (by omega) (h.al _) _ rfl
  cases ht : M.isTree xs
  · rw [ht] at hc
    have HC := Lib.hid hc
    have hF : F_HeavyChildren xs = ([], 1) := M.cond_no ht
    rw [hF]
    clear hc ht hF
    go_enter Try.func38, Try.ntmps38
    go_wp2_with fail
    refine HC.out.mono ?_
    rintro e w1 ⟨rfl, hb⟩
    have hB := btr (bal (b0 w) _) hb
    go_wp2
    go_ret2
    exact ⟨none, 0, rfl, own64_nil _ _, hB⟩
  · rw [ht] at hc
    have HC := Lib.hid hc
    have hF : F_HeavyChildren xs = (M.heavy xs, 0) := M.cond_yes ht
    have Ht := Lib.hid ht
    rw [hF]
    clear hc ht hF
    have hl := Lib.hid (M.heavy_len xs)
    go_enter Try.func38, Try.ntmps38
    go_wp2_with fail
    refine HC.out.mono ?_
    rintro e w1 ⟨rfl, hb⟩
    have hB := Lib.hid (btr (bal (b0 w) _) hb)
    have hcell : w1.cell? ⟨w.heap.size, 0, none⟩ = some (.slice A xs.length c) := cell_be (by simp) hb
    have h1 := Lib.hid ((h.al _).be hb)
    have z1 := hB.out.size
    clear hb h HC
    go_wp2_with fail
    refine (heavyIn A xs c _ hcc.1 hcc.2 Ht h1).mono ?_
    rintro e w2 ⟨A', c', rfl, ho, hb⟩
    have hB2 := Lib.hid (btr hB.out hb)
    clear hb
    go_wp2
    go_ret2
    rw [hl.out]
    exact ⟨A', c', rfl, own_mono ho.out z1, hB2.out⟩

set_option maxHeartbeats 2000000 in
theorem spec_HeavyChildren : GivesList 37 F_HeavyChildren := by
  intro A xs c w hx hcc h
  have hc := specIs A xs c (w.alloc (.cells #[.slice A xs.length c] 28)) (by omega) (h.al _)
  cases ht : M.isTree xs
  · rw [ht] at hc
    have HC := Lib.hid hc
    have hF : F_HeavyChildren xs = ([], 1) := M.cond_no ht
    rw [hF]
    clear hc ht hF
    go_enter Try.func37, Try.ntmps37
    go_wp2_with fail
    refine HC.out.mono ?_
    rintro e w1 ⟨rfl, hb⟩
    have hB := btr (bal (b0 w) _) hb
    go_wp2
    go_ret2
    exact ⟨none, 0, rfl, own64_nil _ _, hB⟩
  · rw [ht] at hc
    have HC := Lib.hid hc
    have hF : F_HeavyChildren xs = (M.heavy xs, 0) := M.cond_yes ht
    have Ht := Lib.hid ht
    rw [hF]
    clear hc ht hF
    have hl := Lib.hid (M.heavy_len xs)
    go_enter Try.func37, Try.ntmps37
    go_wp2_with fail
    refine HC.out.mono ?_
    rintro e w1 ⟨rfl, hb⟩
    have hB := Lib.hid (btr (bal (b0 w) _) hb)
    have hcell : w1.cell? ⟨w.heap.size, 0, none⟩ = some (.slice A xs.length c) := cell_be (by simp) hb
    have h1 := Lib.hid ((h.al _).be hb)
    have z1 := hB.out.size
    clear hb h HC
    go_wp2_with fail
    refine (l08Heavy A xs c _ Ht h1).mono ?_
    rintro e w2 ⟨A', c', rfl, ho, hb⟩
    have hB2 := Lib.hid (btr hB.out hb)
    clear hb
    go_wp2
    go_ret2
    rw [hl.out]
    exact ⟨A', c', rfl, own_mono ho.out z1, hB2.out⟩
end Go.Proofs.Ytamnilpmdccgoaa
