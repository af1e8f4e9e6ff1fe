/- FirstGrowing, the program's and the model's: the nodes in preorder, or a code. -/
import Derived.Test.YtgnhmhfianmckaaFillIn9
import Derived.Test.YtgnhmhfianmckaaParsEx
namespace Go.Proofs.Ytgnhmhfianmckaa
open Go.RowKit

def F_FirstGrowing (xs : List Int) : List Int × Int := M.cond xs (M.iota xs.length)
theorem F_FirstGrowing_len (xs : List Int) : (F_FirstGrowing xs).1.length ≤ 1048576 := by
  cases ht : M.isTree xs
  · rw [F_FirstGrowing, M.cond_no ht]; simp
  · rw [F_FirstGrowing, M.cond_yes ht]
    have h2 := (M.tree_len ht).2
    show (M.iota xs.length).length ≤ _
    rw [M.iota_len]
    omega

set_option maxHeartbeats 2000000 in
set_option maxRecDepth 100000 in
theorem impl_FirstGrowing : GivesList 27 F_FirstGrowing := by
  intro A xs c w hx hcc h
  have hc := codeOf0 A xs c (w.alloc (.cells #[.slice A xs.length c] 28)) (by omega) (h.al _) _ rfl
  cases ht : M.isTree xs
  · rw [ht] at hc
    have HC := Lib.hid hc
    have hF : F_FirstGrowing xs = ([], 1) := M.cond_no ht
    rw [hF]
    clear hc ht hF
    go_enter Try.func27, Try.ntmps27
    go_wp2_with fail
    refine HC.out.mono ?_
    rintro e w1 ⟨rfl, hb⟩
    have hB := btr (bal (b0 w) _) hb
    go_wp2
    go_ret2
    exact ⟨none, 0, rfl, own64_nil _ _, hB⟩
  · rw [ht] at hc
    have HC := Lib.hid hc
    have hF : F_FirstGrowing xs = (M.iota xs.length, 0) := M.cond_yes ht
    have hlen := (M.tree_len ht).2
    rw [hF, show (M.iota xs.length, (0 : Int)).1 = M.iota xs.length from rfl, show (M.iota xs.length, (0 : Int)).2 = 0 from rfl, M.iota_len]
    clear hc ht hF
    go_enter Try.func27, Try.ntmps27
    go_wp2_with fail
    refine HC.out.mono ?_
    rintro e w1 ⟨rfl, hb⟩
    have hB := Lib.hid (btr (bal (b0 w) _) hb)
    have cA : w1.cell? ⟨w.heap.size, 0, none⟩ = some (.slice A xs.length c) := cell_be (by simp) hb
    clear hb HC
    go_wp2_with fail
    refine (nodesOf A xs.length c w1 hlen).mono ?_
    rintro e w2 ⟨A2, rfl, ho, hb⟩
    have hB2 := Lib.hid (btr hB.out hb)
    have Ho := Lib.hid (own_mono ho hB.out.size)
    clear ho hb
    go_wp2
    go_ret2
    exact ⟨_, _, rfl, Ho.out, hB2.out⟩

set_option maxHeartbeats 2000000 in
set_option maxRecDepth 100000 in
theorem spec_FirstGrowing : GivesList 26 F_FirstGrowing := by
  intro A xs c w hx hcc h
  have hc := specIs A xs c (w.alloc (.cells #[.slice A xs.length c] 28)) (by omega) (h.al _)
  cases ht : M.isTree xs
  · rw [ht] at hc
    have HC := Lib.hid hc
    have hF : F_FirstGrowing xs = ([], 1) := M.cond_no ht
    rw [hF]
    clear hc ht hF
    go_enter Try.func26, Try.ntmps26
    go_wp2_with fail
    refine HC.out.mono ?_
    rintro e w1 ⟨rfl, hb⟩
    have hB := btr (bal (b0 w) _) hb
    go_wp2
    go_ret2
    exact ⟨none, 0, rfl, own64_nil _ _, hB⟩
  · rw [ht] at hc
    have HC := Lib.hid hc
    have hF : F_FirstGrowing xs = (M.iota xs.length, 0) := M.cond_yes ht
    have hlen := (M.tree_len ht).2
    have Ht := Lib.hid ht
    have Hp := Lib.hid (M.parents_tree ht)
    have hfi : Hid (M.fill true xs.length (M.parents xs) (xs.length - ([] : List Int).length) [] = M.iota xs.length) := M.fill_iota Hp.out xs.length 0 (by omega)
    rw [hF, show (M.iota xs.length, (0 : Int)).1 = M.iota xs.length from rfl, show (M.iota xs.length, (0 : Int)).2 = 0 from rfl, M.iota_len]
    clear hc ht hF
    go_enter Try.func26, Try.ntmps26
    go_wp2_with fail
    refine HC.out.mono ?_
    rintro e w1 ⟨rfl, hb⟩
    have hB := Lib.hid (btr (bal (b0 w) _) hb)
    have cA : w1.cell? ⟨w.heap.size, 0, none⟩ = some (.slice A xs.length c) := cell_be (by simp) hb
    have h1 := Lib.hid ((h.al (.cells #[.slice A xs.length c] 28)).be hb)
    have hB1 := Lib.hid (bal hB.out (.cells #[] 2))
    have hE : Hid (Ints (w1.alloc (.cells #[] 2)) (w1.alloc (.cells #[] 2)).heap.size (some ⟨w1.heap.size, 0, none⟩) []) := Ints.nil_ _ _ _
    have HFl := Lib.hid (l09Fill true A (some ⟨w1.heap.size, 0, none⟩) xs [] xs.length c 0 0 (w1.alloc (.cells #[] 2)) rfl Ht Hp (M.bgn_nil _ _) rfl (Lib.hid (fun e => by cases e)) (Lib.hid (h1.out.al _)) hE)
    clear hb HC hE
    go_wp2_with fail
    refine HFl.out.mono ?_
    rintro e w2 ⟨A2, c2, rfl, ho, hb⟩
    rw [hfi.out] at ho
    have hB2 := Lib.hid (btr hB1.out hb)
    have Ho := Lib.hid (own_mono ho hB1.out.size)
    clear ho hb HFl hfi
    go_wp2
    go_ret2
    exact ⟨_, _, rfl, Ho.out, hB2.out⟩
end Go.Proofs.Ytgnhmhfianmckaa
