/- LastGrowing, the program's and the model's: the last growing order, or a code. -/
import Derived.Test.YtgnhmhfianmckaaFillIn9
import Derived.Test.YtgnhmhfianmckaaDoneMax
import Derived.Test.YtgnhmhfianmckaaParsEx
namespace Go.Proofs.Ytgnhmhfianmckaa
open Go.RowKit

noncomputable def F_LastGrowing (xs : List Int) : List Int × Int := M.cond xs (M.fill false xs.length (M.parents xs) (xs.length - ([] : List Int).length) [])
theorem F_LastGrowing_len (xs : List Int) : (F_LastGrowing xs).1.length ≤ 1048576 := by
  cases ht : M.isTree xs
  · rw [F_LastGrowing, M.cond_no ht]; simp
  · rw [F_LastGrowing, M.cond_yes ht]
    have h2 := (M.tree_len ht).2
    show (M.fill false xs.length (M.parents xs) (xs.length - ([] : List Int).length) []).length ≤ _
    rw [M.fill_len]
    simp
    omega

set_option maxHeartbeats 2000000 in
set_option maxRecDepth 100000 in
theorem impl_LastGrowing : GivesList 32 F_LastGrowing := by
  intro A xs c w hx hcc h
  have hc := codeOf0 A xs c (w.alloc (.cells #[.slice A xs.length c] 28)) (by omega) (h.al _) _ rfl
  cases ht : M.isTree xs
  · rw [ht] at hc
    have HC := Lib.hid hc
    have hF : F_LastGrowing xs = ([], 1) := M.cond_no ht
    rw [hF]
    clear hc ht hF
    go_enter Try.func32, Try.ntmps32
    go_wp2_with fail
    refine HC.out.mono ?_
    rintro e w1 ⟨rfl, hb⟩
    have hB := btr (bal (b0 w) _) hb
    go_wp2
    go_ret2
    exact ⟨none, 0, rfl, own64_nil _ _, hB⟩
  · rw [ht] at hc
    have HC := Lib.hid hc
    have Ht := Lib.hid ht
    have Hp := Lib.hid (M.parents_tree ht)
    obtain ⟨R, hR⟩ : ∃ R, Hid (M.fill false xs.length (M.parents xs) (xs.length - ([] : List Int).length) [] = R) := ⟨_, rfl⟩
    have hF : F_LastGrowing xs = (R, 0) := by rw [← hR.out]; exact M.cond_yes ht
    have hRl : R.length = xs.length := by rw [← hR.out, M.fill_len]; simp
    rw [hF, show (R, (0 : Int)).1 = R from rfl, show (R, (0 : Int)).2 = 0 from rfl, hRl]
    clear hc ht hF hRl
    go_enter Try.func32, Try.ntmps32
    go_wp2_with fail
    refine HC.out.mono ?_
    rintro e w1 ⟨rfl, hb⟩
    have hB := Lib.hid (btr (bal (b0 w) _) hb)
    have cA : w1.cell? ⟨w.heap.size, 0, none⟩ = some (.slice A xs.length c) := cell_be (by simp) hb
    have h1 := Lib.hid ((h.al (.cells #[.slice A xs.length c] 28)).be hb)
    have HD := Lib.hid (completedMax A none xs [] xs.length c 0 0 w1 rfl hcc.1 hcc.2 Ht Hp (M.bgn_nil _ _) rfl w.heap.size hB.out.size h1 (Lib.hid (own64_nil _ _)))
    rw [hR.out] at HD
    clear hb HC
    go_wp2_with fail
    refine HD.out.mono ?_
    rintro e w2 ⟨A2, c2, rfl, ho, hb⟩
    have hB2 := Lib.hid (btr hB.out hb)
    have Ho := Lib.hid ho
    clear ho hb HD
    go_wp2
    go_ret2
    exact ⟨_, _, rfl, Ho.out, hB2.out⟩

set_option maxHeartbeats 2000000 in
set_option maxRecDepth 100000 in
theorem spec_LastGrowing : GivesList 31 F_LastGrowing := by
  intro A xs c w hx hcc h
  have hc := specIs A xs c (w.alloc (.cells #[.slice A xs.length c] 28)) (by omega) (h.al _)
  cases ht : M.isTree xs
  · rw [ht] at hc
    have HC := Lib.hid hc
    have hF : F_LastGrowing xs = ([], 1) := M.cond_no ht
    rw [hF]
    clear hc ht hF
    go_enter Try.func31, Try.ntmps31
    go_wp2_with fail
    refine HC.out.mono ?_
    rintro e w1 ⟨rfl, hb⟩
    have hB := btr (bal (b0 w) _) hb
    go_wp2
    go_ret2
    exact ⟨none, 0, rfl, own64_nil _ _, hB⟩
  · rw [ht] at hc
    have HC := Lib.hid hc
    have Ht := Lib.hid ht
    have Hp := Lib.hid (M.parents_tree ht)
    obtain ⟨R, hR⟩ : ∃ R, Hid (M.fill false xs.length (M.parents xs) (xs.length - ([] : List Int).length) [] = R) := ⟨_, rfl⟩
    have hF : F_LastGrowing xs = (R, 0) := by rw [← hR.out]; exact M.cond_yes ht
    have hRl : R.length = xs.length := by rw [← hR.out, M.fill_len]; simp
    rw [hF, show (R, (0 : Int)).1 = R from rfl, show (R, (0 : Int)).2 = 0 from rfl, hRl]
    clear hc ht hF hRl
    go_enter Try.func31, Try.ntmps31
    go_wp2_with fail
    refine HC.out.mono ?_
    rintro e w1 ⟨rfl, hb⟩
    have hB := Lib.hid (btr (bal (b0 w) _) hb)
    have cA : w1.cell? ⟨w.heap.size, 0, none⟩ = some (.slice A xs.length c) := cell_be (by simp) hb
    have h1 := Lib.hid ((h.al (.cells #[.slice A xs.length c] 28)).be hb)
    have hB1 := Lib.hid (bal hB.out (.cells #[] 2))
    have hE : Hid (Ints (w1.alloc (.cells #[] 2)) (w1.alloc (.cells #[] 2)).heap.size (some ⟨w1.heap.size, 0, none⟩) []) := Ints.nil_ _ _ _
    have HFl := Lib.hid (l09Fill false A (some ⟨w1.heap.size, 0, none⟩) xs [] xs.length c 0 0 (w1.alloc (.cells #[] 2)) rfl Ht Hp (M.bgn_nil _ _) rfl (Lib.hid (fun e => by cases e)) (Lib.hid (h1.out.al _)) hE)
    rw [hR.out] at HFl
    clear hb HC hE
    go_wp2_with fail
    refine HFl.out.mono ?_
    rintro e w2 ⟨A2, c2, rfl, ho, hb⟩
    have hB2 := Lib.hid (btr hB1.out hb)
    have Ho := Lib.hid (own_mono ho hB1.out.size)
    clear ho hb HFl
    go_wp2
    go_ret2
    exact ⟨_, _, rfl, Ho.out, hB2.out⟩
end Go.Proofs.Ytgnhmhfianmckaa
