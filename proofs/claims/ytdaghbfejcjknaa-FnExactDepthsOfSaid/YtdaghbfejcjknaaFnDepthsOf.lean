/- DepthsOf, the program's and the model's: the depths, or a code. -/
import Derived.Test.YtdaghbfejcjknaaDepthsIn
import Derived.Test.YtdaghbfejcjknaaSpecDepths
namespace Go.Proofs.Ytdaghbfejcjknaa
open Go.RowKit


noncomputable def F_DepthsOf (xs : List Int) : List Int × Int := M.cond xs (M.depths xs)
theorem F_DepthsOf_len (xs : List Int) : (F_DepthsOf xs).1.length ≤ 1048576 := by
  cases ht : M.isTree xs
  · rw [F_DepthsOf, M.cond_no ht]; simp
  · rw [F_DepthsOf, M.cond_yes ht]
    have h1 := M.depths_len (xs := xs)
    have h2 := (M.tree_len ht).2
    show (M.depths xs).length ≤ _
    omega

set_option maxHeartbeats 2000000 in
theorem impl_DepthsOf : GivesList 18 F_DepthsOf := by
  intro A xs c w hx hcc h
  have hc := codeOf0 A xs c (w.alloc (.cells #[.slice A xs.length c] 28)) (by omega) (h.al _) _ rfl
  cases ht : M.isTree xs
  · rw [ht] at hc
    have HC := Lib.hid hc
    have hF : F_DepthsOf xs = ([], 1) := M.cond_no ht
    rw [hF]
    clear hc ht hF
    go_enter Try.func18, Try.ntmps18
    go_wp2_with fail
    refine HC.out.mono ?_
    rintro e w1 ⟨rfl, hb⟩
    have hB := btr (bal (b0 w) _) hb
    go_wp2
    go_ret2
    exact ⟨none, 0, rfl, own64_nil _ _, hB⟩
  · rw [ht] at hc
    have HC := Lib.hid hc
    have hF : F_DepthsOf xs = (M.depths xs, 0) := M.cond_yes ht
    have Ht := Lib.hid ht
    rw [hF]
    clear hc ht hF
    go_enter Try.func18, Try.ntmps18
    go_wp2_with fail
    refine HC.out.mono ?_
    rintro e w1 ⟨rfl, hb⟩
    have hB := Lib.hid (btr (bal (b0 w) _) hb)
    have hcell : w1.cell? ⟨w.heap.size, 0, none⟩ = some (.slice A xs.length c) := cell_be (by simp) hb
    have h1 := Lib.hid ((h.al _).be hb)
    have z1 := hB.out.size
    clear hb h HC
    go_wp2_with fail
    refine ((callsIn_wide (n := 5)).1 (depthsIn_in A xs c _ hcc.1 hcc.2 Ht h1.out)).mono ?_
    rintro e w2 ⟨A', c', ps, rfl, hok, ho, hb⟩
    have hB2 := Lib.hid (btr hB.out hb)
    have Ho := Lib.hid ho
    have He := Lib.hid (M.depths_eq Ht.out hok.out)
    have hl := Lib.hid hok.out.1
    clear ho hb
    go_wp2
    go_ret2
    rw [He.out, hl.out]
    exact ⟨A', c', rfl, own_mono Ho.out z1, hB2.out⟩

set_option maxHeartbeats 2000000 in
theorem spec_DepthsOf : GivesList 16 F_DepthsOf := by
  intro A xs c w hx hcc h
  have hc := specIs A xs c (w.alloc (.cells #[.slice A xs.length c] 28)) (by omega) (h.al _)
  cases ht : M.isTree xs
  · rw [ht] at hc
    have HC := Lib.hid hc
    have hF : F_DepthsOf xs = ([], 1) := M.cond_no ht
    rw [hF]
    clear hc ht hF
    go_enter Try.func16, Try.ntmps16
    go_wp2_with fail
    refine HC.out.mono ?_
    rintro e w1 ⟨rfl, hb⟩
    have hB := btr (bal (b0 w) _) hb
    go_wp2
    go_ret2
    exact ⟨none, 0, rfl, own64_nil _ _, hB⟩
  · rw [ht] at hc
    have HC := Lib.hid hc
    have hF : F_DepthsOf xs = (M.depths xs, 0) := M.cond_yes ht
    have Ht := Lib.hid ht
    rw [hF]
    clear hc ht hF
    go_enter Try.func16, Try.ntmps16
    go_wp2_with fail
    refine HC.out.mono ?_
    rintro e w1 ⟨rfl, hb⟩
    have hB := Lib.hid (btr (bal (b0 w) _) hb)
    have hcell : w1.cell? ⟨w.heap.size, 0, none⟩ = some (.slice A xs.length c) := cell_be (by simp) hb
    have h1 := Lib.hid ((h.al _).be hb)
    have z1 := hB.out.size
    clear hb h HC
    go_wp2_with fail
    refine (l01Depths A xs c _ Ht h1.out).mono ?_
    rintro e w2 ⟨A', c', ps, rfl, hok, ho, hb⟩
    have hB2 := Lib.hid (btr hB.out hb)
    have Ho := Lib.hid ho
    have He := Lib.hid (M.depths_eq Ht.out hok.out)
    have hl := Lib.hid hok.out.1
    clear ho hb
    go_wp2
    go_ret2
    rw [He.out, hl.out]
    exact ⟨A', c', rfl, own_mono Ho.out z1, hB2.out⟩
end Go.Proofs.Ytdaghbfejcjknaa
