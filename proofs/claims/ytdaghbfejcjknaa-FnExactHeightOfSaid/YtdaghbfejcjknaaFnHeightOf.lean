/- HeightOf, the program's and the model's: the greatest depth, or a code. -/
import Derived.Test.YtdaghbfejcjknaaDepthsIn
import Derived.Test.YtdaghbfejcjknaaSpecDepths
import Derived.Test.YtdaghbfejcjknaaMax
namespace Go.Proofs.Ytdaghbfejcjknaa
open Go.RowKit

noncomputable def F_HeightOf (xs : List Int) : Int × Int := if M.isTree xs then (M.maxTo (M.depths xs) xs.length, 0) else (0, 1)

set_option maxHeartbeats 2000000 in
theorem impl_HeightOf : GivesNum 25 F_HeightOf := by
  intro A xs c w hx hcc h
  have hc := codeOf0 A xs c (w.alloc (.cells #[.slice A xs.length c] 28)) (by omega) (h.al _) _ rfl
  cases ht : M.isTree xs
  · rw [ht] at hc
    have HC := Lib.hid hc
    have hF : F_HeightOf xs = (0, 1) := by rw [F_HeightOf, ht]; rfl
    rw [hF]
    clear hc ht hF
    go_enter Try.func25, Try.ntmps25
    go_wp2_with fail
    refine HC.out.mono ?_
    rintro e w1 ⟨rfl, hb⟩
    have hB := btr (bal (b0 w) _) hb
    go_wp2
    go_ret2
    exact ⟨rfl, hB⟩
  · rw [ht] at hc
    have HC := Lib.hid hc
    have hF : F_HeightOf xs = (M.maxTo (M.depths xs) xs.length, 0) := by rw [F_HeightOf, ht]; rfl
    have Ht := Lib.hid ht
    have hl24 := (M.tree_len ht).2
    have hl1 := (M.tree_len ht).1
    rw [hF]
    clear hc ht hF
    go_enter Try.func25, Try.ntmps25
    go_wp2_with fail
    refine HC.out.mono ?_
    rintro e w1 ⟨rfl, hb⟩
    have hB := Lib.hid (btr (bal (b0 w) _) hb)
    have hcell : w1.cell? ⟨w.heap.size, 0, none⟩ = some (.slice A xs.length c) := cell_be (by simp) hb
    have h1 := Lib.hid ((h.al _).be hb)
    clear hb h HC
    go_wp2_with fail
    refine ((callsIn_wide (n := 5)).1 (depthsIn_in A xs c _ hcc.1 hcc.2 Ht h1.out)).mono ?_
    rintro e w2 ⟨A', c', ds, rfl, hok, ho, hb⟩
    have hB2 := Lib.hid (btr hB.out hb)
    have hle := M.depsOK_le Ht.out hok.out
    have h0 : Hid (∀ x ∈ ds, (0 : Int) ≤ x) := fun x hm => by
      obtain ⟨i, hi⟩ := List.getElem?_of_mem hm
      exact (hle (i + 1) i x (Nat.lt_succ_self _) hi).1
    have hdl := hok.out.1
    have He := M.depths_eq Ht.out hok.out
    have hI := Lib.hid (ints_of_own64 ho)
    have hr : Hid (M.maxTo ds ds.length = M.maxTo (M.depths xs) xs.length) := by show _ = _; rw [He, hdl]
    have HS := slicesMax A' ds c' w2 (by omega) (by omega) h0 hI.out _ hr
    rw [hdl] at HS
    have HS := Lib.hid HS
    clear ho hb hle He hdl hcell hI h0 hr
    go_wp2_with fail
    refine HS.out.mono ?_
    rintro e w' ⟨rfl, rfl⟩
    go_wp2
    go_ret2
    exact ⟨rfl, hB2.out⟩

set_option maxHeartbeats 2000000 in
theorem l01Height (A : Option Addr) (xs : List Int) (c : Nat) (w : World) (ht : Hid (M.isTree xs = true)) (h : Ints w w.heap.size A xs) :
    Calls Try.prog 94 #[.agg #[.slice A xs.length c]] w fun e w' => e = .returned (.int .i64 (M.maxTo (M.depths xs) xs.length)) ∧ Below w.heap.size w w' := by
  have hl24 := (M.tree_len ht.out).2
  have hl1 := (M.tree_len ht.out).1
  go_enter Try.func94, Try.ntmps94
  go_wp2_with fail
  refine (l01Depths A xs c _ ht (h.al _)).mono ?_
  rintro e w2 ⟨A', c', ds, rfl, hok, ho, hb⟩
  have hB2 := Lib.hid (btr (bal (b0 w) _) hb)
  have hdl := Lib.hid hok.out.1
  have He := Lib.hid (M.depths_eq ht.out hok.out)
  have hI := Lib.hid (ints_of_own64 ho)
  clear ho hb h
  go_wp2
  go_loop [4, 5] (fun m i => ∃ (k : Nat) (y : Int), k ≤ xs.length ∧ i = .int .i64 k ∧ m = .int .i64 y ∧ Hid (M.maxTo ds k = y)) (fun _ i => xs.length - (intOf i).toNat)
  case atStart => exact ⟨0, 0, Nat.zero_le _, rfl, rfl, rfl⟩
  case round =>
    obtain ⟨k, y, hk, rfl, rfl, hy⟩ := hrel
    by_cases hlt : k < xs.length
    · obtain ⟨b, off, x, rfl, hbB, g, hX⟩ := hI.out.at_ (k := k) (by rw [hdl.out]; exact hlt)
      have hs : Hid (M.maxTo ds (k + 1) = if y < x then x else y) := M.maxTo_step hX.out hy.out
      go_wp2
      all_goals
        go_round
        case rel => exact ⟨k + 1, _, by omega, by go_num, rfl, hs⟩
        case measure => simp [intOf]; omega
    · obtain rfl : k = xs.length := by omega
      go_wp2
      go_ret
      exact ⟨by rw [He.out, hy.out]; rfl, hB2.out⟩

set_option maxHeartbeats 2000000 in
theorem spec_HeightOf : GivesNum 24 F_HeightOf := by
  intro A xs c w hx hcc h
  have hc := specIs A xs c (w.alloc (.cells #[.slice A xs.length c] 28)) (by omega) (h.al _)
  cases ht : M.isTree xs
  · rw [ht] at hc
    have HC := Lib.hid hc
    have hF : F_HeightOf xs = (0, 1) := by rw [F_HeightOf, ht]; rfl
    rw [hF]
    clear hc ht hF
    go_enter Try.func24, Try.ntmps24
    go_wp2_with fail
    refine HC.out.mono ?_
    rintro e w1 ⟨rfl, hb⟩
    have hB := btr (bal (b0 w) _) hb
    go_wp2
    go_ret2
    exact ⟨rfl, hB⟩
  · rw [ht] at hc
    have HC := Lib.hid hc
    have hF : F_HeightOf xs = (M.maxTo (M.depths xs) xs.length, 0) := by rw [F_HeightOf, ht]; rfl
    have Ht := Lib.hid ht
    rw [hF]
    clear hc ht hF
    go_enter Try.func24, Try.ntmps24
    go_wp2_with fail
    refine HC.out.mono ?_
    rintro e w1 ⟨rfl, hb⟩
    have hB := Lib.hid (btr (bal (b0 w) _) hb)
    have hcell : w1.cell? ⟨w.heap.size, 0, none⟩ = some (.slice A xs.length c) := cell_be (by simp) hb
    have h1 := Lib.hid ((h.al _).be hb)
    clear hb h HC
    go_wp2_with fail
    refine (l01Height A xs c _ Ht h1.out).mono ?_
    rintro e w2 ⟨rfl, hb⟩
    have hB2 := Lib.hid (btr hB.out hb)
    clear hb
    go_wp2
    go_ret2
    exact ⟨rfl, hB2.out⟩
end Go.Proofs.Ytdaghbfejcjknaa
