/- TidyWidth, the program's and the model's: the greatest column of the tidy drawing, or a code. -/
import Derived.Test.YtamnilpmdccgoaaTidyIn
import Derived.Test.YtamnilpmdccgoaaTidyCols
import Derived.Test.YtamnilpmdccgoaaMax
namespace Go.Proofs.Ytamnilpmdccgoaa
open Go.RowKit

noncomputable def F_TidyWidth (xs : List Int) : Int × Int := if M.isTree xs then (M.maxTo (M.tidy xs (M.depths xs)) xs.length, 0) else (0, 1)

theorem tidy_nonneg (xs ds : List Int) : ∀ x ∈ M.tidy xs ds, 0 ≤ x := fun x hx => by
  rw [M.tidy] at hx
  obtain ⟨u, hu, rfl⟩ := List.mem_map.1 hx
  obtain ⟨i, hi⟩ := List.getElem?_of_mem hu
  have := M.minTo_le hi (M.td xs ds 0).length (List.getElem?_eq_some_iff.1 hi).1
  omega

set_option maxHeartbeats 2000000 in
theorem impl_TidyWidth : GivesNum 30 F_TidyWidth := by
  intro A xs c w hx hcc h
  have hc := codeOf0 A xs c (w.alloc (.cells #[.slice A xs.length c] 28)) (by omega) (h.al _) _ rfl
  cases ht : M.isTree xs
  · rw [ht] at hc
    have HC := Lib.hid hc
    have hF : F_TidyWidth xs = (0, 1) := by rw [F_TidyWidth, ht]; rfl
    rw [hF]
    clear hc ht hF
    go_enter Try.func30, Try.ntmps30
    go_wp2_with fail
    refine HC.out.mono ?_
    rintro e w1 ⟨rfl, hb⟩
    have hB := btr (bal (b0 w) _) hb
    go_wp2
    go_ret2
    exact ⟨rfl, hB⟩
  · rw [ht] at hc
    have HC := Lib.hid hc
    have hF : F_TidyWidth xs = (M.maxTo (M.tidy xs (M.depths xs)) xs.length, 0) := by rw [F_TidyWidth, ht]; rfl
    have Ht := Lib.hid ht
    have hl24 := (M.tree_len ht).2
    have hl1 := (M.tree_len ht).1
    rw [hF]
    clear hc ht hF
    go_enter Try.func30, Try.ntmps30
    go_wp2_with fail
    refine HC.out.mono ?_
    rintro e w1 ⟨rfl, hb⟩
    have hB := Lib.hid (btr (bal (b0 w) _) hb)
    have hcell : w1.cell? ⟨w.heap.size, 0, none⟩ = some (.slice A xs.length c) := cell_be (by simp) hb
    have h1 := Lib.hid ((h.al _).be hb)
    clear hb h HC
    go_wp2_with fail
    refine ((callsIn_wide (n := 5)).1 (tidyIn_in A xs c _ hcc.1 hcc.2 Ht h1)).mono ?_
    rintro e w2 ⟨A', c', rfl, ho, hb⟩
    have hB2 := Lib.hid (btr hB.out hb)
    have h0 : Hid (∀ x ∈ M.tidy xs (M.depths xs), (0 : Int) ≤ x) := tidy_nonneg _ _
    have hdl := own64_len ho.out
    have hI := Lib.hid (ints_of_own64 ho.out)
    have hr : Hid (M.maxTo (M.tidy xs (M.depths xs)) (M.tidy xs (M.depths xs)).length = M.maxTo (M.tidy xs (M.depths xs)) xs.length) := by show _ = _; rw [← hdl]
    have HS := slicesMax A' (M.tidy xs (M.depths xs)) c' w2 (by omega) (by omega) h0 hI.out _ hr
    rw [← hdl] at HS
    have HS := Lib.hid HS
    clear ho hb hdl hcell hI h0 hr
    go_wp2_with fail
    refine HS.out.mono ?_
    rintro e w' ⟨rfl, rfl⟩
    go_wp2
    go_ret2
    exact ⟨rfl, hB2.out⟩

set_option maxHeartbeats 2000000 in
theorem spec_TidyWidth : GivesNum 29 F_TidyWidth := by
  intro A xs c w hx hcc h
  have hc := specIs A xs c (w.alloc (.cells #[.slice A xs.length c] 28)) (by omega) (h.al _)
  cases ht : M.isTree xs
  · rw [ht] at hc
    have HC := Lib.hid hc
    have hF : F_TidyWidth xs = (0, 1) := by rw [F_TidyWidth, ht]; rfl
    rw [hF]
    clear hc ht hF
    go_enter Try.func29, Try.ntmps29
    go_wp2_with fail
    refine HC.out.mono ?_
    rintro e w1 ⟨rfl, hb⟩
    have hB := btr (bal (b0 w) _) hb
    go_wp2
    go_ret2
    exact ⟨rfl, hB⟩
  · rw [ht] at hc
    have HC := Lib.hid hc
    have hF : F_TidyWidth xs = (M.maxTo (M.tidy xs (M.depths xs)) xs.length, 0) := by rw [F_TidyWidth, ht]; rfl
    have Ht := Lib.hid ht
    rw [hF]
    clear hc ht hF
    go_enter Try.func29, Try.ntmps29
    go_wp2_with fail
    refine HC.out.mono ?_
    rintro e w1 ⟨rfl, hb⟩
    have hB := Lib.hid (btr (bal (b0 w) _) hb)
    have hcell : w1.cell? ⟨w.heap.size, 0, none⟩ = some (.slice A xs.length c) := cell_be (by simp) hb
    have h1 := Lib.hid ((h.al _).be hb)
    clear hb h HC
    go_wp2_with fail
    refine (l08Columns A xs c _ Ht h1).mono ?_
    rintro e w2 ⟨A', c', rfl, ho, hb⟩
    have hB2 := Lib.hid (btr hB.out hb.out)
    obtain ⟨T, hTT⟩ : ∃ T, T = M.tidy xs (M.depths xs) := ⟨_, rfl⟩
    rw [← hTT] at ho
    have HTT := Lib.hid hTT
    have hdl := Lib.hid (own64_len ho.out)
    have hI := Lib.hid (ints_of_own64 ho.out)
    clear ho hb hcell hTT
    go_wp2
    go_loop [5, 6] (fun m i => ∃ (k : Nat) (y : Int), k ≤ xs.length ∧ i = .int .i64 k ∧ m = .int .i64 y ∧ Hid (M.maxTo T k = y)) (fun _ i => xs.length - (intOf i).toNat)
    case atStart => exact ⟨0, 0, Nat.zero_le _, rfl, rfl, rfl⟩
    case round =>
      obtain ⟨k, y, hk, rfl, rfl, hy⟩ := hrel
      by_cases hlt : k < xs.length
      · obtain ⟨b, off, x, rfl, hbB, g, hX⟩ := hI.out.at_ (k := k) (by rw [← hdl.out]; exact hlt)
        have hs : Hid (M.maxTo T (k + 1) = if y < x then x else y) := M.maxTo_step hX.out hy.out
        go_wp2
        all_goals
          go_round
          case rel => exact ⟨k + 1, _, by omega, by go_num, rfl, hs⟩
          case measure => simp [intOf]; omega
      · obtain rfl : k = xs.length := by omega
        go_wp2
        go_ret2
        exact ⟨by rw [← HTT.out, hy.out]; rfl, hB2.out⟩
end Go.Proofs.Ytamnilpmdccgoaa
