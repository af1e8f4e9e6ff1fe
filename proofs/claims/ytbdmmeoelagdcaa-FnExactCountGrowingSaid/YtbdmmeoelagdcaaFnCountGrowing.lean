/- CountGrowing, the model's: the number of growing orders, or a code. -/
import Derived.Test.YtbdmmeoelagdcaaCountIn9
import Derived.Test.YtbdmmeoelagdcaaCountIm
import Derived.Test.YtbdmmeoelagdcaaL09Code
namespace Go.Proofs.Ytbdmmeoelagdcaa
open Go.RowKit

set_option maxHeartbeats 2000000 in
set_option maxRecDepth 100000 in
theorem l09Few (A : Option Addr) (xs : List Int) (c : Nat) (w : World) (hx : xs.length ≤ 1048576) (h : Ints w w.heap.size A xs) (r : Int) (hr : Hid (M.fewCode xs = r)) :
    Calls Try.prog 108 #[.agg #[.slice A xs.length c]] w fun e w' => e = .returned (.int .i64 r) ∧ Below w.heap.size w w' := by
  have cT0 : Hid ((w.alloc (.cells #[.slice A xs.length c] 29)).cell? ⟨w.heap.size, 0, none⟩ = some (.slice A xs.length c)) := by simp [Hid, go_sem]
  have hB0 := Lib.hid (bal (b0 w) (.cells #[.slice A xs.length c] 29))
  have hI1 := specIs A xs c (w.alloc (.cells #[.slice A xs.length c] 29)) (by omega) (h.al _)
  cases ht : M.isTree xs
  · have hr1 : r = 1 := by rw [← hr.out, M.fewCode, ht]; rfl
    subst hr1
    rw [ht] at hI1
    have HI := Lib.hid hI1
    clear hI1 ht h hr
    go_enter Try.func108, Try.ntmps108
    go_wp2_with fail
    refine HI.out.mono ?_
    rintro e w1 ⟨rfl, hb⟩
    have hB1 := Lib.hid (btr hB0.out hb)
    go_wp2
    go_ret
    exact ⟨rfl, hB1.out⟩
  · have hr1 : Hid ((if xs.length ≤ 20 then 0 else 3) = r) := by show _ = _; rw [← hr.out, M.fewCode, ht]; rfl
    rw [ht] at hI1
    have HI := Lib.hid hI1
    have HN := fun W => Lib.hid (l01N A xs.length c W)
    generalize xs.length = n at *
    clear hI1 ht h hr
    by_cases h20 : n ≤ 20
    · have hi : ¬ (20 : Int) < (n : Int) := by omega
      have hr2 : r = 0 := by rw [← hr1.out, if_pos h20]
      subst hr2
      go_enter Try.func108, Try.ntmps108
      go_wp2_with fail
      refine HI.out.mono ?_
      rintro e w1 ⟨rfl, hb⟩
      have hB1 := Lib.hid (btr hB0.out hb)
      have cT1 := cell_be cT0.out hb
      clear hb HI
      go_wp2_with fail
      refine (HN _).out.mono ?_
      rintro e w2 ⟨rfl, hb⟩
      have hB2 := Lib.hid (btr hB1.out hb)
      go_wp2
      go_ret
      exact ⟨rfl, hB2.out⟩
    · have hi : (20 : Int) < (n : Int) := by omega
      have hr2 : r = 3 := by rw [← hr1.out, if_neg h20]
      subst hr2
      go_enter Try.func108, Try.ntmps108
      go_wp2_with fail
      refine HI.out.mono ?_
      rintro e w1 ⟨rfl, hb⟩
      have hB1 := Lib.hid (btr hB0.out hb)
      have cT1 := cell_be cT0.out hb
      clear hb HI
      go_wp2_with fail
      refine (HN _).out.mono ?_
      rintro e w2 ⟨rfl, hb⟩
      have hB2 := Lib.hid (btr hB1.out hb)
      go_wp2
      go_ret
      exact ⟨rfl, hB2.out⟩

set_option maxHeartbeats 2000000 in
set_option maxRecDepth 100000 in
theorem spec_CountGrowing : GivesNum 60 F_CountGrowing := by
  intro A xs c w hx hcc h
  have cT0 : Hid ((w.alloc (.cells #[.slice A xs.length c] 29)).cell? ⟨w.heap.size, 0, none⟩ = some (.slice A xs.length c)) := by simp [Hid, go_sem]
  have hB0 := Lib.hid (bal (b0 w) (.cells #[.slice A xs.length c] 29))
  obtain ⟨r, hr⟩ : ∃ r, Hid (M.fewCode xs = r) := ⟨_, rfl⟩
  have HC := Lib.hid (l09Few A xs c (w.alloc (.cells #[.slice A xs.length c] 29)) hx (h.al _) r hr)
  by_cases h0 : r = 0
  · subst h0
    have hz := M.fewCode_zero hr.out
    have Ht := Lib.hid hz.1
    have h20 := hz.2
    obtain ⟨R, hR⟩ : ∃ R, Hid (M.waysN xs [] = R) := ⟨_, rfl⟩
    have hF : F_CountGrowing xs = ((R : Int), 0) := by rw [← hR.out]; exact F_CountGrowing_yes hr.out
    rw [hF]
    have hex : Hid (M.ParsOK xs (M.parents xs)) := by
      obtain ⟨ps, hp⟩ := M.pars_ex9 Ht.out
      show M.ParsOK _ _
      rw [M.parents_eq Ht.out hp]
      exact hp
    have H1 := Lib.hid h
    have HWy := Lib.hid (fun X A2 c2 (hX : Below w.heap.size w X) => l09Count A A2 xs [] xs.length c 0 c2 X rfl h20 Ht (M.bgn_nil _ _) rfl hex (Lib.hid (H1.out.be hX)) (Lib.hid (fun hk => absurd hk (Nat.lt_irrefl 0))))
    rw [hR.out] at HWy
    clear hz hF hr h hex
    go_enter Try.func60, Try.ntmps60
    go_wp2_with fail
    refine HC.out.mono ?_
    rintro e w1 ⟨rfl, hb⟩
    have hB1 := Lib.hid (btr hB0.out hb)
    have cT1 := cell_be cT0.out hb
    clear hb HC
    have hB2 := Lib.hid (bal hB1.out (.cells #[] 2))
    go_wp2_with fail
    refine (HWy.out _ _ _ hB2.out).mono ?_
    rintro e w2 ⟨rfl, hb⟩
    have hB3 := Lib.hid (btr hB2.out hb)
    go_wp2
    go_ret2
    exact ⟨rfl, hB3.out⟩
  · have hF : F_CountGrowing xs = (0, r) := by rw [← hr.out]; exact F_CountGrowing_no (by rw [hr.out]; exact h0)
    have h01 : (r != 0) = true := by simpa using h0
    rw [hF]
    clear hF h
    go_enter Try.func60, Try.ntmps60
    go_wp2_with fail
    refine HC.out.mono ?_
    rintro e w1 ⟨rfl, hb⟩
    have hB1 := Lib.hid (btr hB0.out hb)
    go_wp2
    go_ret2
    exact ⟨rfl, hB1.out⟩
end Go.Proofs.Ytbdmmeoelagdcaa
