/- The walk of the law FnExactRuleText, from the contracts of the program's function and of the model's: it returns true, and writes into nothing that was there. -/
import Derived.Test.YtbdmmeoelagdcaaRuleArg
import Derived.Test.YtbdmmeoelagdcaaFnRuleText
namespace Go.Proofs.Ytbdmmeoelagdcaa
open Go.RowKit

set_option maxHeartbeats 2000000 in
set_option maxRecDepth 100000 in
theorem lawRuleText (F : ByteArray → ByteArray → ByteArray × Int) (hS0 : Hid (GivesRT 53 F)) (hI0 : Hid (GivesRT 54 F)) (l r : ByteArray) (w : World) (hl : l.size ≤ 9223372036854775807) (hr : r.size ≤ 9223372036854775807) :
    Calls Try.prog 13 #[.agg #[.string l, .string r]] w fun e w' => e = .returned (.bool true) ∧ Below w.heap.size w w' := by
  obtain ⟨d0, d1⟩ := lrule_cells w l r
  obtain ⟨W, hW⟩ : ∃ W, W = w.alloc (.cells #[.string l, .string r] 59) := ⟨_, rfl⟩
  rw [← hW] at d0 d1
  have hB0 : Hid (Below w.heap.size w W) := by rw [hW]; exact bal (b0 w) _
  obtain ⟨z, hz⟩ : ∃ z, Hid (M.szR l.size r.size 1048576 = z) := ⟨_, rfl⟩
  have hZ := Lib.hid (szRule l r 1048576 W hl hr (by omega) (by omega) z hz)
  have hT := fun X => Lib.hid (toRule l r X)
  by_cases h : z < 0
  · clear hS0 hI0 hT
    go_enter Try.func13, Try.ntmps13
    go_wp2_with fail
    rw [← hW]
    clear hW
    refine hZ.out.mono ?_
    rintro e w1 ⟨rfl, hb1⟩
    have hB1 := Lib.hid (btr hB0.out hb1)
    go_wp2
    go_ret
    exact ⟨rfl, hB1.out⟩
  · have hsz : l.size ≤ 1048576 ∧ r.size ≤ 1048576 := by
      have := hz.out
      rw [M.szR] at this
      split at this
      · omega
      · split at this <;> omega
    have HS := fun X => Lib.hid (hS0.out l r X hsz.1 hsz.2)
    have HI := fun X => Lib.hid (hI0.out l r X hsz.1 hsz.2)
    generalize (F l r).1 = q1 at *
    generalize (F l r).2 = q2 at *
    have hq9 : (q1.toList != q1.toList) = false := by simp
    clear hS0 hI0 hsz hz
    go_enter Try.func13, Try.ntmps13
    go_wp2_with fail
    rw [← hW]
    clear hW
    refine hZ.out.mono ?_
    rintro e w1 ⟨rfl, hb1⟩
    have hB1 := Lib.hid (btr hB0.out hb1)
    have c1 := cellR_be d0 hb1
    have k1 := cellR_be d1 hb1
    go_wp2_with fail
    refine (hT _).out.mono ?_
    rintro e w2 ⟨rfl, hb2⟩
    have hB2 := Lib.hid (btr hB1.out hb2)
    have c2 := cellR_be c1 hb2
    have k2 := cellR_be k1 hb2
    go_wp2_with fail
    refine (HS _).out.mono ?_
    rintro e w3 ⟨rfl, hb3⟩
    have hB3 := Lib.hid (btr hB2.out hb3)
    have c3 := cellR_be c2 hb3
    have k3 := cellR_be k2 hb3
    go_wp2_with fail
    refine (hT _).out.mono ?_
    rintro e w4 ⟨rfl, hb4⟩
    have hB4 := Lib.hid (btr hB3.out hb4)
    go_wp2_with fail
    refine (HI _).out.mono ?_
    rintro e w5 ⟨rfl, hb5⟩
    have hB5 := Lib.hid (btr hB4.out hb5)
    clear hb1 hb2 hb3 hb4 hb5
    go_wp2
    go_ret
    exact ⟨rfl, hB5.out⟩
end Go.Proofs.Ytbdmmeoelagdcaa
