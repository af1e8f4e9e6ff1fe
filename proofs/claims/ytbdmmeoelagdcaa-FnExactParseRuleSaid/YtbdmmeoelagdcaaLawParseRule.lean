/- The walk of the law FnExactParseRule, from the contracts of the program's function and of the model's: it returns true, and writes into nothing that was there. -/
import Derived.Test.YtbdmmeoelagdcaaRuleArg
import Derived.Test.YtbdmmeoelagdcaaFnParseRule
namespace Go.Proofs.Ytbdmmeoelagdcaa
open Go.RowKit

set_option maxHeartbeats 2000000 in
set_option maxRecDepth 100000 in
theorem lawParseRule (F : ByteArray → ByteArray × ByteArray × Int) (hS0 : Hid (GivesPR 55 F)) (hI0 : Hid (GivesPR 56 F)) (s : ByteArray) (w : World) :
    Calls Try.prog 14 #[.string s] w fun e w' => e = .returned (.bool true) ∧ Below w.heap.size w w' := by
  by_cases hs : s.size ≤ 1048576
  · have hs1 : ¬ (1048576 : Int) < (s.size : Int) := by omega
    have HS := Lib.hid (fun W => hS0.out s W hs)
    have HI := Lib.hid (fun W => hI0.out s W hs)
    generalize (F s).1 = L at *
    generalize (F s).2.1 = R at *
    generalize (F s).2.2 = q at *
    have HE := Lib.hid (fun W => eqRule L R L R W rfl rfl)
    clear hS0 hI0
    go_enter Try.func14, Try.ntmps14
    go_wp2_with fail
    refine (HS.out _).mono ?_
    rintro e w1 ⟨rfl, hb1⟩
    obtain ⟨d0, d1⟩ := rule_cells w1 L R
    have hB1 := Lib.hid (bal hb1 (.cells #[.string L, .string R] 62))
    clear hb1
    go_wp2_with fail
    refine (HI.out _).mono ?_
    rintro e w2 ⟨rfl, hb2⟩
    have hB2 := Lib.hid (btr hB1.out hb2)
    have c0 := cellR_be d0 hb2
    have c1 := cellR_be d1 hb2
    clear hb2
    obtain ⟨e0, e1⟩ := rule_cells w2 L R
    have hB3 := Lib.hid (bal hB2.out (.cells #[.string L, .string R] 62))
    have k0 := (World.cell?_alloc_lt _ (.cells #[.string L, .string R] 62) _ (World.block_lt_of_cell? _ _ c0)).trans c0
    have k1 := (World.cell?_alloc_lt _ (.cells #[.string L, .string R] 62) _ (World.block_lt_of_cell? _ _ c1)).trans c1
    go_wp2_with fail
    refine (HE.out _).mono ?_
    rintro e w3 ⟨rfl, hb3⟩
    have hB4 := Lib.hid (btr hB3.out hb3)
    clear hb3
    go_wp2
    go_ret
    exact ⟨rfl, hB4.out⟩
  · have hs1 : (1048576 : Int) < (s.size : Int) := by omega
    go_enter Try.func14, Try.ntmps14
    go_wp2
    go_ret
    exact ⟨rfl, b0 w⟩
end Go.Proofs.Ytbdmmeoelagdcaa
