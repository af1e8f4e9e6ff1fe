/- The walk of the law FnExactIsMoreGeneral, from the contracts of the program's function and of the model's: it returns true, and writes into nothing that was there. -/
import Derived.Test.YtbdmmeoelagdcaaGivesP
namespace Go.Proofs.Ytbdmmeoelagdcaa
open Go.RowKit

set_option maxHeartbeats 2000000 in
set_option maxRecDepth 100000 in
theorem lawIsMoreGeneral (F : ByteArray → ByteArray → Bool × Int) (hS0 : Hid (GivesPB 41 F)) (hI0 : Hid (GivesPB 42 F)) (s u : ByteArray) (w : World) :
    Calls Try.prog 8 #[.string s, .string u] w fun e w' => e = .returned (.bool true) ∧ Below w.heap.size w w' := by
  by_cases hs : s.size ≤ 1048576
  · have hs1 : ¬ (1048576 : Int) < (s.size : Int) := by omega
    by_cases hu : u.size ≤ 1048576
    · have hu1 : ¬ (1048576 : Int) < (u.size : Int) := by omega
      have HS := Lib.hid (fun W => hS0.out s u W hs hu)
      have HI := Lib.hid (fun W => hI0.out s u W hs hu)
      generalize F s u = r at *
      clear hS0 hI0
      obtain ⟨r1, r2⟩ := r
      simp only at HS HI
      go_enter Try.func8, Try.ntmps8
      go_wp2_with fail
      refine (HS.out _).mono ?_
      rintro e w1 ⟨rfl, hb1⟩
      go_wp2_with fail
      refine (HI.out _).mono ?_
      rintro e w2 ⟨rfl, hb2⟩
      go_wp2
      go_ret
      exact ⟨rfl, btr hb1.out hb2.out⟩
    · have hu1 : (1048576 : Int) < (u.size : Int) := by omega
      go_enter Try.func8, Try.ntmps8
      go_wp2
      go_ret
      exact ⟨rfl, b0 w⟩
  · have hs1 : (1048576 : Int) < (s.size : Int) := by omega
    go_enter Try.func8, Try.ntmps8
    go_wp2
    go_ret
    exact ⟨rfl, b0 w⟩
end Go.Proofs.Ytbdmmeoelagdcaa
