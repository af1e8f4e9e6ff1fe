/- The walk of the law FnExactMeetOfBinary, from the contracts of the program's function and of the model's: it returns true, and writes into nothing that was there. -/
import Derived.Test.YtkeahaoeiiigeaaDoorFnMeetOfBinary
namespace Go.Proofs.YtkeahaoeiiigeaaDoor
open Go.RowKit

set_option maxHeartbeats 2000000 in
set_option maxRecDepth 100000 in
theorem lawMeetOfBinary (F : ByteArray → ByteArray → ByteArray × Int) (hS0 : Hid (GivesM 40 F)) (hI0 : Hid (GivesM 41 F)) (p q : Addr) (s u : ByteArray) (w : World) (hc : w.cell? ⟨0, 0, none⟩ = some (errV p)) (hv : w.cell? ⟨1, 0, none⟩ = some (errV q)) :
    Calls Tryd.prog 13 #[.string s, .string u] w fun e w' => e = .returned (.bool true) ∧ Below w.heap.size w w' := by
  by_cases hs : s.size ≤ 1048576
  · have hs1 : ¬ (1048576 : Int) < (s.size : Int) := by omega
    by_cases hu : u.size ≤ 1048576
    · have hu1 : ¬ (1048576 : Int) < (u.size : Int) := by omega
      have HS := Lib.hid (fun W h h2 => hS0.out p q s u W hs hu h h2)
      have HI := Lib.hid (fun W h h2 => hI0.out p q s u W hs hu h h2)
      have HC := Lib.hid hc
      have HV := Lib.hid hv
      generalize F s u = r at *
      clear hc hv hS0 hI0
      obtain ⟨r1, r2⟩ := r
      simp only at HS HI
      go_enter Tryd.func13, Tryd.ntmps13
      go_wp2_with fail
      refine (HS.out _ HC.out HV.out).mono ?_
      rintro e w1 ⟨rfl, hb1⟩
      go_wp2_with fail
      refine (HI.out _ (cell_up hb1.out HC.out) (cell_up hb1.out HV.out)).mono ?_
      rintro e w2 ⟨rfl, hb2⟩
      go_wp2
      go_ret
      exact ⟨rfl, btr hb1.out hb2.out⟩
    · have hu1 : (1048576 : Int) < (u.size : Int) := by omega
      clear hc hv
      go_enter Tryd.func13, Tryd.ntmps13
      go_wp2
      go_ret
      exact ⟨rfl, b0 w⟩
  · have hs1 : (1048576 : Int) < (s.size : Int) := by omega
    clear hc hv
    go_enter Tryd.func13, Tryd.ntmps13
    go_wp2
    go_ret
    exact ⟨rfl, b0 w⟩
end Go.Proofs.YtkeahaoeiiigeaaDoor
