/- The walk of the law FnExactIsAtMost, from the contracts of the program's function and of the model's: it returns true, and writes into nothing that was there. -/
import Derived.Test.YtkeahaoeiiigeaaDoorGivesB
namespace Go.Proofs.YtkeahaoeiiigeaaDoor
open Go.RowKit

set_option maxHeartbeats 2000000 in
set_option maxRecDepth 100000 in
theorem lawIsAtMost (F : ByteArray → ByteArray → Bool × Int) (hS0 : Hid (GivesB2 38 F)) (hI0 : Hid (GivesB2 39 F)) (p : Addr) (s u : ByteArray) (w : World) (hc : w.cell? ⟨0, 0, none⟩ = some (errV p)) :
    Calls Tryd.prog 12 #[.string s, .string u] w fun e w' => e = .returned (.bool true) ∧ Below w.heap.size w w' := by
  by_cases hs : s.size ≤ 1048576
  · have hs1 : ¬ (1048576 : Int) < (s.size : Int) := by omega
    by_cases hu : u.size ≤ 1048576
    · have hu1 : ¬ (1048576 : Int) < (u.size : Int) := by omega
      have HS := Lib.hid (fun W h => hS0.out p s u W hs hu h)
      have HI := Lib.hid (fun W h => hI0.out p s u W hs hu h)
      have HC := Lib.hid hc
      generalize F s u = r at *
      clear hc hS0 hI0
      obtain ⟨r1, r2⟩ := r
      simp only at HS HI
      go_enter Tryd.func12, Tryd.ntmps12
      go_wp2_with fail
      refine (HS.out _ HC.out).mono ?_
      rintro e w1 ⟨rfl, hb1⟩
      go_wp2_with fail
      refine (HI.out _ (cell_up hb1.out HC.out)).mono ?_
      rintro e w2 ⟨rfl, hb2⟩
      go_wp2
      go_ret
      exact ⟨rfl, btr hb1.out hb2.out⟩
    · have hu1 : (1048576 : Int) < (u.size : Int) := by omega
      clear hc
      go_enter Tryd.func12, Tryd.ntmps12
      go_wp2
      go_ret
      exact ⟨rfl, b0 w⟩
  · have hs1 : (1048576 : Int) < (s.size : Int) := by omega
    clear hc
    go_enter Tryd.func12, Tryd.ntmps12
    go_wp2
    go_ret
    exact ⟨rfl, b0 w⟩
end Go.Proofs.YtkeahaoeiiigeaaDoor
