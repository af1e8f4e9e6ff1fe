/- The walk of the law FnExactRotateLeft, from the contracts of the program's function and of the model's: it returns true, and writes into nothing that was there. -/
import Derived.Test.YtkeahaoeiiigeaaDoorGivesB
namespace Go.Proofs.YtkeahaoeiiigeaaDoor
open Go.RowKit

set_option maxHeartbeats 2000000 in
set_option maxRecDepth 100000 in
theorem lawRotateLeft (F : ByteArray → Int → ByteArray × Int) (hS0 : Hid (GivesS1N 31 F)) (hI0 : Hid (GivesS1N 32 F)) (p : Addr) (s : ByteArray) (i : Int) (hi1 : -9223372036854775808 ≤ i) (hi2 : i ≤ 9223372036854775807) (w : World) (hc : w.cell? ⟨0, 0, none⟩ = some (errV p)) :
    Calls Tryd.prog 9 #[.string s, .int .i64 i] w fun e w' => e = .returned (.bool true) ∧ Below w.heap.size w w' := by
  by_cases hs : s.size ≤ 1048576
  · have hs1 : ¬ (1048576 : Int) < (s.size : Int) := by omega
    have HS := Lib.hid (fun W h => hS0.out p s i W hs hi1 hi2 h)
    have HI := Lib.hid (fun W h => hI0.out p s i W hs hi1 hi2 h)
    have HC := Lib.hid hc
    generalize F s i = r at *
    clear hc hS0 hI0 hi1 hi2
    obtain ⟨r1, r2⟩ := r
    simp only at HS HI
    go_enter Tryd.func9, Tryd.ntmps9
    go_wp2_with fail
    refine (HS.out _ HC.out).mono ?_
    rintro e w1 ⟨rfl, hb1⟩
    go_wp2_with fail
    refine (HI.out _ (cell_up hb1.out HC.out)).mono ?_
    rintro e w2 ⟨rfl, hb2⟩
    go_wp2
    go_ret
    exact ⟨rfl, btr hb1.out hb2.out⟩
  · have hs1 : (1048576 : Int) < (s.size : Int) := by omega
    clear hc
    go_enter Tryd.func9, Tryd.ntmps9
    go_wp2
    go_ret
    exact ⟨rfl, b0 w⟩
end Go.Proofs.YtkeahaoeiiigeaaDoor
