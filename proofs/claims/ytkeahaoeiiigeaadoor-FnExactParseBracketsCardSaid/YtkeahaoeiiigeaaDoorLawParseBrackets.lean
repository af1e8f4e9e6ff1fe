/- The walk of the law FnExactParseBrackets, from the contracts of the program's function and of the model's: it returns true, and writes into nothing that was there. -/
import Derived.Test.YtkeahaoeiiigeaaDoorFnParseBrackets
namespace Go.Proofs.YtkeahaoeiiigeaaDoor
open Go.RowKit

set_option maxHeartbeats 2000000 in
set_option maxRecDepth 100000 in
theorem lawParseBrackets (F : ByteArray → ByteArray × Int) (hS0 : Hid (GivesP 44 F)) (hI0 : Hid (GivesP 45 F)) (p : Addr) (s : ByteArray) (w : World) (hc : w.cell? ⟨0, 0, none⟩ = some (errV p)) (hT : Lib.Utf8Tabs 2 3 w) :
    Calls Tryd.prog 15 #[.string s] w fun e w' => e = .returned (.bool true) ∧ Below w.heap.size w w' := by
  by_cases hs : s.size ≤ 1048576
  · have hs1 : ¬ (1048576 : Int) < (s.size : Int) := by omega
    have HS := Lib.hid (fun W h h2 => hS0.out p s W hs h h2)
    have HI := Lib.hid (fun W h h2 => hI0.out p s W hs h h2)
    have HC := Lib.hid hc
    have HT := Lib.hid hT
    generalize F s = r at *
    clear hc hT hS0 hI0
    obtain ⟨r1, r2⟩ := r
    simp only at HS HI
    go_enter Tryd.func15, Tryd.ntmps15
    go_wp2_with fail
    refine (HS.out _ HC.out HT.out).mono ?_
    rintro e w1 ⟨rfl, hb1⟩
    go_wp2_with fail
    refine (HI.out _ (cell_up hb1.out HC.out) (Utf8Tabs_below HT.out hb1.out)).mono ?_
    rintro e w2 ⟨rfl, hb2⟩
    go_wp2
    go_ret
    exact ⟨rfl, btr hb1.out hb2.out⟩
  · have hs1 : (1048576 : Int) < (s.size : Int) := by omega
    clear hc hT
    go_enter Tryd.func15, Tryd.ntmps15
    go_wp2
    go_ret
    exact ⟨rfl, b0 w⟩
end Go.Proofs.YtkeahaoeiiigeaaDoor
