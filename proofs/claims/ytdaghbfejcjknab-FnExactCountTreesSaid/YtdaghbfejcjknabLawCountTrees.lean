/- The walk of the law FnExactCountTrees, from the contracts of the program's function and of the model's: it returns true, and writes into nothing that was there. -/
import Derived.Test.YtdaghbfejcjknabGives
namespace Go.Proofs.Ytdaghbfejcjknab
open Go.RowKit

set_option maxHeartbeats 1000000 in
theorem lawCountTrees (F : Int → Int × Int) (hS : Hid (GivesNumN1 35 F)) (hI : Hid (GivesNumN1 36 F))
    (n : Int) (w : World) (hn0 : -9223372036854775808 ≤ n) (hn1 : n ≤ 9223372036854775807) :
    Calls Try.prog 9 #[.int .i64 n] w fun e w' => e = .returned (.bool true) ∧ Below w.heap.size w w' := by
  go_enter Try.func9, Try.ntmps9
  go_wp2_with fail
  refine (hS.out n _ hn0 hn1).mono ?_
  rintro e w1 ⟨rfl, hb⟩
  have B := Lib.hid hb
  clear hb
  go_wp2_with fail
  refine (hI.out n _ hn0 hn1).mono ?_
  rintro e w2 ⟨rfl, hb⟩
  replace B := Lib.hid (btr B.out hb)
  clear hb
  go_wp2
  go_ret
  exact ⟨rfl, B.out⟩
end Go.Proofs.Ytdaghbfejcjknab
