/- The walk of the law FnExactCountByLeaves, from the contracts of the program's function and of the model's: it returns true, and writes into nothing that was there. -/
import Derived.Test.YtdaghbfejcjknabGives
namespace Go.Proofs.Ytdaghbfejcjknab
open Go.RowKit

set_option maxHeartbeats 1000000 in
theorem lawCountByLeaves (F : Int → Int → Int × Int) (hS : Hid (GivesNumN2 37 F)) (hI : Hid (GivesNumN2 38 F))
    (n r : Int) (w : World) (hn0 : -9223372036854775808 ≤ n) (hn1 : n ≤ 9223372036854775807) (hr0 : -9223372036854775808 ≤ r) (hr1 : r ≤ 9223372036854775807) :
    Calls Try.prog 10 #[.int .i64 n, .int .i64 r] w fun e w' => e = .returned (.bool true) ∧ Below w.heap.size w w' := by
  go_enter Try.func10, Try.ntmps10
  go_wp2_with fail
  refine (hS.out n r _ hn0 hn1 hr0 hr1).mono ?_
  rintro e w1 ⟨rfl, hb⟩
  have B := Lib.hid hb
  clear hb
  go_wp2_with fail
  refine (hI.out n r _ hn0 hn1 hr0 hr1).mono ?_
  rintro e w2 ⟨rfl, hb⟩
  replace B := Lib.hid (btr B.out hb)
  clear hb
  go_wp2
  go_ret
  exact ⟨rfl, B.out⟩
end Go.Proofs.Ytdaghbfejcjknab
