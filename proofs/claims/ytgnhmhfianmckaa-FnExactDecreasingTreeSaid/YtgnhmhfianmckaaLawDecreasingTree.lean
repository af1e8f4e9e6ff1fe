/- The walk of the law FnExactDecreasingTree, from the contracts of the program's function and of the model's: it returns true, and writes into nothing that was there. -/
import Derived.Test.YtgnhmhfianmckaaFnDecreasingTree
import Derived.Deep.RegionHeld3
namespace Go.Proofs.Ytgnhmhfianmckaa
open Go.RowKit

set_option maxHeartbeats 2000000 in
set_option maxRecDepth 100000 in
theorem lawDecreasingTree (F : List Int → ByteArray × Int) (hS : Hid (GivesTextI 52 F)) (hI : Hid (GivesTextI 53 F)) (A : Option Addr) (xs : List Int) (c : Nat) (w : World) (hx : xs.length ≤ 9223372036854775807) (h : Hid (Ints w w.heap.size A xs)) :
    Calls Try.prog 16 #[.slice A xs.length c] w fun e w' => e = .returned (.bool true) ∧ Below w.heap.size w w' := by
  by_cases hs : xs.length ≤ 1048576
  · have hx' : xs.length ≤ 1000000000000 := by omega
    have hd : ¬ (1048576 : Int) < (xs.length : Int) := by omega
    clear hx
    go_enter Try.func16, Try.ntmps16
    go_wp2_with fail
    refine (toInts A xs c _ hx' h.out).mono ?_
    rintro e w1 ⟨g1, rfl, o1, hb⟩
    have B := Lib.hid hb
    have I1 := Lib.hid (ints_of_own64 o1)
    clear hb o1
    go_wp2_with fail
    refine (hS.out _ xs xs.length _ hs ⟨Nat.le_refl _, hx'⟩ I1.out).mono ?_
    rintro e w2 ⟨rfl, hb⟩
    replace B := Lib.hid (btr B.out hb)
    clear hb I1
    go_wp2_with fail
    refine (toInts A xs c _ hx' (h.out.be B.out)).mono ?_
    rintro e w3 ⟨gx, rfl, ox, hb⟩
    replace B := Lib.hid (btr B.out hb)
    have Ox := Lib.hid ox
    clear hb ox
    go_wp2_with fail
    refine (hI.out _ xs xs.length _ hs ⟨Nat.le_refl _, hx'⟩ (ints_of_own64 Ox.out)).mono ?_
    rintro e w4 ⟨rfl, hb⟩
    replace B := Lib.hid (btr B.out hb)
    replace Ox := Lib.hid (own_be Ox.out hb)
    clear hb
    go_wp2_with fail
    refine (toInts A xs c _ hx' (h.out.be B.out)).mono ?_
    rintro e w5 ⟨g5, rfl, o5, hb⟩
    replace B := Lib.hid (btr B.out hb)
    replace Ox := Lib.hid (own_be Ox.out hb)
    have I5 := Lib.hid (ints_of_own64 o5)
    clear hb o5
    go_wp2_with fail
    refine (eqIntsT _ _ _ _ _ _ (by omega) (ints_of_own64 Ox.out) I5.out).mono ?_
    rintro e w6 ⟨rfl, hb⟩
    replace B := Lib.hid (btr B.out hb)
    clear hb
    go_wp2
    go_ret
    exact ⟨rfl, B.out⟩
  · have hd : (1048576 : Int) < (xs.length : Int) := by omega
    go_enter Try.func16, Try.ntmps16
    go_wp2
    go_ret
    exact ⟨rfl, b0 _⟩
end Go.Proofs.Ytgnhmhfianmckaa
