/- The walk of the law FnExactBinaryOfVector, from the contracts of the program's function and of the model's: it returns true, and writes into nothing that was there. -/
import Derived.Test.YtkeahaoeiiigeaaDoorGives
import Derived.Test.YtkeahaoeiiigeaaDoorFnBinaryOfVector
import Derived.Deep.RegionHeld3
namespace Go.Proofs.YtkeahaoeiiigeaaDoor
open Go.RowKit

set_option maxHeartbeats 2000000 in
set_option maxRecDepth 100000 in
theorem lawBinaryOfVector (F : List Int → ByteArray × Int) (hS0 : Hid (GivesV 35 F)) (hI0 : Hid (GivesV 37 F)) (p : Addr) (A : Option Addr) (xs : List Int) (c : Nat) (w : World) (hx : xs.length ≤ 9223372036854775807) (h : Hid (Ints w w.heap.size A xs)) (hc : w.cell? ⟨1, 0, none⟩ = some (errV p)) :
    Calls Tryd.prog 11 #[.slice A xs.length c] w fun e w' => e = .returned (.bool true) ∧ Below w.heap.size w w' := by
  by_cases hs : xs.length ≤ 1048576
  · have hx' : xs.length ≤ 1000000000000 := by omega
    have hd : ¬ (1048576 : Int) < (xs.length : Int) := by omega
    have HC := Lib.hid hc
    have hS := Lib.hid (fun A c W h1 h2 h3 => hS0.out p A xs c W hs h1 h2 h3)
    have hI := Lib.hid (fun A c W h1 h2 h3 => hI0.out p A xs c W hs h1 h2 h3)
    clear hx hc hS0 hI0
    generalize F xs = r at *
    obtain ⟨r1, r2⟩ := r
    simp only at hS hI
    go_enter Tryd.func11, Tryd.ntmps11
    go_wp2_with fail
    refine (toInts A xs c _ hx' h.out).mono ?_
    rintro e w1 ⟨g1, rfl, o1, hb⟩
    have B := Lib.hid hb
    have I1 := Lib.hid (ints_of_own64 o1)
    clear hb o1
    go_wp2_with fail
    refine (hS.out _ _ _ ⟨Nat.le_refl _, by omega⟩ I1.out (cell_up B.out HC.out)).mono ?_
    rintro e w2 ⟨rfl, hb⟩
    replace B := Lib.hid (btr B.out hb.out)
    clear hb I1
    go_wp2_with fail
    refine (toInts A xs c _ hx' (h.out.be B.out)).mono ?_
    rintro e w3 ⟨gx, rfl, ox, hb⟩
    replace B := Lib.hid (btr B.out hb)
    have Ox := Lib.hid ox
    clear hb ox
    go_wp2_with fail
    refine (hI.out _ _ _ ⟨Nat.le_refl _, by omega⟩ (ints_of_own64 Ox.out) (cell_up B.out HC.out)).mono ?_
    rintro e w4 ⟨rfl, hb⟩
    replace B := Lib.hid (btr B.out hb.out)
    replace Ox := Lib.hid (own_be Ox.out hb.out)
    clear hb
    go_wp2_with fail
    refine (toInts A xs c _ hx' (h.out.be B.out)).mono ?_
    rintro e w5 ⟨g5, rfl, o5, hb⟩
    replace B := Lib.hid (btr B.out hb)
    replace Ox := Lib.hid (own_be Ox.out hb)
    have I5 := Lib.hid (ints_of_own64 o5)
    clear hb o5
    go_wp2_with fail
    refine (eqIntsT _ _ _ _ _ _ (by omega) (ints_of_own64 Ox.out) I5.out).mono ?_
    rintro e w6 ⟨rfl, hb⟩
    replace B := Lib.hid (btr B.out hb)
    clear hb
    go_wp2
    go_ret
    exact ⟨rfl, B.out⟩
  · have hd : (1048576 : Int) < (xs.length : Int) := by omega
    clear hc
    go_enter Tryd.func11, Tryd.ntmps11
    go_wp2
    go_ret
    exact ⟨rfl, b0 _⟩
end Go.Proofs.YtkeahaoeiiigeaaDoor
