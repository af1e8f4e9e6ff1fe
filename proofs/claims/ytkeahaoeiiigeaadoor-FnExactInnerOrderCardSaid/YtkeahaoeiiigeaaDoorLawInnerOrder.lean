/- The walk of the law FnExactInnerOrder, from the contracts of the program's function and of the model's: it returns true, and writes into nothing that was there. -/
import Derived.Test.YtkeahaoeiiigeaaDoorGivesB
import Derived.Test.YtkeahaoeiiigeaaDoorSl
import Derived.Test.YtkeahaoeiiigeaaDoorTree
namespace Go.Proofs.YtkeahaoeiiigeaaDoor
open Go.RowKit

set_option maxHeartbeats 2000000 in
set_option maxRecDepth 100000 in
theorem lawInnerOrder (F : ByteArray → List Int × Int) (hS0 : Hid (GivesL1 24 F)) (hI0 : Hid (GivesL1 25 F)) (hF : ∀ s, (F s).1.length ≤ 1000) (p : Addr) (s : ByteArray) (w : World) (hc : w.cell? ⟨0, 0, none⟩ = some (errV p)) :
    Calls Tryd.prog 7 #[.string s] w fun e w' => e = .returned (.bool true) ∧ Below w.heap.size w w' := by
  by_cases hs : s.size ≤ 1048576
  · have hs1 : ¬ (1048576 : Int) < (s.size : Int) := by omega
    have HS := Lib.hid (fun W h => hS0.out p s W hs h)
    have HI := Lib.hid (fun W h => hI0.out p s W hs h)
    have HC := Lib.hid hc
    have hf := hF s
    generalize F s = r at *
    clear hc hS0 hI0 hF
    obtain ⟨xs, r2⟩ := r
    simp only at HS HI hf
    go_enter Tryd.func7, Tryd.ntmps7
    go_wp2_with fail
    refine (HS.out _ HC.out).mono ?_
    rintro e w1 ⟨Aw, cw, rfl, ow, hb⟩
    have B := Lib.hid hb
    have z1 := hb.size
    have Wx := Lib.hid (World.ownsRow.lt ow)
    have Ow := Lib.hid ow
    clear hb ow
    go_wp2_with fail
    refine (HI.out _ (cell_up B.out HC.out)).mono ?_
    rintro e w2 ⟨Ag, cg, rfl, og, hb⟩
    have Gx := Lib.hid (World.ownsRow.lt og)
    replace B := Lib.hid (btr B.out hb)
    replace Ow := Lib.hid (own_be Ow.out hb)
    have Og := Lib.hid og
    clear hb og
    go_wp2_with fail
    refine (eqIntsT _ _ _ _ _ _ (by omega) (ints_of_own64 Og.out) (ints_of_own64 Ow.out)).mono ?_
    rintro e w6 ⟨rfl, hb⟩
    replace B := Lib.hid (btr B.out hb)
    replace Ow := Lib.hid (own_be Ow.out hb)
    replace Og := Lib.hid (own_be Og.out hb)
    clear hb
    -- the result is marked
    go_wp2_with fail
    refine (markInts _ _ cg xs 1 _ _ rfl (by omega) (by omega) (by omega) Og.out).mono ?_
    rintro e w11 ⟨rfl, og, hg⟩
    replace B := Lib.hid (below_grown B.out hg (fun k e => by have := Gx.out k e; omega))
    replace Ow := Lib.hid (Ow.out.kept hg (by
          cases hv : (Value.slice Aw xs.length cw).ownBlock with
          | none => exact .inl rfl
          | some k => exact .inr fun e => by have h1 := Wx.out k hv; have h2 := Gx.out k e.symm; omega))
    replace Og := Lib.hid (own_mono (base' := 0) og (Nat.zero_le _))
    clear hg og
    go_wp2_with fail
    refine (heldInts _ _ cg 1 _ (by omega) (by omega) (by omega) (ints_of_own64 Og.out)).mono ?_
    rintro e w' ⟨rfl, rfl⟩
    -- once more
    go_wp2_with fail
    refine (HI.out _ (cell_up B.out HC.out)).mono ?_
    rintro e w14 ⟨Ah, ch, rfl, oh, hb⟩
    replace B := Lib.hid (btr B.out hb)
    replace Ow := Lib.hid (own_be Ow.out hb)
    replace Og := Lib.hid (own_be Og.out hb)
    have Oh := Lib.hid oh
    clear hb oh
    go_wp2_with fail
    refine (eqIntsT _ _ _ _ _ _ (by omega) (ints_of_own64 Oh.out) (ints_of_own64 Ow.out)).mono ?_
    rintro e w15 ⟨rfl, hb⟩
    replace B := Lib.hid (btr B.out hb)
    replace Og := Lib.hid (own_be Og.out hb)
    clear hb Oh Ow
    go_wp2_with fail
    refine (heldInts _ _ cg 1 _ (by omega) (by omega) (by omega) (ints_of_own64 Og.out)).mono ?_
    rintro e w' ⟨rfl, rfl⟩
    go_wp2
    go_ret
    exact ⟨rfl, B.out⟩
  · have hs1 : (1048576 : Int) < (s.size : Int) := by omega
    clear hc
    go_enter Tryd.func7, Tryd.ntmps7
    go_wp2
    go_ret
    exact ⟨rfl, b0 w⟩
end Go.Proofs.YtkeahaoeiiigeaaDoor
