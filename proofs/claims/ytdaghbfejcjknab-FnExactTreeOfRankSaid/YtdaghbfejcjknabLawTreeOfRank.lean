/- The walk of the law FnExactTreeOfRank, from the contracts of the program's function and of the model's: it returns true, and writes into nothing that was there. -/
import Derived.Test.YtdaghbfejcjknabGives
import Derived.Deep.RegionHeld3
namespace Go.Proofs.Ytdaghbfejcjknab
open Go.RowKit

set_option maxHeartbeats 4000000 in
set_option maxRecDepth 100000 in
theorem lawTreeOfRank (F : Int → Int → List Int × Int) (hS : Hid (GivesTreeN2 28 F)) (hI : Hid (GivesTreeN2 29 F)) (hF : ∀ n r : Int, (F n r).1.length ≤ 1048576)
    (n r : Int) (w : World) (hn0 : -9223372036854775808 ≤ n) (hn1 : n ≤ 9223372036854775807) (hr0 : -9223372036854775808 ≤ r) (hr1 : r ≤ 9223372036854775807) :
    Calls Try.prog 7 #[.int .i64 n, .int .i64 r] w fun e w' => e = .returned (.bool true) ∧ Below w.heap.size w w' := by
  have hf := hF n r
  clear hF
  go_enter Try.func7, Try.ntmps7
  go_wp2_with fail
  refine (hS.out n r _ hn0 hn1 hr0 hr1).mono ?_
  rintro e w1 ⟨Aw, cw, rfl, ow, hb⟩
  have B := Lib.hid hb
  have z1 := hb.size
  have Bw := Lib.hid (World.ownsRow.lt ow)
  have Ow := Lib.hid ow
  clear hb ow
  go_wp2_with fail
  -- g0
  refine (hI.out n r _ hn0 hn1 hr0 hr1).mono ?_
  rintro e w5 ⟨Ag, cg, rfl, og, hb⟩
  replace B := Lib.hid (btr (bal B.out _) hb)
  have cW : w5.cell? ⟨w1.heap.size, 0, none⟩ = some (.slice Aw (F n r).1.length cw) := cell_be (by simp) hb
  replace Ow := Lib.hid (own_be (Ow.out.alloc _) hb)
  have Bg := Lib.hid (World.ownsRow.lt og)
  have Gx : Hid (∀ k, (Value.slice Ag (F n r).1.length cg).ownBlock = some k → w1.heap.size < k ∧ k < w5.heap.size) := fun k hk => by have := Bg.out k hk; simp only [World.size_alloc] at this; omega
  have Og := Lib.hid (own_mono (base' := w1.heap.size + 1) og (by simp))
  have z5 : w1.heap.size < w5.heap.size := World.block_lt_of_cell? _ _ cW
  have Wl : Hid (∀ k, (Value.slice Aw (F n r).1.length cw).ownBlock = some k → w.heap.size ≤ k ∧ k < w1.heap.size) := Bw
  clear hb og Bg Bw
  have cW' := cell_al cW (.cells #[.slice Ag (F n r).1.length cg] 24)
  have iG := Lib.hid ((ints_of_own64 Og.out).al (.cells #[.slice Ag (F n r).1.length cg] 24))
  have iW := Lib.hid ((ints_of_own64 Ow.out).al (.cells #[.slice Ag (F n r).1.length cg] 24))
  go_wp2_with fail
  refine (eqTreeT _ _ _ _ _ _ (by omega) iG.out iW.out).mono ?_
  rintro e w6 ⟨rfl, hb⟩
  replace B := Lib.hid (btr (bal B.out _) hb)
  replace cW := cell_be cW' hb
  have cG : w6.cell? ⟨w5.heap.size, 0, none⟩ = some (.slice Ag (F n r).1.length cg) := cell_be (by simp) hb
  replace Ow := Lib.hid (own_be (Ow.out.alloc _) hb)
  replace Og := Lib.hid (own_be (Og.out.alloc _) hb)
  clear hb cW' iG iW
  -- the result is marked
  go_wp2_with fail
  refine (markTree _ _ cg (F n r).1 1 _ _ rfl (by omega) (by omega) (by omega) Og.out).mono ?_
  rintro e w11 ⟨rfl, og, hg⟩
  replace B := Lib.hid (below_grown B.out hg (fun k e => by have := Gx.out k e; omega))
  replace cW := cell_grown cW hg (fun k e => by have := Gx.out k e; omega)
  replace cG := cell_grown cG hg (fun k e => by have := Gx.out k e; omega)
  replace Ow := Lib.hid (Ow.out.kept hg (by
    cases hv : (Value.slice Aw (F n r).1.length cw).ownBlock with
    | none => exact .inl rfl
    | some k => exact .inr fun e => by have h1 := Wl.out k hv; have h2 := Gx.out k e.symm; omega))
  replace Og := Lib.hid (own_mono (base' := 0) og (Nat.zero_le _))
  clear hg og
  go_wp2_with fail
  refine (heldTree _ _ cg 1 _ (by omega) (by omega) (by omega) (ints_of_own64 Og.out)).mono ?_
  rintro e w12 ⟨rfl, hb⟩
  replace B := Lib.hid (btr B.out hb)
  replace cW := cell_be cW hb
  replace cG := cell_be cG hb
  replace Ow := Lib.hid (own_be Ow.out hb)
  replace Og := Lib.hid (own_be Og.out hb)
  clear hb
  go_wp2_with fail
  -- once more
  refine (hI.out n r _ hn0 hn1 hr0 hr1).mono ?_
  rintro e w14 ⟨Ah, ch, rfl, oh, hb⟩
  replace B := Lib.hid (btr B.out hb)
  replace cW := cell_be cW hb
  replace cG := cell_be cG hb
  replace Ow := Lib.hid (own_be Ow.out hb)
  replace Og := Lib.hid (own_be Og.out hb)
  have Oh := Lib.hid oh
  clear hb oh
  have cW' := cell_al cW (.cells #[.slice Ah (F n r).1.length ch] 24)
  have cG' := cell_al cG (.cells #[.slice Ah (F n r).1.length ch] 24)
  have iH := Lib.hid ((ints_of_own64 Oh.out).al (.cells #[.slice Ah (F n r).1.length ch] 24))
  have iW := Lib.hid ((ints_of_own64 Ow.out).al (.cells #[.slice Ah (F n r).1.length ch] 24))
  go_wp2_with fail
  refine (eqTreeT _ _ _ _ _ _ (by omega) iH.out iW.out).mono ?_
  rintro e w15 ⟨rfl, hb⟩
  replace B := Lib.hid (btr (bal B.out _) hb)
  replace cG := cell_be cG' hb
  replace Og := Lib.hid (own_be (Og.out.alloc _) hb)
  clear hb Oh Ow cW cW' cG' iH iW
  go_wp2_with fail
  refine (heldTree _ _ cg 1 _ (by omega) (by omega) (by omega) (ints_of_own64 Og.out)).mono ?_
  rintro e w16 ⟨rfl, hb⟩
  replace B := Lib.hid (btr B.out hb)
  clear hb
  go_wp2
  go_ret
  exact ⟨rfl, B.out⟩
end Go.Proofs.Ytdaghbfejcjknab
