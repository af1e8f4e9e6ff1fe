/- The walk of the law FnExactTreeOfDepths, from the contracts of the program's function and of the model's: it returns true, and writes into nothing that was there. -/
import Derived.Test.YtbnnlifpldgcfaaGives
import Derived.Test.YtbnnlifpldgcfaaGives2
import Derived.Deep.RegionHeld3
namespace Go.Proofs.Ytbnnlifpldgcfaa
open Go.RowKit

set_option maxHeartbeats 4000000 in
set_option maxRecDepth 100000 in
theorem lawTreeOfDepths (F : List Int → List Int × Int) (hS : Hid (GivesTreeI 16 F)) (hI : Hid (GivesTreeI 18 F)) (hF : ∀ xs : List Int, (F xs).1.length ≤ 1048576)
    (A : Option Addr) (xs : List Int) (c : Nat) (w : World) (hx : xs.length ≤ 9223372036854775807) (hv : Hid (∀ x ∈ xs, -9223372036854775808 ≤ x ∧ x ≤ 9223372036854775807)) (h0 : Hid (Ints w w.heap.size A xs)) :
    Calls Try.prog 3 #[.slice A xs.length c] w fun e w' => e = .returned (.bool true) ∧ Below w.heap.size w w' := by
  have h := h0.out
  by_cases hs : xs.length ≤ 1048576
  · have hx' : xs.length ≤ 1000000000000 := by omega
    have hd : ¬ (1048576 : Int) < (xs.length : Int) := by omega
    have hf := hF xs
    have B : Hid (Below w.heap.size w w) := b0 w
    have H := h0
    clear hF hx h0
    go_enter Try.func3, Try.ntmps3
    go_wp2_with fail
    -- spec(toTree(aT))
    refine (toInts A xs c _ hx' (h.be B.out)).mono ?_
    rintro e w2 ⟨g2, rfl, o2, hb⟩
    replace B := Lib.hid (btr B.out hb)
    clear hb
    go_wp2_with fail
    refine (hS.out _ xs xs.length _ hs ⟨Nat.le_refl _, hx'⟩ (ints_of_own64 o2) hv.out).mono ?_
    rintro e w3 ⟨Aw, cw, rfl, ow, hb⟩
    have Bw := Lib.hid (World.ownsRow.lt ow)
    have z2 := B.out.size
    have Ow := Lib.hid (own_mono (base' := w.heap.size) ow z2)
    replace B := Lib.hid (btr B.out hb)
    have z3 := B.out.size
    clear hb o2 ow z2
    -- x0
    have h3 := Lib.hid ((h.be B.out).al (.cells #[.slice Aw (F xs).1.length cw] 24))
    go_wp2_with fail
    refine (toInts A xs c _ hx' h3.out).mono ?_
    rintro e w4 ⟨gx, rfl, ox, hb⟩
    have z4 := hb.size
    have gx1 := (World.ownsRow.lt ox gx rfl).1
    have gx2 := (World.ownsRow.lt ox gx rfl).2
    simp only [World.size_alloc] at gx1 z4
    have Wx : Hid (∀ k, (Value.slice Aw (F xs).1.length cw).ownBlock = some k → k < w4.heap.size ∧ k ≠ gx) := fun k hk => by have := Bw.out k hk; omega
    have cW : w4.cell? ⟨w3.heap.size, 0, none⟩ = some (.slice Aw (F xs).1.length cw) := cell_be (by simp) hb
    replace B := Lib.hid (btr (bal B.out _) hb)
    have Ox := Lib.hid (own_mono (base' := w.heap.size) ox (by simp; omega))
    replace Ow := Lib.hid (own_be (Ow.out.alloc _) hb)
    have gx3 : w3.heap.size < gx := by omega
    clear hb ox Bw gx1 h3
    -- g0
    have cW' := cW
    go_wp2_with fail
    refine (hI.out _ xs xs.length _ hs ⟨Nat.le_refl _, hx'⟩ (ints_of_own64 Ox.out) hv.out).mono ?_
    rintro e w5 ⟨Ag, cg, rfl, og, hb⟩
    replace B := Lib.hid (btr B.out hb)
    replace cW := cell_be cW' hb
    replace Ow := Lib.hid (own_be Ow.out hb)
    replace Ox := Lib.hid (own_be Ox.out hb)
    have Bg := Lib.hid (World.ownsRow.lt og)
    have Gx : Hid (∀ k, (Value.slice Ag (F xs).1.length cg).ownBlock = some k → w4.heap.size ≤ k ∧ k < w5.heap.size) := fun k hk => by have := Bg.out k hk; omega
    have Og := Lib.hid og
    have z5 := hb.size
    clear hb og cW' Bg
    have cW' := cell_al cW (.cells #[.slice Ag (F xs).1.length cg] 24)
    have iG := Lib.hid ((ints_of_own64 Og.out).al (.cells #[.slice Ag (F xs).1.length cg] 24))
    have iW := Lib.hid ((ints_of_own64 Ow.out).al (.cells #[.slice Ag (F xs).1.length cg] 24))
    go_wp2_with fail
    refine (eqTreeT _ _ _ _ _ _ (by omega) iG.out iW.out).mono ?_
    rintro e w6 ⟨rfl, hb⟩
    replace B := Lib.hid (btr (bal B.out _) hb)
    replace cW := cell_be cW' hb
    have cG : w6.cell? ⟨w5.heap.size, 0, none⟩ = some (.slice Ag (F xs).1.length cg) := cell_be (by simp) hb
    replace Ow := Lib.hid (own_be (Ow.out.alloc _) hb)
    replace Ox := Lib.hid (own_be (Ox.out.alloc _) hb)
    replace Og := Lib.hid (own_be (Og.out.alloc _) hb)
    clear hb cW' iG iW
    go_wp2_with fail
    refine (toInts A xs c _ hx' (h.be B.out)).mono ?_
    rintro e w7 ⟨g7, rfl, o7, hb⟩
    replace B := Lib.hid (btr B.out hb)
    replace cW := cell_be cW hb
    replace cG := cell_be cG hb
    replace Ow := Lib.hid (own_be Ow.out hb)
    replace Ox := Lib.hid (own_be Ox.out hb)
    replace Og := Lib.hid (own_be Og.out hb)
    have I7 := Lib.hid (ints_of_own64 o7)
    clear hb o7
    go_wp2_with fail
    refine (eqIntsT _ _ _ _ _ _ (by omega) (ints_of_own64 Ox.out) I7.out).mono ?_
    rintro e w8 ⟨rfl, hb⟩
    replace B := Lib.hid (btr B.out hb)
    replace cW := cell_be cW hb
    replace cG := cell_be cG hb
    replace Ow := Lib.hid (own_be Ow.out hb)
    replace Ox := Lib.hid (own_be Ox.out hb)
    replace Og := Lib.hid (own_be Og.out hb)
    clear hb I7
    -- the argument is marked
    go_wp2_with fail
    refine (markInts _ xs.length xs.length xs 1 _ _ rfl hx' (by omega) (by omega) Ox.out).mono ?_
    rintro e w9 ⟨rfl, _, hg⟩
    have hgb : Hid (∀ k, (Value.slice (some ⟨gx, 0, none⟩) xs.length xs.length).ownBlock = some k → k = gx) := fun k e => by injection e with e; exact e.symm
    replace B := Lib.hid (below_grown B.out hg (fun k e => by have := hgb.out k e; omega))
    replace cW := cell_grown cW hg (fun k e => by have := hgb.out k e; omega)
    replace cG := cell_grown cG hg (fun k e => by have := hgb.out k e; omega)
    replace Ow := Lib.hid (Ow.out.kept hg (.inr (fun e => (Wx.out gx e).2 rfl)))
    replace Og := Lib.hid (own_grown Og.out hg (fun k e => by have := hgb.out k e; exact .inl (by omega)))
    clear hg Ox hgb
    go_wp2_with fail
    refine (eqTreeT _ _ _ _ _ _ (by omega) (ints_of_own64 Og.out) (ints_of_own64 Ow.out)).mono ?_
    rintro e w10 ⟨rfl, hb⟩
    replace B := Lib.hid (btr B.out hb)
    replace cW := cell_be cW hb
    replace cG := cell_be cG hb
    replace Ow := Lib.hid (own_be Ow.out hb)
    replace Og := Lib.hid (own_be Og.out hb)
    clear hb
    -- the result is marked
    go_wp2_with fail
    refine (markTree _ _ cg (F xs).1 1 _ _ rfl (by omega) (by omega) (by omega) Og.out).mono ?_
    rintro e w11 ⟨rfl, og, hg⟩
    replace B := Lib.hid (below_grown B.out hg (fun k e => by have := Gx.out k e; omega))
    replace cW := cell_grown cW hg (fun k e => by have := Gx.out k e; omega)
    replace cG := cell_grown cG hg (fun k e => by have := Gx.out k e; omega)
    replace Ow := Lib.hid (Ow.out.kept hg (by
      cases hv : (Value.slice Aw (F xs).1.length cw).ownBlock with
      | none => exact .inl rfl
      | some k => exact .inr fun e => by have h1 := Wx.out k hv; have h2 := Gx.out k e.symm; omega))
    replace Og := Lib.hid (own_mono (base' := 0) og (Nat.zero_le _))
    clear hg og
    go_wp2_with fail
    refine (heldTree _ _ cg 1 _ (by omega) (by omega) (by omega) (ints_of_own64 Og.out)).mono ?_
    rintro e w12 ⟨rfl, hb⟩
    replace B := Lib.hid (btr B.out hb)
    replace cW := cell_be cW hb
    replace cG := cell_be cG hb
    replace Ow := Lib.hid (own_be Ow.out hb)
    replace Og := Lib.hid (own_be Og.out hb)
    clear hb
    go_wp2_with fail
    -- once more
    refine (toInts A xs c _ hx' (h.be B.out)).mono ?_
    rintro e w13 ⟨g2, rfl, o2, hb⟩
    replace B := Lib.hid (btr B.out hb)
    replace cW := cell_be cW hb
    replace cG := cell_be cG hb
    replace Ow := Lib.hid (own_be Ow.out hb)
    replace Og := Lib.hid (own_be Og.out hb)
    clear hb
    go_wp2_with fail
    refine (hI.out _ xs xs.length _ hs ⟨Nat.le_refl _, hx'⟩ (ints_of_own64 o2) hv.out).mono ?_
    rintro e w14 ⟨Ah, ch, rfl, oh, hb⟩
    replace B := Lib.hid (btr B.out hb)
    replace cW := cell_be cW hb
    replace cG := cell_be cG hb
    replace Ow := Lib.hid (own_be Ow.out hb)
    replace Og := Lib.hid (own_be Og.out hb)
    have Oh := Lib.hid oh
    clear hb o2 oh
    have cW' := cell_al cW (.cells #[.slice Ah (F xs).1.length ch] 24)
    have cG' := cell_al cG (.cells #[.slice Ah (F xs).1.length ch] 24)
    have iH := Lib.hid ((ints_of_own64 Oh.out).al (.cells #[.slice Ah (F xs).1.length ch] 24))
    have iW := Lib.hid ((ints_of_own64 Ow.out).al (.cells #[.slice Ah (F xs).1.length ch] 24))
    go_wp2_with fail
    refine (eqTreeT _ _ _ _ _ _ (by omega) iH.out iW.out).mono ?_
    rintro e w15 ⟨rfl, hb⟩
    replace B := Lib.hid (btr (bal B.out _) hb)
    replace cG := cell_be cG' hb
    replace Og := Lib.hid (own_be (Og.out.alloc _) hb)
    clear hb Oh Ow cW cW' cG' iH iW
    go_wp2_with fail
    refine (heldTree _ _ cg 1 _ (by omega) (by omega) (by omega) (ints_of_own64 Og.out)).mono ?_
    rintro e w16 ⟨rfl, hb⟩
    replace B := Lib.hid (btr B.out hb)
    clear hb
    go_wp2
    go_ret
    exact ⟨rfl, B.out⟩
  · have hd : (1048576 : Int) < (xs.length : Int) := by omega
    clear hF hS hI
    go_enter Try.func3, Try.ntmps3
    go_wp2
    go_ret
    exact ⟨rfl, b0 _⟩
end Go.Proofs.Ytbnnlifpldgcfaa
