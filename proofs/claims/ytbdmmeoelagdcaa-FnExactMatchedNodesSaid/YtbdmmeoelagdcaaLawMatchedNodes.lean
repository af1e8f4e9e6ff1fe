/- The walk of the law FnExactMatchedNodes, from the contracts of the program's function and of the model's: it returns true, and writes into nothing that was there. -/
import Derived.Test.YtbdmmeoelagdcaaTree
import Derived.Test.YtbdmmeoelagdcaaFnMatchedNodes
import Derived.Deep.RegionHeld3
namespace Go.Proofs.Ytbdmmeoelagdcaa
open Go.RowKit

set_option maxHeartbeats 4000000 in
set_option maxRecDepth 100000 in
theorem lawMatchedNodes (F : List Int → List Int × Int) (p : ByteArray) (hS : p.size ≤ 1048576 → Hid (GivesTSL p 25 F)) (hI : p.size ≤ 1048576 → Hid (GivesTSL p 26 F)) (hF : ∀ xs : List Int, (F xs).1.length ≤ 1048576)
    (A : Option Addr) (xs : List Int) (c : Nat) (w : World) (hx : xs.length ≤ 9223372036854775807) (h : Ints w w.heap.size A xs) :
    Calls Try.prog 5 #[.agg #[.slice A xs.length c], .string p] w fun e w' => e = .returned (.bool true) ∧ Below w.heap.size w w' := by
  by_cases hps : p.size ≤ 1048576
  case neg =>
    have hp1 : (1048576 : Int) < (p.size : Int) := by omega
    go_enter Try.func5, Try.ntmps5
    go_wp2
    go_ret
    exact ⟨rfl, bal (b0 w) _⟩
  have hp1 : ¬ (1048576 : Int) < (p.size : Int) := by omega
  replace hS := hS hps
  replace hI := hI hps
  by_cases hs : xs.length ≤ 1048576
  · have hl : Hid ((if (1048576 : Int) - xs.length < 0 then -1 else (1048576 : Int) - xs.length) = 1048576 - xs.length) := if_neg (by omega)
    have hx' : xs.length ≤ 1000000000000 := by omega
    have hf := hF xs
    have hl0 : (0 : Int) ≤ 1048576 - (xs.length : Int) := by omega
    clear hF hx
    go_enter Try.func5, Try.ntmps5
    go_wp2_with fail
    refine (szTree A xs.length c 1048576 _ (by omega) (by omega) (by omega)).mono ?_
    rintro e w1 ⟨he, hb⟩
    rw [hl.out] at he
    subst he
    have B := Lib.hid (btr (bal (b0 w) _) hb)
    have cA : w1.cell? ⟨w.heap.size, 0, none⟩ = some (.slice A xs.length c) := cell_be (by simp) hb
    clear hb
    go_wp2_with fail
    -- spec(toTree(aT))
    refine (toTree A xs c _ hx' (h.be B.out)).mono ?_
    rintro e w2 ⟨g2, rfl, o2, hb⟩
    replace B := Lib.hid (btr B.out hb)
    replace cA := cell_be cA hb
    clear hb
    go_wp2_with fail
    refine (hS.out _ xs xs.length _ hs ⟨Nat.le_refl _, hx'⟩ (ints_of_own o2).2).mono ?_
    rintro e w3 ⟨Aw, cw, rfl, ow, hb⟩
    have Bw := Lib.hid (World.ownsRow.lt ow)
    have z2 := B.out.size
    have Ow := Lib.hid (own_mono (base' := w.heap.size) ow z2)
    replace B := Lib.hid (btr B.out hb)
    replace cA := cell_be cA hb
    have z3 := B.out.size
    have a3 : w.heap.size < w3.heap.size := World.block_lt_of_cell? _ _ cA
    clear hb o2 ow z2
    go_wp2_with fail
    -- x0
    refine (toTree A xs c _ hx' (h.be B.out)).mono ?_
    rintro e w4 ⟨gx, rfl, ox, hb⟩
    have z4 := hb.size
    have gx1 := (World.ownsRow.lt ox gx rfl).1
    have gx2 := (World.ownsRow.lt ox gx rfl).2
    have Wx : Hid (∀ k, (Value.slice Aw (F xs).1.length cw).ownBlock = some k → k < w4.heap.size ∧ k ≠ gx) := fun k hk => by have := Bw.out k hk; omega
    replace B := Lib.hid (btr B.out hb)
    replace cA := cell_be cA hb
    have Ox := Lib.hid (own_mono (base' := w.heap.size) ox z3)
    replace Ow := Lib.hid (own_be Ow.out hb)
    have gx3 : w.heap.size < gx := by omega
    clear hb ox Bw z4 gx1 a3
    go_wp2_with fail
    -- g0
    refine (hI.out _ xs xs.length _ hs ⟨Nat.le_refl _, hx'⟩ ((ints_of_own64 Ox.out).al _)).mono ?_
    rintro e w5 ⟨Ag, cg, rfl, og, hb⟩
    replace B := Lib.hid (btr (bal B.out _) hb)
    replace cA := cell_be (cell_al cA _) hb
    have cX : w5.cell? ⟨w4.heap.size, 0, none⟩ = some (.slice (some ⟨gx, 0, none⟩) xs.length xs.length) := cell_be (by simp) hb
    replace Ow := Lib.hid (own_be (Ow.out.alloc _) hb)
    replace Ox := Lib.hid (own_be (Ox.out.alloc _) hb)
    have Og := Lib.hid (own_mono (base' := w4.heap.size + 1) og (by simp))
    clear hb og
    go_wp2_with fail
    refine (eqIntsT _ _ _ _ _ _ (by omega) (ints_of_own64 Og.out) (ints_of_own64 Ow.out)).mono ?_
    rintro e w6 ⟨rfl, hb⟩
    replace B := Lib.hid (btr B.out hb)
    replace cA := cell_be cA hb
    replace cX := cell_be cX hb
    replace Ow := Lib.hid (own_be Ow.out hb)
    replace Ox := Lib.hid (own_be Ox.out hb)
    replace Og := Lib.hid (own_be Og.out hb)
    clear hb
    go_wp2
    have hT : ∀ W, Hid (Below w6.heap.size w6 W) → Calls Try.prog 22 #[.agg #[.slice A xs.length c]] W fun e w' => ∃ g, e = .returned (.agg #[.slice (some ⟨g, 0, none⟩) xs.length xs.length]) ∧
        Hid (Own64 w' W.heap.size (.slice (some ⟨g, 0, none⟩) xs.length xs.length) xs) ∧ Hid (Below w6.heap.size w6 w') := fun W hW =>
      (toTree A xs c W hx' ((h.be B.out).be hW.out)).mono fun e w' ⟨g, he, ho, hb⟩ => ⟨g, he, ho, btr hW.out hb⟩
    have hE : ∀ g B' W, Hid (Below w6.heap.size w6 W) → Hid (Own64 W B' (.slice (some ⟨g, 0, none⟩) xs.length xs.length) xs) →
        Calls Try.prog 24 #[.agg #[.slice (some ⟨gx, 0, none⟩) xs.length xs.length], .agg #[.slice (some ⟨g, 0, none⟩) xs.length xs.length]] W fun e w' => e = .returned (.bool true) ∧ Hid (Below w6.heap.size w6 w') := fun g B' W hW ho =>
      (eqTreeT _ _ xs _ _ W (by omega) ((ints_of_own64 Ox.out).be hW.out) (ints_of_own64 ho.out)).mono fun e w' ⟨he, hb⟩ => ⟨he, btr hW.out hb⟩
    have HT := Lib.hid hT
    have HE := Lib.hid hE
    clear hT hE
    have K0 : Hid (Below w6.heap.size w6 w6.drew) := (Below.refl _ _).drew
    have cA0 : w6.drew.cell? ⟨w.heap.size, 0, none⟩ = some (.slice A xs.length c) := cA
    have cX0 : w6.drew.cell? ⟨w4.heap.size, 0, none⟩ = some (.slice (some ⟨gx, 0, none⟩) xs.length xs.length) := cX
    go_region_held3 (fun w' => w'.cell? ⟨w.heap.size, 0, none⟩ = some (.slice A xs.length c) ∧ w'.cell? ⟨w4.heap.size, 0, none⟩ = some (.slice (some ⟨gx, 0, none⟩) xs.length xs.length) ∧ Hid (Below w6.heap.size w6 w')) (first | exact ⟨cA0, cX0, K0⟩ | exact ⟨(cell_be cA (Hid.out (by assumption))), (cell_be cX (Hid.out (by assumption))), by assumption⟩) (first | (go_at_call 22; refine (HT.out _ (by assumption)).mono ?_; rintro e w7 ⟨g7, rfl, ho7, hb7⟩) | (go_at_call 24; refine (HE.out _ _ _ (by assumption) (by assumption)).mono ?_; rintro e w8 ⟨rfl, hb8⟩))
    have hb : Below w6.heap.size w6 w8 := hb8
    clear HT HE K0 cA0 cX0
    replace B := Lib.hid (btr B.out hb)
    replace cA := cell_be cA hb
    replace cX := cell_be cX hb
    replace Ow := Lib.hid (own_be Ow.out hb)
    replace Ox := Lib.hid (own_be Ox.out hb)
    replace Og := Lib.hid (own_be Og.out hb)
    clear hb hb8 hb7 ho7
    -- the argument is marked
    go_wp2_with fail
    refine (markTree _ xs.length xs.length xs 1 _ _ rfl hx' (by omega) (by omega) Ox.out).mono ?_
    rintro e w9 ⟨rfl, _, hg⟩
    replace B := Lib.hid (below_grown B.out hg (fun k e => by injection e with e; subst e; exact Nat.le_of_lt gx3))
    replace cA := cell_grown cA hg (fun k e => by injection e with e; subst e; exact Nat.ne_of_gt gx3)
    replace Ow := Lib.hid (Ow.out.kept hg (.inr (fun e => (Wx.out gx e).2 rfl)))
    replace Og := Lib.hid (own_grown Og.out hg (fun k e => by injection e with e; subst e; exact .inl (by show gx < _; omega)))
    clear hg cX Ox
    go_wp2_with fail
    refine (eqIntsT _ _ _ _ _ _ (by omega) (ints_of_own64 Og.out) (ints_of_own64 Ow.out)).mono ?_
    rintro e w10 ⟨rfl, hb⟩
    replace B := Lib.hid (btr B.out hb)
    replace cA := cell_be cA hb
    replace Ow := Lib.hid (own_be Ow.out hb)
    replace Og := Lib.hid (own_be Og.out hb)
    clear hb
    -- the result is marked
    go_wp2_with fail
    have Bg := Lib.hid (World.ownsRow.lt Og.out)
    refine (markInts _ _ cg (F xs).1 1 _ _ rfl (by omega) (by omega) (by omega) Og.out).mono ?_
    rintro e w11 ⟨rfl, og, hg⟩
    replace B := Lib.hid (below_grown B.out hg (fun k e => by have := Bg.out k e; omega))
    replace cA := cell_grown cA hg (fun k e => by have := Bg.out k e; omega)
    replace Ow := Lib.hid (Ow.out.kept hg (by
      cases hv : (Value.slice Aw (F xs).1.length cw).ownBlock with
      | none => exact .inl rfl
      | some k => exact .inr fun e => by have h1 := Wx.out k hv; have h2 := Bg.out k e.symm; omega))
    replace Og := Lib.hid (own_mono (base' := 0) og (Nat.zero_le _))
    clear hg og Bg
    go_wp2_with fail
    refine (heldInts _ _ cg 1 _ (by omega) (by omega) (by omega) (ints_of_own64 Og.out)).mono ?_
    rintro e w' ⟨rfl, rfl⟩
    go_wp2_with fail
    -- once more
    refine (toTree A xs c _ hx' (h.be B.out)).mono ?_
    rintro e w12 ⟨g2, rfl, o2, hb⟩
    replace B := Lib.hid (btr B.out hb)
    replace Ow := Lib.hid (own_be Ow.out hb)
    replace Og := Lib.hid (own_be Og.out hb)
    clear hb cA
    go_wp2_with fail
    refine (hI.out _ xs xs.length _ hs ⟨Nat.le_refl _, hx'⟩ (ints_of_own64 o2)).mono ?_
    rintro e w13 ⟨Ah, ch, rfl, oh, hb⟩
    replace B := Lib.hid (btr B.out hb)
    replace Ow := Lib.hid (own_be Ow.out hb)
    replace Og := Lib.hid (own_be Og.out hb)
    have Oh := Lib.hid oh
    clear hb o2 oh
    go_wp2_with fail
    refine (eqIntsT _ _ _ _ _ _ (by omega) (ints_of_own64 Oh.out) (ints_of_own64 Ow.out)).mono ?_
    rintro e w14 ⟨rfl, hb⟩
    replace B := Lib.hid (btr B.out hb)
    replace Og := Lib.hid (own_be Og.out hb)
    clear hb Oh Ow
    go_wp2_with fail
    refine (heldInts _ _ cg 1 _ (by omega) (by omega) (by omega) (ints_of_own64 Og.out)).mono ?_
    rintro e w' ⟨rfl, rfl⟩
    go_wp2
    go_ret
    exact ⟨rfl, B.out⟩
  · have hl : Hid ((if (1048576 : Int) - xs.length < 0 then -1 else (1048576 : Int) - xs.length) = -1) := if_pos (by omega)
    clear hF hS hI
    go_enter Try.func5, Try.ntmps5
    go_wp2_with fail
    refine (szTree A xs.length c 1048576 _ hx (by omega) (by omega)).mono ?_
    rintro e w1 ⟨he, hb1⟩
    rw [hl.out] at he
    subst he
    have B1 := btr (bal (b0 w) _) hb1
    go_wp2
    go_ret
    exact ⟨rfl, B1⟩
end Go.Proofs.Ytbdmmeoelagdcaa
