/- The walk of the law FnExactOpenTrees, from the contracts of the program's function and of the model's: it returns true, and writes into nothing that was there. -/
import Derived.Test.YtbdmmeoelagdcaaFnOpenTrees
import Derived.Deep.RegionHeld3
namespace Go.Proofs.Ytbdmmeoelagdcaa
open Go.RowKit

set_option maxHeartbeats 8000000 in
set_option maxRecDepth 100000 in
theorem lawOpenTrees (A : Option Addr) (xs : List Int) (c : Nat) (v : Int) (p : ByteArray) (w : World) (hx : xs.length ≤ 9223372036854775807) (h : Ints w w.heap.size A xs) :
    Calls Try.prog 6 #[.agg #[.slice A xs.length c], .int .i64 v, .string p] w fun e w' => e = .returned (.bool true) ∧ Below w.heap.size w w' := by
  by_cases hps : p.size ≤ 1048576
  case neg =>
    have hp1 : (1048576 : Int) < (p.size : Int) := by omega
    go_enter Try.func6, Try.ntmps6
    go_wp2
    go_ret
    exact ⟨rfl, bal (b0 w) _⟩
  have hp1 : ¬ (1048576 : Int) < (p.size : Int) := by omega
  by_cases hs : xs.length ≤ 1048576
  · have hl : Hid ((if (1048576 : Int) - xs.length < 0 then -1 else (1048576 : Int) - xs.length) = 1048576 - xs.length) := if_neg (by omega)
    have hx' : xs.length ≤ 1000000000000 := by omega
    have hl0 : (0 : Int) ≤ 1048576 - (xs.length : Int) := by omega
    have HS := Lib.hid (fun A' w' h' => spec_OpenTrees A' xs xs.length v p w' hs ⟨Nat.le_refl _, hx'⟩ hps h')
    have HI := Lib.hid (fun A' w' h' => impl_OpenTrees A' xs xs.length v p w' hs ⟨Nat.le_refl _, hx'⟩ hps h')
    have hF := F_OpenTrees_len xs v p
    generalize F_OpenTrees xs v p = R at *
    obtain ⟨Z, r⟩ := R
    simp only at HS HI hF
    obtain ⟨h1, h2⟩ := hF
    obtain ⟨m, hm⟩ : ∃ m, Hid (Z.length = m) := ⟨_, rfl⟩
    rw [hm.out] at HS HI h1
    have Hz5 : Hid (∀ zs ∈ Z, zs.length ≤ 100000) := fun zs h => Nat.le_trans (h2 zs h) (by omega)
    have Hz12 : Hid (∀ zs ∈ Z, zs.length ≤ 1000000000000) := fun zs h => Nat.le_trans (h2 zs h) (by omega)
    have htot := M.tot_le h2
    rw [hm.out] at htot
    obtain ⟨t, ht⟩ : ∃ t, Hid (M.tot Z = t) := ⟨_, rfl⟩
    rw [ht.out] at htot
    clear hx h2
    go_enter Try.func6, Try.ntmps6
    go_wp2_with fail
    refine (szTree A xs.length c 1048576 _ (by omega) (by omega) (by omega)).mono ?_
    rintro e w1 ⟨he, hb⟩
    rw [hl.out] at he
    subst he
    have B := Lib.hid (btr (bal (b0 w) _) hb)
    have cA : w1.cell? ⟨w.heap.size, 0, none⟩ = some (.slice A xs.length c) := cell_be (by simp) hb
    clear hb
    go_wp2_with fail
    -- spec(toTree(aT))
    refine (toTree A xs c _ hx' (h.be B.out)).mono ?_
    rintro e w2 ⟨g2, rfl, o2, hb⟩
    replace B := Lib.hid (btr B.out hb)
    replace cA := cell_be cA hb
    clear hb
    go_wp2_with fail
    refine (HS.out _ _ (ints_of_own o2).2).mono ?_
    rintro e w3 ⟨Aw, cw, hw, rfl, ow, hb⟩
    have Ow := Lib.hid ow
    replace B := Lib.hid (btr B.out hb)
    replace cA := cell_be cA hb
    have z3 := B.out.size
    have a3 : w.heap.size < w3.heap.size := World.block_lt_of_cell? _ _ cA
    have B3 := Lib.hid (b0 w3)
    clear hb o2 ow HS
    go_wp2_with fail
    -- x0
    refine (toTree A xs c _ hx' (h.be B.out)).mono ?_
    rintro e w4 ⟨gx, rfl, ox, hb⟩
    have gx1 := (World.ownsRow.lt ox gx rfl).1
    have gx2 := (World.ownsRow.lt ox gx rfl).2
    replace B3 := Lib.hid (btr B3.out hb)
    replace cA := cell_be cA hb
    have Ox := Lib.hid ox
    clear hb ox
    go_wp2_with fail
    -- g0
    refine (HI.out _ _ ((ints_of_own64 Ox.out).al _)).mono ?_
    rintro e w5 ⟨Ag, cg, hg, rfl, og, hb⟩
    replace B3 := Lib.hid (btr (bal B3.out _) hb)
    replace cA := cell_be (cell_al cA _) hb
    have cX : w5.cell? ⟨w4.heap.size, 0, none⟩ = some (.slice (some ⟨gx, 0, none⟩) xs.length xs.length) := cell_be (by simp) hb
    replace Ox := Lib.hid (own_be (Ox.out.alloc _) hb)
    have Og := Lib.hid (og.mono (B' := w4.heap.size + 1) (by simp))
    have z5 : w4.heap.size + 1 ≤ w5.heap.size := by have := hb.size; simpa using this
    clear hb og
    go_wp2_with fail
    refine (eqTreeS Ag Aw Z m cg cw w5 hm (by omega) Hz12 (Og.out.trees) ((Ow.out.be B3.out).trees)).mono ?_
    rintro e w6 ⟨rfl, hb⟩
    replace B3 := Lib.hid (btr B3.out hb)
    replace cA := cell_be cA hb
    replace cX := cell_be cX hb
    replace Ox := Lib.hid (own_be Ox.out hb)
    replace Og := Lib.hid (Og.out.be hb)
    have z6 : w4.heap.size + 1 ≤ w6.heap.size := Nat.le_trans z5 hb.size
    clear hb z5
    go_wp2
    have hT : ∀ W, Hid (Below w6.heap.size w6 W) → Calls Try.prog 22 #[.agg #[.slice A xs.length c]] W fun e w' => ∃ g, e = .returned (.agg #[.slice (some ⟨g, 0, none⟩) xs.length xs.length]) ∧
        Hid (Own64 w' W.heap.size (.slice (some ⟨g, 0, none⟩) xs.length xs.length) xs) ∧ Hid (Below w6.heap.size w6 w') := fun W hW =>
      (toTree A xs c W hx' (((h.be B.out).be B3.out).be hW.out)).mono fun e w' ⟨g, he, ho, hb⟩ => ⟨g, he, ho, btr hW.out hb⟩
    have hE : ∀ g B' W, Hid (Below w6.heap.size w6 W) → Hid (Own64 W B' (.slice (some ⟨g, 0, none⟩) xs.length xs.length) xs) →
        Calls Try.prog 24 #[.agg #[.slice (some ⟨gx, 0, none⟩) xs.length xs.length], .agg #[.slice (some ⟨g, 0, none⟩) xs.length xs.length]] W fun e w' => e = .returned (.bool true) ∧ Hid (Below w6.heap.size w6 w') := fun g B' W hW ho =>
      (eqTreeT _ _ xs _ _ W (by omega) ((ints_of_own64 Ox.out).be hW.out) (ints_of_own64 ho.out)).mono fun e w' ⟨he, hb⟩ => ⟨he, btr hW.out hb⟩
    have HT := Lib.hid hT
    have HE := Lib.hid hE
    clear hT hE
    have K0 : Hid (Below w6.heap.size w6 w6.drew) := (Below.refl _ _).drew
    have cA0 : w6.drew.cell? ⟨w.heap.size, 0, none⟩ = some (.slice A xs.length c) := cA
    have cX0 : w6.drew.cell? ⟨w4.heap.size, 0, none⟩ = some (.slice (some ⟨gx, 0, none⟩) xs.length xs.length) := cX
    go_region_held3 (fun w' => w'.cell? ⟨w.heap.size, 0, none⟩ = some (.slice A xs.length c) ∧ w'.cell? ⟨w4.heap.size, 0, none⟩ = some (.slice (some ⟨gx, 0, none⟩) xs.length xs.length) ∧ Hid (Below w6.heap.size w6 w')) (first | exact ⟨cA0, cX0, K0⟩ | exact ⟨(cell_be cA (Hid.out (by assumption))), (cell_be cX (Hid.out (by assumption))), by assumption⟩) (first | (go_at_call 22; refine (HT.out _ (by assumption)).mono ?_; rintro e w7 ⟨g7, rfl, ho7, hb7⟩) | (go_at_call 24; refine (HE.out _ _ _ (by assumption) (by assumption)).mono ?_; rintro e w8 ⟨rfl, hb8⟩))
    have hb : Below w6.heap.size w6 w8 := hb8
    clear HT HE K0 cA0 cX0
    replace B3 := Lib.hid (btr B3.out hb)
    replace cA := cell_be cA hb
    replace cX := cell_be cX hb
    replace Ox := Lib.hid (own_be Ox.out hb)
    replace Og := Lib.hid (Og.out.be hb)
    have z8 : w4.heap.size + 1 ≤ w8.heap.size := Nat.le_trans z6 hb.size
    clear hb hb8 hb7 ho7 z6
    -- the argument is marked
    go_wp2_with fail
    refine (markTree _ xs.length xs.length xs 1 _ _ rfl hx' (by omega) (by omega) Ox.out).mono ?_
    rintro e w9 ⟨rfl, _, hg'⟩
    replace B3 := Lib.hid (below_grown B3.out hg' (fun k e => by have e2 : gx = k := (by injection e); omega))
    replace cA := cell_grown cA hg' (fun k e => by have e2 : gx = k := (by injection e); omega)
    have Gr := World.ownsRow.lt Og.out.row
    replace Og := Lib.hid (Og.out.kept hg' (fun k e => by
      have e2 : gx = k := (by injection e)
      exact ⟨fun e => by have := (Gr k e).1; omega, fun h' hh e => by have := (Og.out.lt hh).1; omega⟩))
    have z9 : w4.heap.size + 1 ≤ w9.heap.size := Nat.le_trans z8 hg'.size
    clear hg' cX Ox Gr z8
    go_wp2_with fail
    refine (eqTreeS Ag Aw Z m cg cw w9 hm (by omega) Hz12 (Og.out.trees) ((Ow.out.be B3.out).trees)).mono ?_
    rintro e w10 ⟨rfl, hb⟩
    replace B3 := Lib.hid (btr B3.out hb)
    replace cA := cell_be cA hb
    replace Og := Lib.hid (Og.out.be hb)
    have z10 : w4.heap.size + 1 ≤ w10.heap.size := Nat.le_trans z9 hb.size
    clear hb z9
    -- the result is marked
    go_wp2_with fail
    refine (markTreeS Ag m cg hg Z 1 (w4.heap.size + 1) w10 hm (by omega) (by show _ ≤ _; rw [ht.out]; omega) (by omega) (by omega) z10 Og.out).mono ?_
    rintro e w11 ⟨he, og, hb, _⟩
    rw [ht.out] at he
    subst he
    have Om := Lib.hid og
    replace B3 := Lib.hid (B3.out.trans (hb.mono (by omega)))
    replace cA := (hb.cell (p := ⟨w.heap.size, 0, none⟩) (by show w.heap.size < _; omega)).trans cA
    clear hb og Og
    go_wp2_with fail
    refine (heldTreeS Ag m cg Z 1 w11 hm (by omega) Hz5 (by omega) (by omega) Om.out.trees).mono ?_
    rintro e w12 ⟨he, hb⟩
    rw [ht.out] at he
    subst he
    replace Om := Lib.hid (Om.out.be hb)
    replace B3 := Lib.hid (btr B3.out hb)
    replace cA := cell_be cA hb
    clear hb
    go_wp2_with fail
    -- once more
    refine (toTree A xs c _ hx' ((h.be B.out).be B3.out)).mono ?_
    rintro e w13 ⟨g2, rfl, o2, hb⟩
    replace B3 := Lib.hid (btr B3.out hb)
    replace Om := Lib.hid (Om.out.be hb)
    clear hb cA
    go_wp2_with fail
    refine (HI.out _ _ (ints_of_own64 o2)).mono ?_
    rintro e w14 ⟨Ah, ch, hh, rfl, oh, hb⟩
    replace B3 := Lib.hid (btr B3.out hb)
    replace Om := Lib.hid (Om.out.be hb)
    have Oh := Lib.hid oh
    clear hb o2 oh HI
    go_wp2_with fail
    refine (eqTreeS Ah Aw Z m ch cw w14 hm (by omega) Hz12 (Oh.out.trees) ((Ow.out.be B3.out).trees)).mono ?_
    rintro e w15 ⟨rfl, hb⟩
    replace B3 := Lib.hid (btr B3.out hb)
    replace Om := Lib.hid (Om.out.be hb)
    clear hb Oh Ow
    go_wp2_with fail
    refine (heldTreeS Ag m cg Z 1 w15 hm (by omega) Hz5 (by omega) (by omega) Om.out.trees).mono ?_
    rintro e w16 ⟨he, hb⟩
    rw [ht.out] at he
    subst he
    replace B3 := Lib.hid (btr B3.out hb)
    have BB := btr B.out B3.out
    clear hb Om
    go_wp2
    go_ret
    exact ⟨rfl, BB⟩
  · have hl : Hid ((if (1048576 : Int) - xs.length < 0 then -1 else (1048576 : Int) - xs.length) = -1) := if_pos (by omega)
    go_enter Try.func6, Try.ntmps6
    go_wp2_with fail
    refine (szTree A xs.length c 1048576 _ hx (by omega) (by omega)).mono ?_
    rintro e w1 ⟨he, hb1⟩
    rw [hl.out] at he
    subst he
    have B1 := btr (bal (b0 w) _) hb1
    go_wp2
    go_ret
    exact ⟨rfl, B1⟩
end Go.Proofs.Ytbdmmeoelagdcaa
