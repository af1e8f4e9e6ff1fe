/- The walk of the law FnExactCountGrowing, from the contracts of the program's function and of the model's: it returns true, and writes into nothing that was there. -/
import Derived.Test.YtbdmmeoelagdcaaGives
import Derived.Deep.RegionHeld3
namespace Go.Proofs.Ytbdmmeoelagdcaa
open Go.RowKit

set_option maxHeartbeats 4000000 in
set_option maxRecDepth 100000 in
theorem lawCountGrowing (F : List Int → Int × Int) (hS0 : Hid (GivesNum 60 F)) (hI0 : Hid (GivesNum 61 F)) (A : Option Addr) (xs : List Int) (c : Nat) (w : World) (hx : xs.length ≤ 9223372036854775807) (h : Ints w w.heap.size A xs) :
    Calls Try.prog 16 #[.agg #[.slice A xs.length c]] w fun e w' => e = .returned (.bool true) ∧ Below w.heap.size w w' := by
  by_cases hs : xs.length ≤ 1048576
  · have hl : Hid ((if (1048576 : Int) - xs.length < 0 then -1 else (1048576 : Int) - xs.length) = 1048576 - xs.length) := if_neg (by omega)
    have hx' : xs.length ≤ 1000000000000 := by omega
    have hl0 : (0 : Int) ≤ 1048576 - (xs.length : Int) := by omega
    have hS := fun A' w' h' => hS0.out A' xs xs.length w' hs ⟨Nat.le_refl _, hx'⟩ h'
    have hI := fun A' w' h' => hI0.out A' xs xs.length w' hs ⟨Nat.le_refl _, hx'⟩ h'
    generalize (F xs).1 = r1 at hS hI
    generalize (F xs).2 = r2 at hS hI
    have HS := Lib.hid hS
    have HI := Lib.hid hI
    clear hx hS hI hS0 hI0
    go_enter Try.func16, Try.ntmps16
    go_wp2_with fail
    refine (szTree A xs.length c 1048576 _ (by omega) (by omega) (by omega)).mono ?_
    rintro e w1 ⟨he, hb⟩
    rw [hl.out] at he
    subst he
    have B := Lib.hid (btr (bal (b0 w) _) hb)
    have cA : w1.cell? ⟨w.heap.size, 0, none⟩ = some (.slice A xs.length c) := cell_be (by simp) hb
    clear hb
    go_wp2_with fail
    refine (toTree A xs c _ hx' (h.be B.out)).mono ?_
    rintro e w2 ⟨g2, rfl, o2, hb⟩
    replace B := Lib.hid (btr B.out hb)
    replace cA := cell_be cA hb
    clear hb
    go_wp2_with fail
    refine (HS.out _ _ (ints_of_own64 o2)).mono ?_
    rintro e w3 ⟨rfl, hb⟩
    replace B := Lib.hid (btr B.out hb)
    replace cA := cell_be cA hb
    clear hb o2 HS
    go_wp2_with fail
    refine (toTree A xs c _ hx' (h.be B.out)).mono ?_
    rintro e w4 ⟨gx, rfl, ox, hb⟩
    replace B := Lib.hid (btr B.out hb)
    replace cA := cell_be cA hb
    have Ox := Lib.hid ox
    clear hb ox
    go_wp2_with fail
    refine (HI.out _ _ ((ints_of_own64 Ox.out).al _)).mono ?_
    rintro e w6 ⟨rfl, hb⟩
    replace B := Lib.hid (btr (bal B.out _) hb)
    replace cA := cell_be (cell_al cA _) hb
    have cX : w6.cell? ⟨w4.heap.size, 0, none⟩ = some (.slice (some ⟨gx, 0, none⟩) xs.length xs.length) := cell_be (by simp) hb
    replace Ox := Lib.hid (own_be (Ox.out.alloc _) hb)
    clear hb HI
    go_wp2
    have hT : ∀ W, Hid (Below w6.heap.size w6 W) → Calls Try.prog 22 #[.agg #[.slice A xs.length c]] W fun e w' => ∃ g, e = .returned (.agg #[.slice (some ⟨g, 0, none⟩) xs.length xs.length]) ∧
        Hid (Own64 w' W.heap.size (.slice (some ⟨g, 0, none⟩) xs.length xs.length) xs) ∧ Hid (Below w6.heap.size w6 w') := fun W hW =>
      (toTree A xs c W hx' ((h.be B.out).be hW.out)).mono fun e w' ⟨g, he, ho, hb⟩ => ⟨g, he, ho, btr hW.out hb⟩
    have hE : ∀ g B' W, Hid (Below w6.heap.size w6 W) → Hid (Own64 W B' (.slice (some ⟨g, 0, none⟩) xs.length xs.length) xs) →
        Calls Try.prog 24 #[.agg #[.slice (some ⟨gx, 0, none⟩) xs.length xs.length], .agg #[.slice (some ⟨g, 0, none⟩) xs.length xs.length]] W fun e w' => e = .returned (.bool true) ∧ Hid (Below w6.heap.size w6 w') := fun g B' W hW ho =>
      (eqTreeT _ _ xs _ _ W (by omega) ((ints_of_own64 Ox.out).be hW.out) (ints_of_own64 ho.out)).mono fun e w' ⟨he, hb⟩ => ⟨he, btr hW.out hb⟩
    have HT := Lib.hid hT
    have HE := Lib.hid hE
    clear hT hE
    have K0 : Hid (Below w6.heap.size w6 w6.drew) := (Below.refl _ _).drew
    have cA0 : w6.drew.cell? ⟨w.heap.size, 0, none⟩ = some (.slice A xs.length c) := cA
    have cX0 : w6.drew.cell? ⟨w4.heap.size, 0, none⟩ = some (.slice (some ⟨gx, 0, none⟩) xs.length xs.length) := cX
    go_region_held3 (fun w' => w'.cell? ⟨w.heap.size, 0, none⟩ = some (.slice A xs.length c) ∧ w'.cell? ⟨w4.heap.size, 0, none⟩ = some (.slice (some ⟨gx, 0, none⟩) xs.length xs.length) ∧ Hid (Below w6.heap.size w6 w')) (first | exact ⟨cA0, cX0, K0⟩ | exact ⟨(cell_be cA (Hid.out (by assumption))), (cell_be cX (Hid.out (by assumption))), by assumption⟩) (first | (go_at_call 22; refine (HT.out _ (by assumption)).mono ?_; rintro e w7 ⟨g7, rfl, ho7, hb7⟩) | (go_at_call 24; refine (HE.out _ _ _ (by assumption) (by assumption)).mono ?_; rintro e w8 ⟨rfl, hb8⟩))
    have hb : Below w6.heap.size w6 w8 := hb8
    replace B := Lib.hid (btr B.out hb)
    clear HT HE K0 cA0 cX0 hb8 hb7 ho7 hb
    go_wp2
    go_ret
    exact ⟨rfl, B.out⟩
  · have hl : Hid ((if (1048576 : Int) - xs.length < 0 then -1 else (1048576 : Int) - xs.length) = -1) := if_pos (by omega)
    go_enter Try.func16, Try.ntmps16
    go_wp2_with fail
    refine (szTree A xs.length c 1048576 _ hx (by omega) (by omega)).mono ?_
    rintro e w1 ⟨he, hb1⟩
    rw [hl.out] at he
    subst he
    have B1 := btr (bal (b0 w) _) hb1
    go_wp2
    go_ret
    exact ⟨rfl, B1⟩
end Go.Proofs.Ytbdmmeoelagdcaa
