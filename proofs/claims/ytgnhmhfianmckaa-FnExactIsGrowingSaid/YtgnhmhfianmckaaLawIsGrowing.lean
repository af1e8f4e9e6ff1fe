/- The walk of the law FnExactIsGrowing, from the contracts of the program's function and of the model's: it returns true, and writes into nothing that was there. -/
import Derived.Test.YtgnhmhfianmckaaGivesO
import Derived.Deep.RegionHeld3
namespace Go.Proofs.Ytgnhmhfianmckaa
open Go.RowKit

set_option maxHeartbeats 4000000 in
set_option maxRecDepth 100000 in
theorem lawIsGrowing (F : List Int → List Int → Bool × Int) (gS : Hid (GivesOB 18 F)) (gI : Hid (GivesOB 21 F)) (A : Option Addr) (xs : List Int) (c : Nat) (A2 : Option Addr) (l : List Int) (c2 : Nat) (w : World) (hx : xs.length ≤ 9223372036854775807) (h : Ints w w.heap.size A xs) (hl2 : l.length ≤ 9223372036854775807) (h2 : Ints w w.heap.size A2 l) :
    Calls Try.prog 3 #[.agg #[.slice A xs.length c], .slice A2 l.length c2] w fun e w' => e = .returned (.bool true) ∧ Below w.heap.size w w' := by
  by_cases hls : l.length ≤ 1048576
  · by_cases hs : xs.length ≤ 1048576
    · have hl : Hid ((if (1048576 : Int) - xs.length < 0 then -1 else (1048576 : Int) - xs.length) = 1048576 - xs.length) := if_neg (by omega)
      have hx' : xs.length ≤ 1000000000000 := by omega
      have hlx : l.length ≤ 1000000000000 := by omega
      have hl0 : (0 : Int) ≤ 1048576 - (xs.length : Int) := by omega
      have hS := fun A' A3 w' h' h3 => gS.out A' A3 xs l xs.length l.length w' hs hls ⟨Nat.le_refl _, hx'⟩ ⟨Nat.le_refl _, hlx⟩ h' h3
      have hI := fun A' A3 w' h' h3 => gI.out A' A3 xs l xs.length l.length w' hs hls ⟨Nat.le_refl _, hx'⟩ ⟨Nat.le_refl _, hlx⟩ h' h3
      generalize (F xs l).1 = r1 at hS hI
      generalize (F xs l).2 = r2 at hS hI
      have HS := Lib.hid hS
      have HI := Lib.hid hI
      have hlz : ¬ (1048576 : Int) < (l.length : Int) := by omega
      clear hx hS hI
      go_enter Try.func3, Try.ntmps3
      go_wp2_with fail
      refine (szTree A xs.length c 1048576 _ (by omega) (by omega) (by omega)).mono ?_
      rintro e w1 ⟨he, hb⟩
      rw [hl.out] at he
      subst he
      have B := Lib.hid (btr (bal (b0 w) _) hb)
      have cA : w1.cell? ⟨w.heap.size, 0, none⟩ = some (.slice A xs.length c) := cell_be (by simp) hb
      clear hb
      go_wp2_with fail
      refine (toTree A xs c _ hx' (h.be B.out)).mono ?_
      rintro e w2 ⟨g2, rfl, o2, hb⟩
      replace B := Lib.hid (btr B.out hb)
      replace cA := cell_be cA hb
      clear hb
      go_wp2_with fail
      refine (toInts A2 l c2 _ hlx (h2.be B.out)).mono ?_
      rintro e w2' ⟨g2', rfl, o2', hb⟩
      replace B := Lib.hid (btr B.out hb)
      replace cA := cell_be cA hb
      have o2'' := own_be o2 hb
      clear hb o2
      go_wp2_with fail
      refine (HS.out _ _ _ (ints_of_own64 o2'') (ints_of_own64 o2')).mono ?_
      rintro e w3 ⟨rfl, hb⟩
      replace B := Lib.hid (btr B.out hb)
      replace cA := cell_be cA hb
      clear hb o2' o2'' HS
      go_wp2_with fail
      refine (toTree A xs c _ hx' (h.be B.out)).mono ?_
      rintro e w4 ⟨gx, rfl, ox, hb⟩
      replace B := Lib.hid (btr B.out hb)
      replace cA := cell_be cA hb
      have Ox := Lib.hid ox
      clear hb ox
      have cA' := cell_al cA (.cells #[.slice (some ⟨gx, 0, none⟩) xs.length xs.length] 28)
      have h2' := Lib.hid ((h2.be B.out).al (.cells #[.slice (some ⟨gx, 0, none⟩) xs.length xs.length] 28))
      go_wp2_with fail
      -- x1
      refine (toInts A2 l c2 _ hlx h2'.out).mono ?_
      rintro e w5 ⟨gy, rfl, oy, hb⟩
      replace B := Lib.hid (btr (bal B.out _) hb)
      replace cA := cell_be cA' hb
      have cX : w5.cell? ⟨w4.heap.size, 0, none⟩ = some (.slice (some ⟨gx, 0, none⟩) xs.length xs.length) := cell_be (by simp) hb
      replace Ox := Lib.hid (own_be (Ox.out.alloc _) hb)
      have Oy := Lib.hid oy
      clear hb oy cA' h2'
      go_wp2_with fail
      refine (HI.out _ _ _ (ints_of_own64 Ox.out) (ints_of_own64 Oy.out)).mono ?_
      rintro e w6 ⟨rfl, hb⟩
      replace B := Lib.hid (btr B.out hb)
      replace cA := cell_be cA hb
      replace cX := cell_be cX hb
      replace Ox := Lib.hid (own_be Ox.out hb)
      replace Oy := Lib.hid (own_be Oy.out hb)
      clear hb HI
      go_wp2
      have hT : ∀ W, Hid (Below w6.heap.size w6 W) → Calls Try.prog 19 #[.agg #[.slice A xs.length c]] W fun e w' => ∃ g, e = .returned (.agg #[.slice (some ⟨g, 0, none⟩) xs.length xs.length]) ∧
          Hid (Own64 w' W.heap.size (.slice (some ⟨g, 0, none⟩) xs.length xs.length) xs) ∧ Hid (Below w6.heap.size w6 w') := fun W hW =>
        (toTree A xs c W hx' ((h.be B.out).be hW.out)).mono fun e w' ⟨g, he, ho, hb⟩ => ⟨g, he, ho, btr hW.out hb⟩
      have hE : ∀ g B' W, Hid (Below w6.heap.size w6 W) → Hid (Own64 W B' (.slice (some ⟨g, 0, none⟩) xs.length xs.length) xs) →
          Calls Try.prog 22 #[.agg #[.slice (some ⟨gx, 0, none⟩) xs.length xs.length], .agg #[.slice (some ⟨g, 0, none⟩) xs.length xs.length]] W fun e w' => e = .returned (.bool true) ∧ Hid (Below w6.heap.size w6 w') := fun g B' W hW ho =>
        (eqTreeT _ _ xs _ _ W (by omega) ((ints_of_own64 Ox.out).be hW.out) (ints_of_own64 ho.out)).mono fun e w' ⟨he, hb⟩ => ⟨he, btr hW.out hb⟩
      have HT := Lib.hid hT
      have HE := Lib.hid hE
      clear hT hE
      have K0 : Hid (Below w6.heap.size w6 w6.drew) := (Below.refl _ _).drew
      have cA0 : w6.drew.cell? ⟨w.heap.size, 0, none⟩ = some (.slice A xs.length c) := cA
      have cX0 : w6.drew.cell? ⟨w4.heap.size, 0, none⟩ = some (.slice (some ⟨gx, 0, none⟩) xs.length xs.length) := cX
      go_region_held3 (fun w' => w'.cell? ⟨w.heap.size, 0, none⟩ = some (.slice A xs.length c) ∧ w'.cell? ⟨w4.heap.size, 0, none⟩ = some (.slice (some ⟨gx, 0, none⟩) xs.length xs.length) ∧ Hid (Below w6.heap.size w6 w')) (first | exact ⟨cA0, cX0, K0⟩ | exact ⟨(cell_be cA (Hid.out (by assumption))), (cell_be cX (Hid.out (by assumption))), by assumption⟩) (first | (go_at_call 19; refine (HT.out _ (by assumption)).mono ?_; rintro e w7 ⟨g7, rfl, ho7, hb7⟩) | (go_at_call 22; refine (HE.out _ _ _ (by assumption) (by assumption)).mono ?_; rintro e w8 ⟨rfl, hb8⟩))
      have hb : Below w6.heap.size w6 w8 := hb8
      replace B := Lib.hid (btr B.out hb)
      replace Oy := Lib.hid (own_be Oy.out hb)
      clear HT HE K0 cA0 cX0 hb8 hb7 ho7 hb Ox
      go_wp2_with fail
      refine (toInts A2 l c2 _ hlx (h2.be B.out)).mono ?_
      rintro e w9 ⟨g9, rfl, o9, hb⟩
      replace B := Lib.hid (btr B.out hb)
      replace Oy := Lib.hid (own_be Oy.out hb)
      clear hb
      go_wp2_with fail
      refine (eqIntsT _ _ _ _ _ _ (by omega) (ints_of_own64 Oy.out) (ints_of_own64 o9)).mono ?_
      rintro e w10 ⟨rfl, hb⟩
      replace B := Lib.hid (btr B.out hb)
      clear hb
      go_wp2
      go_ret
      exact ⟨rfl, B.out⟩
    · have hl : Hid ((if (1048576 : Int) - xs.length < 0 then -1 else (1048576 : Int) - xs.length) = -1) := if_pos (by omega)
      have hlz : ¬ (1048576 : Int) < (l.length : Int) := by omega
      go_enter Try.func3, Try.ntmps3
      go_wp2_with fail
      refine (szTree A xs.length c 1048576 _ hx (by omega) (by omega)).mono ?_
      rintro e w1 ⟨he, hb1⟩
      rw [hl.out] at he
      subst he
      have B1 := btr (bal (b0 w) _) hb1
      go_wp2
      go_ret
      exact ⟨rfl, B1⟩
  · have hlz : (1048576 : Int) < (l.length : Int) := by omega
    go_enter Try.func3, Try.ntmps3
    go_wp2
    go_ret
    exact ⟨rfl, bal (b0 w) _⟩
end Go.Proofs.Ytgnhmhfianmckaa
