/- The walk of the law FnExactLeafDistance: it returns true, and writes into nothing that was there. -/
import Derived.Test.YtgcabcmnhdaepaaFnLeafDistance
import Derived.Deep.RegionHeld3
namespace Go.Proofs.Ytgcabcmnhdaepaa
open Go.RowKit

set_option maxHeartbeats 4000000 in
set_option maxRecDepth 100000 in
theorem lawLeafDistance (A A2 : Option Addr) (xs ys : List Int) (c c2 : Nat) (w : World) (hx : xs.length ≤ 9223372036854775807) (hy : ys.length ≤ 9223372036854775807) (h : Ints w w.heap.size A xs) (h2 : Ints w w.heap.size A2 ys) :
    Calls Try.prog 17 #[.agg #[.slice A xs.length c], .agg #[.slice A2 ys.length c2]] w fun e w' => e = .returned (.bool true) ∧ Below w.heap.size w w' := by
  obtain ⟨W, hW⟩ : ∃ W, W = (w.alloc (.cells #[.slice A xs.length c] 51)).alloc (.cells #[.slice A2 ys.length c2] 51) := ⟨_, rfl⟩
  have C1 : Hid (W.cell? ⟨w.heap.size, 0, none⟩ = some (.slice A xs.length c)) := by subst hW; exact cell_al (by simp) _
  have C2 : Hid (W.cell? ⟨w.heap.size + 1, 0, none⟩ = some (.slice A2 ys.length c2)) := by subst hW; exact World.cell?_alloc_at _ _ _ _ (by simp)
  have i1 : Hid (Ints W W.heap.size A xs) := by subst hW; exact (h.al _).al _
  have i2 : Hid (Ints W W.heap.size A2 ys) := by subst hW; exact (h2.al _).al _
  have hBW : Hid (Below w.heap.size w W) := by subst hW; exact bal (bal (b0 w) _) _
  have HW := Lib.hid hW
  clear hW h h2
  by_cases hs : xs.length ≤ 1048576
  · have hl : Hid ((if (1048576 : Int) - xs.length < 0 then -1 else (1048576 : Int) - xs.length) = 1048576 - xs.length) := if_neg (by omega)
    have hl0 : (0 : Int) ≤ 1048576 - (xs.length : Int) := by omega
    have hl1 : ¬ (1048576 : Int) - (xs.length : Int) < 0 := by omega
    by_cases hs2 : (ys.length : Int) ≤ 1048576 - xs.length
    · have hl2 : Hid ((if (1048576 : Int) - xs.length - ys.length < 0 then -1 else (1048576 : Int) - xs.length - ys.length) = 1048576 - xs.length - ys.length) := if_neg (by omega)
      have hl3 : ¬ (1048576 : Int) - (xs.length : Int) - (ys.length : Int) < 0 := by omega
      have hx' : Hid (xs.length ≤ 1000000000000) := (show xs.length ≤ 1000000000000 by omega)
      have hy' : Hid (ys.length ≤ 1000000000000) := (show ys.length ≤ 1000000000000 by omega)
      have hys : ys.length ≤ 1048576 := by omega
      have hS := fun A' A3 w' h' h3 => spec_LeafDistance A' A3 xs ys xs.length ys.length w' hs hys ⟨Nat.le_refl _, hx'.out⟩ ⟨Nat.le_refl _, hy'.out⟩ h' h3
      have hI := fun A' A3 w' h' h3 => impl_LeafDistance A' A3 xs ys xs.length ys.length w' hs hys ⟨Nat.le_refl _, hx'.out⟩ ⟨Nat.le_refl _, hy'.out⟩ h' h3
      generalize (F_LeafDistance xs ys).1 = r1 at hS hI
      generalize (F_LeafDistance xs ys).2 = r2 at hS hI
      have HS := Lib.hid hS
      have HI := Lib.hid hI
      clear hx hy hS hI
      have HT : Hid (∀ W', Hid (Below W.heap.size W W') → ∀ (A' : Option Addr) (zs : List Int) (c' : Nat), Hid (Ints W W.heap.size A' zs) → Hid (zs.length ≤ 1000000000000) → Calls Try.prog 43 #[.agg #[.slice A' zs.length c']] W' fun e w' => ∃ g, e = .returned (.agg #[.slice (some ⟨g, 0, none⟩) zs.length zs.length]) ∧
          Hid (Own64 w' W'.heap.size (.slice (some ⟨g, 0, none⟩) zs.length zs.length) zs) ∧ Hid (Below W.heap.size W w') ∧ Hid (Below W'.heap.size W' w')) := fun W' hW' A' zs c' hi hz =>
        (toTree A' zs c' W' hz.out (hi.out.be hW'.out)).mono fun e w' ⟨g, he, ho, hb⟩ => ⟨g, he, ho, btr hW'.out hb, hb⟩
      go_enter Try.func17, Try.ntmps17
      go_wp2_with fail
      rw [← HW.out]
      have c1 := C1.out
      refine (szTree A xs.length c 1048576 _ (by omega) (by omega) (by omega)).mono ?_
      rintro e w1 ⟨he, hb⟩
      rw [hl.out] at he
      subst he
      have B := Lib.hid hb
      clear hb c1
      have c2' := cell_be C2.out B.out
      go_wp2_with fail
      refine (szTree A2 ys.length c2 (1048576 - xs.length) _ (by omega) (by omega) (by omega)).mono ?_
      rintro e w2 ⟨he, hb⟩
      rw [hl2.out] at he
      subst he
      replace B := Lib.hid (btr B.out hb)
      clear hb c2'
      have c1' := cell_be C1.out B.out
      have c2' := cell_be C2.out B.out
      go_wp2
      have K0 : Hid (Below W.heap.size W w2.drew) := B.out.drew
      have c10 : w2.drew.cell? ⟨w.heap.size, 0, none⟩ = some (.slice A xs.length c) := c1'
      have c20 : w2.drew.cell? ⟨w.heap.size + 1, 0, none⟩ = some (.slice A2 ys.length c2) := c2'
      have HK : Hid (∀ W', Hid (Below W.heap.size W W') → W'.cell? ⟨w.heap.size, 0, none⟩ = some (.slice A xs.length c) ∧ W'.cell? ⟨w.heap.size + 1, 0, none⟩ = some (.slice A2 ys.length c2)) := fun W' hW' => ⟨cell_be C1.out hW'.out, cell_be C2.out hW'.out⟩
      go_region_held3 (fun w' => w'.cell? ⟨w.heap.size, 0, none⟩ = some (.slice A xs.length c) ∧ w'.cell? ⟨w.heap.size + 1, 0, none⟩ = some (.slice A2 ys.length c2) ∧ Hid (Below W.heap.size W w')) (first | exact ⟨c10, c20, K0⟩ | exact ⟨(HK.out _ (by assumption)).1, (HK.out _ (by assumption)).2, by assumption⟩) (first | (go_at_call_of 43 (Value.agg #[Value.slice A xs.length c]); refine (HT.out _ K0 A xs c i1 hx').mono ?_; rintro e w7 ⟨g7, rfl, ho7, hb7, hc7⟩) | (go_at_call_of 43 (Value.agg #[Value.slice A2 ys.length c2]); refine (HT.out _ hb7 A2 ys c2 i2 hy').mono ?_; rintro e w8 ⟨g8, rfl, ho8, hb8, hc8⟩) | (go_at_call 65; refine (HS.out _ _ _ ((ints_of_own64 ho7.out).be hc8.out) (ints_of_own64 ho8.out)).mono ?_; rintro e w9 ⟨rfl, hb⟩; have hb9 : Hid (Below W.heap.size W w9) := btr hb8.out hb; clear hb))
      clear c1' c2' c10 c20 K0 HS hb7 hb8 hc7 hc8 ho7 ho8 B
      have B := hb9
      have c1' := cell_be C1.out B.out
      have c2' := cell_be C2.out B.out
      clear hb9
      go_wp2_with fail
      refine (HT.out _ B A xs c i1 hx').mono ?_
      rintro e w10 ⟨gx, rfl, Ox, B10, _⟩
      clear c1' c2' B
      have c1' := cell_al (cell_be C1.out B10.out) (.cells #[.slice (some ⟨gx, 0, none⟩) xs.length xs.length] 44)
      have c2' := cell_al (cell_be C2.out B10.out) (.cells #[.slice (some ⟨gx, 0, none⟩) xs.length xs.length] 44)
      have B11 : Hid (Below W.heap.size W (w10.alloc (.cells #[.slice (some ⟨gx, 0, none⟩) xs.length xs.length] 44))) := bal B10.out _
      go_wp2_with fail
      refine (HT.out _ B11 A2 ys c2 i2 hy').mono ?_
      rintro e w12 ⟨gy, rfl, Oy, B12, hb12⟩
      have dX : Hid (w12.cell? ⟨w10.heap.size, 0, none⟩ = some (.slice (some ⟨gx, 0, none⟩) xs.length xs.length)) := cell_be (by simp) hb12.out
      have Ox12 := Lib.hid (own_be (Ox.out.alloc (.cells #[.slice (some ⟨gx, 0, none⟩) xs.length xs.length] 44)) hb12.out)
      have c3' := cell_al dX.out (.cells #[.slice (some ⟨gy, 0, none⟩) ys.length ys.length] 44)
      clear c1' c2' B10 B11 Ox hb12
      go_wp2_with fail
      refine (HI.out _ _ _ ((ints_of_own64 Ox12.out).al _) ((ints_of_own64 Oy.out).al _)).mono ?_
      rintro e w13 ⟨rfl, hb⟩
      have B13 : Hid (Below W.heap.size W w13) := btr (bal B12.out _) hb
      have eX : w13.cell? ⟨w10.heap.size, 0, none⟩ = some (.slice (some ⟨gx, 0, none⟩) xs.length xs.length) := cell_be c3' hb
      have eY : w13.cell? ⟨w12.heap.size, 0, none⟩ = some (.slice (some ⟨gy, 0, none⟩) ys.length ys.length) := cell_be (by simp) hb
      have Ox13 := Lib.hid (own_be (Ox12.out.alloc _) hb)
      have Oy13 := Lib.hid (own_be (Oy.out.alloc _) hb)
      have c1' := cell_be C1.out B13.out
      have c2' := cell_be C2.out B13.out
      clear hb c3' dX Ox12 Oy HI B12
      go_wp2
      have HE : Hid (∀ (g g' : Nat) (zs : List Int) B' W', Hid (zs.length ≤ 1000000000000) → Hid (Ints W' W'.heap.size (some ⟨g, 0, none⟩) zs) → Hid (Own64 W' B' (.slice (some ⟨g', 0, none⟩) zs.length zs.length) zs) →
          Calls Try.prog 36 #[.agg #[.slice (some ⟨g, 0, none⟩) zs.length zs.length], .agg #[.slice (some ⟨g', 0, none⟩) zs.length zs.length]] W' fun e w' => e = .returned (.bool true) ∧ Hid (Below W'.heap.size W' w')) := fun g g' zs B' W' hz hi ho =>
        (eqTreeT _ _ zs _ _ W' (by have := hz.out; omega) hi.out (ints_of_own64 ho.out)).mono fun e w' ⟨he, hb⟩ => ⟨he, hb⟩
      have K0 : Hid (Below w13.heap.size w13 w13.drew) := (Below.refl _ _).drew
      have KW : Hid (Below W.heap.size W w13.drew) := B13.out.drew
      have c10 : w13.drew.cell? ⟨w.heap.size, 0, none⟩ = some (.slice A xs.length c) := c1'
      have x10 : w13.drew.cell? ⟨w10.heap.size, 0, none⟩ = some (.slice (some ⟨gx, 0, none⟩) xs.length xs.length) := eX
      go_region_held3 (fun w' => w'.cell? ⟨w.heap.size, 0, none⟩ = some (.slice A xs.length c) ∧ w'.cell? ⟨w10.heap.size, 0, none⟩ = some (.slice (some ⟨gx, 0, none⟩) xs.length xs.length) ∧ Hid (Below w13.heap.size w13 w')) (first | exact ⟨c10, x10, K0⟩ | exact ⟨cell_be c1' (Hid.out (by assumption)), cell_be eX (Hid.out (by assumption)), by assumption⟩) (first | (go_at_call 43; refine (HT.out _ KW A xs c i1 hx').mono ?_; rintro e w7 ⟨g7, rfl, ho7, hb7, hc7⟩; have hd7 : Hid (Below w13.heap.size w13 w7) := btr K0.out hc7.out) | (go_at_call 36; refine (HE.out gx g7 xs _ _ hx' ((ints_of_own64 Ox13.out).be hd7.out) ho7).mono ?_; rintro e w14 ⟨rfl, hb⟩; have hd8 : Hid (Below w13.heap.size w13 w14) := btr hd7.out hb.out))
      have B14 : Hid (Below W.heap.size W w14) := btr B13.out hd8.out
      have fX := cell_be eX hd8.out
      have fY := cell_be eY hd8.out
      have Oy14 := Lib.hid (own_be Oy13.out hd8.out)
      clear c1' c2' c10 x10 K0 KW eX eY Ox13 Oy13 B13 hd8 hd7 hb7 hc7 ho7 hb
      have c2' := cell_be C2.out B14.out
      go_wp2
      have K0 : Hid (Below w14.heap.size w14 w14.drew) := (Below.refl _ _).drew
      have KW : Hid (Below W.heap.size W w14.drew) := B14.out.drew
      have c20 : w14.drew.cell? ⟨w.heap.size + 1, 0, none⟩ = some (.slice A2 ys.length c2) := c2'
      have y10 : w14.drew.cell? ⟨w12.heap.size, 0, none⟩ = some (.slice (some ⟨gy, 0, none⟩) ys.length ys.length) := fY
      go_region_held3 (fun w' => w'.cell? ⟨w.heap.size + 1, 0, none⟩ = some (.slice A2 ys.length c2) ∧ w'.cell? ⟨w12.heap.size, 0, none⟩ = some (.slice (some ⟨gy, 0, none⟩) ys.length ys.length) ∧ Hid (Below w14.heap.size w14 w')) (first | exact ⟨c20, y10, K0⟩ | exact ⟨cell_be c2' (Hid.out (by assumption)), cell_be fY (Hid.out (by assumption)), by assumption⟩) (first | (go_at_call 43; refine (HT.out _ KW A2 ys c2 i2 hy').mono ?_; rintro e w17 ⟨g17, rfl, ho17, hb17, hc17⟩; have hd17 : Hid (Below w14.heap.size w14 w17) := btr K0.out hc17.out) | (go_at_call 36; refine (HE.out gy g17 ys _ _ hy' ((ints_of_own64 Oy14.out).be hd17.out) ho17).mono ?_; rintro e w18 ⟨rfl, hb⟩; have hd18 : Hid (Below w14.heap.size w14 w18) := btr hd17.out hb.out))
      go_wp2
      go_ret
      exact ⟨rfl, btr hBW.out (btr B14.out hd18.out)⟩
    · have hl2 : Hid ((if (1048576 : Int) - xs.length - ys.length < 0 then -1 else (1048576 : Int) - xs.length - ys.length) = -1) := if_pos (by omega)
      go_enter Try.func17, Try.ntmps17
      go_wp2_with fail
      rw [← HW.out]
      have c1 := C1.out
      refine (szTree A xs.length c 1048576 _ (by omega) (by omega) (by omega)).mono ?_
      rintro e w1 ⟨he, hb⟩
      rw [hl.out] at he
      subst he
      have B := Lib.hid hb
      clear hb c1
      have c2' := cell_be C2.out B.out
      go_wp2_with fail
      refine (szTree A2 ys.length c2 (1048576 - xs.length) _ (by omega) (by omega) (by omega)).mono ?_
      rintro e w2 ⟨he, hb⟩
      rw [hl2.out] at he
      subst he
      replace B := Lib.hid (btr B.out hb)
      clear hb c2'
      go_wp2
      go_ret
      exact ⟨rfl, btr hBW.out B.out⟩
  · have hl : Hid ((if (1048576 : Int) - xs.length < 0 then -1 else (1048576 : Int) - xs.length) = -1) := if_pos (by omega)
    go_enter Try.func17, Try.ntmps17
    go_wp2_with fail
    rw [← HW.out]
    have c1 := C1.out
    refine (szTree A xs.length c 1048576 _ (by omega) (by omega) (by omega)).mono ?_
    rintro e w1 ⟨he, hb⟩
    rw [hl.out] at he
    subst he
    have B := Lib.hid hb
    clear hb c1
    go_wp2
    go_ret
    exact ⟨rfl, btr hBW.out B.out⟩
end Go.Proofs.Ytgcabcmnhdaepaa
