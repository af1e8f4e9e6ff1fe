/- The walk of the law FnExactFirstInside: it returns true, and writes into nothing that was there. -/
import Derived.Test.YtbnnlifpldgcfaaFnFirstInside
import Derived.Test.YtbnnlifpldgcfaaTree
import Derived.Deep.RegionHeld3
namespace Go.Proofs.Ytbnnlifpldgcfaa
open Go.RowKit

theorem F_FirstIn_len (xs us : List Int) : (F_FirstInside xs us).1.length ≤ 24 := by
  by_cases h0 : codeI xs us = 0
  · rw [F_FirstIn_yes h0]
    have hx := (M.tree_len (codeI_zero h0).1).2
    cases hV : insideLists us xs with
    | nil => exact Nat.zero_le _
    | cons l V =>
      have hm : l ∈ insideLists us xs := by rw [hV]; exact List.mem_cons_self
      have h1 := (M.lists_pre (List.mem_filter.1 hm).1).2
      have h2 : (nums l).length = l.length := by simp [nums]
      show (nums l).length ≤ 24
      simp at h1
      omega
  · rw [F_FirstIn_no h0]; exact Nat.zero_le _

set_option maxHeartbeats 4000000 in
set_option maxRecDepth 100000 in
theorem lawFirstInside (A A2 : Option Addr) (xs ys : List Int) (c c2 : Nat) (w : World) (hx : xs.length ≤ 9223372036854775807) (hy : ys.length ≤ 9223372036854775807) (h : Ints w w.heap.size A xs) (h2 : Ints w w.heap.size A2 ys) :
    Calls Try.prog 14 #[.agg #[.slice A xs.length c], .agg #[.slice A2 ys.length c2]] w fun e w' => e = .returned (.bool true) ∧ Below w.heap.size w w' := by
  obtain ⟨W, hW⟩ : ∃ W, W = (w.alloc (.cells #[.slice A xs.length c] 33)).alloc (.cells #[.slice A2 ys.length c2] 33) := ⟨_, rfl⟩
  have C1 : Hid (W.cell? ⟨w.heap.size, 0, none⟩ = some (.slice A xs.length c)) := by subst hW; exact cell_al (by simp) _
  have C2 : Hid (W.cell? ⟨w.heap.size + 1, 0, none⟩ = some (.slice A2 ys.length c2)) := by subst hW; exact World.cell?_alloc_at _ _ _ _ (by simp)
  have i1 : Hid (Ints W W.heap.size A xs) := by subst hW; exact (h.al _).al _
  have i2 : Hid (Ints W W.heap.size A2 ys) := by subst hW; exact (h2.al _).al _
  have hBW : Hid (Below w.heap.size w W) := by subst hW; exact bal (bal (b0 w) _) _
  have HW := Lib.hid hW
  clear hW h h2
  by_cases hs : xs.length ≤ 1048576
  · have hl : Hid ((if (1048576 : Int) - xs.length < 0 then -1 else (1048576 : Int) - xs.length) = 1048576 - xs.length) := if_neg (by omega)
    have hl0 : (0 : Int) ≤ 1048576 - (xs.length : Int) := by omega
    have hl1 : ¬ (1048576 : Int) - (xs.length : Int) < 0 := by omega
    by_cases hs2 : (ys.length : Int) ≤ 1048576 - xs.length
    · have hl2 : Hid ((if (1048576 : Int) - xs.length - ys.length < 0 then -1 else (1048576 : Int) - xs.length - ys.length) = 1048576 - xs.length - ys.length) := if_neg (by omega)
      have hl3 : ¬ (1048576 : Int) - (xs.length : Int) - (ys.length : Int) < 0 := by omega
      have hx' : Hid (xs.length ≤ 1000000000000) := (show xs.length ≤ 1000000000000 by omega)
      have hy' : Hid (ys.length ≤ 1000000000000) := (show ys.length ≤ 1000000000000 by omega)
      have hys : ys.length ≤ 1048576 := by omega
      have hS := fun A' A3 w' h' h3 => spec_FirstInside A' A3 xs ys xs.length ys.length w' hs hys ⟨Nat.le_refl _, by omega⟩ ⟨Nat.le_refl _, by omega⟩ h' h3
      have hI := fun A' A3 w' h' h3 => impl_FirstInside A' A3 xs ys xs.length ys.length w' hs hys ⟨Nat.le_refl _, by omega⟩ ⟨Nat.le_refl _, by omega⟩ h' h3
      have hf := F_FirstIn_len xs ys
      generalize F_FirstInside xs ys = R at hS hI hf
      have HS := Lib.hid hS
      have HI := Lib.hid hI
      clear hx hy hS hI
      have HT : Hid (∀ W' (A' : Option Addr) (zs : List Int) (c' : Nat), Hid (Ints W' W'.heap.size A' zs) → Hid (zs.length ≤ 1000000000000) → Calls Try.prog 26 #[.agg #[.slice A' zs.length c']] W' fun e w' => ∃ g, e = .returned (.agg #[.slice (some ⟨g, 0, none⟩) zs.length zs.length]) ∧
          Hid (Own64 w' W'.heap.size (.slice (some ⟨g, 0, none⟩) zs.length zs.length) zs) ∧ Hid (Below W'.heap.size W' w')) := fun W' A' zs c' hi hz =>
        (toTree A' zs c' W' hz.out hi.out).mono fun e w' ⟨g, he, ho, hb⟩ => ⟨g, he, ho, hb⟩
      go_enter Try.func14, Try.ntmps14
      go_wp2_with fail
      rw [← HW.out]
      have c1 := C1.out
      refine (szTree A xs.length c 1048576 _ (by omega) (by omega) (by omega)).mono ?_
      rintro e w1 ⟨he, hb⟩
      rw [hl.out] at he
      subst he
      have B := Lib.hid hb
      clear hb c1
      have c2' := cell_be C2.out B.out
      go_wp2_with fail
      refine (szTree A2 ys.length c2 (1048576 - xs.length) _ (by omega) (by omega) (by omega)).mono ?_
      rintro e w2 ⟨he, hb⟩
      rw [hl2.out] at he
      subst he
      replace B := Lib.hid (btr B.out hb)
      clear hb c2'
      have c1' := cell_be C1.out B.out
      have c2' := cell_be C2.out B.out
      go_wp2
      have K0 : Hid (Below W.heap.size W w2.drew) := B.out.drew
      have c10 : w2.drew.cell? ⟨w.heap.size, 0, none⟩ = some (.slice A xs.length c) := c1'
      have c20 : w2.drew.cell? ⟨w.heap.size + 1, 0, none⟩ = some (.slice A2 ys.length c2) := c2'
      have HK : Hid (∀ W', Hid (Below W.heap.size W W') → W'.cell? ⟨w.heap.size, 0, none⟩ = some (.slice A xs.length c) ∧ W'.cell? ⟨w.heap.size + 1, 0, none⟩ = some (.slice A2 ys.length c2)) := fun W' hW' => ⟨cell_be C1.out hW'.out, cell_be C2.out hW'.out⟩
      go_region_held3 (fun w' => w'.cell? ⟨w.heap.size, 0, none⟩ = some (.slice A xs.length c) ∧ w'.cell? ⟨w.heap.size + 1, 0, none⟩ = some (.slice A2 ys.length c2) ∧ Hid (Below W.heap.size W w')) (first | exact ⟨c10, c20, K0⟩ | exact ⟨(HK.out _ (by assumption)).1, (HK.out _ (by assumption)).2, by assumption⟩) (first | (go_at_call_of 26 (Value.agg #[Value.slice A xs.length c]); refine (HT.out _ A xs c (i1.out.be K0.out) hx').mono ?_; rintro e w7 ⟨g7, rfl, ho7, hc7⟩; have hb7 : Hid (Below W.heap.size W w7) := btr K0.out hc7.out) | (go_at_call_of 26 (Value.agg #[Value.slice A2 ys.length c2]); refine (HT.out _ A2 ys c2 (i2.out.be hb7.out) hy').mono ?_; rintro e w8 ⟨g8, rfl, ho8, hc8⟩; have hb8 : Hid (Below W.heap.size W w8) := btr hb7.out hc8.out) | (go_at_call 47; refine (HS.out _ _ _ ((ints_of_own64 ho7.out).be hc8.out) (ints_of_own64 ho8.out)).mono ?_; rintro e w9 ⟨Aw, cw, rfl, iw, hb⟩; have hb9 : Hid (Below W.heap.size W w9) := btr hb8.out hb; have iW : Hid (Ints w9 w9.heap.size Aw R.1) := iw; clear hb iw))
      clear c1' c2' c10 c20 K0 HS hb7 hb8 hc7 hc8 ho7 ho8 B
      have B := hb9
      have c1' := cell_be C1.out B.out
      have c2' := cell_be C2.out B.out
      have zW := B.out.size
      clear hb9
      go_wp2_with fail
      refine (HT.out _ A xs c (i1.out.be B.out) hx').mono ?_
      rintro e w10 ⟨gx, rfl, Ox, Z10⟩
      have gx1 := (World.ownsRow.lt Ox.out gx rfl).1
      have gx2 := (World.ownsRow.lt Ox.out gx rfl).2
      have z10 := Z10.out.size
      clear c1' c2'
      have B10 : Hid (Below W.heap.size W w10) := btr B.out Z10.out
      have c1' := cell_al (cell_be C1.out B10.out) (.cells #[.slice (some ⟨gx, 0, none⟩) xs.length xs.length] 24)
      have c2' := cell_al (cell_be C2.out B10.out) (.cells #[.slice (some ⟨gx, 0, none⟩) xs.length xs.length] 24)
      have B11 : Hid (Below W.heap.size W (w10.alloc (.cells #[.slice (some ⟨gx, 0, none⟩) xs.length xs.length] 24))) := bal B10.out _
      go_wp2_with fail
      refine (HT.out _ A2 ys c2 (i2.out.be B11.out) hy').mono ?_
      rintro e w12 ⟨gy, rfl, Oy, hb12⟩
      have gy1 := (World.ownsRow.lt Oy.out gy rfl).1
      have gy2 := (World.ownsRow.lt Oy.out gy rfl).2
      have z12 := hb12.out.size
      simp only [World.size_alloc] at gy1 z12
      have Z12 : Hid (Below w9.heap.size w9 w12) := btr (bal Z10.out _) hb12.out
      have B12 : Hid (Below W.heap.size W w12) := btr B11.out hb12.out
      have dX : Hid (w12.cell? ⟨w10.heap.size, 0, none⟩ = some (.slice (some ⟨gx, 0, none⟩) xs.length xs.length)) := cell_be (by simp) hb12.out
      have Ox12 := Lib.hid (own_be (Ox.out.alloc (.cells #[.slice (some ⟨gx, 0, none⟩) xs.length xs.length] 24)) hb12.out)
      have c3' := cell_al dX.out (.cells #[.slice (some ⟨gy, 0, none⟩) ys.length ys.length] 24)
      clear c1' c2' B10 B11 Ox hb12 Z10
      go_wp2_with fail
      refine (HI.out _ _ _ ((ints_of_own64 Ox12.out).al _) ((ints_of_own64 Oy.out).al _)).mono ?_
      rintro e w13 ⟨Ag, cg, rfl, og, hb⟩
      have B13 : Hid (Below W.heap.size W w13) := btr (bal B12.out _) hb
      have Z13 : Hid (Below w9.heap.size w9 w13) := btr (bal Z12.out _) hb
      have eX : w13.cell? ⟨w10.heap.size, 0, none⟩ = some (.slice (some ⟨gx, 0, none⟩) xs.length xs.length) := cell_be c3' hb
      have eY : w13.cell? ⟨w12.heap.size, 0, none⟩ = some (.slice (some ⟨gy, 0, none⟩) ys.length ys.length) := cell_be (by simp) hb
      have Ox13 := Lib.hid (own_be (Ox12.out.alloc _) hb)
      have Oy13 := Lib.hid (own_be (Oy.out.alloc _) hb)
      have Og13 : Hid (Own64 w13 (w12.heap.size + 1) (.slice Ag R.1.length cg) R.1) := own_mono (base' := w12.heap.size + 1) og (by simp)
      have z13 : w12.heap.size < w13.heap.size := World.block_lt_of_cell? _ _ eY
      have iG := Lib.hid (ints_of_own64 Og13.out)
      have iW13 := Lib.hid (iW.out.be Z13.out)
      clear hb og c3' dX Ox12 Oy B12 Z12
      go_wp2_with fail
      refine (eqIntsT _ _ _ _ _ _ (by omega) iG.out iW13.out).mono ?_
      rintro e w14 ⟨rfl, hb⟩
      have B14 : Hid (Below W.heap.size W w14) := btr B13.out hb
      have Z14 : Hid (Below w9.heap.size w9 w14) := btr Z13.out hb
      have eX' := cell_be eX hb
      have eY' := cell_be eY hb
      have z14 := hb.size
      replace Ox13 := Lib.hid (own_be Ox13.out hb)
      replace Oy13 := Lib.hid (own_be Oy13.out hb)
      replace Og13 := Lib.hid (own_be Og13.out hb)
      have c1' := cell_be C1.out B14.out
      have c2' := cell_be C2.out B14.out
      clear hb eX eY B13 Z13 iG iW13
      go_wp2
      have HE : Hid (∀ (g g' : Nat) (zs : List Int) B' W', Hid (zs.length ≤ 1000000000000) → Hid (Ints W' W'.heap.size (some ⟨g, 0, none⟩) zs) → Hid (Own64 W' B' (.slice (some ⟨g', 0, none⟩) zs.length zs.length) zs) →
          Calls Try.prog 19 #[.agg #[.slice (some ⟨g, 0, none⟩) zs.length zs.length], .agg #[.slice (some ⟨g', 0, none⟩) zs.length zs.length]] W' fun e w' => e = .returned (.bool true) ∧ Hid (Below W'.heap.size W' w')) := fun g g' zs B' W' hz hi ho =>
        (eqTreeT _ _ zs _ _ W' (by have := hz.out; omega) hi.out (ints_of_own64 ho.out)).mono fun e w' ⟨he, hb⟩ => ⟨he, hb⟩
      have K0 : Hid (Below w14.heap.size w14 w14.drew) := (Below.refl _ _).drew
      have c10 : w14.drew.cell? ⟨w.heap.size, 0, none⟩ = some (.slice A xs.length c) := c1'
      have x10 : w14.drew.cell? ⟨w10.heap.size, 0, none⟩ = some (.slice (some ⟨gx, 0, none⟩) xs.length xs.length) := eX'
      go_region_held3 (fun w' => w'.cell? ⟨w.heap.size, 0, none⟩ = some (.slice A xs.length c) ∧ w'.cell? ⟨w10.heap.size, 0, none⟩ = some (.slice (some ⟨gx, 0, none⟩) xs.length xs.length) ∧ Hid (Below w14.heap.size w14 w')) (first | exact ⟨c10, x10, K0⟩ | exact ⟨cell_be c1' (Hid.out (by assumption)), cell_be eX' (Hid.out (by assumption)), by assumption⟩) (first | (go_at_call 26; refine (HT.out _ A xs c (i1.out.be (btr B14.out K0.out)) hx').mono ?_; rintro e w7 ⟨g7, rfl, ho7, hc7⟩; have hd7 : Hid (Below w14.heap.size w14 w7) := btr K0.out hc7.out) | (go_at_call 19; refine (HE.out gx g7 xs _ _ hx' ((ints_of_own64 Ox13.out).be hd7.out) ho7).mono ?_; rintro e w15 ⟨rfl, hb⟩; have hd8 : Hid (Below w14.heap.size w14 w15) := btr hd7.out hb.out))
      have B15 : Hid (Below W.heap.size W w15) := btr B14.out hd8.out
      have Z15 : Hid (Below w9.heap.size w9 w15) := btr Z14.out hd8.out
      have fX := cell_be eX' hd8.out
      have fY := cell_be eY' hd8.out
      have z15 := hd8.out.size
      replace Ox13 := Lib.hid (own_be Ox13.out hd8.out)
      replace Oy13 := Lib.hid (own_be Oy13.out hd8.out)
      replace Og13 := Lib.hid (own_be Og13.out hd8.out)
      clear c1' c2' c10 x10 K0 eX' eY' B14 Z14 hd8 hd7 hc7 ho7 hb
      have c2' := cell_be C2.out B15.out
      go_wp2
      have K0 : Hid (Below w15.heap.size w15 w15.drew) := (Below.refl _ _).drew
      have c20 : w15.drew.cell? ⟨w.heap.size + 1, 0, none⟩ = some (.slice A2 ys.length c2) := c2'
      have y10 : w15.drew.cell? ⟨w12.heap.size, 0, none⟩ = some (.slice (some ⟨gy, 0, none⟩) ys.length ys.length) := fY
      go_region_held3 (fun w' => w'.cell? ⟨w.heap.size + 1, 0, none⟩ = some (.slice A2 ys.length c2) ∧ w'.cell? ⟨w12.heap.size, 0, none⟩ = some (.slice (some ⟨gy, 0, none⟩) ys.length ys.length) ∧ Hid (Below w15.heap.size w15 w')) (first | exact ⟨c20, y10, K0⟩ | exact ⟨cell_be c2' (Hid.out (by assumption)), cell_be fY (Hid.out (by assumption)), by assumption⟩) (first | (go_at_call 26; refine (HT.out _ A2 ys c2 (i2.out.be (btr B15.out K0.out)) hy').mono ?_; rintro e w17 ⟨g17, rfl, ho17, hc17⟩; have hd17 : Hid (Below w15.heap.size w15 w17) := btr K0.out hc17.out) | (go_at_call 19; refine (HE.out gy g17 ys _ _ hy' ((ints_of_own64 Oy13.out).be hd17.out) ho17).mono ?_; rintro e w18 ⟨rfl, hb⟩; have hd18 : Hid (Below w15.heap.size w15 w18) := btr hd17.out hb.out))
      have B18 : Hid (Below W.heap.size W w18) := btr B15.out hd18.out
      have Z18 : Hid (Below w9.heap.size w9 w18) := btr Z15.out hd18.out
      have hX := cell_be fX hd18.out
      have hY := cell_be fY hd18.out
      have z18 := hd18.out.size
      replace Ox13 := Lib.hid (own_be Ox13.out hd18.out)
      replace Oy13 := Lib.hid (own_be Oy13.out hd18.out)
      replace Og13 := Lib.hid (own_be Og13.out hd18.out)
      clear c2' c20 y10 K0 fX fY B15 Z15 hd18 hd17 hc17 ho17 hb HE
      -- both arguments are marked
      go_wp2_with fail
      refine (markTree _ xs.length xs.length xs 1 _ _ rfl hx'.out (by omega) (by omega) Ox13.out).mono ?_
      rintro e w19 ⟨rfl, _, hg⟩
      have hwW : w.heap.size + 1 + 1 = W.heap.size := by rw [HW.out]; simp
      have B19 : Hid (Below W.heap.size W w19) := below_grown B18.out hg (fun k e => by injection e with e; have e' : gx = k := e; omega)
      have Z19 : Hid (Below w9.heap.size w9 w19) := below_grown Z18.out hg (fun k e => by injection e with e; have e' : gx = k := e; omega)
      have hY' := cell_grown hY hg (fun k e => by injection e with e; have e' : gx = k := e; omega)
      replace Oy13 := Lib.hid (Oy13.out.kept hg (.inr (fun e => by injection e with e; have e' : gy = gx := e; omega)))
      replace Og13 := Lib.hid (own_grown Og13.out hg (fun k e => by injection e with e; have e' : gx = k := e; exact .inl (by omega)))
      clear hg hX hY Ox13 B18 Z18
      have m1 : IntKind.i64.wrap ((1 : Int) + xs.length) = 1 + xs.length := IntWalk.i64_in _ (by omega)
      go_wp2_with fail
      refine (markTree _ ys.length ys.length ys (1 + xs.length) _ _ rfl hy'.out (by omega) (by omega) Oy13.out).mono ?_
      rintro e w20 ⟨rfl, _, hg⟩
      have B20 : Hid (Below W.heap.size W w20) := below_grown B19.out hg (fun k e => by injection e with e; have e' : gy = k := e; omega)
      have Z20 : Hid (Below w9.heap.size w9 w20) := below_grown Z19.out hg (fun k e => by injection e with e; have e' : gy = k := e; omega)
      replace Og13 := Lib.hid (own_grown Og13.out hg (fun k e => by injection e with e; have e' : gy = k := e; exact .inl (by omega)))
      have iG := Lib.hid (ints_of_own64 Og13.out)
      have iW20 := Lib.hid (iW.out.be Z20.out)
      clear hg hY' Oy13 B19 Z19
      go_wp2_with fail
      refine (eqIntsT _ _ _ _ _ _ (by omega) iG.out iW20.out).mono ?_
      rintro e w21 ⟨rfl, hb⟩
      have B21 : Hid (Below W.heap.size W w21) := btr B20.out hb
      have Z21 : Hid (Below w9.heap.size w9 w21) := btr Z20.out hb
      replace Og13 := Lib.hid (own_be Og13.out hb)
      clear hb iG iW20 B20 Z20
      -- the result is marked
      go_wp2_with fail
      have Bg := Lib.hid (World.ownsRow.lt Og13.out)
      refine (markInts _ _ cg R.1 1 _ _ rfl (by omega) (by omega) (by omega) Og13.out).mono ?_
      rintro e w22 ⟨rfl, og, hg⟩
      have B22 : Hid (Below W.heap.size W w22) := below_grown B21.out hg (fun k e => by have := Bg.out k e; omega)
      have Z22 : Hid (Below w9.heap.size w9 w22) := below_grown Z21.out hg (fun k e => by have := Bg.out k e; omega)
      have Og := Lib.hid og
      clear hg og Bg B21 Z21 Og13
      go_wp2_with fail
      refine (heldInts _ _ cg 1 _ (by omega) (by omega) (by omega) (ints_of_own64 Og.out)).mono ?_
      rintro e w' ⟨rfl, rfl⟩
      have c1' := cell_be C1.out B22.out
      have c2' := cell_be C2.out B22.out
      go_wp2
      have K0 : Hid (Below w22.heap.size w22 w22.drew) := (Below.refl _ _).drew
      have c10 : w22.drew.cell? ⟨w.heap.size, 0, none⟩ = some (.slice A xs.length c) := c1'
      have c20 : w22.drew.cell? ⟨w.heap.size + 1, 0, none⟩ = some (.slice A2 ys.length c2) := c2'
      go_region_held3 (fun w' => w'.cell? ⟨w.heap.size, 0, none⟩ = some (.slice A xs.length c) ∧ w'.cell? ⟨w.heap.size + 1, 0, none⟩ = some (.slice A2 ys.length c2) ∧ Hid (Below w22.heap.size w22 w')) (first | exact ⟨c10, c20, K0⟩ | exact ⟨cell_be c1' (Hid.out (by assumption)), cell_be c2' (Hid.out (by assumption)), by assumption⟩) (first | (go_at_call_of 26 (Value.agg #[Value.slice A xs.length c]); refine (HT.out _ A xs c (i1.out.be (btr B22.out K0.out)) hx').mono ?_; rintro e w7 ⟨g7, rfl, ho7, hc7⟩; have hb7 : Hid (Below w22.heap.size w22 w7) := btr K0.out hc7.out) | (go_at_call_of 26 (Value.agg #[Value.slice A2 ys.length c2]); refine (HT.out _ A2 ys c2 (i2.out.be (btr B22.out hb7.out)) hy').mono ?_; rintro e w8 ⟨g8, rfl, ho8, hc8⟩; have hb8 : Hid (Below w22.heap.size w22 w8) := btr hb7.out hc8.out) | (go_at_call 48; refine (HI.out _ _ _ ((ints_of_own64 ho7.out).be hc8.out) (ints_of_own64 ho8.out)).mono ?_; rintro e w23 ⟨Ah, ch, rfl, oh, hb⟩; have hb9 : Hid (Below w22.heap.size w22 w23) := btr hb8.out hb; have iH : Hid (Ints w23 w23.heap.size Ah R.1) := ints_of_own64 oh; clear hb oh))
      have B23 : Hid (Below W.heap.size W w23) := btr B22.out hb9.out
      have iW23 := Lib.hid (iW.out.be (btr Z22.out hb9.out))
      replace Og := Lib.hid (own_be Og.out hb9.out)
      clear c1' c2' c10 c20 K0 HI HT hb7 hb8 hb9 hc7 hc8 ho7 ho8 B22 Z22
      go_wp2_with fail
      refine (eqIntsT _ _ _ _ _ _ (by omega) iH.out iW23.out).mono ?_
      rintro e w24 ⟨rfl, hb⟩
      have B24 : Hid (Below W.heap.size W w24) := btr B23.out hb
      replace Og := Lib.hid (own_be Og.out hb)
      clear hb iH iW23 B23
      go_wp2_with fail
      refine (heldInts _ _ cg 1 _ (by omega) (by omega) (by omega) (ints_of_own64 Og.out)).mono ?_
      rintro e w' ⟨rfl, rfl⟩
      go_wp2
      go_ret
      exact ⟨rfl, btr hBW.out B24.out⟩
    · have hl2 : Hid ((if (1048576 : Int) - xs.length - ys.length < 0 then -1 else (1048576 : Int) - xs.length - ys.length) = -1) := if_pos (by omega)
      go_enter Try.func14, Try.ntmps14
      go_wp2_with fail
      rw [← HW.out]
      have c1 := C1.out
      refine (szTree A xs.length c 1048576 _ (by omega) (by omega) (by omega)).mono ?_
      rintro e w1 ⟨he, hb⟩
      rw [hl.out] at he
      subst he
      have B := Lib.hid hb
      clear hb c1
      have c2' := cell_be C2.out B.out
      go_wp2_with fail
      refine (szTree A2 ys.length c2 (1048576 - xs.length) _ (by omega) (by omega) (by omega)).mono ?_
      rintro e w2 ⟨he, hb⟩
      rw [hl2.out] at he
      subst he
      replace B := Lib.hid (btr B.out hb)
      clear hb c2'
      go_wp2
      go_ret
      exact ⟨rfl, btr hBW.out B.out⟩
  · have hl : Hid ((if (1048576 : Int) - xs.length < 0 then -1 else (1048576 : Int) - xs.length) = -1) := if_pos (by omega)
    go_enter Try.func14, Try.ntmps14
    go_wp2_with fail
    rw [← HW.out]
    have c1 := C1.out
    refine (szTree A xs.length c 1048576 _ (by omega) (by omega) (by omega)).mono ?_
    rintro e w1 ⟨he, hb⟩
    rw [hl.out] at he
    subst he
    have B := Lib.hid hb
    clear hb c1
    go_wp2
    go_ret
    exact ⟨rfl, btr hBW.out B.out⟩
end Go.Proofs.Ytbnnlifpldgcfaa
