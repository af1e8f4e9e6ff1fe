/- The walk of the law FnExactExchangeAt, from the contracts of the program's function and of the model's: it returns true, and writes into nothing that was there. -/
import Derived.Test.YtgnhmhfianmckaaGivesO
import Derived.Deep.RegionHeld3
namespace Go.Proofs.Ytgnhmhfianmckaa
open Go.RowKit

set_option maxHeartbeats 4000000 in
set_option maxRecDepth 100000 in
theorem lawExchangeAt (F : List Int → List Int → Int → List Int × Int) (hS : Hid (GivesOL1 43 F)) (hI : Hid (GivesOL1 44 F)) (hF : ∀ (xs l : List Int) (v : Int), (F xs l v).1.length ≤ 1048576)
    (A : Option Addr) (xs : List Int) (c : Nat) (A2 : Option Addr) (l : List Int) (c2 : Nat) (v : Int) (hv : -9223372036854775808 ≤ v ∧ v ≤ 9223372036854775807) (w : World) (hx : xs.length ≤ 9223372036854775807) (h : Ints w w.heap.size A xs) (hl2 : l.length ≤ 9223372036854775807) (h2 : Ints w w.heap.size A2 l) :
    Calls Try.prog 12 #[.agg #[.slice A xs.length c], .slice A2 l.length c2, .int .i64 v] w fun e w' => e = .returned (.bool true) ∧ Below w.heap.size w w' := by
  by_cases hls : l.length ≤ 1048576
  · by_cases hs : xs.length ≤ 1048576
    · have hl : Hid ((if (1048576 : Int) - xs.length < 0 then -1 else (1048576 : Int) - xs.length) = 1048576 - xs.length) := if_neg (by omega)
      have hx' : xs.length ≤ 1000000000000 := by omega
      have hlx : l.length ≤ 1000000000000 := by omega
      have hlz : ¬ (1048576 : Int) < (l.length : Int) := by omega
      have hf := hF xs l v
      have hl0 : (0 : Int) ≤ 1048576 - (xs.length : Int) := by omega
      have hSp := fun A' A3 w' h' h3 => hS.out A' A3 xs l xs.length l.length v w' hs hls ⟨Nat.le_refl _, hx'⟩ ⟨Nat.le_refl _, hlx⟩ hv h' h3
      have hIm := fun A' A3 w' h' h3 => hI.out A' A3 xs l xs.length l.length v w' hs hls ⟨Nat.le_refl _, hx'⟩ ⟨Nat.le_refl _, hlx⟩ hv h' h3
      generalize (F xs l v).1 = R at hSp hIm hf
      generalize (F xs l v).2 = r2 at hSp hIm
      have HS := Lib.hid hSp
      have HI := Lib.hid hIm
      clear hF hx hS hI hSp hIm
      go_enter Try.func12, Try.ntmps12
      go_wp2_with fail
      refine (szTree A xs.length c 1048576 _ (by omega) (by omega) (by omega)).mono ?_
      rintro e w1 ⟨he, hb⟩
      rw [hl.out] at he
      subst he
      have B := Lib.hid (btr (bal (b0 w) _) hb)
      have cA : w1.cell? ⟨w.heap.size, 0, none⟩ = some (.slice A xs.length c) := cell_be (by simp) hb
      clear hb
      go_wp2_with fail
      -- spec(toTree(aT), toInt64S(aOrder))
      refine (toTree A xs c _ hx' (h.be B.out)).mono ?_
      rintro e w2 ⟨g2, rfl, o2, hb⟩
      replace B := Lib.hid (btr B.out hb)
      replace cA := cell_be cA hb
      clear hb
      go_wp2_with fail
      refine (toInts A2 l c2 _ hlx (h2.be B.out)).mono ?_
      rintro e w2' ⟨g2', rfl, o2', hb⟩
      replace B := Lib.hid (btr B.out hb)
      replace cA := cell_be cA hb
      have o2'' := own_be o2 hb
      clear hb o2
      go_wp2_with fail
      refine (HS.out _ _ _ (ints_of_own64 o2'') (ints_of_own64 o2')).mono ?_
      rintro e w3 ⟨Aw, cw, rfl, ow, hb⟩
      have Bw := Lib.hid (World.ownsRow.lt ow)
      have z2 := B.out.size
      have Ow := Lib.hid (own_mono (base' := w.heap.size) ow z2)
      replace B := Lib.hid (btr B.out hb)
      replace cA := cell_be cA hb
      have z3 := B.out.size
      have a3 : w.heap.size < w3.heap.size := World.block_lt_of_cell? _ _ cA
      clear hb o2' o2'' ow z2 HS
      go_wp2_with fail
      -- x0
      refine (toTree A xs c _ hx' (h.be B.out)).mono ?_
      rintro e w4 ⟨gx, rfl, ox, hb⟩
      have z4 := hb.size
      have gx1 := (World.ownsRow.lt ox gx rfl).1
      have gx2 := (World.ownsRow.lt ox gx rfl).2
      have Wx : Hid (∀ k, (Value.slice Aw R.length cw).ownBlock = some k → k < w4.heap.size ∧ k ≠ gx) := fun k hk => by have := Bw.out k hk; omega
      replace B := Lib.hid (btr B.out hb)
      replace cA := cell_be cA hb
      have Ox := Lib.hid (own_mono (base' := w.heap.size) ox z3)
      replace Ow := Lib.hid (own_be Ow.out hb)
      have gx3 : w.heap.size < gx := by omega
      clear hb ox Bw z4 gx1 a3
      have cA' := cell_al cA (.cells #[.slice (some ⟨gx, 0, none⟩) xs.length xs.length] 28)
      have h2' := Lib.hid ((h2.be B.out).al (.cells #[.slice (some ⟨gx, 0, none⟩) xs.length xs.length] 28))
      go_wp2_with fail
      -- x1
      refine (toInts A2 l c2 _ hlx h2'.out).mono ?_
      rintro e w5 ⟨gy, rfl, oy, hb⟩
      have gy1 := (World.ownsRow.lt oy gy rfl).1
      have gy2 := (World.ownsRow.lt oy gy rfl).2
      have hal4 : (w4.alloc (.cells #[.slice (some ⟨gx, 0, none⟩) xs.length xs.length] 28)).heap.size = w4.heap.size + 1 := by simp
      replace B := Lib.hid (btr (bal B.out _) hb)
      replace cA := cell_be cA' hb
      have cX : w5.cell? ⟨w4.heap.size, 0, none⟩ = some (.slice (some ⟨gx, 0, none⟩) xs.length xs.length) := cell_be (by simp) hb
      replace Ow := Lib.hid (own_be (Ow.out.alloc _) hb)
      replace Ox := Lib.hid (own_be (Ox.out.alloc _) hb)
      have Oy := Lib.hid (own_mono (base' := w.heap.size) oy (by omega))
      have hz5 : w4.heap.size + 1 ≤ w5.heap.size := by have := hb.size; omega
      have gxy : gx < gy := by omega
      have gy4 : w4.heap.size < gy := by omega
      have Wy : Hid (∀ k, (Value.slice Aw R.length cw).ownBlock = some k → k ≠ gy) := fun k hk => by have := Wx.out k hk; omega
      clear hb oy cA' h2' hal4
      go_wp2_with fail
      -- g0
      refine (HI.out _ _ _ (ints_of_own64 Ox.out) (ints_of_own64 Oy.out)).mono ?_
      rintro e w6 ⟨Ag, cg, rfl, og, hb⟩
      replace B := Lib.hid (btr B.out hb)
      replace cA := cell_be cA hb
      replace cX := cell_be cX hb
      replace Ow := Lib.hid (own_be Ow.out hb)
      replace Ox := Lib.hid (own_be Ox.out hb)
      replace Oy := Lib.hid (own_be Oy.out hb)
      have Og := Lib.hid (own_mono (base' := gy + 1) og (by omega))
      clear hb og
      go_wp2_with fail
      refine (eqIntsT _ _ _ _ _ _ (by omega) (ints_of_own64 Og.out) (ints_of_own64 Ow.out)).mono ?_
      rintro e w6' ⟨rfl, hb⟩
      replace B := Lib.hid (btr B.out hb)
      replace cA := cell_be cA hb
      replace cX := cell_be cX hb
      replace Ow := Lib.hid (own_be Ow.out hb)
      replace Ox := Lib.hid (own_be Ox.out hb)
      replace Oy := Lib.hid (own_be Oy.out hb)
      replace Og := Lib.hid (own_be Og.out hb)
      clear hb
      go_wp2
      have hT : ∀ W, Hid (Below w6'.heap.size w6' W) → Calls Try.prog 19 #[.agg #[.slice A xs.length c]] W fun e w' => ∃ g, e = .returned (.agg #[.slice (some ⟨g, 0, none⟩) xs.length xs.length]) ∧
          Hid (Own64 w' W.heap.size (.slice (some ⟨g, 0, none⟩) xs.length xs.length) xs) ∧ Hid (Below w6'.heap.size w6' w') := fun W hW =>
        (toTree A xs c W hx' ((h.be B.out).be hW.out)).mono fun e w' ⟨g, he, ho, hb⟩ => ⟨g, he, ho, btr hW.out hb⟩
      have hE : ∀ g B' W, Hid (Below w6'.heap.size w6' W) → Hid (Own64 W B' (.slice (some ⟨g, 0, none⟩) xs.length xs.length) xs) →
          Calls Try.prog 22 #[.agg #[.slice (some ⟨gx, 0, none⟩) xs.length xs.length], .agg #[.slice (some ⟨g, 0, none⟩) xs.length xs.length]] W fun e w' => e = .returned (.bool true) ∧ Hid (Below w6'.heap.size w6' w') := fun g B' W hW ho =>
        (eqTreeT _ _ xs _ _ W (by omega) ((ints_of_own64 Ox.out).be hW.out) (ints_of_own64 ho.out)).mono fun e w' ⟨he, hb⟩ => ⟨he, btr hW.out hb⟩
      have HT := Lib.hid hT
      have HE := Lib.hid hE
      clear hT hE
      have K0 : Hid (Below w6'.heap.size w6' w6'.drew) := (Below.refl _ _).drew
      have cA0 : w6'.drew.cell? ⟨w.heap.size, 0, none⟩ = some (.slice A xs.length c) := cA
      have cX0 : w6'.drew.cell? ⟨w4.heap.size, 0, none⟩ = some (.slice (some ⟨gx, 0, none⟩) xs.length xs.length) := cX
      go_region_held3 (fun w' => w'.cell? ⟨w.heap.size, 0, none⟩ = some (.slice A xs.length c) ∧ w'.cell? ⟨w4.heap.size, 0, none⟩ = some (.slice (some ⟨gx, 0, none⟩) xs.length xs.length) ∧ Hid (Below w6'.heap.size w6' w')) (first | exact ⟨cA0, cX0, K0⟩ | exact ⟨(cell_be cA (Hid.out (by assumption))), (cell_be cX (Hid.out (by assumption))), by assumption⟩) (first | (go_at_call 19; refine (HT.out _ (by assumption)).mono ?_; rintro e w7 ⟨g7, rfl, ho7, hb7⟩) | (go_at_call 22; refine (HE.out _ _ _ (by assumption) (by assumption)).mono ?_; rintro e w8 ⟨rfl, hb8⟩))
      have hb : Below w6'.heap.size w6' w8 := hb8
      clear HT HE K0 cA0 cX0
      replace B := Lib.hid (btr B.out hb)
      replace cA := cell_be cA hb
      replace cX := cell_be cX hb
      replace Ow := Lib.hid (own_be Ow.out hb)
      replace Ox := Lib.hid (own_be Ox.out hb)
      replace Oy := Lib.hid (own_be Oy.out hb)
      replace Og := Lib.hid (own_be Og.out hb)
      clear hb hb8 hb7 ho7
      go_wp2_with fail
      refine (toInts A2 l c2 _ hlx (h2.be B.out)).mono ?_
      rintro e w9 ⟨g9, rfl, o9, hb⟩
      replace B := Lib.hid (btr B.out hb)
      replace cA := cell_be cA hb
      replace cX := cell_be cX hb
      replace Ow := Lib.hid (own_be Ow.out hb)
      replace Ox := Lib.hid (own_be Ox.out hb)
      replace Oy := Lib.hid (own_be Oy.out hb)
      replace Og := Lib.hid (own_be Og.out hb)
      clear hb
      go_wp2_with fail
      refine (eqIntsT _ _ _ _ _ _ (by omega) (ints_of_own64 Oy.out) (ints_of_own64 o9)).mono ?_
      rintro e w10 ⟨rfl, hb⟩
      replace B := Lib.hid (btr B.out hb)
      replace cA := cell_be cA hb
      replace cX := cell_be cX hb
      replace Ow := Lib.hid (own_be Ow.out hb)
      replace Ox := Lib.hid (own_be Ox.out hb)
      replace Oy := Lib.hid (own_be Oy.out hb)
      replace Og := Lib.hid (own_be Og.out hb)
      clear hb o9
      -- the arguments are marked
      go_wp2_with fail
      refine (markTree _ xs.length xs.length xs 1 _ _ rfl hx' (by omega) (by omega) Ox.out).mono ?_
      rintro e w11 ⟨rfl, _, hg⟩
      replace B := Lib.hid (below_grown B.out hg (fun k e => by injection e with e; subst e; exact Nat.le_of_lt gx3))
      replace cA := cell_grown cA hg (fun k e => by injection e with e; subst e; exact Nat.ne_of_gt gx3)
      replace Ow := Lib.hid (Ow.out.kept hg (.inr (fun e => (Wx.out gx e).2 rfl)))
      replace Oy := Lib.hid (Oy.out.kept hg (.inr (fun e => by injection e with e; have e' : gy = gx := e; omega)))
      replace Og := Lib.hid (own_grown Og.out hg (fun k e => by injection e with e; subst e; exact .inl (by show gx < _; omega)))
      clear hg cX Ox
      go_wp2_with fail
      refine (markInts _ _ l.length l _ _ _ rfl (by omega) (by omega) (by omega) Oy.out).mono ?_
      rintro e w12 ⟨rfl, _, hg⟩
      replace B := Lib.hid (below_grown B.out hg (fun k e => by injection e with e; subst e; show w.heap.size ≤ gy; omega))
      replace cA := cell_grown cA hg (fun k e => by injection e with e; subst e; exact Nat.ne_of_gt (show w.heap.size < gy by omega))
      replace Ow := Lib.hid (Ow.out.kept hg (.inr (fun e => Wy.out gy e rfl)))
      replace Og := Lib.hid (own_grown Og.out hg (fun k e => by injection e with e; subst e; exact .inl (by show gy < _; omega)))
      clear hg Oy
      go_wp2_with fail
      refine (eqIntsT _ _ _ _ _ _ (by omega) (ints_of_own64 Og.out) (ints_of_own64 Ow.out)).mono ?_
      rintro e w13 ⟨rfl, hb⟩
      replace B := Lib.hid (btr B.out hb)
      replace cA := cell_be cA hb
      replace Ow := Lib.hid (own_be Ow.out hb)
      replace Og := Lib.hid (own_be Og.out hb)
      clear hb
      -- the result is marked
      go_wp2_with fail
      have Bg := Lib.hid (World.ownsRow.lt Og.out)
      refine (markInts _ _ cg R 1 _ _ rfl (by omega) (by omega) (by omega) Og.out).mono ?_
      rintro e w14 ⟨rfl, og, hg⟩
      replace B := Lib.hid (below_grown B.out hg (fun k e => by have := Bg.out k e; omega))
      replace cA := cell_grown cA hg (fun k e => by have := Bg.out k e; omega)
      replace Ow := Lib.hid (Ow.out.kept hg (by
        cases hv : (Value.slice Aw R.length cw).ownBlock with
        | none => exact .inl rfl
        | some k => exact .inr fun e => by have h1 := Wx.out k hv; have h2 := Bg.out k e.symm; omega))
      replace Og := Lib.hid (own_mono (base' := 0) og (Nat.zero_le _))
      clear hg og Bg
      go_wp2_with fail
      refine (heldInts _ _ cg 1 _ (by omega) (by omega) (by omega) (ints_of_own64 Og.out)).mono ?_
      rintro e w' ⟨rfl, rfl⟩
      go_wp2_with fail
      -- once more
      refine (toTree A xs c _ hx' (h.be B.out)).mono ?_
      rintro e w15 ⟨g2, rfl, o2, hb⟩
      replace B := Lib.hid (btr B.out hb)
      replace Ow := Lib.hid (own_be Ow.out hb)
      replace Og := Lib.hid (own_be Og.out hb)
      clear hb cA
      go_wp2_with fail
      refine (toInts A2 l c2 _ hlx (h2.be B.out)).mono ?_
      rintro e w16 ⟨g3, rfl, o3, hb⟩
      replace B := Lib.hid (btr B.out hb)
      replace Ow := Lib.hid (own_be Ow.out hb)
      replace Og := Lib.hid (own_be Og.out hb)
      replace o2 := own_be o2 hb
      clear hb
      go_wp2_with fail
      refine (HI.out _ _ _ (ints_of_own64 o2) (ints_of_own64 o3)).mono ?_
      rintro e w17 ⟨Ah, ch, rfl, oh, hb⟩
      replace B := Lib.hid (btr B.out hb)
      replace Ow := Lib.hid (own_be Ow.out hb)
      replace Og := Lib.hid (own_be Og.out hb)
      have Oh := Lib.hid oh
      clear hb o2 o3 oh
      go_wp2_with fail
      refine (eqIntsT _ _ _ _ _ _ (by omega) (ints_of_own64 Oh.out) (ints_of_own64 Ow.out)).mono ?_
      rintro e w18 ⟨rfl, hb⟩
      replace B := Lib.hid (btr B.out hb)
      replace Og := Lib.hid (own_be Og.out hb)
      clear hb Oh Ow
      go_wp2_with fail
      refine (heldInts _ _ cg 1 _ (by omega) (by omega) (by omega) (ints_of_own64 Og.out)).mono ?_
      rintro e w' ⟨rfl, rfl⟩
      go_wp2
      go_ret
      exact ⟨rfl, B.out⟩
    · have hl : Hid ((if (1048576 : Int) - xs.length < 0 then -1 else (1048576 : Int) - xs.length) = -1) := if_pos (by omega)
      have hlz : ¬ (1048576 : Int) < (l.length : Int) := by omega
      clear hF hS hI
      go_enter Try.func12, Try.ntmps12
      go_wp2_with fail
      refine (szTree A xs.length c 1048576 _ hx (by omega) (by omega)).mono ?_
      rintro e w1 ⟨he, hb1⟩
      rw [hl.out] at he
      subst he
      have B1 := btr (bal (b0 w) _) hb1
      go_wp2
      go_ret
      exact ⟨rfl, B1⟩
  · have hlz : (1048576 : Int) < (l.length : Int) := by omega
    clear hF hS hI
    go_enter Try.func12, Try.ntmps12
    go_wp2
    go_ret
    exact ⟨rfl, bal (b0 w) _⟩
end Go.Proofs.Ytgnhmhfianmckaa
