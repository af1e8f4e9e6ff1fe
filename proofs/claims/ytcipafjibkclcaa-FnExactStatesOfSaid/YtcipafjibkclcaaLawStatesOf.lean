/- The walk of the law FnExactStatesOf: it returns true, and writes into nothing that was there. -/
import Derived.Test.YtcipafjibkclcaaFnStatesOf
import Derived.Deep.RegionHeld3
namespace Go.Proofs.Ytcipafjibkclcaa
open Go.RowKit

theorem F_StatesOf_len (st : Int) (Ss : List (List Int)) (gs xs : List Int) : (F_StatesOf st Ss gs xs).1.length ≤ 24 := by
  rw [F_StatesOf]
  split
  · rename_i h
    rw [Bool.and_eq_true] at h
    rw [show (M.states Ss st xs, (0 : Int)).1 = M.states Ss st xs from rfl, M.states_len]
    exact (M.tree_len h.2).2
  · simp

/-- the blocks of an automaton's rows and of its good states lie below a number -/
theorem AutoO.below_ {w : World} {B m cm g cg : Nat} {As Ag : Option Addr} {hs : List Hdr} {Ss : List (List Int)} {gs : List Int} (h : AutoO w B As m cm hs Ss Ag g cg gs) : (∀ h' : Hdr, h' ∈ hs → h'.1 < w.heap.size) ∧ ∀ k, (Value.slice Ag g cg).ownBlock = some k → k < w.heap.size :=
  ⟨fun _ hh => (h.rows.lt hh).2, fun k hk => (h.good.lt k hk).2⟩

set_option maxHeartbeats 4000000 in
set_option maxRecDepth 100000 in
theorem lawStatesOf (st : Int) (As Ag : Option Addr) (Ss : List (List Int)) (gs : List Int) (cm cg : Nat) (A : Option Addr) (xs : List Int) (c : Nat) (w : World) (hm' : Ss.length ≤ 9223372036854775807) (hg' : gs.length ≤ 9223372036854775807) (h : AutoR w As Ss Ag gs) (hx : xs.length ≤ 9223372036854775807) (hI : Ints w w.heap.size A xs) :
    Calls Try.prog 5 #[.agg #[.int .i64 st, .slice As Ss.length cm, .slice Ag gs.length cg], .agg #[.slice A xs.length c]] w fun e w' => e = .returned (.bool true) ∧ Below w.heap.size w w' := by
  obtain ⟨m, hm⟩ : ∃ m, Hid (Ss.length = m) := ⟨_, rfl⟩
  obtain ⟨g, hg⟩ : ∃ g, Hid (gs.length = g) := ⟨_, rfl⟩
  rw [hm.out] at hm' ⊢
  rw [hg.out] at hg' ⊢
  obtain ⟨W, hW⟩ : ∃ W, W = (w.alloc (.cells #[.int .i64 st, .slice As m cm, .slice Ag g cg] 37)).alloc (.cells #[.slice A xs.length c] 24) := ⟨_, rfl⟩
  have C1 : Hid (BoxA W w.heap.size st As m cm Ag g cg) := by subst hW; exact (BoxA.new _ _ _ _ _ _ _ _ _).al _
  have C2 : Hid (W.cell? ⟨w.heap.size + 1, 0, none⟩ = some (.slice A xs.length c)) := by subst hW; exact World.cell?_alloc_at _ _ _ _ (by simp)
  have I1 : Hid (AutoR W As Ss Ag gs) := by subst hW; exact (h.al _).al _
  have i2 : Hid (Ints W W.heap.size A xs) := by subst hW; exact (hI.al _).al _
  have hBW : Hid (Below w.heap.size w W) := by subst hW; exact bal (bal (b0 w) _) _
  have HW := Lib.hid hW
  have HSz := Lib.hid (szAutomaton st As Ag Ss gs m cm g cg W hm hm' hg' I1)
  clear hW h hI
  go_enter Try.func5, Try.ntmps5
  go_wp2_with fail
  rw [← HW.out]
  obtain ⟨c0, c1, c2⟩ := C1.out
  refine HSz.out.mono ?_
  rintro e w1 ⟨r, rfl, hr1, hr2, hb⟩
  have B := hb
  have Hr1 := Lib.hid hr1
  clear c0 c1 c2 hr1 hr2 hb HSz
  by_cases hr : r < 0
  · go_wp2
    go_ret
    exact ⟨rfl, btr hBW.out B.out⟩
  obtain ⟨hT, hrr⟩ := Hr1.out (by omega)
  have hm2 : m ≤ 1048576 := by omega
  have hg2 : g ≤ 1048576 := by omega
  have hz : Hid (∀ zs ∈ Ss, zs.length ≤ 1000000000000) := fun zs hzs => by have := M.tot_mem hzs; omega
  have hTT : Hid (M.tot Ss ≤ 1048576) := (show M.tot Ss ≤ 1048576 by omega)
  have hr8 : r ≤ 1048576 := by omega
  have hr0 : 0 ≤ r := by omega
  have HS2 := Lib.hid (fun W' => szTree A xs.length c r W' hx hr8 hr0)
  clear hT hrr Hr1
  have c2' := cell_be C2.out B.out
  by_cases hs : r - (xs.length : Int) < 0
  · have hl : Hid ((if r - (xs.length : Int) < 0 then -1 else r - (xs.length : Int)) = -1) := if_pos hs
    clear hs
    go_wp2_with fail
    refine (HS2.out _).mono ?_
    rintro e w2 ⟨he, hb⟩
    rw [hl.out] at he
    subst he
    go_wp2
    go_ret
    exact ⟨rfl, btr hBW.out (btr B.out hb)⟩
  have hl : Hid ((if r - (xs.length : Int) < 0 then -1 else r - (xs.length : Int)) = r - (xs.length : Int)) := if_neg hs
  have hxs : xs.length ≤ 1048576 := by omega
  have hx' : Hid (xs.length ≤ 1000000000000) := (show xs.length ≤ 1000000000000 by omega)
  go_wp2_with fail
  refine (HS2.out _).mono ?_
  rintro e w2 ⟨he, hb⟩
  rw [hl.out] at he
  subst he
  replace B : Hid (Below W.heap.size W w2) := btr B.out hb
  clear hb c2' hl HS2
  -- the words for what is called
  have HT : Hid (∀ W', Hid (Below W.heap.size W W') → Calls Try.prog 28 #[.agg #[.int .i64 st, .slice As m cm, .slice Ag g cg]] W' fun e w' => ∃ g1 hs g2, e = .returned (.agg #[.int .i64 st, .slice (some ⟨g1, 0, none⟩) m m, .slice (some ⟨g2, 0, none⟩) g g]) ∧ Hid (AutoO w' W'.heap.size (some ⟨g1, 0, none⟩) m m hs Ss (some ⟨g2, 0, none⟩) g g gs) ∧ Hid (Below W.heap.size W w') ∧ Hid (Below W'.heap.size W' w')) := fun W' hW' =>
    (toAutomaton st As Ag Ss gs m cm g cg W' hm hm2 hg hg2 hz (Lib.hid (I1.out.be hW'.out))).mono fun e w' ⟨g1, hs, g2, he, ho, hb⟩ => ⟨g1, hs, g2, he, ho, btr hW'.out hb, hb⟩
  have HU : Hid (∀ W', Hid (Below W.heap.size W W') → Calls Try.prog 19 #[.agg #[.slice A xs.length c]] W' fun e w' => ∃ g, e = .returned (.agg #[.slice (some ⟨g, 0, none⟩) xs.length xs.length]) ∧ Hid (Own64 w' W'.heap.size (.slice (some ⟨g, 0, none⟩) xs.length xs.length) xs) ∧ Hid (Below W.heap.size W w') ∧ Hid (Below W'.heap.size W' w')) := fun W' hW' =>
    (toTree A xs c W' hx'.out (i2.out.be hW'.out)).mono fun e w' ⟨g, he, ho, hb⟩ => ⟨g, he, ho, btr hW'.out hb, hb⟩
  have HZ : Hid (∀ zs ∈ Ss, zs.length ≤ 9223372036854775807) := fun zs hzs => by have := hz.out zs hzs; omega
  obtain ⟨R, hR⟩ : ∃ R, Hid (F_StatesOf st Ss gs xs = R) := ⟨_, rfl⟩
  have hR24 : R.1.length ≤ 24 := by rw [← hR.out]; exact F_StatesOf_len _ _ _ _
  have hxc : xs.length ≤ 1000000000000 := hx'.out
  have HSp : Hid (∀ g1 hs g2 A' B1 W', Hid (AutoO W' B1 (some ⟨g1, 0, none⟩) m m hs Ss (some ⟨g2, 0, none⟩) g g gs) → Hid (Ints W' W'.heap.size A' xs) → Calls Try.prog 31 #[.agg #[.int .i64 st, .slice (some ⟨g1, 0, none⟩) m m, .slice (some ⟨g2, 0, none⟩) g g], .agg #[.slice A' xs.length xs.length]] W' fun e w' => ∃ A'' c'', e = .returned (.tuple #[.slice A'' R.1.length c'', .int .i64 R.2]) ∧ Hid (Own64 w' W'.heap.size (.slice A'' R.1.length c'') R.1) ∧ Hid (Below W'.heap.size W' w')) := fun g1 hs g2 A' B1 W' ho hi => by
    rw [← hR.out]
    exact spec_StatesOf st _ _ Ss gs m m g g A' xs xs.length W' hm hm2 hg hg2 (Lib.hid (ho.out.read HZ.out)) hxs (Nat.le_refl _) hxc hi
  have HIm : Hid (∀ g1 hs g2 A' B1 W', Hid (AutoO W' B1 (some ⟨g1, 0, none⟩) m m hs Ss (some ⟨g2, 0, none⟩) g g gs) → Hid (Ints W' W'.heap.size A' xs) → Calls Try.prog 32 #[.agg #[.int .i64 st, .slice (some ⟨g1, 0, none⟩) m m, .slice (some ⟨g2, 0, none⟩) g g], .agg #[.slice A' xs.length xs.length]] W' fun e w' => ∃ A'' c'', e = .returned (.tuple #[.slice A'' R.1.length c'', .int .i64 R.2]) ∧ Hid (Own64 w' W'.heap.size (.slice A'' R.1.length c'') R.1) ∧ Hid (Below W'.heap.size W' w')) := fun g1 hs g2 A' B1 W' ho hi => by
    rw [← hR.out]
    exact impl_StatesOf st _ _ Ss gs m m g g A' xs xs.length W' hm hm2 hg hg2 (Lib.hid (ho.out.read HZ.out)) hxs (Nat.le_refl _) hxc hi
  clear hR hr8 hr0
  -- the model
  obtain ⟨c0, c1, c2⟩ := C1.out.be B.out
  have d0 := cell_be C2.out B.out
  go_wp2
  have K0 : Hid (Below W.heap.size W w2.drew) := B.out.drew
  go_region_held3 (fun w' => w'.cell? ⟨w.heap.size, 0, none⟩ = some (.int .i64 st) ∧ w'.cell? ⟨w.heap.size, 1, none⟩ = some (.slice As m cm) ∧ w'.cell? ⟨w.heap.size, 2, none⟩ = some (.slice Ag g cg) ∧ w'.cell? ⟨w.heap.size + 1, 0, none⟩ = some (.slice A xs.length c) ∧ Hid (Below W.heap.size W w')) (first | exact ⟨c0, c1, c2, d0, K0⟩ | exact ⟨cellK (Hid.out (by assumption)) C1.out.1, cellK (Hid.out (by assumption)) C1.out.2.1, cellK (Hid.out (by assumption)) C1.out.2.2, cell_be C2.out (Hid.out (by assumption)), by assumption⟩) (first | (go_at_call 28; refine (HT.out _ K0).mono ?_; rintro e w7 ⟨g7, h7, k7, rfl, ho7, hb7, hc7⟩) | (go_at_call 19; refine (HU.out _ hb7).mono ?_; rintro e w8 ⟨g8, rfl, ho8, hb8, hc8⟩) | (go_at_call 31; refine (HSp.out _ _ _ _ _ _ (ho7.out.be hc8.out) (ints_of_own64 ho8.out)).mono ?_; rintro e w9 ⟨Aw, cw, rfl, ow, hb⟩; have hb9 : Hid (Below W.heap.size W w9) := btr hb8.out hb.out))
  clear c0 c1 c2 d0 K0 hb7 hb8 hc7 hc8 ho7 ho8 hb B
  have B := hb9
  obtain ⟨z3, hz3⟩ : ∃ z, Hid (w9.heap.size = z) := ⟨_, rfl⟩
  have hWz : Hid (W.heap.size ≤ z3) := by have := B.out.size; rw [hz3.out] at this; exact this
  have Wk : Hid (∀ k, (Value.slice Aw R.1.length cw).ownBlock = some k → k < z3) := fun k hk => by rw [← hz3.out]; exact (ow.out.lt k hk).2
  have Ow : Hid (Own64 w9 0 (.slice Aw R.1.length cw) R.1) := own_mono ow.out (Nat.zero_le _)
  clear hb9 ow
  -- x0
  obtain ⟨c0, c1, c2⟩ := C1.out.be B.out
  go_wp2_with fail
  refine (HT.out _ B).mono ?_
  rintro e w10 ⟨gx, hsx, gy, rfl, Ox, B10, D10⟩
  have Zx := Lib.hid Ox.out.below_
  have z10 := D10.out.size
  clear c0 c1 c2 B
  have B11 : Hid (Below W.heap.size W (w10.alloc (.cells #[.int .i64 st, .slice (some ⟨gx, 0, none⟩) m m, .slice (some ⟨gy, 0, none⟩) g g] 40))) := bal B10.out _
  have d0 := cell_be C2.out B11.out
  go_wp2_with fail
  refine (HU.out _ B11).mono ?_
  rintro e w12 ⟨gt, rfl, Ot, B12, D12⟩
  have X12 := Lib.hid ((BoxA.new w10 st (some ⟨gx, 0, none⟩) (some ⟨gy, 0, none⟩) m m g g 40).be D12.out)
  have O12 := Lib.hid ((Ox.out.alloc (.cells #[.int .i64 st, .slice (some ⟨gx, 0, none⟩) m m, .slice (some ⟨gy, 0, none⟩) g g] 40)).be D12.out)
  have Ow12 := Lib.hid (own_be ((own_be Ow.out D10.out).alloc (.cells #[.int .i64 st, .slice (some ⟨gx, 0, none⟩) m m, .slice (some ⟨gy, 0, none⟩) g g] 40)) D12.out)
  have gt1 := (World.ownsRow.lt Ot.out gt rfl).1
  have gt2 := (World.ownsRow.lt Ot.out gt rfl).2
  simp only [World.size_alloc] at gt1
  rw [hz3.out] at z10
  have X13 := Lib.hid (X12.out.al (.cells #[.slice (some ⟨gt, 0, none⟩) xs.length xs.length] 28))
  have O13 := Lib.hid (O12.out.alloc (.cells #[.slice (some ⟨gt, 0, none⟩) xs.length xs.length] 28))
  have T13 : Hid (Ints (w12.alloc (.cells #[.slice (some ⟨gt, 0, none⟩) xs.length xs.length] 28)) (w12.alloc (.cells #[.slice (some ⟨gt, 0, none⟩) xs.length xs.length] 28)).heap.size (some ⟨gt, 0, none⟩) xs) := (ints_of_own64 Ot.out).al _
  obtain ⟨x0, x1, x2⟩ := X13.out
  clear d0 Ow Ox
  go_wp2_with fail
  -- g0
  refine (HIm.out _ _ _ _ _ _ O13 T13).mono ?_
  rintro e w14 ⟨Ag', cg', rfl, og, hb⟩
  have B14 : Hid (Below W.heap.size W w14) := btr (bal B12.out _) hb.out
  have X14 := Lib.hid (X13.out.be hb.out)
  have O14 := Lib.hid (O13.out.be hb.out)
  have Ot14 := Lib.hid (own_be (Ot.out.alloc (.cells #[.slice (some ⟨gt, 0, none⟩) xs.length xs.length] 28)) hb.out)
  have Ow14 := Lib.hid (own_be (Ow12.out.alloc (.cells #[.slice (some ⟨gt, 0, none⟩) xs.length xs.length] 28)) hb.out)
  have T14 : Hid (w14.cell? ⟨w12.heap.size, 0, none⟩ = some (.slice (some ⟨gt, 0, none⟩) xs.length xs.length)) := cell_be (by simp) hb.out
  have Og14 : Hid (Own64 w14 (w12.heap.size + 1) (.slice Ag' R.1.length cg') R.1) := own_mono og.out (by simp)
  clear x0 x1 x2 X12 X13 O12 O13 T13 Ot Ow12 og hb B12 D12 B11 B10 D10
  go_wp2_with fail
  refine (eqIntsT _ _ _ _ _ _ (by omega) (ints_of_own64 Og14.out) (ints_of_own64 Ow14.out)).mono ?_
  rintro e w15 ⟨rfl, hb⟩
  have B15 : Hid (Below W.heap.size W w15) := btr B14.out hb
  replace X14 := Lib.hid (X14.out.be hb)
  replace O14 := Lib.hid (O14.out.be hb)
  replace Ot14 := Lib.hid (own_be Ot14.out hb)
  replace Ow14 := Lib.hid (own_be Ow14.out hb)
  replace T14 := Lib.hid (cell_be T14.out hb)
  replace Og14 := Lib.hid (own_be Og14.out hb)
  clear hb B14
  have hRR : (R.2 != R.2) = false := by simp
  go_wp2
  -- the automaton is as it was
  obtain ⟨c0, c1, c2⟩ := C1.out.be B15.out
  obtain ⟨x0, x1, x2⟩ := X14.out
  have K0 : Hid (Below w15.heap.size w15 w15.drew) := (Below.refl _ _).drew
  have KW : Hid (Below W.heap.size W w15.drew) := B15.out.drew
  have HE : Hid (∀ g1 hs g2 B' W', Hid (Below w15.heap.size w15 W') → Hid (AutoO W' B' (some ⟨g1, 0, none⟩) m m hs Ss (some ⟨g2, 0, none⟩) g g gs) → Calls Try.prog 30 #[.agg #[.int .i64 st, .slice (some ⟨gx, 0, none⟩) m m, .slice (some ⟨gy, 0, none⟩) g g], .agg #[.int .i64 st, .slice (some ⟨g1, 0, none⟩) m m, .slice (some ⟨g2, 0, none⟩) g g]] W' fun e w' => e = .returned (.bool true) ∧ Hid (Below w15.heap.size w15 w')) := fun g1 hs g2 B' W' hW' ho =>
    (eqAutomaton st _ _ _ _ Ss gs m m m g g g W' hm hm2 hg hg2 hz (Lib.hid (O14.out.eq.be hW'.out)) (Lib.hid ho.out.eq)).mono fun e w' ⟨he, hb⟩ => ⟨he, btr hW'.out hb.out⟩
  go_region_held3 (fun w' => w'.cell? ⟨w.heap.size, 0, none⟩ = some (.int .i64 st) ∧ w'.cell? ⟨w.heap.size, 1, none⟩ = some (.slice As m cm) ∧ w'.cell? ⟨w.heap.size, 2, none⟩ = some (.slice Ag g cg) ∧ w'.cell? ⟨w10.heap.size, 0, none⟩ = some (.int .i64 st) ∧ w'.cell? ⟨w10.heap.size, 1, none⟩ = some (.slice (some ⟨gx, 0, none⟩) m m) ∧ w'.cell? ⟨w10.heap.size, 2, none⟩ = some (.slice (some ⟨gy, 0, none⟩) g g) ∧ Hid (Below w15.heap.size w15 w')) (first | exact ⟨c0, c1, c2, x0, x1, x2, K0⟩ | exact ⟨cellK (Hid.out (by assumption)) c0, cellK (Hid.out (by assumption)) c1, cellK (Hid.out (by assumption)) c2, cellK (Hid.out (by assumption)) x0, cellK (Hid.out (by assumption)) x1, cellK (Hid.out (by assumption)) x2, by assumption⟩) (first | (go_at_call 28; refine (HT.out _ KW).mono ?_; rintro e w7 ⟨g7, h7, k7, rfl, ho7, hb7, hc7⟩; have hd7 : Hid (Below w15.heap.size w15 w7) := btr K0.out hc7.out) | (go_at_call 30; refine (HE.out g7 h7 k7 _ _ hd7 ho7).mono ?_; rintro e w16 ⟨rfl, hb16⟩))
  have B16 : Hid (Below W.heap.size W w16) := btr B15.out hb16.out
  replace X14 := Lib.hid (X14.out.be hb16.out)
  replace O14 := Lib.hid (O14.out.be hb16.out)
  replace Ot14 := Lib.hid (own_be Ot14.out hb16.out)
  replace Ow14 := Lib.hid (own_be Ow14.out hb16.out)
  replace T14 := Lib.hid (cell_be T14.out hb16.out)
  replace Og14 := Lib.hid (own_be Og14.out hb16.out)
  clear c0 c1 c2 x0 x1 x2 K0 KW HE ho7 hb7 hc7 hd7 hb16 B15
  -- the tree is as it was
  have d0 := cell_be C2.out B16.out
  have t0 := T14.out
  go_wp2
  have K0 : Hid (Below w16.heap.size w16 w16.drew) := (Below.refl _ _).drew
  have KW : Hid (Below W.heap.size W w16.drew) := B16.out.drew
  have HE : Hid (∀ g' B' W', Hid (Below w16.heap.size w16 W') → Hid (Own64 W' B' (.slice (some ⟨g', 0, none⟩) xs.length xs.length) xs) → Calls Try.prog 22 #[.agg #[.slice (some ⟨gt, 0, none⟩) xs.length xs.length], .agg #[.slice (some ⟨g', 0, none⟩) xs.length xs.length]] W' fun e w' => e = .returned (.bool true) ∧ Hid (Below w16.heap.size w16 w')) := fun g' B' W' hW' ho =>
    (eqTreeT _ _ xs _ _ W' (by omega) ((ints_of_own64 Ot14.out).be hW'.out) (ints_of_own64 ho.out)).mono fun e w' ⟨he, hb⟩ => ⟨he, btr hW'.out hb⟩
  go_region_held3 (fun w' => w'.cell? ⟨w.heap.size + 1, 0, none⟩ = some (.slice A xs.length c) ∧ w'.cell? ⟨w12.heap.size, 0, none⟩ = some (.slice (some ⟨gt, 0, none⟩) xs.length xs.length) ∧ Hid (Below w16.heap.size w16 w')) (first | exact ⟨d0, t0, K0⟩ | exact ⟨cell_be d0 (Hid.out (by assumption)), cell_be t0 (Hid.out (by assumption)), by assumption⟩) (first | (go_at_call 19; refine (HU.out _ KW).mono ?_; rintro e w7 ⟨g7, rfl, ho7, hb7, hc7⟩; have hd7 : Hid (Below w16.heap.size w16 w7) := btr K0.out hc7.out) | (go_at_call 22; refine (HE.out g7 _ _ hd7 ho7).mono ?_; rintro e w17 ⟨rfl, hb17⟩))
  have B17 : Hid (Below W.heap.size W w17) := btr B16.out hb17.out
  replace X14 := Lib.hid (X14.out.be hb17.out)
  replace O14 := Lib.hid (O14.out.be hb17.out)
  replace Ot14 := Lib.hid (own_be Ot14.out hb17.out)
  replace Ow14 := Lib.hid (own_be Ow14.out hb17.out)
  replace T14 := Lib.hid (cell_be T14.out hb17.out)
  replace Og14 := Lib.hid (own_be Og14.out hb17.out)
  clear d0 t0 K0 KW HE ho7 hb7 hc7 hd7 hb17 B16
  -- the automaton is marked
  obtain ⟨x0, x1, x2⟩ := X14.out
  have gyl := Zx.out.2 gy rfl
  have hzW : z3 ≤ w17.heap.size := by have h1 : w10.heap.size < w17.heap.size := World.block_lt_of_cell? _ _ X14.out.1; omega
  have O17 : Hid (AutoO w17 z3 (some ⟨gx, 0, none⟩) m m hsx Ss (some ⟨gy, 0, none⟩) g g gs) := by rw [← hz3.out]; exact O14.out
  go_wp2_with fail
  refine (markAutomaton st _ _ Ss gs m m g g z3 hsx 1 (by omega) (by omega) w17 hm hm2 hg hg2 hTT hzW O17).mono ?_
  rintro e w18 ⟨rfl, _, _, hb18, hf18⟩
  have B18 : Hid (Below W.heap.size W w18) := B17.out.trans (hb18.out.mono hWz.out)
  have Ow18 : Hid (Own64 w18 0 (.slice Aw R.1.length cw) R.1) := own_heap Ow14.out (fun k hk => hb18.out.block k (Wk.out k hk))
  have hoff : ∀ j, w10.heap.size ≤ j → j < w17.heap.size → w18.heap[j]? = w17.heap[j]? := fun j h1 h2 => hf18.out j h2 (fun h' hh e => by have := Zx.out.1 h' hh; omega) (fun e => by injection e with e; have e' : gy = j := e; omega)
  have Hoff := Lib.hid hoff
  have Ot18 : Hid (Own64 w18 (w10.heap.size + 1) (.slice (some ⟨gt, 0, none⟩) xs.length xs.length) xs) := own_mono (own_heap (base := w10.heap.size + 1) (by have := Ot14.out; simpa using this) (fun k hk => by
    have h1 := Ot14.out.lt k hk
    simp only [World.size_alloc] at h1
    exact Hoff.out k (by omega) h1.2)) (Nat.le_refl _)
  have hX17 : w12.heap.size < w17.heap.size := World.block_lt_of_cell? _ _ T14.out
  have h1012 : w10.heap.size ≤ w12.heap.size := by omega
  have Og18 : Hid (Own64 w18 (w12.heap.size + 1) (.slice Ag' R.1.length cg') R.1) := own_heap Og14.out (fun k hk => by
    have h1 := Og14.out.lt k hk
    exact Hoff.out k (by omega) h1.2)
  have t0 : w18.cell? ⟨w12.heap.size, 0, none⟩ = some (.slice (some ⟨gt, 0, none⟩) xs.length xs.length) := (World.cell?_of_block (a := ⟨w12.heap.size, 0, none⟩) (Hoff.out _ (by show _ ≤ w12.heap.size; omega) hX17)).trans T14.out
  have m1 : IntKind.i64.wrap ((1 : Int) + (M.tot Ss : Int) + (g : Int)) = 1 + (M.tot Ss : Int) + (g : Int) := IntWalk.i64_in _ (by have := hTT.out; omega)
  obtain ⟨k1, hk1⟩ : ∃ k1 : Int, 1 + (M.tot Ss : Int) + (g : Int) = k1 := ⟨_, rfl⟩
  have hk1b : 0 ≤ k1 ∧ k1 ≤ 10000000 := by have := hTT.out; omega
  rw [hk1] at m1 ⊢
  clear hk1 x0 x1 x2 hoff Hoff hf18 hb18 O14 O17 X14 Ot14 Og14 Ow14 B17 gyl Zx
  go_wp2_with fail
  -- the tree is marked
  refine (markTree _ xs.length xs.length xs k1 _ _ rfl hxc (by omega) (by omega) Ot18.out).mono ?_
  rintro e w19 ⟨rfl, _, hg19⟩
  have B19 : Hid (Below W.heap.size W w19) := below_grown B18.out hg19 (fun k e => by injection e with e; have e' : gt = k := e; have := hWz.out; omega)
  have Og19 : Hid (Own64 w19 (w12.heap.size + 1) (.slice Ag' R.1.length cg') R.1) := own_grown Og18.out hg19 (fun k e => by injection e with e; have e' : gt = k := e; exact .inl (by omega))
  have Ow19 : Hid (Own64 w19 0 (.slice Aw R.1.length cw) R.1) := Ow18.out.kept hg19 (.inr fun e => by
    have h1 := Wk.out gt e
    omega)
  have k1b : ¬ k1 + (xs.length : Int) < 0 := by omega
  clear hg19 t0 Ot18 Og18 Ow18 B18
  go_wp2_with fail
  refine (eqIntsT _ _ _ _ _ _ (by omega) (ints_of_own64 Og19.out) (ints_of_own64 Ow19.out)).mono ?_
  rintro e w20 ⟨rfl, hb⟩
  have B20 : Hid (Below W.heap.size W w20) := btr B19.out hb
  replace Og19 := Lib.hid (own_be Og19.out hb)
  replace Ow19 := Lib.hid (own_be Ow19.out hb)
  clear hb B19
  -- the result is marked
  go_wp2_with fail
  have Bg := Lib.hid (World.ownsRow.lt Og19.out)
  refine (markInts _ _ cg' R.1 1 _ _ rfl (by omega) (by omega) (by omega) Og19.out).mono ?_
  rintro e w21 ⟨rfl, og, hg21⟩
  have B21 : Hid (Below W.heap.size W w21) := below_grown B20.out hg21 (fun k e => by have := Bg.out k e; have := hWz.out; omega)
  have Ow21 : Hid (Own64 w21 0 (.slice Aw R.1.length cw) R.1) := Ow19.out.kept hg21 (by
    cases hv : (Value.slice Aw R.1.length cw).ownBlock with
    | none => exact .inl rfl
    | some k => exact .inr fun e => by have h1 := Wk.out k hv; have h2 := Bg.out k e.symm; omega)
  have Og := Lib.hid og
  clear hg21 og Bg B20 Og19 Ow19
  go_wp2_with fail
  refine (heldInts _ _ cg' 1 _ (by omega) (by omega) (by omega) (ints_of_own64 Og.out)).mono ?_
  rintro e w' ⟨rfl, rfl⟩
  -- once more
  obtain ⟨c0, c1, c2⟩ := C1.out.be B21.out
  have d0 := cell_be C2.out B21.out
  go_wp2
  have K0 : Hid (Below w21.heap.size w21 w21.drew) := (Below.refl _ _).drew
  have KW : Hid (Below W.heap.size W w21.drew) := B21.out.drew
  go_region_held3 (fun w' => w'.cell? ⟨w.heap.size, 0, none⟩ = some (.int .i64 st) ∧ w'.cell? ⟨w.heap.size, 1, none⟩ = some (.slice As m cm) ∧ w'.cell? ⟨w.heap.size, 2, none⟩ = some (.slice Ag g cg) ∧ w'.cell? ⟨w.heap.size + 1, 0, none⟩ = some (.slice A xs.length c) ∧ Hid (Below W.heap.size W w')) (first | exact ⟨c0, c1, c2, d0, KW⟩ | exact ⟨cellK (Hid.out (by assumption)) C1.out.1, cellK (Hid.out (by assumption)) C1.out.2.1, cellK (Hid.out (by assumption)) C1.out.2.2, cell_be C2.out (Hid.out (by assumption)), by assumption⟩) (first | (go_at_call 28; refine (HT.out _ KW).mono ?_; rintro e w7 ⟨g7, h7, k7, rfl, ho7, hb7, hc7⟩; have hd7 : Hid (Below w21.heap.size w21 w7) := btr K0.out hc7.out) | (go_at_call 19; refine (HU.out _ hb7).mono ?_; rintro e w8 ⟨g8, rfl, ho8, hb8, hc8⟩; have hd8 : Hid (Below w21.heap.size w21 w8) := btr hd7.out hc8.out) | (go_at_call 32; refine (HIm.out _ _ _ _ _ _ (ho7.out.be hc8.out) (ints_of_own64 ho8.out)).mono ?_; rintro e w9 ⟨Ah, ch, rfl, oh, hb⟩; have hb9 : Hid (Below W.heap.size W w9) := btr hb8.out hb.out; have hd9 : Hid (Below w21.heap.size w21 w9) := btr hd8.out hb.out))
  replace Og := Lib.hid (own_be Og.out hd9.out)
  have Ow22 := Lib.hid (own_be Ow21.out hd9.out)
  clear c0 c1 c2 d0 K0 KW hb7 hb8 hc7 hc8 hd7 hd8 hd9 ho7 ho8 hb B21 Ow21
  go_wp2_with fail
  refine (eqIntsT _ _ _ _ _ _ (by omega) (ints_of_own64 oh.out) (ints_of_own64 Ow22.out)).mono ?_
  rintro e w23 ⟨rfl, hb⟩
  have B23 : Hid (Below W.heap.size W w23) := btr hb9.out hb
  replace Og := Lib.hid (own_be Og.out hb)
  clear hb hb9 Ow22 oh
  go_wp2_with fail
  refine (heldInts _ _ cg' 1 _ (by omega) (by omega) (by omega) (ints_of_own64 Og.out)).mono ?_
  rintro e w' ⟨rfl, rfl⟩
  go_wp2
  go_ret
  exact ⟨rfl, btr hBW.out B23.out⟩
end Go.Proofs.Ytcipafjibkclcaa
