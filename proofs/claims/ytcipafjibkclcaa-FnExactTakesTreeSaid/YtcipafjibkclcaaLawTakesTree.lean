/- The walk of the law FnExactTakesTree: it returns true, and writes into nothing that was there. -/
import Derived.Test.YtcipafjibkclcaaFnTakesTree
import Derived.Deep.RegionHeld3
namespace Go.Proofs.Ytcipafjibkclcaa
open Go.RowKit

set_option maxHeartbeats 4000000 in
set_option maxRecDepth 100000 in
theorem lawTakesTree (st : Int) (As Ag : Option Addr) (Ss : List (List Int)) (gs : List Int) (cm cg : Nat) (A : Option Addr) (xs : List Int) (c : Nat) (w : World) (hm' : Ss.length ≤ 9223372036854775807) (hg' : gs.length ≤ 9223372036854775807) (h : AutoR w As Ss Ag gs) (hx : xs.length ≤ 9223372036854775807) (hI : Ints w w.heap.size A xs) :
    Calls Try.prog 6 #[.agg #[.int .i64 st, .slice As Ss.length cm, .slice Ag gs.length cg], .agg #[.slice A xs.length c]] w fun e w' => e = .returned (.bool true) ∧ Below w.heap.size w w' := by
  obtain ⟨m, hm⟩ : ∃ m, Hid (Ss.length = m) := ⟨_, rfl⟩
  obtain ⟨g, hg⟩ : ∃ g, Hid (gs.length = g) := ⟨_, rfl⟩
  rw [hm.out] at hm' ⊢
  rw [hg.out] at hg' ⊢
  obtain ⟨W, hW⟩ : ∃ W, W = (w.alloc (.cells #[.int .i64 st, .slice As m cm, .slice Ag g cg] 37)).alloc (.cells #[.slice A xs.length c] 24) := ⟨_, rfl⟩
  have C1 : Hid (BoxA W w.heap.size st As m cm Ag g cg) := by subst hW; exact (BoxA.new _ _ _ _ _ _ _ _ _).al _
  have C2 : Hid (W.cell? ⟨w.heap.size + 1, 0, none⟩ = some (.slice A xs.length c)) := by subst hW; exact World.cell?_alloc_at _ _ _ _ (by simp)
  have I1 : Hid (AutoR W As Ss Ag gs) := by subst hW; exact (h.al _).al _
  have i2 : Hid (Ints W W.heap.size A xs) := by subst hW; exact (hI.al _).al _
  have hBW : Hid (Below w.heap.size w W) := by subst hW; exact bal (bal (b0 w) _) _
  have HW := Lib.hid hW
  have HSz := Lib.hid (szAutomaton st As Ag Ss gs m cm g cg W hm hm' hg' I1)
  clear hW h hI
  go_enter Try.func6, Try.ntmps6
  go_wp2_with fail
  rw [← HW.out]
  obtain ⟨c0, c1, c2⟩ := C1.out
  refine HSz.out.mono ?_
  rintro e w1 ⟨r, rfl, hr1, hr2, hb⟩
  have B := hb
  have Hr1 := Lib.hid hr1
  clear c0 c1 c2 hr1 hr2 hb HSz
  by_cases hr : r < 0
  · go_wp2
    go_ret
    exact ⟨rfl, btr hBW.out B.out⟩
  obtain ⟨hT, hrr⟩ := Hr1.out (by omega)
  have hm2 : m ≤ 1048576 := by omega
  have hg2 : g ≤ 1048576 := by omega
  have hz : Hid (∀ zs ∈ Ss, zs.length ≤ 1000000000000) := fun zs hzs => by have := M.tot_mem hzs; omega
  have hTT : Hid (M.tot Ss ≤ 1048576) := (show M.tot Ss ≤ 1048576 by omega)
  have hr8 : r ≤ 1048576 := by omega
  have hr0 : 0 ≤ r := by omega
  have HS2 := Lib.hid (fun W' => szTree A xs.length c r W' hx hr8 hr0)
  clear hT hrr Hr1
  have c2' := cell_be C2.out B.out
  by_cases hs : r - (xs.length : Int) < 0
  · have hl : Hid ((if r - (xs.length : Int) < 0 then -1 else r - (xs.length : Int)) = -1) := if_pos hs
    clear hs
    go_wp2_with fail
    refine (HS2.out _).mono ?_
    rintro e w2 ⟨he, hb⟩
    rw [hl.out] at he
    subst he
    go_wp2
    go_ret
    exact ⟨rfl, btr hBW.out (btr B.out hb)⟩
  have hl : Hid ((if r - (xs.length : Int) < 0 then -1 else r - (xs.length : Int)) = r - (xs.length : Int)) := if_neg hs
  have hxs : xs.length ≤ 1048576 := by omega
  have hx' : Hid (xs.length ≤ 1000000000000) := (show xs.length ≤ 1000000000000 by omega)
  go_wp2_with fail
  refine (HS2.out _).mono ?_
  rintro e w2 ⟨he, hb⟩
  rw [hl.out] at he
  subst he
  replace B : Hid (Below W.heap.size W w2) := btr B.out hb
  clear hb c2' hl HS2
  -- the words for what is called
  have HT : Hid (∀ W', Hid (Below W.heap.size W W') → Calls Try.prog 28 #[.agg #[.int .i64 st, .slice As m cm, .slice Ag g cg]] W' fun e w' => ∃ g1 hs g2, e = .returned (.agg #[.int .i64 st, .slice (some ⟨g1, 0, none⟩) m m, .slice (some ⟨g2, 0, none⟩) g g]) ∧ Hid (AutoO w' W'.heap.size (some ⟨g1, 0, none⟩) m m hs Ss (some ⟨g2, 0, none⟩) g g gs) ∧ Hid (Below W.heap.size W w') ∧ Hid (Below W'.heap.size W' w')) := fun W' hW' =>
    (toAutomaton st As Ag Ss gs m cm g cg W' hm hm2 hg hg2 hz (Lib.hid (I1.out.be hW'.out))).mono fun e w' ⟨g1, hs, g2, he, ho, hb⟩ => ⟨g1, hs, g2, he, ho, btr hW'.out hb, hb⟩
  have HU : Hid (∀ W', Hid (Below W.heap.size W W') → Calls Try.prog 19 #[.agg #[.slice A xs.length c]] W' fun e w' => ∃ g, e = .returned (.agg #[.slice (some ⟨g, 0, none⟩) xs.length xs.length]) ∧ Hid (Own64 w' W'.heap.size (.slice (some ⟨g, 0, none⟩) xs.length xs.length) xs) ∧ Hid (Below W.heap.size W w') ∧ Hid (Below W'.heap.size W' w')) := fun W' hW' =>
    (toTree A xs c W' hx'.out (i2.out.be hW'.out)).mono fun e w' ⟨g, he, ho, hb⟩ => ⟨g, he, ho, btr hW'.out hb, hb⟩
  have HZ : Hid (∀ zs ∈ Ss, zs.length ≤ 9223372036854775807) := fun zs hzs => by have := hz.out zs hzs; omega
  obtain ⟨R, hR⟩ : ∃ R, Hid (F_TakesTree st Ss gs xs = R) := ⟨_, rfl⟩
  have hxc : xs.length ≤ 1000000000000 := hx'.out
  have HSp : Hid (∀ g1 hs g2 A' B1 W', Hid (AutoO W' B1 (some ⟨g1, 0, none⟩) m m hs Ss (some ⟨g2, 0, none⟩) g g gs) → Hid (Ints W' W'.heap.size A' xs) → Calls Try.prog 34 #[.agg #[.int .i64 st, .slice (some ⟨g1, 0, none⟩) m m, .slice (some ⟨g2, 0, none⟩) g g], .agg #[.slice A' xs.length xs.length]] W' fun e w' => e = .returned (.tuple #[.bool R.1, .int .i64 R.2]) ∧ Hid (Below W'.heap.size W' w')) := fun g1 hs g2 A' B1 W' ho hi => by
    rw [← hR.out]
    exact spec_TakesTree st _ _ Ss gs m m g g A' xs xs.length W' hm hm2 hg hg2 (Lib.hid (ho.out.read HZ.out)) hxs (Nat.le_refl _) hxc hi
  have HIm : Hid (∀ g1 hs g2 A' B1 W', Hid (AutoO W' B1 (some ⟨g1, 0, none⟩) m m hs Ss (some ⟨g2, 0, none⟩) g g gs) → Hid (Ints W' W'.heap.size A' xs) → Calls Try.prog 35 #[.agg #[.int .i64 st, .slice (some ⟨g1, 0, none⟩) m m, .slice (some ⟨g2, 0, none⟩) g g], .agg #[.slice A' xs.length xs.length]] W' fun e w' => e = .returned (.tuple #[.bool R.1, .int .i64 R.2]) ∧ Hid (Below W'.heap.size W' w')) := fun g1 hs g2 A' B1 W' ho hi => by
    rw [← hR.out]
    exact impl_TakesTree st _ _ Ss gs m m g g A' xs xs.length W' hm hm2 hg hg2 (Lib.hid (ho.out.read HZ.out)) hxs (Nat.le_refl _) hxc hi
  clear hR hr8 hr0
  -- the model
  obtain ⟨c0, c1, c2⟩ := C1.out.be B.out
  have d0 := cell_be C2.out B.out
  go_wp2
  have K0 : Hid (Below W.heap.size W w2.drew) := B.out.drew
  go_region_held3 (fun w' => w'.cell? ⟨w.heap.size, 0, none⟩ = some (.int .i64 st) ∧ w'.cell? ⟨w.heap.size, 1, none⟩ = some (.slice As m cm) ∧ w'.cell? ⟨w.heap.size, 2, none⟩ = some (.slice Ag g cg) ∧ w'.cell? ⟨w.heap.size + 1, 0, none⟩ = some (.slice A xs.length c) ∧ Hid (Below W.heap.size W w')) (first | exact ⟨c0, c1, c2, d0, K0⟩ | exact ⟨cellK (Hid.out (by assumption)) C1.out.1, cellK (Hid.out (by assumption)) C1.out.2.1, cellK (Hid.out (by assumption)) C1.out.2.2, cell_be C2.out (Hid.out (by assumption)), by assumption⟩) (first | (go_at_call 28; refine (HT.out _ K0).mono ?_; rintro e w7 ⟨g7, h7, k7, rfl, ho7, hb7, hc7⟩) | (go_at_call 19; refine (HU.out _ hb7).mono ?_; rintro e w8 ⟨g8, rfl, ho8, hb8, hc8⟩) | (go_at_call 34; refine (HSp.out _ _ _ _ _ _ (ho7.out.be hc8.out) (ints_of_own64 ho8.out)).mono ?_; rintro e w9 ⟨rfl, hb⟩; have hb9 : Hid (Below W.heap.size W w9) := btr hb8.out hb.out))
  clear c0 c1 c2 d0 K0 hb7 hb8 hc7 hc8 ho7 ho8 hb B
  have B := hb9
  clear hb9
  -- x0
  obtain ⟨c0, c1, c2⟩ := C1.out.be B.out
  go_wp2_with fail
  refine (HT.out _ B).mono ?_
  rintro e w10 ⟨gx, hsx, gy, rfl, Ox, B10, D10⟩
  clear c0 c1 c2 B
  have B11 : Hid (Below W.heap.size W (w10.alloc (.cells #[.int .i64 st, .slice (some ⟨gx, 0, none⟩) m m, .slice (some ⟨gy, 0, none⟩) g g] 40))) := bal B10.out _
  have d0 := cell_be C2.out B11.out
  go_wp2_with fail
  refine (HU.out _ B11).mono ?_
  rintro e w12 ⟨gt, rfl, Ot, B12, D12⟩
  have X12 := Lib.hid ((BoxA.new w10 st (some ⟨gx, 0, none⟩) (some ⟨gy, 0, none⟩) m m g g 40).be D12.out)
  have O12 := Lib.hid ((Ox.out.alloc (.cells #[.int .i64 st, .slice (some ⟨gx, 0, none⟩) m m, .slice (some ⟨gy, 0, none⟩) g g] 40)).be D12.out)
  have gt1 := (World.ownsRow.lt Ot.out gt rfl).1
  have gt2 := (World.ownsRow.lt Ot.out gt rfl).2
  simp only [World.size_alloc] at gt1
  have X13 := Lib.hid (X12.out.al (.cells #[.slice (some ⟨gt, 0, none⟩) xs.length xs.length] 28))
  have O13 := Lib.hid (O12.out.alloc (.cells #[.slice (some ⟨gt, 0, none⟩) xs.length xs.length] 28))
  have T13 : Hid (Ints (w12.alloc (.cells #[.slice (some ⟨gt, 0, none⟩) xs.length xs.length] 28)) (w12.alloc (.cells #[.slice (some ⟨gt, 0, none⟩) xs.length xs.length] 28)).heap.size (some ⟨gt, 0, none⟩) xs) := (ints_of_own64 Ot.out).al _
  obtain ⟨x0, x1, x2⟩ := X13.out
  clear d0 Ox
  go_wp2_with fail
  -- g0
  refine (HIm.out _ _ _ _ _ _ O13 T13).mono ?_
  rintro e w14 ⟨rfl, hb⟩
  have B14 : Hid (Below W.heap.size W w14) := btr (bal B12.out _) hb.out
  have X14 := Lib.hid (X13.out.be hb.out)
  have O14 := Lib.hid (O13.out.be hb.out)
  have Ot14 := Lib.hid (own_be (Ot.out.alloc (.cells #[.slice (some ⟨gt, 0, none⟩) xs.length xs.length] 28)) hb.out)
  have T14 : Hid (w14.cell? ⟨w12.heap.size, 0, none⟩ = some (.slice (some ⟨gt, 0, none⟩) xs.length xs.length)) := cell_be (by simp) hb.out
  clear x0 x1 x2 X12 X13 O12 O13 T13 Ot hb B12 D12 B11 B10 D10
  have hRb : (R.1 != R.1) = false := by simp
  have hRR : (R.2 != R.2) = false := by simp
  go_wp2
  -- the automaton is as it was
  obtain ⟨c0, c1, c2⟩ := C1.out.be B14.out
  obtain ⟨x0, x1, x2⟩ := X14.out
  have K0 : Hid (Below w14.heap.size w14 w14.drew) := (Below.refl _ _).drew
  have KW : Hid (Below W.heap.size W w14.drew) := B14.out.drew
  have HE : Hid (∀ g1 hs g2 B' W', Hid (Below w14.heap.size w14 W') → Hid (AutoO W' B' (some ⟨g1, 0, none⟩) m m hs Ss (some ⟨g2, 0, none⟩) g g gs) → Calls Try.prog 30 #[.agg #[.int .i64 st, .slice (some ⟨gx, 0, none⟩) m m, .slice (some ⟨gy, 0, none⟩) g g], .agg #[.int .i64 st, .slice (some ⟨g1, 0, none⟩) m m, .slice (some ⟨g2, 0, none⟩) g g]] W' fun e w' => e = .returned (.bool true) ∧ Hid (Below w14.heap.size w14 w')) := fun g1 hs g2 B' W' hW' ho =>
    (eqAutomaton st _ _ _ _ Ss gs m m m g g g W' hm hm2 hg hg2 hz (Lib.hid (O14.out.eq.be hW'.out)) (Lib.hid ho.out.eq)).mono fun e w' ⟨he, hb⟩ => ⟨he, btr hW'.out hb.out⟩
  go_region_held3 (fun w' => w'.cell? ⟨w.heap.size, 0, none⟩ = some (.int .i64 st) ∧ w'.cell? ⟨w.heap.size, 1, none⟩ = some (.slice As m cm) ∧ w'.cell? ⟨w.heap.size, 2, none⟩ = some (.slice Ag g cg) ∧ w'.cell? ⟨w10.heap.size, 0, none⟩ = some (.int .i64 st) ∧ w'.cell? ⟨w10.heap.size, 1, none⟩ = some (.slice (some ⟨gx, 0, none⟩) m m) ∧ w'.cell? ⟨w10.heap.size, 2, none⟩ = some (.slice (some ⟨gy, 0, none⟩) g g) ∧ Hid (Below w14.heap.size w14 w')) (first | exact ⟨c0, c1, c2, x0, x1, x2, K0⟩ | exact ⟨cellK (Hid.out (by assumption)) c0, cellK (Hid.out (by assumption)) c1, cellK (Hid.out (by assumption)) c2, cellK (Hid.out (by assumption)) x0, cellK (Hid.out (by assumption)) x1, cellK (Hid.out (by assumption)) x2, by assumption⟩) (first | (go_at_call 28; refine (HT.out _ KW).mono ?_; rintro e w7 ⟨g7, h7, k7, rfl, ho7, hb7, hc7⟩; have hd7 : Hid (Below w14.heap.size w14 w7) := btr K0.out hc7.out) | (go_at_call 30; refine (HE.out g7 h7 k7 _ _ hd7 ho7).mono ?_; rintro e w16 ⟨rfl, hb16⟩))
  have B16 : Hid (Below W.heap.size W w16) := btr B14.out hb16.out
  replace X14 := Lib.hid (X14.out.be hb16.out)
  replace O14 := Lib.hid (O14.out.be hb16.out)
  replace Ot14 := Lib.hid (own_be Ot14.out hb16.out)
  replace T14 := Lib.hid (cell_be T14.out hb16.out)
  clear c0 c1 c2 x0 x1 x2 K0 KW HE ho7 hb7 hc7 hd7 hb16 B14
  -- the tree is as it was
  have d0 := cell_be C2.out B16.out
  have t0 := T14.out
  go_wp2
  have K0 : Hid (Below w16.heap.size w16 w16.drew) := (Below.refl _ _).drew
  have KW : Hid (Below W.heap.size W w16.drew) := B16.out.drew
  have HE : Hid (∀ g' B' W', Hid (Below w16.heap.size w16 W') → Hid (Own64 W' B' (.slice (some ⟨g', 0, none⟩) xs.length xs.length) xs) → Calls Try.prog 22 #[.agg #[.slice (some ⟨gt, 0, none⟩) xs.length xs.length], .agg #[.slice (some ⟨g', 0, none⟩) xs.length xs.length]] W' fun e w' => e = .returned (.bool true) ∧ Hid (Below w16.heap.size w16 w')) := fun g' B' W' hW' ho =>
    (eqTreeT _ _ xs _ _ W' (by omega) ((ints_of_own64 Ot14.out).be hW'.out) (ints_of_own64 ho.out)).mono fun e w' ⟨he, hb⟩ => ⟨he, btr hW'.out hb⟩
  go_region_held3 (fun w' => w'.cell? ⟨w.heap.size + 1, 0, none⟩ = some (.slice A xs.length c) ∧ w'.cell? ⟨w12.heap.size, 0, none⟩ = some (.slice (some ⟨gt, 0, none⟩) xs.length xs.length) ∧ Hid (Below w16.heap.size w16 w')) (first | exact ⟨d0, t0, K0⟩ | exact ⟨cell_be d0 (Hid.out (by assumption)), cell_be t0 (Hid.out (by assumption)), by assumption⟩) (first | (go_at_call 19; refine (HU.out _ KW).mono ?_; rintro e w7 ⟨g7, rfl, ho7, hb7, hc7⟩; have hd7 : Hid (Below w16.heap.size w16 w7) := btr K0.out hc7.out) | (go_at_call 22; refine (HE.out g7 _ _ hd7 ho7).mono ?_; rintro e w17 ⟨rfl, hb17⟩))
  have B17 : Hid (Below W.heap.size W w17) := btr B16.out hb17.out
  go_wp2
  go_ret
  exact ⟨rfl, btr hBW.out B17.out⟩
end Go.Proofs.Ytcipafjibkclcaa
