/- The walk of the law FnExactCountByState: it returns true, and writes into nothing that was there. -/
import Derived.Test.YtcipafjibkclcaaCountImp
import Derived.Deep.RegionHeld3
namespace Go.Proofs.Ytcipafjibkclcaa
open Go.RowKit

theorem F_CountByState_len (st : Int) (Ss : List (List Int)) (gs : List Int) (n : Int) : (F_CountByState st Ss gs n).1.length ≤ 1000 := by
  rw [F_CountByState]
  split
  · rename_i h
    have hia : M.isAuto st Ss gs = true := by
      cases hh : M.isAuto st Ss gs with
      | true => rfl
      | false => rw [codeN_1 hh] at h; cases h
    have hin : (decide (1 ≤ n) && decide (n ≤ 30)) = true := by
      cases hh : (decide (1 ≤ n) && decide (n ≤ 30)) with
      | true => rfl
      | false => rw [codeN_2 hia hh] at h; cases h
    have hn1 : 1 ≤ n ∧ n ≤ 30 := by simpa using hin
    rw [show (M.counts Ss Ss.length st n.toNat, (0 : Int)).1 = M.counts Ss Ss.length st n.toNat from rfl, M.counts_len _ _ _ (by omega)]
    have := (M.isA_of hia).le
    omega
  · simp

theorem AutoO.below_ {w : World} {B m cm g cg : Nat} {As Ag : Option Addr} {hs : List Hdr} {Ss : List (List Int)} {gs : List Int} (h : AutoO w B As m cm hs Ss Ag g cg gs) : (∀ h' : Hdr, h' ∈ hs → h'.1 < w.heap.size) ∧ ∀ k, (Value.slice Ag g cg).ownBlock = some k → k < w.heap.size :=
  ⟨fun _ hh => (h.rows.lt hh).2, fun k hk => (h.good.lt k hk).2⟩

set_option maxHeartbeats 4000000 in
set_option maxRecDepth 100000 in
theorem lawCountByState (st : Int) (As Ag : Option Addr) (Ss : List (List Int)) (gs : List Int) (cm cg : Nat) (v : Int) (w : World) (hm' : Ss.length ≤ 9223372036854775807) (hg' : gs.length ≤ 9223372036854775807) (h : AutoR w As Ss Ag gs) :
    Calls Try.prog 8 #[.agg #[.int .i64 st, .slice As Ss.length cm, .slice Ag gs.length cg], .int .i64 v] w fun e w' => e = .returned (.bool true) ∧ Below w.heap.size w w' := by
  obtain ⟨m, hm⟩ : ∃ m, Hid (Ss.length = m) := ⟨_, rfl⟩
  obtain ⟨g, hg⟩ : ∃ g, Hid (gs.length = g) := ⟨_, rfl⟩
  rw [hm.out] at hm' ⊢
  rw [hg.out] at hg' ⊢
  obtain ⟨W, hW⟩ : ∃ W, W = w.alloc (.cells #[.int .i64 st, .slice As m cm, .slice Ag g cg] 37) := ⟨_, rfl⟩
  have C1 : Hid (BoxA W w.heap.size st As m cm Ag g cg) := by subst hW; exact BoxA.new _ _ _ _ _ _ _ _ _
  have I1 : Hid (AutoR W As Ss Ag gs) := by subst hW; exact h.al _
  have hBW : Hid (Below w.heap.size w W) := by subst hW; exact bal (b0 w) _
  have HW := Lib.hid hW
  have HSz := Lib.hid (szAutomaton st As Ag Ss gs m cm g cg W hm hm' hg' I1)
  clear hW h
  go_enter Try.func8, Try.ntmps8
  go_wp2_with fail
  rw [← HW.out]
  obtain ⟨c0, c1, c2⟩ := C1.out
  refine HSz.out.mono ?_
  rintro e w1 ⟨r, rfl, hr1, hr2, hb⟩
  have B := hb
  have Hr1 := Lib.hid hr1
  clear c0 c1 c2 hr1 hr2 hb HSz
  by_cases hr : r < 0
  · go_wp2
    go_ret
    exact ⟨rfl, btr hBW.out B.out⟩
  obtain ⟨hT, hrr⟩ := Hr1.out (by omega)
  have hm2 : m ≤ 1048576 := by omega
  have hg2 : g ≤ 1048576 := by omega
  have hz : Hid (∀ zs ∈ Ss, zs.length ≤ 1000000000000) := fun zs hzs => by have := M.tot_mem hzs; omega
  have hTT : Hid (M.tot Ss ≤ 1048576) := (show M.tot Ss ≤ 1048576 by omega)
  clear hT hrr Hr1
  -- the words for what is called
  have HT : Hid (∀ W', Hid (Below W.heap.size W W') → Calls Try.prog 28 #[.agg #[.int .i64 st, .slice As m cm, .slice Ag g cg]] W' fun e w' => ∃ g1 hs g2, e = .returned (.agg #[.int .i64 st, .slice (some ⟨g1, 0, none⟩) m m, .slice (some ⟨g2, 0, none⟩) g g]) ∧ Hid (AutoO w' W'.heap.size (some ⟨g1, 0, none⟩) m m hs Ss (some ⟨g2, 0, none⟩) g g gs) ∧ Hid (Below W.heap.size W w') ∧ Hid (Below W'.heap.size W' w')) := fun W' hW' =>
    (toAutomaton st As Ag Ss gs m cm g cg W' hm hm2 hg hg2 hz (Lib.hid (I1.out.be hW'.out))).mono fun e w' ⟨g1, hs, g2, he, ho, hb⟩ => ⟨g1, hs, g2, he, ho, btr hW'.out hb, hb⟩
  have HZ : Hid (∀ zs ∈ Ss, zs.length ≤ 9223372036854775807) := fun zs hzs => by have := hz.out zs hzs; omega
  obtain ⟨R, hR⟩ : ∃ R, Hid (F_CountByState st Ss gs v = R) := ⟨_, rfl⟩
  have hR24 : R.1.length ≤ 1000 := by rw [← hR.out]; exact F_CountByState_len _ _ _ _
  have HSp : Hid (∀ g1 hs g2 B1 W', Hid (AutoO W' B1 (some ⟨g1, 0, none⟩) m m hs Ss (some ⟨g2, 0, none⟩) g g gs) → Calls Try.prog 38 #[.agg #[.int .i64 st, .slice (some ⟨g1, 0, none⟩) m m, .slice (some ⟨g2, 0, none⟩) g g], .int .i64 v] W' fun e w' => ∃ A'' c'', e = .returned (.tuple #[.slice A'' R.1.length c'', .int .i64 R.2]) ∧ Hid (Own64 w' W'.heap.size (.slice A'' R.1.length c'') R.1) ∧ Hid (Below W'.heap.size W' w')) := fun g1 hs g2 B1 W' ho => by
    rw [← hR.out]
    exact spec_CountByState st _ _ Ss gs m m g g v W' hm hm2 hg hg2 (Lib.hid (ho.out.read HZ.out))
  have HIm : Hid (∀ g1 hs g2 B1 W', Hid (AutoO W' B1 (some ⟨g1, 0, none⟩) m m hs Ss (some ⟨g2, 0, none⟩) g g gs) → Calls Try.prog 39 #[.agg #[.int .i64 st, .slice (some ⟨g1, 0, none⟩) m m, .slice (some ⟨g2, 0, none⟩) g g], .int .i64 v] W' fun e w' => ∃ A'' c'', e = .returned (.tuple #[.slice A'' R.1.length c'', .int .i64 R.2]) ∧ Hid (Own64 w' W'.heap.size (.slice A'' R.1.length c'') R.1) ∧ Hid (Below W'.heap.size W' w')) := fun g1 hs g2 B1 W' ho => by
    rw [← hR.out]
    exact impl_CountByState st _ _ Ss gs m m g g v W' hm hm2 hg hg2 (Lib.hid (ho.out.read HZ.out))
  clear hR
  -- the model
  obtain ⟨c0, c1, c2⟩ := C1.out.be B.out
  go_wp2_with fail
  refine (HT.out _ B).mono ?_
  rintro e w7 ⟨g7, h7, k7, rfl, ho7, hb7, hc7⟩
  clear c0 c1 c2 B
  go_wp2_with fail
  refine (HSp.out _ _ _ _ _ ho7).mono ?_
  rintro e w9 ⟨Aw, cw, rfl, ow, hb⟩
  have B : Hid (Below W.heap.size W w9) := btr hb7.out hb.out
  clear hb7 hc7 ho7 hb
  obtain ⟨z3, hz3⟩ : ∃ z, Hid (w9.heap.size = z) := ⟨_, rfl⟩
  have hWz : Hid (W.heap.size ≤ z3) := by have := B.out.size; rw [hz3.out] at this; exact this
  have Wk : Hid (∀ k, (Value.slice Aw R.1.length cw).ownBlock = some k → k < z3) := fun k hk => by rw [← hz3.out]; exact (ow.out.lt k hk).2
  have Ow : Hid (Own64 w9 0 (.slice Aw R.1.length cw) R.1) := own_mono ow.out (Nat.zero_le _)
  clear ow
  -- x0
  obtain ⟨c0, c1, c2⟩ := C1.out.be B.out
  go_wp2_with fail
  refine (HT.out _ B).mono ?_
  rintro e w10 ⟨gx, hsx, gy, rfl, Ox, B10, D10⟩
  have Zx := Lib.hid Ox.out.below_
  have z10 := D10.out.size
  clear c0 c1 c2 B
  rw [hz3.out] at z10
  have B11 : Hid (Below W.heap.size W (w10.alloc (.cells #[.int .i64 st, .slice (some ⟨gx, 0, none⟩) m m, .slice (some ⟨gy, 0, none⟩) g g] 40))) := bal B10.out _
  have X12 := Lib.hid (BoxA.new w10 st (some ⟨gx, 0, none⟩) (some ⟨gy, 0, none⟩) m m g g 40)
  have O12 := Lib.hid (Ox.out.alloc (.cells #[.int .i64 st, .slice (some ⟨gx, 0, none⟩) m m, .slice (some ⟨gy, 0, none⟩) g g] 40))
  have Ow12 := Lib.hid ((own_be Ow.out D10.out).alloc (.cells #[.int .i64 st, .slice (some ⟨gx, 0, none⟩) m m, .slice (some ⟨gy, 0, none⟩) g g] 40))
  clear Ow Ox
  go_wp2_with fail
  -- g0
  refine (HIm.out _ _ _ _ _ O12).mono ?_
  rintro e w14 ⟨Ag', cg', rfl, og, hb⟩
  have B14 : Hid (Below W.heap.size W w14) := btr B11.out hb.out
  have X14 := Lib.hid (X12.out.be hb.out)
  have O14 := Lib.hid (O12.out.be hb.out)
  have Ow14 := Lib.hid (own_be Ow12.out hb.out)
  have Og14 : Hid (Own64 w14 (w10.heap.size + 1) (.slice Ag' R.1.length cg') R.1) := own_mono og.out (by simp)
  clear X12 O12 Ow12 og hb B11 B10 D10
  go_wp2_with fail
  refine (eqIntsT _ _ _ _ _ _ (by omega) (ints_of_own64 Og14.out) (ints_of_own64 Ow14.out)).mono ?_
  rintro e w15 ⟨rfl, hb⟩
  have B15 : Hid (Below W.heap.size W w15) := btr B14.out hb
  replace X14 := Lib.hid (X14.out.be hb)
  replace O14 := Lib.hid (O14.out.be hb)
  replace Ow14 := Lib.hid (own_be Ow14.out hb)
  replace Og14 := Lib.hid (own_be Og14.out hb)
  clear hb B14
  have hRR : (R.2 != R.2) = false := by simp
  go_wp2
  -- the automaton is as it was
  obtain ⟨c0, c1, c2⟩ := C1.out.be B15.out
  obtain ⟨x0, x1, x2⟩ := X14.out
  have K0 : Hid (Below w15.heap.size w15 w15.drew) := (Below.refl _ _).drew
  have KW : Hid (Below W.heap.size W w15.drew) := B15.out.drew
  have HE : Hid (∀ g1 hs g2 B' W', Hid (Below w15.heap.size w15 W') → Hid (AutoO W' B' (some ⟨g1, 0, none⟩) m m hs Ss (some ⟨g2, 0, none⟩) g g gs) → Calls Try.prog 30 #[.agg #[.int .i64 st, .slice (some ⟨gx, 0, none⟩) m m, .slice (some ⟨gy, 0, none⟩) g g], .agg #[.int .i64 st, .slice (some ⟨g1, 0, none⟩) m m, .slice (some ⟨g2, 0, none⟩) g g]] W' fun e w' => e = .returned (.bool true) ∧ Hid (Below w15.heap.size w15 w')) := fun g1 hs g2 B' W' hW' ho =>
    (eqAutomaton st _ _ _ _ Ss gs m m m g g g W' hm hm2 hg hg2 hz (Lib.hid (O14.out.eq.be hW'.out)) (Lib.hid ho.out.eq)).mono fun e w' ⟨he, hb⟩ => ⟨he, btr hW'.out hb.out⟩
  go_region_held3 (fun w' => w'.cell? ⟨w.heap.size, 0, none⟩ = some (.int .i64 st) ∧ w'.cell? ⟨w.heap.size, 1, none⟩ = some (.slice As m cm) ∧ w'.cell? ⟨w.heap.size, 2, none⟩ = some (.slice Ag g cg) ∧ w'.cell? ⟨w10.heap.size, 0, none⟩ = some (.int .i64 st) ∧ w'.cell? ⟨w10.heap.size, 1, none⟩ = some (.slice (some ⟨gx, 0, none⟩) m m) ∧ w'.cell? ⟨w10.heap.size, 2, none⟩ = some (.slice (some ⟨gy, 0, none⟩) g g) ∧ Hid (Below w15.heap.size w15 w')) (first | exact ⟨c0, c1, c2, x0, x1, x2, K0⟩ | exact ⟨cellK (Hid.out (by assumption)) c0, cellK (Hid.out (by assumption)) c1, cellK (Hid.out (by assumption)) c2, cellK (Hid.out (by assumption)) x0, cellK (Hid.out (by assumption)) x1, cellK (Hid.out (by assumption)) x2, by assumption⟩) (first | (go_at_call 28; refine (HT.out _ KW).mono ?_; rintro e w7 ⟨g7, h7, k7, rfl, ho7, hb7, hc7⟩; have hd7 : Hid (Below w15.heap.size w15 w7) := btr K0.out hc7.out) | (go_at_call 30; refine (HE.out g7 h7 k7 _ _ hd7 ho7).mono ?_; rintro e w16 ⟨rfl, hb16⟩))
  have B17 : Hid (Below W.heap.size W w16) := btr B15.out hb16.out
  replace X14 := Lib.hid (X14.out.be hb16.out)
  replace O14 := Lib.hid (O14.out.be hb16.out)
  replace Ow14 := Lib.hid (own_be Ow14.out hb16.out)
  replace Og14 := Lib.hid (own_be Og14.out hb16.out)
  clear c0 c1 c2 x0 x1 x2 K0 KW HE ho7 hb7 hc7 hd7 hb16 B15
  -- the automaton is marked
  obtain ⟨x0, x1, x2⟩ := X14.out
  have gyl := Zx.out.2 gy rfl
  have hzW : z3 ≤ w16.heap.size := by have h1 : w10.heap.size < w16.heap.size := World.block_lt_of_cell? _ _ X14.out.1; omega
  have O17 : Hid (AutoO w16 z3 (some ⟨gx, 0, none⟩) m m hsx Ss (some ⟨gy, 0, none⟩) g g gs) := by rw [← hz3.out]; exact O14.out
  go_wp2_with fail
  refine (markAutomaton st _ _ Ss gs m m g g z3 hsx 1 (by omega) (by omega) w16 hm hm2 hg hg2 hTT hzW O17).mono ?_
  rintro e w18 ⟨rfl, _, _, hb18, hf18⟩
  have B19 : Hid (Below W.heap.size W w18) := B17.out.trans (hb18.out.mono hWz.out)
  have Ow19 : Hid (Own64 w18 0 (.slice Aw R.1.length cw) R.1) := own_heap Ow14.out (fun k hk => hb18.out.block k (Wk.out k hk))
  have Og19 : Hid (Own64 w18 (w10.heap.size + 1) (.slice Ag' R.1.length cg') R.1) := own_heap Og14.out (fun k hk => by
    have h1 := Og14.out.lt k hk
    exact hf18.out k h1.2 (fun h' hh e => by have := Zx.out.1 h' hh; omega) (fun e => by injection e with e; have e' : gy = k := e; omega))
  have k1b : ¬ (1 + (M.tot Ss : Int) + (g : Int)) < 0 := by omega
  clear x0 x1 x2 hf18 hb18 O14 O17 X14 Og14 Ow14 B17 gyl Zx
  go_wp2_with fail
  refine (eqIntsT _ _ _ _ _ _ (by omega) (ints_of_own64 Og19.out) (ints_of_own64 Ow19.out)).mono ?_
  rintro e w20 ⟨rfl, hb⟩
  have B20 : Hid (Below W.heap.size W w20) := btr B19.out hb
  replace Og19 := Lib.hid (own_be Og19.out hb)
  replace Ow19 := Lib.hid (own_be Ow19.out hb)
  clear hb B19
  -- the result is marked
  go_wp2_with fail
  have Bg := Lib.hid (World.ownsRow.lt Og19.out)
  refine (markInts _ _ cg' R.1 1 _ _ rfl (by omega) (by omega) (by omega) Og19.out).mono ?_
  rintro e w21 ⟨rfl, og, hg21⟩
  have B21 : Hid (Below W.heap.size W w21) := below_grown B20.out hg21 (fun k e => by have := Bg.out k e; have := hWz.out; omega)
  have Ow21 : Hid (Own64 w21 0 (.slice Aw R.1.length cw) R.1) := Ow19.out.kept hg21 (by
    cases hv : (Value.slice Aw R.1.length cw).ownBlock with
    | none => exact .inl rfl
    | some k => exact .inr fun e => by have h1 := Wk.out k hv; have h2 := Bg.out k e.symm; omega)
  have Og := Lib.hid og
  clear hg21 og Bg B20 Og19 Ow19
  go_wp2_with fail
  refine (heldInts _ _ cg' 1 _ (by omega) (by omega) (by omega) (ints_of_own64 Og.out)).mono ?_
  rintro e w' ⟨rfl, rfl⟩
  -- once more
  obtain ⟨c0, c1, c2⟩ := C1.out.be B21.out
  go_wp2_with fail
  refine (HT.out _ B21).mono ?_
  rintro e w7 ⟨g7, h7, k7, rfl, ho7, hb7, hc7⟩
  clear c0 c1 c2 B21
  have Ow22 := Lib.hid (own_be Ow21.out hc7.out)
  replace Og := Lib.hid (own_be Og.out hc7.out)
  clear Ow21
  go_wp2_with fail
  refine (HIm.out _ _ _ _ _ ho7).mono ?_
  rintro e w22 ⟨Ah, ch, rfl, oh, hb⟩
  have hb9 : Hid (Below W.heap.size W w22) := btr hb7.out hb.out
  replace Og := Lib.hid (own_be Og.out hb.out)
  replace Ow22 := Lib.hid (own_be Ow22.out hb.out)
  clear hb7 hc7 ho7 hb
  go_wp2_with fail
  refine (eqIntsT _ _ _ _ _ _ (by omega) (ints_of_own64 oh.out) (ints_of_own64 Ow22.out)).mono ?_
  rintro e w23 ⟨rfl, hb⟩
  have B23 : Hid (Below W.heap.size W w23) := btr hb9.out hb
  replace Og := Lib.hid (own_be Og.out hb)
  clear hb hb9 Ow22 oh
  go_wp2_with fail
  refine (heldInts _ _ cg' 1 _ (by omega) (by omega) (by omega) (ints_of_own64 Og.out)).mono ?_
  rintro e w' ⟨rfl, rfl⟩
  go_wp2
  go_ret
  exact ⟨rfl, btr hBW.out B23.out⟩
end Go.Proofs.Ytcipafjibkclcaa
