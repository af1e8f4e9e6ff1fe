/- The walk of the law FnExactCountTaken: it returns true, and writes into nothing that was there. -/
import Derived.Test.YtcipafjibkclcaaFnCountTaken
import Derived.Deep.RegionHeld3
namespace Go.Proofs.Ytcipafjibkclcaa
open Go.RowKit

set_option maxHeartbeats 4000000 in
set_option maxRecDepth 100000 in
theorem lawCountTaken (st : Int) (As Ag : Option Addr) (Ss : List (List Int)) (gs : List Int) (cm cg : Nat) (v : Int) (w : World) (hm' : Ss.length ≤ 9223372036854775807) (hg' : gs.length ≤ 9223372036854775807) (h : AutoR w As Ss Ag gs) :
    Calls Try.prog 7 #[.agg #[.int .i64 st, .slice As Ss.length cm, .slice Ag gs.length cg], .int .i64 v] w fun e w' => e = .returned (.bool true) ∧ Below w.heap.size w w' := by
  obtain ⟨m, hm⟩ : ∃ m, Hid (Ss.length = m) := ⟨_, rfl⟩
  obtain ⟨g, hg⟩ : ∃ g, Hid (gs.length = g) := ⟨_, rfl⟩
  rw [hm.out] at hm' ⊢
  rw [hg.out] at hg' ⊢
  obtain ⟨W, hW⟩ : ∃ W, W = w.alloc (.cells #[.int .i64 st, .slice As m cm, .slice Ag g cg] 37) := ⟨_, rfl⟩
  have C1 : Hid (BoxA W w.heap.size st As m cm Ag g cg) := by subst hW; exact BoxA.new _ _ _ _ _ _ _ _ _
  have I1 : Hid (AutoR W As Ss Ag gs) := by subst hW; exact h.al _
  have hBW : Hid (Below w.heap.size w W) := by subst hW; exact bal (b0 w) _
  have HW := Lib.hid hW
  have HSz := Lib.hid (szAutomaton st As Ag Ss gs m cm g cg W hm hm' hg' I1)
  clear hW h
  go_enter Try.func7, Try.ntmps7
  go_wp2_with fail
  rw [← HW.out]
  obtain ⟨c0, c1, c2⟩ := C1.out
  refine HSz.out.mono ?_
  rintro e w1 ⟨r, rfl, hr1, hr2, hb⟩
  have B := hb
  have Hr1 := Lib.hid hr1
  clear c0 c1 c2 hr1 hr2 hb HSz
  by_cases hr : r < 0
  · go_wp2
    go_ret
    exact ⟨rfl, btr hBW.out B.out⟩
  obtain ⟨hT, hrr⟩ := Hr1.out (by omega)
  have hm2 : m ≤ 1048576 := by omega
  have hg2 : g ≤ 1048576 := by omega
  have hz : Hid (∀ zs ∈ Ss, zs.length ≤ 1000000000000) := fun zs hzs => by have := M.tot_mem hzs; omega
  have hTT : Hid (M.tot Ss ≤ 1048576) := (show M.tot Ss ≤ 1048576 by omega)
  clear hT hrr Hr1
  -- the words for what is called
  have HT : Hid (∀ W', Hid (Below W.heap.size W W') → Calls Try.prog 28 #[.agg #[.int .i64 st, .slice As m cm, .slice Ag g cg]] W' fun e w' => ∃ g1 hs g2, e = .returned (.agg #[.int .i64 st, .slice (some ⟨g1, 0, none⟩) m m, .slice (some ⟨g2, 0, none⟩) g g]) ∧ Hid (AutoO w' W'.heap.size (some ⟨g1, 0, none⟩) m m hs Ss (some ⟨g2, 0, none⟩) g g gs) ∧ Hid (Below W.heap.size W w') ∧ Hid (Below W'.heap.size W' w')) := fun W' hW' =>
    (toAutomaton st As Ag Ss gs m cm g cg W' hm hm2 hg hg2 hz (Lib.hid (I1.out.be hW'.out))).mono fun e w' ⟨g1, hs, g2, he, ho, hb⟩ => ⟨g1, hs, g2, he, ho, btr hW'.out hb, hb⟩
  have HZ : Hid (∀ zs ∈ Ss, zs.length ≤ 9223372036854775807) := fun zs hzs => by have := hz.out zs hzs; omega
  obtain ⟨R, hR⟩ : ∃ R, Hid (F_CountTaken st Ss gs v = R) := ⟨_, rfl⟩
  have HSp : Hid (∀ g1 hs g2 B1 W', Hid (AutoO W' B1 (some ⟨g1, 0, none⟩) m m hs Ss (some ⟨g2, 0, none⟩) g g gs) → Calls Try.prog 36 #[.agg #[.int .i64 st, .slice (some ⟨g1, 0, none⟩) m m, .slice (some ⟨g2, 0, none⟩) g g], .int .i64 v] W' fun e w' => e = .returned (.tuple #[.int .i64 R.1, .int .i64 R.2]) ∧ Hid (Below W'.heap.size W' w')) := fun g1 hs g2 B1 W' ho => by
    rw [← hR.out]
    exact spec_CountTaken st _ _ Ss gs m m g g v W' hm hm2 hg hg2 (Lib.hid (ho.out.read HZ.out))
  have HIm : Hid (∀ g1 hs g2 B1 W', Hid (AutoO W' B1 (some ⟨g1, 0, none⟩) m m hs Ss (some ⟨g2, 0, none⟩) g g gs) → Calls Try.prog 37 #[.agg #[.int .i64 st, .slice (some ⟨g1, 0, none⟩) m m, .slice (some ⟨g2, 0, none⟩) g g], .int .i64 v] W' fun e w' => e = .returned (.tuple #[.int .i64 R.1, .int .i64 R.2]) ∧ Hid (Below W'.heap.size W' w')) := fun g1 hs g2 B1 W' ho => by
    rw [← hR.out]
    exact impl_CountTaken st _ _ Ss gs m m g g v W' hm hm2 hg hg2 (Lib.hid (ho.out.read HZ.out))
  clear hR
  -- the model
  obtain ⟨c0, c1, c2⟩ := C1.out.be B.out
  go_wp2_with fail
  refine (HT.out _ B).mono ?_
  rintro e w7 ⟨g7, h7, k7, rfl, ho7, hb7, hc7⟩
  clear c0 c1 c2 B
  go_wp2_with fail
  refine (HSp.out _ _ _ _ _ ho7).mono ?_
  rintro e w9 ⟨rfl, hb⟩
  have B : Hid (Below W.heap.size W w9) := btr hb7.out hb.out
  clear hb7 hc7 ho7 hb
  -- x0
  obtain ⟨c0, c1, c2⟩ := C1.out.be B.out
  go_wp2_with fail
  refine (HT.out _ B).mono ?_
  rintro e w10 ⟨gx, hsx, gy, rfl, Ox, B10, D10⟩
  clear c0 c1 c2 B
  have B11 : Hid (Below W.heap.size W (w10.alloc (.cells #[.int .i64 st, .slice (some ⟨gx, 0, none⟩) m m, .slice (some ⟨gy, 0, none⟩) g g] 40))) := bal B10.out _
  have X12 := Lib.hid (BoxA.new w10 st (some ⟨gx, 0, none⟩) (some ⟨gy, 0, none⟩) m m g g 40)
  have O12 := Lib.hid (Ox.out.alloc (.cells #[.int .i64 st, .slice (some ⟨gx, 0, none⟩) m m, .slice (some ⟨gy, 0, none⟩) g g] 40))
  clear Ox
  go_wp2_with fail
  -- g0
  refine (HIm.out _ _ _ _ _ O12).mono ?_
  rintro e w14 ⟨rfl, hb⟩
  have B14 : Hid (Below W.heap.size W w14) := btr B11.out hb.out
  have X14 := Lib.hid (X12.out.be hb.out)
  have O14 := Lib.hid (O12.out.be hb.out)
  clear X12 O12 hb B11 B10 D10
  have hRb : (R.1 != R.1) = false := by simp
  have hRR : (R.2 != R.2) = false := by simp
  go_wp2
  -- the automaton is as it was
  obtain ⟨c0, c1, c2⟩ := C1.out.be B14.out
  obtain ⟨x0, x1, x2⟩ := X14.out
  have K0 : Hid (Below w14.heap.size w14 w14.drew) := (Below.refl _ _).drew
  have KW : Hid (Below W.heap.size W w14.drew) := B14.out.drew
  have HE : Hid (∀ g1 hs g2 B' W', Hid (Below w14.heap.size w14 W') → Hid (AutoO W' B' (some ⟨g1, 0, none⟩) m m hs Ss (some ⟨g2, 0, none⟩) g g gs) → Calls Try.prog 30 #[.agg #[.int .i64 st, .slice (some ⟨gx, 0, none⟩) m m, .slice (some ⟨gy, 0, none⟩) g g], .agg #[.int .i64 st, .slice (some ⟨g1, 0, none⟩) m m, .slice (some ⟨g2, 0, none⟩) g g]] W' fun e w' => e = .returned (.bool true) ∧ Hid (Below w14.heap.size w14 w')) := fun g1 hs g2 B' W' hW' ho =>
    (eqAutomaton st _ _ _ _ Ss gs m m m g g g W' hm hm2 hg hg2 hz (Lib.hid (O14.out.eq.be hW'.out)) (Lib.hid ho.out.eq)).mono fun e w' ⟨he, hb⟩ => ⟨he, btr hW'.out hb.out⟩
  go_region_held3 (fun w' => w'.cell? ⟨w.heap.size, 0, none⟩ = some (.int .i64 st) ∧ w'.cell? ⟨w.heap.size, 1, none⟩ = some (.slice As m cm) ∧ w'.cell? ⟨w.heap.size, 2, none⟩ = some (.slice Ag g cg) ∧ w'.cell? ⟨w10.heap.size, 0, none⟩ = some (.int .i64 st) ∧ w'.cell? ⟨w10.heap.size, 1, none⟩ = some (.slice (some ⟨gx, 0, none⟩) m m) ∧ w'.cell? ⟨w10.heap.size, 2, none⟩ = some (.slice (some ⟨gy, 0, none⟩) g g) ∧ Hid (Below w14.heap.size w14 w')) (first | exact ⟨c0, c1, c2, x0, x1, x2, K0⟩ | exact ⟨cellK (Hid.out (by assumption)) c0, cellK (Hid.out (by assumption)) c1, cellK (Hid.out (by assumption)) c2, cellK (Hid.out (by assumption)) x0, cellK (Hid.out (by assumption)) x1, cellK (Hid.out (by assumption)) x2, by assumption⟩) (first | (go_at_call 28; refine (HT.out _ KW).mono ?_; rintro e w7 ⟨g7, h7, k7, rfl, ho7, hb7, hc7⟩; have hd7 : Hid (Below w14.heap.size w14 w7) := btr K0.out hc7.out) | (go_at_call 30; refine (HE.out g7 h7 k7 _ _ hd7 ho7).mono ?_; rintro e w16 ⟨rfl, hb16⟩))
  have B17 : Hid (Below W.heap.size W w16) := btr B14.out hb16.out
  go_wp2
  go_ret
  exact ⟨rfl, btr hBW.out B17.out⟩
end Go.Proofs.Ytcipafjibkclcaa
