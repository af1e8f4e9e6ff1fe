/- The walk of the law FnExactAutomatonText: it returns true, and writes into nothing that was there. -/
import Derived.Test.YtcipafjibkclcaaATextIm
import Derived.Deep.RegionHeld3
namespace Go.Proofs.Ytcipafjibkclcaa
open Go.RowKit

set_option maxHeartbeats 4000000 in
set_option maxRecDepth 100000 in
theorem lawAutomatonText (st : Int) (As Ag : Option Addr) (Ss : List (List Int)) (gs : List Int) (cm cg : Nat) (w : World) (hm' : Ss.length ≤ 9223372036854775807) (hg' : gs.length ≤ 9223372036854775807) (h : AutoR w As Ss Ag gs) :
    Calls Try.prog 16 #[.agg #[.int .i64 st, .slice As Ss.length cm, .slice Ag gs.length cg]] w fun e w' => e = .returned (.bool true) ∧ Below w.heap.size w w' := by
  obtain ⟨m, hm⟩ : ∃ m, Hid (Ss.length = m) := ⟨_, rfl⟩
  obtain ⟨g, hg⟩ : ∃ g, Hid (gs.length = g) := ⟨_, rfl⟩
  rw [hm.out] at hm' ⊢
  rw [hg.out] at hg' ⊢
  obtain ⟨W, hW⟩ : ∃ W, W = w.alloc (.cells #[.int .i64 st, .slice As m cm, .slice Ag g cg] 37) := ⟨_, rfl⟩
  have C1 : Hid (BoxA W w.heap.size st As m cm Ag g cg) := by subst hW; exact BoxA.new _ _ _ _ _ _ _ _ _
  have I1 : Hid (AutoR W As Ss Ag gs) := by subst hW; exact h.al _
  have hBW : Hid (Below w.heap.size w W) := by subst hW; exact bal (b0 w) _
  have HW := Lib.hid hW
  have HSz := Lib.hid (szAutomaton st As Ag Ss gs m cm g cg W hm hm' hg' I1)
  clear hW h
  go_enter Try.func16, Try.ntmps16
  go_wp2_with fail
  rw [← HW.out]
  obtain ⟨c0, c1, c2⟩ := C1.out
  refine HSz.out.mono ?_
  rintro e w1 ⟨r, rfl, hr1, hr2, hb⟩
  have B := hb
  have Hr1 := Lib.hid hr1
  have Hr2 := Lib.hid hr2
  clear c0 c1 c2 hr1 hr2 hb HSz
  by_cases hr : r < 0
  · go_wp2
    go_ret
    exact ⟨rfl, btr hBW.out B.out⟩
  · obtain ⟨hT, _⟩ := Hr1.out (by omega)
    have hm2 : m ≤ 1048576 := by omega
    have hg2 : g ≤ 1048576 := by omega
    have hz : Hid (∀ zs ∈ Ss, zs.length ≤ 1000000000000) := fun zs hzs => by have := M.tot_mem hzs; omega
    clear hT Hr1 Hr2
    obtain ⟨R, hR⟩ : ∃ R, Hid (F_AutomatonText st Ss gs = R) := ⟨_, rfl⟩
    have HSp := Lib.hid spec_AutomatonText
    have HIm := Lib.hid impl_AutomatonText
    unfold GivesAText at HSp HIm
    have HT : Hid (∀ W', Hid (Below W.heap.size W W') → Calls Try.prog 28 #[.agg #[.int .i64 st, .slice As m cm, .slice Ag g cg]] W' fun e w' => ∃ g1 hs g2, e = .returned (.agg #[.int .i64 st, .slice (some ⟨g1, 0, none⟩) m m, .slice (some ⟨g2, 0, none⟩) g g]) ∧ Hid (AutoO w' W'.heap.size (some ⟨g1, 0, none⟩) m m hs Ss (some ⟨g2, 0, none⟩) g g gs) ∧ Hid (Below W.heap.size W w') ∧ Hid (Below W'.heap.size W' w')) := fun W' hW' =>
      (toAutomaton st As Ag Ss gs m cm g cg W' hm hm2 hg hg2 hz (Lib.hid (I1.out.be hW'.out))).mono fun e w' ⟨g1, hs, g2, he, ho, hb⟩ => ⟨g1, hs, g2, he, ho, btr hW'.out hb, hb⟩
    have HZ : Hid (∀ zs ∈ Ss, zs.length ≤ 9223372036854775807) := fun zs hzs => by have := hz.out zs hzs; omega
    -- spec
    obtain ⟨c0, c1, c2⟩ := C1.out.be B.out
    go_wp2_with fail
    refine (HT.out _ B).mono ?_
    rintro e w2 ⟨g1, hs, g2, rfl, ho2, B2, hb2⟩
    clear c0 c1 c2
    go_wp2_with fail
    have HS2 := Lib.hid (HSp.out st _ _ Ss gs m m g g w2 hm hm2 hg hg2 (Lib.hid (ho2.out.read HZ.out)))
    rw [hR.out] at HS2
    refine HS2.out.mono ?_
    rintro e w3 ⟨rfl, hb3⟩
    have B3 : Hid (Below W.heap.size W w3) := btr B2.out hb3.out
    clear ho2 B2 hb2 hb3 B
    -- x0
    obtain ⟨c0, c1, c2⟩ := C1.out.be B3.out
    go_wp2_with fail
    refine (HT.out _ B3).mono ?_
    rintro e w4 ⟨gx, hx, gy, rfl, ho4, B4, hb4⟩
    clear c0 c1 c2
    go_wp2_with fail
    have HI2 := Lib.hid (HIm.out st _ _ Ss gs m m g g _ hm hm2 hg hg2 (Lib.hid ((ho4.out.read HZ.out).al (.cells #[.int .i64 st, .slice (some ⟨gx, 0, none⟩) m m, .slice (some ⟨gy, 0, none⟩) g g] 40))))
    rw [hR.out] at HI2
    refine HI2.out.mono ?_
    rintro e w5 ⟨rfl, hb5⟩
    have B5 : Hid (Below W.heap.size W w5) := btr (bal B4.out _) hb5.out
    have O5 := Lib.hid ((ho4.out.alloc (.cells #[.int .i64 st, .slice (some ⟨gx, 0, none⟩) m m, .slice (some ⟨gy, 0, none⟩) g g] 40)).be hb5.out)
    have X5 := Lib.hid ((BoxA.new w4 st (some ⟨gx, 0, none⟩) (some ⟨gy, 0, none⟩) m m g g 40).be hb5.out)
    clear ho4 B4 hb4 hb5 B3
    have hRR : (R.2 != R.2) = false := by simp
    clear HSp HIm HS2 HI2

    go_wp2
    -- equal
    obtain ⟨c0, c1, c2⟩ := C1.out.be B5.out
    obtain ⟨x0, x1, x2⟩ := X5.out
    have K0 : Hid (Below w5.heap.size w5 w5.drew) := (Below.refl _ _).drew
    have KW : Hid (Below W.heap.size W w5.drew) := B5.out.drew
    have HE : Hid (∀ g1 hs g2 B' W', Hid (Below w5.heap.size w5 W') → Hid (AutoO W' B' (some ⟨g1, 0, none⟩) m m hs Ss (some ⟨g2, 0, none⟩) g g gs) → Calls Try.prog 30 #[.agg #[.int .i64 st, .slice (some ⟨gx, 0, none⟩) m m, .slice (some ⟨gy, 0, none⟩) g g], .agg #[.int .i64 st, .slice (some ⟨g1, 0, none⟩) m m, .slice (some ⟨g2, 0, none⟩) g g]] W' fun e w' => e = .returned (.bool true) ∧ Hid (Below w5.heap.size w5 w')) := fun g1 hs g2 B' W' hW' ho =>
      (eqAutomaton st _ _ _ _ Ss gs m m m g g g W' hm hm2 hg hg2 hz (Lib.hid (O5.out.eq.be hW'.out)) (Lib.hid ho.out.eq)).mono fun e w' ⟨he, hb⟩ => ⟨he, btr hW'.out hb.out⟩
    have y0 : BoxA w5.drew w.heap.size st As m cm Ag g cg := ⟨c0, c1, c2⟩
    have y1 : BoxA w5.drew w4.heap.size st (some ⟨gx, 0, none⟩) m m (some ⟨gy, 0, none⟩) g g := ⟨x0, x1, x2⟩
    go_region_held3 (fun w' => w'.cell? ⟨w.heap.size, 0, none⟩ = some (.int .i64 st) ∧ w'.cell? ⟨w.heap.size, 1, none⟩ = some (.slice As m cm) ∧ w'.cell? ⟨w.heap.size, 2, none⟩ = some (.slice Ag g cg) ∧ w'.cell? ⟨w4.heap.size, 0, none⟩ = some (.int .i64 st) ∧ w'.cell? ⟨w4.heap.size, 1, none⟩ = some (.slice (some ⟨gx, 0, none⟩) m m) ∧ w'.cell? ⟨w4.heap.size, 2, none⟩ = some (.slice (some ⟨gy, 0, none⟩) g g) ∧ Hid (Below w5.heap.size w5 w')) (first | exact ⟨c0, c1, c2, x0, x1, x2, K0⟩ | exact ⟨cellK (Hid.out (by assumption)) c0, cellK (Hid.out (by assumption)) c1, cellK (Hid.out (by assumption)) c2, cellK (Hid.out (by assumption)) x0, cellK (Hid.out (by assumption)) x1, cellK (Hid.out (by assumption)) x2, by assumption⟩) (first | (go_at_call 28; refine (HT.out _ KW).mono ?_; rintro e w7 ⟨g7, h7, k7, rfl, ho7, hb7, hc7⟩; have hd7 : Hid (Below w5.heap.size w5 w7) := btr K0.out hc7.out) | (go_at_call 30; refine (HE.out g7 h7 k7 _ _ hd7 ho7).mono ?_; rintro e w8 ⟨rfl, hb8⟩))
    have B8 : Hid (Below W.heap.size W w8) := btr B5.out hb8.out
    go_wp2
    go_ret
    exact ⟨rfl, btr hBW.out B8.out⟩
end Go.Proofs.Ytcipafjibkclcaa
