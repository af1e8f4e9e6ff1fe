/- The walk of the law FnExactOppositeAutomaton: it returns true, and writes into nothing that was there. -/
import Derived.Test.YtgcabcmnhdaepaaFnOppositeAutomaton
import Derived.Test.YtgcabcmnhdaepaaAutoHeld
import Derived.Deep.RegionHeld3
namespace Go.Proofs.Ytgcabcmnhdaepaa
open Go.RowKit

theorem Rws.heap {w w' : World} {B : Nat} {v : Value} {hs : List Hdr} {zss : List (List Int)} (h : Rws w B v hs zss) (h1 : ∀ k, v.ownBlock = some k → w'.heap[k]? = w.heap[k]?) (h2 : ∀ h' ∈ hs, w'.heap[h'.1]? = w.heap[h'.1]?) : Rws w' B v hs zss :=
  ⟨own_heap h.row h1, h.len, fun k h' zs hk hz => own_heap (h.each k h' zs hk hz) (fun q hq => by
    have e : h'.1 = q := by injection hq
    rw [← e]; exact h2 h' (List.mem_of_getElem? hk)), h.apart⟩
theorem AutoO.heap {w w' : World} {B m cm g cg : Nat} {As Ag : Option Addr} {hs : List Hdr} {Ss : List (List Int)} {gs : List Int} (h : AutoO w B As m cm hs Ss Ag g cg gs) (h1 : ∀ j, B ≤ j → j < w.heap.size → w'.heap[j]? = w.heap[j]?) : AutoO w' B As m cm hs Ss Ag g cg gs :=
  ⟨h.rows.heap (fun k hk => h1 k (World.ownsRow.lt h.rows.row k hk).1 (World.ownsRow.lt h.rows.row k hk).2) (fun _ hh => h1 _ (h.rows.lt hh).1 (h.rows.lt hh).2), own_heap h.good (fun k hk => h1 k (World.ownsRow.lt h.good k hk).1 (World.ownsRow.lt h.good k hk).2), h.apart⟩
theorem BoxA.heap {w w' : World} {b : Nat} {st : Int} {As Ag : Option Addr} {m cm g cg : Nat} (h : BoxA w b st As m cm Ag g cg) (hb : w'.heap[b]? = w.heap[b]?) : BoxA w' b st As m cm Ag g cg :=
  ⟨(World.cell?_of_block (a := ⟨b, 0, none⟩) hb).trans h.1, (World.cell?_of_block (a := ⟨b, 1, none⟩) hb).trans h.2.1, (World.cell?_of_block (a := ⟨b, 2, none⟩) hb).trans h.2.2⟩
theorem AutoO.below2 {w : World} {B m cm g cg : Nat} {As Ag : Option Addr} {hs : List Hdr} {Ss : List (List Int)} {gs : List Int} (h : AutoO w B As m cm hs Ss Ag g cg gs) : (∀ h' : Hdr, h' ∈ hs → h'.1 < w.heap.size) ∧ ∀ k, (Value.slice Ag g cg).ownBlock = some k → k < w.heap.size :=
  ⟨fun _ hh => (h.rows.lt hh).2, fun k hk => (h.good.lt k hk).2⟩

set_option maxHeartbeats 4000000 in
set_option maxRecDepth 100000 in
theorem lawOppositeAutomaton (st : Int) (As Ag : Option Addr) (Ss : List (List Int)) (gs : List Int) (cm cg : Nat) (w : World) (hm' : Ss.length ≤ 9223372036854775807) (hg' : gs.length ≤ 9223372036854775807) (h : AutoR w As Ss Ag gs) :
    Calls Try.prog 3 #[.agg #[.int .i64 st, .slice As Ss.length cm, .slice Ag gs.length cg]] w fun e w' => e = .returned (.bool true) ∧ Below w.heap.size w w' := by
  obtain ⟨m, hm⟩ : ∃ m, Hid (Ss.length = m) := ⟨_, rfl⟩
  obtain ⟨g, hg⟩ : ∃ g, Hid (gs.length = g) := ⟨_, rfl⟩
  rw [hm.out] at hm' ⊢
  rw [hg.out] at hg' ⊢
  obtain ⟨W, hW⟩ : ∃ W, W = w.alloc (.cells #[.int .i64 st, .slice As m cm, .slice Ag g cg] 25) := ⟨_, rfl⟩
  have C1 : Hid (BoxA W w.heap.size st As m cm Ag g cg) := by subst hW; exact BoxA.new _ _ _ _ _ _ _ _ _
  have I1 : Hid (AutoR W As Ss Ag gs) := by subst hW; exact h.al _
  have hBW : Hid (Below w.heap.size w W) := by subst hW; exact bal (b0 w) _
  have HW := Lib.hid hW
  have HSz := Lib.hid (szAutomaton st As Ag Ss gs m cm g cg W hm hm' hg' I1)
  clear hW h
  go_enter Try.func3, Try.ntmps3
  go_wp2_with fail
  rw [← HW.out]
  obtain ⟨c0, c1, c2⟩ := C1.out
  refine HSz.out.mono ?_
  rintro e w1 ⟨r, rfl, hr1, hr2, hb⟩
  have B := hb
  have Hr1 := Lib.hid hr1
  clear c0 c1 c2 hr1 hr2 hb HSz
  by_cases hr : r < 0
  · go_wp2
    go_ret
    exact ⟨rfl, btr hBW.out B.out⟩
  obtain ⟨hT, hrr⟩ := Hr1.out (by omega)
  have hm2 : m ≤ 1048576 := by omega
  have hg2 : g ≤ 1048576 := by omega
  have hz : Hid (∀ zs ∈ Ss, zs.length ≤ 1000000000000) := fun zs hzs => by have := M.tot_mem hzs; omega
  have hTT : Hid (M.tot Ss ≤ 1048576) := (show M.tot Ss ≤ 1048576 by omega)
  clear hT hrr Hr1
  -- the words for what is called
  have HT : Hid (∀ W', Hid (Below W.heap.size W W') → Calls Try.prog 20 #[.agg #[.int .i64 st, .slice As m cm, .slice Ag g cg]] W' fun e w' => ∃ g1 hs g2, e = .returned (.agg #[.int .i64 st, .slice (some ⟨g1, 0, none⟩) m m, .slice (some ⟨g2, 0, none⟩) g g]) ∧ Hid (AutoO w' W'.heap.size (some ⟨g1, 0, none⟩) m m hs Ss (some ⟨g2, 0, none⟩) g g gs) ∧ Hid (Below W.heap.size W w') ∧ Hid (Below W'.heap.size W' w')) := fun W' hW' =>
    (toAutomaton st As Ag Ss gs m cm g cg W' hm hm2 hg hg2 hz (Lib.hid (I1.out.be hW'.out))).mono fun e w' ⟨g1, hs, g2, he, ho, hb⟩ => ⟨g1, hs, g2, he, ho, btr hW'.out hb, hb⟩
  have HZ : Hid (∀ zs ∈ Ss, zs.length ≤ 9223372036854775807) := fun zs hzs => by have := hz.out zs hzs; omega
  obtain ⟨⟨sO, Rs, ns, cO⟩, hR⟩ : ∃ R, Hid (F_opp st Ss gs = R) := ⟨_, rfl⟩
  obtain ⟨mO, hmO⟩ : ∃ mO, Hid (Rs.length = mO) := ⟨_, rfl⟩
  obtain ⟨lO, hlO⟩ : ∃ lO, Hid (ns.length = lO) := ⟨_, rfl⟩
  obtain ⟨m9, l9, z9, tR⟩ : mO ≤ 9 ∧ lO ≤ 9 ∧ Hid (∀ zs ∈ Rs, zs.length ≤ 9) ∧ M.tot Rs ≤ 1048576 := by
    have := F_opp_small st Ss gs
    rw [hR.out] at this
    obtain ⟨q1, q2, q3, q4⟩ := this
    have h1 : Rs.length = mO := hmO.out
    have h2 : ns.length = lO := hlO.out
    have h3 := hTT.out
    simp only at q1 q2 q3 q4
    exact ⟨by omega, by omega, q3, by omega⟩
  have zR1 : Hid (∀ zs ∈ Rs, zs.length ≤ 1000000000000) := fun zs hzs => by have := z9.out zs hzs; omega
  have zR2 : Hid (∀ zs ∈ Rs, zs.length ≤ 100000) := fun zs hzs => by have := z9.out zs hzs; omega
  have HG : ∀ f, GivesOpp f → Hid (∀ g1 hs g2 B1 W', Hid (AutoO W' B1 (some ⟨g1, 0, none⟩) m m hs Ss (some ⟨g2, 0, none⟩) g g gs) → Calls Try.prog f #[.agg #[.int .i64 st, .slice (some ⟨g1, 0, none⟩) m m, .slice (some ⟨g2, 0, none⟩) g g]] W' fun e w' => ∃ A1 c1 h1 A2 c2, e = .returned (.tuple #[.agg #[.int .i64 sO, .slice A1 mO c1, .slice A2 lO c2], .int .i64 cO]) ∧ Hid (AutoO w' W'.heap.size A1 mO c1 h1 Rs A2 lO c2 ns) ∧ Hid (Below W'.heap.size W' w')) := fun f hf g1 hs g2 B1 W' ho => by
    have := hf st _ _ Ss gs m m g g W' hm hm2 hg hg2 (Lib.hid (ho.out.read HZ.out))
    rw [hR.out] at this
    have h1 : Rs.length = mO := hmO.out
    have h2 : ns.length = lO := hlO.out
    simp only [h1, h2] at this
    exact this
  have HSp := HG _ spec_OppositeAutomaton
  have HIm := HG _ impl_OppositeAutomaton
  clear hR HG
  -- the model
  obtain ⟨c0, c1, c2⟩ := C1.out.be B.out
  go_wp2_with fail
  refine (HT.out _ B).mono ?_
  rintro e w7 ⟨g7, h7, k7, rfl, ho7, hb7, hc7⟩
  clear c0 c1 c2 B
  go_wp2_with fail
  refine (HSp.out _ _ _ _ _ ho7).mono ?_
  rintro e w8 ⟨Aw, cw, hw, Bw, dw, rfl, ow, hb⟩
  obtain ⟨w9, hw9⟩ : ∃ w9, w9 = w8.alloc (.cells #[.int .i64 sO, .slice Aw mO cw, .slice Bw lO dw] 27) := ⟨_, rfl⟩
  have B9 : Hid (Below W.heap.size W w9) := by rw [hw9]; exact bal (btr hb7.out hb.out) _
  have X4 : Hid (BoxA w9 w8.heap.size sO Aw mO cw Bw lO dw) := by rw [hw9]; exact BoxA.new _ _ _ _ _ _ _ _ _
  have Ew : Hid (AutoE w9 Aw Rs Bw ns) := by rw [hw9]; exact (ow.out.alloc _).eq
  have Hw9 := Lib.hid hw9
  clear hb7 hc7 ho7 hb ow hw9
  have cc := C1.out.be B9.out
  rw [Hw9.out] at cc
  obtain ⟨c0, c1, c2⟩ := cc
  -- x0
  go_wp2_with fail
  rw [← Hw9.out]
  refine (HT.out _ B9).mono ?_
  rintro e w10 ⟨gx, hsx, gy, rfl, Ox, B10, D10⟩
  have Zx := Lib.hid Ox.out.below2
  have X12 := Lib.hid (BoxA.new w10 st (some ⟨gx, 0, none⟩) (some ⟨gy, 0, none⟩) m m g g 27)
  have O12 := Lib.hid (Ox.out.alloc (.cells #[.int .i64 st, .slice (some ⟨gx, 0, none⟩) m m, .slice (some ⟨gy, 0, none⟩) g g] 27))
  have K12 : Hid (Below w9.heap.size w9 (w10.alloc (.cells #[.int .i64 st, .slice (some ⟨gx, 0, none⟩) m m, .slice (some ⟨gy, 0, none⟩) g g] 27))) := bal D10.out _
  have z9' : Hid (w9.heap.size ≤ w10.heap.size) := D10.out.size
  clear c0 c1 c2 Ox D10 B10
  go_wp2_with fail
  -- g0
  refine (HIm.out _ _ _ _ _ O12).mono ?_
  rintro e w13 ⟨Ag', cg', hg0, Bg', dg', rfl, og, hb⟩
  obtain ⟨w14, hw14⟩ : ∃ w14, w14 = w13.alloc (.cells #[.int .i64 sO, .slice Ag' mO cg', .slice Bg' lO dg'] 27) := ⟨_, rfl⟩
  have K14 : Hid (Below w9.heap.size w9 w14) := by rw [hw14]; exact bal (btr K12.out hb.out) _
  have X14 : Hid (BoxA w14 w10.heap.size st (some ⟨gx, 0, none⟩) m m (some ⟨gy, 0, none⟩) g g) := by rw [hw14]; exact (X12.out.be hb.out).al _
  have O14 : Hid (AutoO w14 w9.heap.size (some ⟨gx, 0, none⟩) m m hsx Ss (some ⟨gy, 0, none⟩) g g gs) := by rw [hw14]; exact (O12.out.be hb.out).alloc _
  have G14 : Hid (AutoO w14 (w10.heap.size + 1) Ag' mO cg' hg0 Rs Bg' lO dg' ns) := by
    rw [hw14]
    exact (og.out.alloc _).mono (by simp)
  have Y14 : Hid (BoxA w14 w13.heap.size sO Ag' mO cg' Bg' lO dg') := by rw [hw14]; exact BoxA.new _ _ _ _ _ _ _ _ _
  have Zg : Hid ((∀ h' : Hdr, h' ∈ hg0 → h'.1 < w13.heap.size) ∧ ∀ k, (Value.slice Bg' lO dg').ownBlock = some k → k < w13.heap.size) := og.out.below2
  have z13 : Hid (w10.heap.size + 1 ≤ w13.heap.size) := by have := hb.out.size; simp at this; exact this
  have Hw14 := Lib.hid hw14
  clear hw14 og hb K12 X12 O12
  have cc := X4.out.be K14.out
  have cy := Y14.out
  rw [Hw14.out] at cc cy
  obtain ⟨v0, v1, v2⟩ := cc
  obtain ⟨y0, y1, y2⟩ := cy
  have hcc : (cO != cO) = false := by simp
  go_wp2_with fail
  rw [← Hw14.out]
  refine (eqAutomaton sO _ _ _ _ Rs ns mO cg' cw lO dg' dw w14 hmO (by omega) hlO (by omega) zR1 (Lib.hid G14.out.eq) (Lib.hid (Ew.out.be K14.out))).mono ?_
  rintro e w15 ⟨rfl, hb⟩
  have K15 : Hid (Below w9.heap.size w9 w15) := btr K14.out hb.out
  replace X14 := Lib.hid (X14.out.be hb.out)
  replace O14 := Lib.hid (O14.out.be hb.out)
  replace G14 := Lib.hid (G14.out.be hb.out)
  replace Y14 := Lib.hid (Y14.out.be hb.out)
  clear hb K14 v0 v1 v2 y0 y1 y2 Hw14 Hw9
  go_wp2
  -- the automaton is as it was
  have B15 : Hid (Below W.heap.size W w15) := btr B9.out K15.out
  obtain ⟨c0, c1, c2⟩ := C1.out.be B15.out
  obtain ⟨x0, x1, x2⟩ := X14.out
  have K0 : Hid (Below w15.heap.size w15 w15.drew) := (Below.refl _ _).drew
  have KW : Hid (Below W.heap.size W w15.drew) := B15.out.drew
  have HE : Hid (∀ g1 hs g2 B' W', Hid (Below w15.heap.size w15 W') → Hid (AutoO W' B' (some ⟨g1, 0, none⟩) m m hs Ss (some ⟨g2, 0, none⟩) g g gs) → Calls Try.prog 22 #[.agg #[.int .i64 st, .slice (some ⟨gx, 0, none⟩) m m, .slice (some ⟨gy, 0, none⟩) g g], .agg #[.int .i64 st, .slice (some ⟨g1, 0, none⟩) m m, .slice (some ⟨g2, 0, none⟩) g g]] W' fun e w' => e = .returned (.bool true) ∧ Hid (Below w15.heap.size w15 w')) := fun g1 hs g2 B' W' hW' ho =>
    (eqAutomaton st _ _ _ _ Ss gs m m m g g g W' hm hm2 hg hg2 hz (Lib.hid (O14.out.eq.be hW'.out)) (Lib.hid ho.out.eq)).mono fun e w' ⟨he, hb⟩ => ⟨he, btr hW'.out hb.out⟩
  go_region_held3 (fun w' => w'.cell? ⟨w.heap.size, 0, none⟩ = some (.int .i64 st) ∧ w'.cell? ⟨w.heap.size, 1, none⟩ = some (.slice As m cm) ∧ w'.cell? ⟨w.heap.size, 2, none⟩ = some (.slice Ag g cg) ∧ w'.cell? ⟨w10.heap.size, 0, none⟩ = some (.int .i64 st) ∧ w'.cell? ⟨w10.heap.size, 1, none⟩ = some (.slice (some ⟨gx, 0, none⟩) m m) ∧ w'.cell? ⟨w10.heap.size, 2, none⟩ = some (.slice (some ⟨gy, 0, none⟩) g g) ∧ Hid (Below w15.heap.size w15 w')) (first | exact ⟨c0, c1, c2, x0, x1, x2, K0⟩ | exact ⟨cellK (Hid.out (by assumption)) c0, cellK (Hid.out (by assumption)) c1, cellK (Hid.out (by assumption)) c2, cellK (Hid.out (by assumption)) x0, cellK (Hid.out (by assumption)) x1, cellK (Hid.out (by assumption)) x2, by assumption⟩) (first | (go_at_call 20; refine (HT.out _ KW).mono ?_; rintro e w7 ⟨g7, h7, k7, rfl, ho7, hb7, hc7⟩; have hd7 : Hid (Below w15.heap.size w15 w7) := btr K0.out hc7.out) | (go_at_call 22; refine (HE.out g7 h7 k7 _ _ hd7 ho7).mono ?_; rintro e w16 ⟨rfl, hb16⟩))
  have K16 : Hid (Below w9.heap.size w9 w16) := btr K15.out hb16.out
  replace X14 := Lib.hid (X14.out.be hb16.out)
  replace O14 := Lib.hid (O14.out.be hb16.out)
  replace G14 := Lib.hid (G14.out.be hb16.out)
  replace Y14 := Lib.hid (Y14.out.be hb16.out)
  clear c0 c1 c2 x0 x1 x2 K0 KW HE ho7 hb7 hc7 hd7 hb16 B15 K15
  -- the automaton is marked
  obtain ⟨x0, x1, x2⟩ := X14.out
  have gyl := Zx.out.2 gy rfl
  have hzW := K16.out.size
  go_wp2_with fail
  refine (markAutomaton st _ _ Ss gs m m g g w9.heap.size hsx 1 (by omega) (by omega) w16 hm hm2 hg hg2 hTT hzW O14).mono ?_
  rintro e w18 ⟨rfl, _, _, hb18, hf18⟩
  have K18 : Hid (Below w9.heap.size w9 w18) := K16.out.trans hb18.out
  have hfr : Hid (∀ j, w10.heap.size + 1 ≤ j → j < w16.heap.size → w18.heap[j]? = w16.heap[j]?) := fun j hj hjl =>
    hf18.out j hjl (fun h' hh e => by have := Zx.out.1 h' hh; omega) (fun e => by injection e with e; have e' : gy = j := e; omega)
  have hyl := Y14.out.lt
  have hz1 := z13.out
  have G18 : Hid (AutoO w18 (w10.heap.size + 1) Ag' mO cg' hg0 Rs Bg' lO dg' ns) := G14.out.heap hfr.out
  have Y18 : Hid (BoxA w18 w13.heap.size sO Ag' mO cg' Bg' lO dg') := Y14.out.heap (hfr.out _ hz1 hyl)
  have k1b : ¬ (1 + (M.tot Ss : Int) + (g : Int)) < 0 := by omega
  clear x0 x1 x2 hf18 hb18 O14 X14 G14 Y14 K16 gyl Zx hfr hyl
  obtain ⟨v0, v1, v2⟩ := X4.out.be K18.out
  obtain ⟨y0, y1, y2⟩ := Y18.out
  go_wp2_with fail
  refine (eqAutomaton sO _ _ _ _ Rs ns mO cg' cw lO dg' dw w18 hmO (by omega) hlO (by omega) zR1 (Lib.hid G18.out.eq) (Lib.hid (Ew.out.be K18.out))).mono ?_
  rintro e w20 ⟨rfl, hb⟩
  have K20 : Hid (Below w9.heap.size w9 w20) := btr K18.out hb.out
  replace G18 := Lib.hid (G18.out.be hb.out)
  replace Y18 := Lib.hid (Y18.out.be hb.out)
  clear hb K18 v0 v1 v2 y0 y1 y2
  -- the result is marked
  obtain ⟨y0, y1, y2⟩ := Y18.out
  have hyl := Y18.out.lt
  have hT2 : Hid (M.tot Rs ≤ 1048576) := tR
  have hbz : Hid (w9.heap.size ≤ w10.heap.size + 1) := Lib.hid (by have := z9'.out; omega)
  go_wp2_with fail
  refine (markAutomaton sO _ _ Rs ns mO cg' lO dg' (w10.heap.size + 1) hg0 1 (by omega) (by omega) w20 hmO (by omega) hlO (by omega) hT2 (by omega) G18).mono ?_
  rintro e w21 ⟨rfl, hR21, hG21, hb21, hf21⟩
  have K21 : Hid (Below w9.heap.size w9 w21) := K20.out.trans (hb21.out.mono hbz.out)
  have R21 : Hid (Rows0 w21 Ag' (M.partM 1 Rs mO)) := hR21.rows0
  have I21 : Hid (Ints w21 w21.heap.size Bg' (marks (1 + (M.tot Rs : Int)) lO)) := ints_of_own64 hG21
  have Y21 : Hid (BoxA w21 w13.heap.size sO Ag' mO cg' Bg' lO dg') := Y18.out.heap (hf21.out _ hyl (fun h' hh e => by have := Zg.out.1 h' hh; omega) (fun e => by have := Zg.out.2 _ e; omega))
  have k2b : ¬ (1 + (M.tot Rs : Int) + (lO : Int)) < 0 := by omega
  have k2e : ((1 + (M.tot Rs : Int) + (lO : Int)) != (1 + (M.tot Rs : Int) + (lO : Int))) = false := by simp
  clear hR21 hG21 hb21 hf21 y0 y1 y2 hyl K20 G18 Y18 Zg
  obtain ⟨y0, y1, y2⟩ := Y21.out
  go_wp2_with fail
  refine (heldAutomaton sO _ _ Rs mO cg' lO dg' 1 (by omega) (by omega) w21 hmO (by omega) (by omega) zR2 hT2 R21 I21).mono ?_
  rintro e w22 ⟨rfl, hb⟩
  have K22 : Hid (Below w9.heap.size w9 w22) := btr K21.out hb.out
  replace R21 := Lib.hid (R21.out.be hb.out)
  replace I21 := Lib.hid (I21.out.be hb.out)
  replace Y21 := Lib.hid (Y21.out.be hb.out)
  clear hb K21 y0 y1 y2
  -- once more
  have B22 : Hid (Below W.heap.size W w22) := btr B9.out K22.out
  obtain ⟨c0, c1, c2⟩ := C1.out.be B22.out
  go_wp2_with fail
  refine (HT.out _ B22).mono ?_
  rintro e w7 ⟨g7, h7, k7, rfl, ho7, hb7, hc7⟩
  clear c0 c1 c2
  go_wp2_with fail
  refine (HIm.out _ _ _ _ _ ho7).mono ?_
  rintro e w23 ⟨Ah, ch, hh0, Bh, dh, rfl, oh, hb⟩
  have b23 : Hid (Below w22.heap.size w22 (w23.alloc (.cells #[.int .i64 sO, .slice Ah mO ch, .slice Bh lO dh] 27))) := bal (btr hc7.out hb.out) _
  have K23 := Lib.hid (btr K22.out b23.out)
  have E23 := Lib.hid (oh.out.alloc (.cells #[.int .i64 sO, .slice Ah mO ch, .slice Bh lO dh] 27)).eq
  replace R21 := Lib.hid (R21.out.be b23.out)
  replace I21 := Lib.hid (I21.out.be b23.out)
  replace Y21 := Lib.hid (Y21.out.be b23.out)
  clear hb7 hc7 ho7 hb oh b23 K22 B22
  obtain ⟨v0, v1, v2⟩ := X4.out.be K23.out
  go_wp2_with fail
  refine (eqAutomaton sO _ _ _ _ Rs ns mO ch cw lO dh dw _ hmO (by omega) hlO (by omega) zR1 E23 (Lib.hid (Ew.out.be K23.out))).mono ?_
  rintro e w24 ⟨rfl, hb⟩
  have K24 := Lib.hid (btr K23.out hb.out)
  replace R21 := Lib.hid (R21.out.be hb.out)
  replace I21 := Lib.hid (I21.out.be hb.out)
  obtain ⟨y0, y1, y2⟩ := Y21.out.be hb.out
  clear hb K23 E23 v0 v1 v2
  go_wp2_with fail
  refine (heldAutomaton sO _ _ Rs mO cg' lO dg' 1 (by omega) (by omega) w24 hmO (by omega) (by omega) zR2 hT2 R21 I21).mono ?_
  rintro e w25 ⟨rfl, hb⟩
  have K25 := Lib.hid (btr K24.out hb.out)
  clear hb y0 y1 y2
  go_wp2
  go_ret
  exact ⟨rfl, btr hBW.out (btr B9.out K25.out)⟩
end Go.Proofs.Ytgcabcmnhdaepaa
