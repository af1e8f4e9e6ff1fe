/- OppositeAutomaton, the model's. -/
import Derived.Test.YtgcabcmnhdaepaaOppInv
import Derived.Test.YtgcabcmnhdaepaaFnIsAutomaton
import Derived.Test.YtgcabcmnhdaepaaGood
import Derived.Test.YtgcabcmnhdaepaaClone
import Derived.Deep.RegionHeld3
import Derived.Deep.RegionLaw
import Derived.Deep.DeepCutAuto
namespace Go.Proofs.Ytgcabcmnhdaepaa
open Go.RowKit

set_option maxHeartbeats 4000000 in
set_option maxRecDepth 100000 in
theorem spec_opp_yes (st : Int) (As Ag : Option Addr) (Ss : List (List Int)) (gs : List Int) (m cm g cg : Nat) (w : World) (hm : Hid (Ss.length = m)) (hm' : m ≤ 1048576) (hg : Hid (gs.length = g)) (hg' : g ≤ 1048576) (h : Hid (AutoR w As Ss Ag gs)) (hA : Hid (M.isAuto st Ss gs = true)) :
    Calls Try.prog 19 #[.agg #[.int .i64 st, .slice As m cm, .slice Ag g cg]] w fun e w' => ∃ A1 c1 hs A2 l c2, e = .returned (.tuple #[.agg #[.int .i64 st, .slice A1 m c1, .slice A2 l c2], .int .i64 0]) ∧ Hid (AutoO w' w.heap.size A1 m c1 hs Ss A2 l c2 (M.oppTo gs m)) ∧ Hid (Below w.heap.size w w') := by
  obtain ⟨W, hW⟩ : ∃ W, W = (w.alloc (.cells #[.int .i64 st, .slice As m cm, .slice Ag g cg] 27)).alloc (.cells #[.int .i64 0, .slice none 0 0, .slice none 0 0] 27) := ⟨_, rfl⟩
  have C1 : Hid (BoxA W w.heap.size st As m cm Ag g cg) := by subst hW; exact (BoxA.new _ _ _ _ _ _ _ _ _).al _
  have C3 : Hid (W.heap[w.heap.size + 1]? = some (.cells #[.int .i64 0, .slice none 0 0, .slice none 0 0] 27 (0, 0))) := by
    subst hW
    have := heap_alloc_new (w.alloc (.cells #[.int .i64 st, .slice As m cm, .slice Ag g cg] 27)) (.cells #[.int .i64 0, .slice none 0 0, .slice none 0 0] 27)
    rw [World.size_alloc] at this
    exact this
  have C2 : Hid (BoxA W (w.heap.size + 1) 0 none 0 0 none 0 0) := by
    subst hW
    have := BoxA.new (w.alloc (.cells #[.int .i64 st, .slice As m cm, .slice Ag g cg] 27)) 0 none none 0 0 0 0 27
    rw [World.size_alloc] at this
    exact this
  have hBW : Hid (Below w.heap.size w W) := by subst hW; exact bal (bal (b0 w) _) _
  have hI := M.isA_of hA.out
  rw [hm.out] at hI
  have HI := Lib.hid hI
  have hm1 := hI.pos
  have hm9 := hI.le
  have HA := Lib.hid (l06Is st As Ag Ss gs m cm g cg W hm hm' hg hg' (Lib.hid (h.out.be hBW.out)) true hA)
  have HW := Lib.hid hW
  clear hW hI
  go_enter Try.func19, Try.ntmps19
  go_wp2_with fail
  rw [← HW.out]
  obtain ⟨a0, a1, a2⟩ := C1.out
  refine HA.out.mono ?_
  rintro e w1 ⟨rfl, hb1⟩
  obtain ⟨a0, a1, a2⟩ := C1.out.be hb1.out
  have B1 : Hid (Below w.heap.size w w1) := btr hBW.out hb1.out
  clear HA
  go_wp2
  have hJ0 : Hid (OppI (((w1.alloc (.cells #[] 23)).alloc (.cells #[] 2)).alloc (.cells #[.int .i64 st, .slice (some ⟨w1.heap.size, 0, none⟩) 0 0, .slice (some ⟨w1.heap.size + 1, 0, none⟩) 0 0] 27)) w1.heap.size (w1.heap.size + 1 + 1) st (some ⟨w1.heap.size, 0, none⟩) 0 0 [] (Ss.take 0) (some ⟨w1.heap.size + 1, 0, none⟩) 0 0 (M.oppTo gs 0)) := by
    refine ⟨AutoO.alloc (w := (w1.alloc (.cells #[] 23)).alloc (.cells #[] 2)) ⟨(rws_empty (Nat.le_refl _)).alloc _, ?_, fun h' hh => by simp at hh⟩ _, ?_⟩
    · have := own64_empty (w := w1.alloc (.cells #[] 23)) (B := w1.heap.size) (by simp)
      rw [World.size_alloc] at this
      exact this
    · have := heap_alloc_new ((w1.alloc (.cells #[] 23)).alloc (.cells #[] 2)) (.cells #[.int .i64 st, .slice (some ⟨w1.heap.size, 0, none⟩) 0 0, .slice (some ⟨w1.heap.size + 1, 0, none⟩) 0 0] 27)
      rw [World.size_alloc, World.size_alloc] at this
      exact this
  have hbe0 : Hid (Below w1.heap.size w1 (((w1.alloc (.cells #[] 23)).alloc (.cells #[] 2)).alloc (.cells #[.int .i64 st, .slice (some ⟨w1.heap.size, 0, none⟩) 0 0, .slice (some ⟨w1.heap.size + 1, 0, none⟩) 0 0] 27))) := bal (bal (bal (b0 w1) _) _) _
  have hx1 : w1.heap.size ≤ w1.heap.size + 1 + 1 := by omega
  obtain ⟨X, hX⟩ : ∃ X, X = w1.heap.size + 1 + 1 := ⟨_, rfl⟩
  rw [← hX] at hJ0 hx1
  have hm0 : m ≤ 1000000 := by omega
  have hR0 := Lib.hid (h.out.be B1.out)
  obtain ⟨WX, hWX⟩ : ∃ WX, WX = (((w1.alloc (.cells #[] 23)).alloc (.cells #[] 2)).alloc (.cells #[.int .i64 st, .slice (some ⟨w1.heap.size, 0, none⟩) 0 0, .slice (some ⟨w1.heap.size + 1, 0, none⟩) 0 0] 27)) := ⟨_, rfl⟩
  rw [← hWX] at hJ0 hbe0
  rw [← hX, ← hWX]
  clear hWX
  have HX := Lib.hid hX
  have D1 := Lib.hid (C1.out.be hb1.out)
  have hRz : Hid (w.heap.size + 1 < W.heap.size) := (Array.getElem?_eq_some_iff.1 C3.out).1
  have D3 : Hid (w1.heap[w.heap.size + 1]? = some (.cells #[.int .i64 0, .slice none 0 0, .slice none 0 0] 27 (0, 0))) := (hb1.out.block _ hRz.out).trans C3.out
  have hRB : w.heap.size + 1 < w1.heap.size := Nat.lt_of_lt_of_le hRz.out hb1.out.size
  obtain ⟨bb, off, rfl, hbl, hc⟩ := hR0.out.rows (by rw [hm.out]; omega)
  have HC := Lib.hid hc
  clear hX a0 a1 a2 hc
  go_loopw [5] (fun i wr => ∃ (k : Nat) (A1 : Option Addr) (c1 : Nat) (hs : List Hdr) (A2 : Option Addr) (l c2 : Nat), k ≤ m ∧ i = .int .i64 (k : Int) ∧ Hid (OppI wr w1.heap.size X st A1 k c1 hs (Ss.take k) A2 l c2 (M.oppTo gs k)) ∧ Hid (Below w1.heap.size w1 wr)) (fun i _ => m - (intOf i).toNat)
  case atStart => exact ⟨0, _, _, _, _, _, _, Nat.zero_le _, rfl, hJ0, hbe0⟩
  case round =>
    obtain ⟨k, A1, c1, hs, A2, l, c2, hk, rfl, hJ, hbr⟩ := hrel
    clear hJ0 hbe0
    by_cases hlt : k < m
    · have hki : (k : Int) < (m : Int) := by omega
      have hk0 : (0 : Int) ≤ (k : Int) := by omega
      obtain ⟨zs, hz⟩ : ∃ zs, Ss[k]? = some zs := ⟨_, List.getElem?_eq_getElem (by rw [hm.out]; exact hlt)⟩
      have hzl : Hid (zs.length = m) := (HI.out.row zs (List.mem_of_getElem? hz)).1
      obtain ⟨Az, cz, h1, h2, h3⟩ := HC.out k zs hz
      rw [hzl.out] at h1 h2
      have hzI := Lib.hid (h3.be hbr.out)
      have hAz : Hid (Az = none → cz = 0) := fun e => by
        obtain ⟨_, _, e2, _⟩ := hzI.out (by rw [hzl.out]; omega)
        rw [e] at e2; cases e2
      have hzk := Lib.hid hz
      have hBsz := hbr.out.size
      have HOwn : Hid (∀ w', Hid (Below wr.heap.size wr w') → Calls Try.prog 69 #[.slice Az m cz] w' fun e w'' => ∃ g3 c3, e = .returned (.slice (some ⟨g3, 0, none⟩) m c3) ∧ Hid (Own64 w'' wr.heap.size (.slice (some ⟨g3, 0, none⟩) m c3) zs) ∧ Hid (wr.heap.size ≤ g3) ∧ Hid (Below wr.heap.size wr w'')) := fun w' hw' =>
        (l01Own Az zs m cz w' hzl hm0 hAz (Lib.hid (hzI.out.be hw'.out))).mono fun e w'' ⟨A', c', e1, e2, e3⟩ => by
          obtain ⟨g3, rfl⟩ : ∃ g3, A' = some ⟨g3, 0, none⟩ := by
            rcases e2.2 with ⟨h0, _⟩ | ⟨g, cap, cur, hv, _⟩
            · injection h0 with _ e _; omega
            · injection hv with e1; exact ⟨g, e1⟩
          have hlo := (World.ownsRow.lt e2 g3 rfl).1
          have := hw'.out.size
          exact ⟨g3, c', e1, own_mono e2 hw'.out.size, (show wr.heap.size ≤ g3 by omega), btr hw'.out e3⟩
      have HCell : Hid (∀ w', Hid (Below wr.heap.size wr w') → w'.cell? ⟨w.heap.size, 1, none⟩ = some (.slice (some ⟨bb, off, none⟩) m cm) ∧ w'.cell? ⟨bb, off + k, none⟩ = some (.slice Az m cz) ∧ w'.cell? ⟨X, 1, none⟩ = some (.slice A1 k c1)) := fun w' hw' => by
        have hb2 := btr hbr.out hw'.out
        exact ⟨(D1.out.be hb2).2.1, ((bcell hb2).1 _ _ hbl).trans h1, (hJ.out.be hw'.out).cells.1.2.1⟩
      have K0 : Hid (Below wr.heap.size wr wr.drew) := (Below.refl _ _).drew
      obtain ⟨p1, p2, p3⟩ := HCell.out _ K0
      have hkm : k ≤ 1000000 := by omega
      obtain ⟨p4, p5, p6⟩ := HCell.out _ (Lib.hid (b0 wr))
      have hTk : Hid (Ss.take (k + 1) = Ss.take k ++ [zs]) := by show _ = _; rw [List.take_add_one, hz]; rfl
      clear h1 h3 hz
      go_wp2
      go_cut [5] (fun s5 wx => ∃ (A4 : Option Addr) (c4 : Nat) (h0 : Hdr), s5 = .int .i64 (k : Int) ∧ Hid (OppI wx w1.heap.size X st A4 (k + 1) c4 (hs ++ [h0]) (Ss.take (k + 1)) A2 l c2 (M.oppTo gs k)) ∧ Hid (Below w1.heap.size w1 wx))
      case first =>
        have HN : Hid (∀ (w2 : World) (g3 c3 : Nat), (w2.alloc (.cells #[.slice (some ⟨g3, 0, none⟩) m c3] 23)).cell? ⟨w2.heap.size, 0, none⟩ = some (.slice (some ⟨g3, 0, none⟩) m c3)) := fun w2 g3 c3 => by simp [go_sem]
        go_region_law (first | (refine stepRws rfl (.tmp 23) (.tmp 30) rfl _ w1.heap.size w2.heap.size A1 k c1 hs (Ss.take k) (g3, m, c3) zs rfl rfl (HN.out _ _ _) (Lib.hid ((hJ.out.au.be hb2.out).alloc _).rows) (Lib.hid (own_mono (ho3.out.alloc _) hBsz)) (Lib.hid fun e => by have := (World.ownsRow.lt hJ.out.au.rows.row _ e).2; have := hl3.out; omega) (Lib.hid fun h' hh e => by have := (hJ.out.au.rows.lt hh).2; have := hl3.out; simp only at e; omega) (by have := hb2.out.size; simp; omega) hkm ?_; intro A4 c4 w4 hr4 hg4; have hq4 := hJ.out.boxAt (bal hb2.out _) hg4.out (.inl rfl); obtain ⟨⟨z1, z2⟩, _, _⟩ := hq4) | (go_simp; go_at_call 69; refine (HOwn.out _ K0).mono ?_; rintro e w2 ⟨g3, c3, rfl, ho3, hl3, hb2⟩; obtain ⟨p7, p8, p9⟩ := HCell.out _ hb2; obtain ⟨p10, p11, p12⟩ := HCell.out _ (bal hb2.out (.cells #[.slice (some ⟨g3, 0, none⟩) m c3] 23))))
        all_goals (go_wp2_with fail)
        all_goals (go_meet)
        all_goals
          have hrow := hJ.out.row (bal hb2.out _) hl3.out hr4.out hg4.out
          rw [← hTk.out] at hrow
          exact ⟨A4, c4, (g3, m, c3), rfl, hrow, below_setCell ((btr hbr.out (bal hb2.out _)).grown hg4.out (by have := (btr hbr.out (bal hb2.out (.cells #[.slice (some ⟨g3, 0, none⟩) m c3] 23))).size; exact this) (fun q hq => (World.ownsRow.lt hJ.out.au.rows.row q hq).1)) hx1 _⟩
      case rest =>
        obtain ⟨A4, c4, h0, rfl, hJ4, hb4⟩ := hcut
        clear p1 p2 p3 p4 p5 p6 HCell HOwn K0 hTk
        obtain ⟨bG, hbG⟩ : ∃ b, Hid (decide ((k : Int) ∈ gs) = b) := ⟨_, rfl⟩
        have HG := Lib.hid (l06Good st (some ⟨bb, off, none⟩) Ag gs m cm g cg (k : Int) wc hg hg' (Lib.hid (hR0.out.be hb4.out).good) bG hbG)
        obtain ⟨y0, y1, y2⟩ := D1.out.be hb4.out
        have hll : l ≤ k := by
          have h1 := own64_len hJ4.out.au.good
          have h2 := M.oppTo_len gs k
          omega
        have hll' : l ≤ 1000000 := by omega
        cases bG
        · go_wp2_with fail
          refine HG.out.mono ?_
          rintro e w6 ⟨rfl, hb6⟩
          have hJ6 := Lib.hid (hJ4.out.be hb6.out)
          have hB6 := Lib.hid (btr hb4.out hb6.out)
          obtain ⟨⟨_, _, x2⟩, _, _, _⟩ := hJ6.out.cells
          have hz6 := hB6.out.size
          go_wp2_with (at_builtin; refine push64G rfl (.tmp 38) (.tmp 40) rfl w6 w1.heap.size A2 l c2 (M.oppTo gs k) (k : Int) rfl _ rfl rfl (Lib.hid hJ6.out.au.good) hz6 hll' ?_; intro A5 c5 w5 ho5 hg5 hw5; obtain ⟨_, z3, z4⟩ := hJ6.out.boxAt (bal (b0 w6) _) hg5.out (.inr rfl))
          have hgo := hJ6.out.good (bal (b0 w6) _) ho5.out hw5.out hg5.out
          rw [← M.oppTo_out hbG.out] at hgo
          have hbf : Below w1.heap.size w1 w5 := (btr hB6.out (bal (b0 w6) _)).grown hg5.out (btr hB6.out (bal (b0 w6) (.cells #[.int .i64 (k : Int)] 2))).size (fun q hq => (World.ownsRow.lt hJ6.out.au.good q hq).1)
          go_roundw
          case rel => exact ⟨k + 1, A4, c4, _, A5, l + 1, c5, by omega, by go_num, hgo, below_setCell hbf hx1 _⟩
          case measure => simp [intOf]; omega
        · go_wp2_with fail
          refine HG.out.mono ?_
          rintro e w6 ⟨rfl, hb6⟩
          have hJ6 := Lib.hid (hJ4.out.be hb6.out)
          rw [← M.oppTo_in hbG.out] at hJ6
          go_wp2
          go_roundw
          case rel => exact ⟨k + 1, A4, c4, _, A2, l, c2, by omega, by go_num, hJ6, btr hb4.out hb6.out⟩
          case measure => simp [intOf]; omega
    · obtain rfl : k = m := by omega
      have hk0 : ¬ (k : Int) < (k : Int) := by omega
      obtain ⟨⟨x0, x1, x2⟩, _, _, hXl⟩ := hJ.out.cells
      have hd3 := (hbr.out.block _ hRB).trans D3.out
      obtain ⟨r0, r1, r2, f0, f1, f2⟩ : wr.cell? ⟨w.heap.size + 1, 0, none⟩ = some (.int .i64 0) ∧ wr.cell? ⟨w.heap.size + 1, 1, none⟩ = some (.slice none 0 0) ∧ wr.cell? ⟨w.heap.size + 1, 2, none⟩ = some (.slice none 0 0) ∧ wr.frozen? ⟨w.heap.size + 1, 0, none⟩ = false ∧ wr.frozen? ⟨w.heap.size + 1, 1, none⟩ = false ∧ wr.frozen? ⟨w.heap.size + 1, 2, none⟩ = false := by
        refine ⟨?_, ?_, ?_, ?_, ?_, ?_⟩ <;> simp [World.cell?, World.frozen?, hd3]
      obtain ⟨y0, y1, _⟩ := D1.out.be hbr.out
      have hTake : Hid (Ss.take k = Ss) := by show _ = _; rw [← hm.out]; exact List.take_length
      clear hd3
      have hF : Hid (∀ (W' : World), W' = ((wr.setCell ⟨w.heap.size + 1, 0, none⟩ (.int .i64 st)).setCell ⟨w.heap.size + 1, 1, none⟩ (.slice A1 k c1)).setCell ⟨w.heap.size + 1, 2, none⟩ (.slice A2 l c2) → (W'.cell? ⟨w.heap.size + 1, 0, none⟩ = some (.int .i64 st) ∧ W'.cell? ⟨w.heap.size + 1, 1, none⟩ = some (.slice A1 k c1) ∧ W'.cell? ⟨w.heap.size + 1, 2, none⟩ = some (.slice A2 l c2)) ∧ AutoO W' w1.heap.size A1 k c1 hs Ss A2 l c2 (M.oppTo gs k) ∧ Below w.heap.size w W') := fun W' hW' => by
        subst hW'
        refine ⟨by simp [go_sem, r0, r1, r2], ?_, below_setCell (below_setCell (below_setCell (btr B1.out hbr.out) (Nat.le_succ _) _) (Nat.le_succ _) _) (Nat.le_succ _) _⟩
        have := hJ.out.au
        rw [hTake.out] at this
        exact ((this.below_set hRB _).below_set hRB _).below_set hRB _
      go_wp2
      obtain ⟨⟨v0, v1, v2⟩, hau, hbe⟩ := hF.out _ rfl
      refine bodyPost_ret (v := .tuple #[.agg #[.int .i64 st, .slice A1 k c1, .slice A2 l c2], .int .i64 0]) (by simp [results, Try.results19, go_sem, v0, v1, v2]) rfl ?_
      exact ⟨_, _, _, _, _, _, rfl, hau.mono (Nat.le_trans (Nat.le_of_lt (Nat.lt_of_succ_lt hRB)) (Nat.le_refl _)), hbe⟩
end Go.Proofs.Ytgcabcmnhdaepaa
