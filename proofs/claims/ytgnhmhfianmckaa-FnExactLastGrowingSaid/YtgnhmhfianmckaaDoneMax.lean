/- completedBy with slices.Max: a beginning of a growing order gone on with, in memory. Written by genc9.py. -/
import Derived.Test.YtgnhmhfianmckaaDoneAux
namespace Go.Proofs.Ytgnhmhfianmckaa
open Go.RowKit

set_option maxHeartbeats 8000000 in
set_option maxRecDepth 100000 in
theorem completedMax (A A2 : Option Addr) (xs b : List Int) (n c L c2 : Nat) (w : World) (hn : Hid (xs.length = n)) (hc1 : n ≤ c) (hc2 : c ≤ 1000000000000) (ht : Hid (M.isTree xs = true)) (hpar : Hid (M.Parents n (M.parents xs))) (hbg : Hid (M.Bgn n (M.parents xs) b)) (hL : Hid (b.length = L)) (B₀ : Nat) (hB₀ : B₀ ≤ w.heap.size) (h : Hid (Ints w w.heap.size A xs)) (h2 : Hid (Own64 w B₀ (.slice A2 L c2) b)) :
    Calls Try.prog 68 #[.agg #[.slice A n c, .slice A2 L c2], .func (.func 69) #[] #[]] w fun e w' => ∃ A' c', e = .returned (.slice A' n c') ∧ Own64 w' B₀ (.slice A' n c') (M.fill false n (M.parents xs) (n - b.length) b) ∧ Below w.heap.size w w' := by
  have hxl := M.tree_len ht.out
  rw [hn.out] at hxl
  have h24 := hxl.2
  have hLn : L ≤ n := by rw [← hL.out]; exact M.bgn_len hbg.out
  obtain ⟨d0, d1⟩ := order_cells w (.slice A n c) (.slice A2 L c2) 54
  have zh : Hid ((w.alloc (.cells #[.slice A n c, .slice A2 L c2] 54)).heap[w.heap.size]? = some (.cells #[.slice A n c, .slice A2 L c2] 54 (0, 0))) := World.alloc_heap_new w _
  have q0 : Hid ((w.alloc (.cells #[.slice A n c, .slice A2 L c2] 54)).frozen? ⟨w.heap.size, 0, none⟩ = false) := by show _ = _; simp only [World.frozen?, zh.out]; simp
  have q1 : Hid ((w.alloc (.cells #[.slice A n c, .slice A2 L c2] 54)).frozen? ⟨w.heap.size, 1, none⟩ = false) := by show _ = _; simp only [World.frozen?, zh.out]; simp
  have hB0 := Lib.hid (bal (b0 w) (.cells #[.slice A n c, .slice A2 L c2] 54))
  have H1 := Lib.hid (h.out.al (.cells #[.slice A n c, .slice A2 L c2] 54))
  have HI00 := Lib.hid h.out
  have HI0 : Hid (Ints (w.alloc (.cells #[.slice A n c, .slice A2 L c2] 54)) w.heap.size A xs) := h.out.alloc (Nat.le_refl _) _
  have Ho : Hid (Own64 (w.alloc (.cells #[.slice A n c, .slice A2 L c2] 54)) B₀ (.slice A2 L c2) b) := h2.out.alloc _
  have hne0 : Hid (∀ k, (Value.slice A2 L c2).ownBlock = some k → k ≠ w.heap.size) := fun k hk => by have := (World.ownsRow.lt h2.out k hk).2; omega
  have hzW : (w.alloc (.cells #[.slice A n c, .slice A2 L c2] 54)).heap.size = w.heap.size + 1 := by simp
  obtain ⟨R, hR⟩ : ∃ R, Hid (M.fill false n (M.parents xs) (n - b.length) b = R) := ⟨_, rfl⟩
  rw [hR.out]
  obtain ⟨W, hW⟩ : ∃ W, W = w.alloc (.cells #[.slice A n c, .slice A2 L c2] 54) := ⟨_, rfl⟩
  rw [← hW] at d0 d1 q0 q1 hB0 H1 Ho hzW HI0
  have D0 := Lib.hid d0
  have D1 := Lib.hid d1
  clear h h2 hxl zh d0 d1
  go_enter Try.func68, Try.ntmps68
  go_wp2
  rw [← hW]
  clear hW
  go_loopw [] (fun wr => ∃ (bb : List Int) (A' : Option Addr) (m c' : Nat), m ≤ n ∧ Hid (bb.length = m) ∧ Hid (M.Bgn n (M.parents xs) bb) ∧ Hid (M.fill false n (M.parents xs) (n - bb.length) bb = R) ∧ Hid (Own64 wr B₀ (.slice A' m c') bb) ∧ Hid (∀ k, (Value.slice A' m c').ownBlock = some k → k ≠ w.heap.size) ∧
      Hid (wr.cell? ⟨w.heap.size, 0, none⟩ = some (.slice A n c)) ∧ Hid (wr.cell? ⟨w.heap.size, 1, none⟩ = some (.slice A' m c')) ∧ Hid (wr.frozen? ⟨w.heap.size, 0, none⟩ = false) ∧ Hid (wr.frozen? ⟨w.heap.size, 1, none⟩ = false) ∧ Hid (Ints wr w.heap.size A xs) ∧ Hid (Below w.heap.size w wr)) (fun wr => roomIn n w.heap.size wr)
  case atStart => exact ⟨b, A2, L, c2, hLn, hL, hbg, hR, Ho, hne0, D0, D1, q0, q1, HI0, hB0⟩
  case round =>
    obtain ⟨bb, A', m, c', hm, hbl, hbb, hfr, ho, hne, hc0, hc1', hq0, hq1, hI, hbr⟩ := hrel
    clear Ho hne0 D0 D1 q0 q1 hB0
    have cc0 := hc0.out
    have cc1 := hc1'.out
    have hzr : w.heap.size < wr.heap.size := World.block_lt_of_cell? _ _ cc0
    by_cases hlt : m < n
    · have hmi : (m : Int) < (n : Int) := by omega
      obtain ⟨hpos, hx3, hx4⟩ := M.fill_on hpar.out hbb.out hfr.out (by rw [hbl.out]; exact hlt)
      have hrl := M.rdyTo_len (M.parents xs) bb n
      have hasc := Lib.hid (M.rdyTo_asc (M.parents xs) bb n)
      have HRd := Lib.hid (ready A A' xs bb n c m c' wr.drew hn hc1 hc2 ht hpar hbb hbl (Lib.hid (hI.out.more (Nat.le_of_lt hzr))) (Lib.hid (ints_of_own64 ho.out)))
      obtain ⟨r, hr⟩ : ∃ r, Hid (M.rdyTo (M.parents xs) bb n = r) := ⟨_, rfl⟩
      rw [hr.out] at HRd hpos hx3 hx4 hrl hasc
      obtain ⟨x, hx⟩ : ∃ x, Hid (M.pick false r = x) := ⟨_, rfl⟩
      rw [hx.out] at hx3 hx4
      have Hx3 := Lib.hid hx3
      have Hx4 := Lib.hid hx4
      have hz2 : Hid (A' = none → c' = 0) := fun e => by
        subst e
        rcases ho.out.2 with ⟨h1, _⟩ | ⟨g, cap, cur, hv, _⟩
        · injection h1
        · cases hv
      have hm24 : m ≤ 24 := by omega
      have e0 : wr.drew.cell? ⟨w.heap.size, 0, none⟩ = some (.slice A n c) := cc0
      have e1 : wr.drew.cell? ⟨w.heap.size, 1, none⟩ = some (.slice A' m c') := cc1
      have hzd : wr.drew.heap.size = wr.heap.size := rfl
      have Hzd := Lib.hid hzd
      clear hx3 hx4 hzd
      go_wp2
      refine wp_region_held_drew (S := (fun _ => True)) (by kernel_rfl) trivial (fun hHeld0 => ?_)
      refine anyTake 1 (some 14) (.func (.func 69) #[] #[]) rfl rfl (by kernel_rfl) (by kernel_rfl) (by kernel_rfl) (fun _ _ _ h => h) (by rfl) (by intro w hSw; (try dsimp only at hSw); go_simp) (by assumption) ?_
      try simp only [Act.put, List.setIfInBounds_toArray, List.set_cons_zero, List.set_cons_succ]
      refine wpAnyH_ready (rs := [0, 2]) (by kernel_rfl) (by simp) ?_
      refine AllReadyH.cons rfl (fun K hK => ?_) (AllReadyH.cons rfl (fun K hK => ?_) AllReadyH.nil)
      · go_simp
        refine hK.out _ _ trivial (fun _ => ?_)
        clear hK K
        try simp only [Act.put, List.setIfInBounds_toArray, List.set_cons_zero, List.set_cons_succ]
        refine wpAnyH_ready (rs := [2]) (by kernel_rfl) (by simp) ?_
        refine AllReadyH.cons rfl (fun K hK => ?_) AllReadyH.nil
        go_simp
        refine hK.out _ _ trivial (fun _ => ?_)
        clear hK K
        try simp only [Act.put, List.setIfInBounds_toArray, List.set_cons_zero, List.set_cons_succ]
        refine wpAnyH_ready (rs := [3]) (by kernel_rfl) (by simp) ?_
        refine AllReadyH.cons rfl (fun K hK => ?_) AllReadyH.nil
        go_simp
        go_at_call 74
        refine HRd.out.mono ?_
        rintro e w4 ⟨A4, m4, c4, rfl, ho4, hb4⟩
        go_wp2_with fail
        have hm4 := Lib.hid (own64_len ho4)
        have hb4' : Below wr.heap.size wr w4 := btr (show Below wr.heap.size wr wr.drew from (Below.refl _ _).drew) hb4
        have k0 := cellOf_be cc0 hb4'
        have k1 := cellOf_be cc1 hb4'
        have HPk := Lib.hid (pickMax A4 r m4 c4 w4 (Lib.hid hm4.out.symm) (by have := hm4.out; omega) (by have := hm4.out; omega) hasc (Lib.hid (ints_of_own64 ho4)))
        rw [hx.out] at HPk
        have ho5 := Lib.hid (own_be (h := ho.out) hb4')
        have HWi := Lib.hid (withNode A A' bb n c m c' x w4 hbl hm24 hz2 (Lib.hid (ints_of_own64 ho5.out)))
        refine hK.out _ _ trivial (fun _ => ?_)
        clear hK K
        try simp only [Act.put, List.setIfInBounds_toArray, List.set_cons_zero, List.set_cons_succ]
        refine wpAnyH_ready (rs := [4]) (by kernel_rfl) (by simp) ?_
        refine AllReadyH.cons rfl (fun K hK => ?_) AllReadyH.nil
        go_simp
        go_at_call 69
        refine HPk.out.mono ?_
        rintro e w' ⟨rfl, rfl⟩
        go_wp2_with fail
        refine hK.out _ _ trivial (fun _ => ?_)
        clear hK K
        try simp only [Act.put, List.setIfInBounds_toArray, List.set_cons_zero, List.set_cons_succ]
        refine wpAnyH_ready (rs := [5]) (by kernel_rfl) (by simp) ?_
        refine AllReadyH.cons rfl (fun K hK => ?_) AllReadyH.nil
        go_simp
        go_at_call 75
        refine HWi.out.mono ?_
        rintro e w6 ⟨g6, c6, rfl, ho6, hb6⟩
        go_wp2_with fail
        have hb6' : Below wr.heap.size wr w6 := btr hb4' hb6
        have y0 := cellOf_be cc0 hb6'
        have y1 := cellOf_be cc1 hb6'
        have f0 := frozen_be hq0.out hzr hb6'
        have f1 := frozen_be hq1.out hzr hb6'
        have f2 : (w6.setCell ⟨w.heap.size, 0, none⟩ (.slice A n c)).frozen? ⟨w.heap.size, 1, none⟩ = false := by rw [World.frozen?_setCell]; exact f1
        have hg6 := (World.ownsRow.lt ho6 g6 rfl).1
        have hz4 : wr.heap.size ≤ w4.heap.size := hb4'.size
        have hgw : w.heap.size < g6 := by omega
        have hF9 : Hid (Below w.heap.size w ((w6.setCell ⟨w.heap.size, 0, none⟩ (.slice A n c)).setCell ⟨w.heap.size, 1, none⟩ (.slice (some ⟨g6, 0, none⟩) (m + 1) c6))) := below_setCell (below_setCell (btr hbr.out hb6') (Nat.le_refl _) _) (Nat.le_refl _) _
        have ho9 : Hid (Own64 ((w6.setCell ⟨w.heap.size, 0, none⟩ (.slice A n c)).setCell ⟨w.heap.size, 1, none⟩ (.slice (some ⟨g6, 0, none⟩) (m + 1) c6)) B₀ (.slice (some ⟨g6, 0, none⟩) (m + 1) c6) (bb ++ [x])) := own_mono (own_far (own_far ho6 (by omega) _) (by omega) _) (by omega)
        have hne9 : Hid (∀ k, (Value.slice (some ⟨g6, 0, none⟩) (m + 1) c6).ownBlock = some k → k ≠ w.heap.size) := fun k hk => by injection hk with hk; have e9 : g6 = k := hk; omega
        have p0 : ((w6.setCell ⟨w.heap.size, 0, none⟩ (.slice A n c)).setCell ⟨w.heap.size, 1, none⟩ (.slice (some ⟨g6, 0, none⟩) (m + 1) c6)).cell? ⟨w.heap.size, 0, none⟩ = some (.slice A n c) := (World.cell?_setCell_other _ _ _ _ (by intro e; injection e with e1 e2; omega)).trans (World.cell?_setCell_same _ _ _ y0)
        have p1 : ((w6.setCell ⟨w.heap.size, 0, none⟩ (.slice A n c)).setCell ⟨w.heap.size, 1, none⟩ (.slice (some ⟨g6, 0, none⟩) (m + 1) c6)).cell? ⟨w.heap.size, 1, none⟩ = some (.slice (some ⟨g6, 0, none⟩) (m + 1) c6) := World.cell?_setCell_same _ _ _ ((World.cell?_setCell_other _ _ _ _ (by intro e; injection e with e1 e2; omega)).trans y1)
        have qf0 : ((w6.setCell ⟨w.heap.size, 0, none⟩ (.slice A n c)).setCell ⟨w.heap.size, 1, none⟩ (.slice (some ⟨g6, 0, none⟩) (m + 1) c6)).frozen? ⟨w.heap.size, 0, none⟩ = false := by rw [World.frozen?_setCell, World.frozen?_setCell]; exact f0
        have qf1 : ((w6.setCell ⟨w.heap.size, 0, none⟩ (.slice A n c)).setCell ⟨w.heap.size, 1, none⟩ (.slice (some ⟨g6, 0, none⟩) (m + 1) c6)).frozen? ⟨w.heap.size, 1, none⟩ = false := by rw [World.frozen?_setCell, World.frozen?_setCell]; exact f1
        have hI9 : Hid (Ints ((w6.setCell ⟨w.heap.size, 0, none⟩ (.slice A n c)).setCell ⟨w.heap.size, 1, none⟩ (.slice (some ⟨g6, 0, none⟩) (m + 1) c6)) w.heap.size A xs) := HI00.out.keep fun p hp => hF9.out.cell hp
        refine hK.out _ _ trivial (fun _ => ?_)
        clear hK K
        try simp only [Act.put, List.setIfInBounds_toArray, List.set_cons_zero, List.set_cons_succ]
        refine wpAnyH_ready (rs := [6]) (by kernel_rfl) (by simp) ?_
        refine AllReadyH.cons rfl (fun K hK => ?_) AllReadyH.nil
        go_simp
        refine hK.out _ _ trivial (fun _ => ?_)
        clear hK K
        try simp only [Act.put, List.setIfInBounds_toArray, List.set_cons_zero, List.set_cons_succ]
        refine wpAnyH_done (by kernel_rfl) ?_ _
        clear y0 y1 f0 f1 f2 hHeld0
        go_roundw
        case rel => exact ⟨_, _, _, _, _, _, _, _, _, _, _, _, _, _, ⟨bb ++ [x], some ⟨g6, 0, none⟩, m + 1, c6, by omega, by show _ = _; rw [List.length_append, hbl.out]; rfl, Hx3, Hx4, ho9, hne9, Lib.hid p0, Lib.hid p1, Lib.hid qf0, Lib.hid qf1, hI9, hF9⟩, rfl⟩
        case measure => rw [roomIn_at p1, roomIn_at cc1]; omega
      · go_simp
        refine hK.out _ _ trivial (fun _ => ?_)
        clear hK K
        try simp only [Act.put, List.setIfInBounds_toArray, List.set_cons_zero, List.set_cons_succ]
        refine wpAnyH_ready (rs := [0, 3]) (by kernel_rfl) (by simp) ?_
        refine AllReadyH.cons rfl (fun K hK => ?_) (AllReadyH.cons rfl (fun K hK => ?_) AllReadyH.nil)
        · go_simp
          refine hK.out _ _ trivial (fun _ => ?_)
          clear hK K
          try simp only [Act.put, List.setIfInBounds_toArray, List.set_cons_zero, List.set_cons_succ]
          refine wpAnyH_ready (rs := [3]) (by kernel_rfl) (by simp) ?_
          refine AllReadyH.cons rfl (fun K hK => ?_) AllReadyH.nil
          go_simp
          go_at_call 74
          refine HRd.out.mono ?_
          rintro e w4 ⟨A4, m4, c4, rfl, ho4, hb4⟩
          go_wp2_with fail
          have hm4 := Lib.hid (own64_len ho4)
          have hb4' : Below wr.heap.size wr w4 := btr (show Below wr.heap.size wr wr.drew from (Below.refl _ _).drew) hb4
          have k0 := cellOf_be cc0 hb4'
          have k1 := cellOf_be cc1 hb4'
          have HPk := Lib.hid (pickMax A4 r m4 c4 w4 (Lib.hid hm4.out.symm) (by have := hm4.out; omega) (by have := hm4.out; omega) hasc (Lib.hid (ints_of_own64 ho4)))
          rw [hx.out] at HPk
          have ho5 := Lib.hid (own_be (h := ho.out) hb4')
          have HWi := Lib.hid (withNode A A' bb n c m c' x w4 hbl hm24 hz2 (Lib.hid (ints_of_own64 ho5.out)))
          refine hK.out _ _ trivial (fun _ => ?_)
          clear hK K
          try simp only [Act.put, List.setIfInBounds_toArray, List.set_cons_zero, List.set_cons_succ]
          refine wpAnyH_ready (rs := [4]) (by kernel_rfl) (by simp) ?_
          refine AllReadyH.cons rfl (fun K hK => ?_) AllReadyH.nil
          go_simp
          go_at_call 69
          refine HPk.out.mono ?_
          rintro e w' ⟨rfl, rfl⟩
          go_wp2_with fail
          refine hK.out _ _ trivial (fun _ => ?_)
          clear hK K
          try simp only [Act.put, List.setIfInBounds_toArray, List.set_cons_zero, List.set_cons_succ]
          refine wpAnyH_ready (rs := [5]) (by kernel_rfl) (by simp) ?_
          refine AllReadyH.cons rfl (fun K hK => ?_) AllReadyH.nil
          go_simp
          go_at_call 75
          refine HWi.out.mono ?_
          rintro e w6 ⟨g6, c6, rfl, ho6, hb6⟩
          go_wp2_with fail
          have hb6' : Below wr.heap.size wr w6 := btr hb4' hb6
          have y0 := cellOf_be cc0 hb6'
          have y1 := cellOf_be cc1 hb6'
          have f0 := frozen_be hq0.out hzr hb6'
          have f1 := frozen_be hq1.out hzr hb6'
          have f2 : (w6.setCell ⟨w.heap.size, 0, none⟩ (.slice A n c)).frozen? ⟨w.heap.size, 1, none⟩ = false := by rw [World.frozen?_setCell]; exact f1
          have hg6 := (World.ownsRow.lt ho6 g6 rfl).1
          have hz4 : wr.heap.size ≤ w4.heap.size := hb4'.size
          have hgw : w.heap.size < g6 := by omega
          have hF9 : Hid (Below w.heap.size w ((w6.setCell ⟨w.heap.size, 0, none⟩ (.slice A n c)).setCell ⟨w.heap.size, 1, none⟩ (.slice (some ⟨g6, 0, none⟩) (m + 1) c6))) := below_setCell (below_setCell (btr hbr.out hb6') (Nat.le_refl _) _) (Nat.le_refl _) _
          have ho9 : Hid (Own64 ((w6.setCell ⟨w.heap.size, 0, none⟩ (.slice A n c)).setCell ⟨w.heap.size, 1, none⟩ (.slice (some ⟨g6, 0, none⟩) (m + 1) c6)) B₀ (.slice (some ⟨g6, 0, none⟩) (m + 1) c6) (bb ++ [x])) := own_mono (own_far (own_far ho6 (by omega) _) (by omega) _) (by omega)
          have hne9 : Hid (∀ k, (Value.slice (some ⟨g6, 0, none⟩) (m + 1) c6).ownBlock = some k → k ≠ w.heap.size) := fun k hk => by injection hk with hk; have e9 : g6 = k := hk; omega
          have p0 : ((w6.setCell ⟨w.heap.size, 0, none⟩ (.slice A n c)).setCell ⟨w.heap.size, 1, none⟩ (.slice (some ⟨g6, 0, none⟩) (m + 1) c6)).cell? ⟨w.heap.size, 0, none⟩ = some (.slice A n c) := (World.cell?_setCell_other _ _ _ _ (by intro e; injection e with e1 e2; omega)).trans (World.cell?_setCell_same _ _ _ y0)
          have p1 : ((w6.setCell ⟨w.heap.size, 0, none⟩ (.slice A n c)).setCell ⟨w.heap.size, 1, none⟩ (.slice (some ⟨g6, 0, none⟩) (m + 1) c6)).cell? ⟨w.heap.size, 1, none⟩ = some (.slice (some ⟨g6, 0, none⟩) (m + 1) c6) := World.cell?_setCell_same _ _ _ ((World.cell?_setCell_other _ _ _ _ (by intro e; injection e with e1 e2; omega)).trans y1)
          have qf0 : ((w6.setCell ⟨w.heap.size, 0, none⟩ (.slice A n c)).setCell ⟨w.heap.size, 1, none⟩ (.slice (some ⟨g6, 0, none⟩) (m + 1) c6)).frozen? ⟨w.heap.size, 0, none⟩ = false := by rw [World.frozen?_setCell, World.frozen?_setCell]; exact f0
          have qf1 : ((w6.setCell ⟨w.heap.size, 0, none⟩ (.slice A n c)).setCell ⟨w.heap.size, 1, none⟩ (.slice (some ⟨g6, 0, none⟩) (m + 1) c6)).frozen? ⟨w.heap.size, 1, none⟩ = false := by rw [World.frozen?_setCell, World.frozen?_setCell]; exact f1
          have hI9 : Hid (Ints ((w6.setCell ⟨w.heap.size, 0, none⟩ (.slice A n c)).setCell ⟨w.heap.size, 1, none⟩ (.slice (some ⟨g6, 0, none⟩) (m + 1) c6)) w.heap.size A xs) := HI00.out.keep fun p hp => hF9.out.cell hp
          refine hK.out _ _ trivial (fun _ => ?_)
          clear hK K
          try simp only [Act.put, List.setIfInBounds_toArray, List.set_cons_zero, List.set_cons_succ]
          refine wpAnyH_ready (rs := [6]) (by kernel_rfl) (by simp) ?_
          refine AllReadyH.cons rfl (fun K hK => ?_) AllReadyH.nil
          go_simp
          refine hK.out _ _ trivial (fun _ => ?_)
          clear hK K
          try simp only [Act.put, List.setIfInBounds_toArray, List.set_cons_zero, List.set_cons_succ]
          refine wpAnyH_done (by kernel_rfl) ?_ _
          clear y0 y1 f0 f1 f2 hHeld0
          go_roundw
          case rel => exact ⟨_, _, _, _, _, _, _, _, _, _, _, _, _, _, ⟨bb ++ [x], some ⟨g6, 0, none⟩, m + 1, c6, by omega, by show _ = _; rw [List.length_append, hbl.out]; rfl, Hx3, Hx4, ho9, hne9, Lib.hid p0, Lib.hid p1, Lib.hid qf0, Lib.hid qf1, hI9, hF9⟩, rfl⟩
          case measure => rw [roomIn_at p1, roomIn_at cc1]; omega
        · go_simp
          go_at_call 74
          refine HRd.out.mono ?_
          rintro e w4 ⟨A4, m4, c4, rfl, ho4, hb4⟩
          go_wp2_with fail
          have hm4 := Lib.hid (own64_len ho4)
          have hb4' : Below wr.heap.size wr w4 := btr (show Below wr.heap.size wr wr.drew from (Below.refl _ _).drew) hb4
          have k0 := cellOf_be cc0 hb4'
          have k1 := cellOf_be cc1 hb4'
          have HPk := Lib.hid (pickMax A4 r m4 c4 w4 (Lib.hid hm4.out.symm) (by have := hm4.out; omega) (by have := hm4.out; omega) hasc (Lib.hid (ints_of_own64 ho4)))
          rw [hx.out] at HPk
          have ho5 := Lib.hid (own_be (h := ho.out) hb4')
          have HWi := Lib.hid (withNode A A' bb n c m c' x w4 hbl hm24 hz2 (Lib.hid (ints_of_own64 ho5.out)))
          refine hK.out _ _ trivial (fun _ => ?_)
          clear hK K
          try simp only [Act.put, List.setIfInBounds_toArray, List.set_cons_zero, List.set_cons_succ]
          refine wpAnyH_ready (rs := [0, 4]) (by kernel_rfl) (by simp) ?_
          refine AllReadyH.cons rfl (fun K hK => ?_) (AllReadyH.cons rfl (fun K hK => ?_) AllReadyH.nil)
          · go_simp
            refine hK.out _ _ trivial (fun _ => ?_)
            clear hK K
            try simp only [Act.put, List.setIfInBounds_toArray, List.set_cons_zero, List.set_cons_succ]
            refine wpAnyH_ready (rs := [4]) (by kernel_rfl) (by simp) ?_
            refine AllReadyH.cons rfl (fun K hK => ?_) AllReadyH.nil
            go_simp
            go_at_call 69
            refine HPk.out.mono ?_
            rintro e w' ⟨rfl, rfl⟩
            go_wp2_with fail
            refine hK.out _ _ trivial (fun _ => ?_)
            clear hK K
            try simp only [Act.put, List.setIfInBounds_toArray, List.set_cons_zero, List.set_cons_succ]
            refine wpAnyH_ready (rs := [5]) (by kernel_rfl) (by simp) ?_
            refine AllReadyH.cons rfl (fun K hK => ?_) AllReadyH.nil
            go_simp
            go_at_call 75
            refine HWi.out.mono ?_
            rintro e w6 ⟨g6, c6, rfl, ho6, hb6⟩
            go_wp2_with fail
            have hb6' : Below wr.heap.size wr w6 := btr hb4' hb6
            have y0 := cellOf_be cc0 hb6'
            have y1 := cellOf_be cc1 hb6'
            have f0 := frozen_be hq0.out hzr hb6'
            have f1 := frozen_be hq1.out hzr hb6'
            have f2 : (w6.setCell ⟨w.heap.size, 0, none⟩ (.slice A n c)).frozen? ⟨w.heap.size, 1, none⟩ = false := by rw [World.frozen?_setCell]; exact f1
            have hg6 := (World.ownsRow.lt ho6 g6 rfl).1
            have hz4 : wr.heap.size ≤ w4.heap.size := hb4'.size
            have hgw : w.heap.size < g6 := by omega
            have hF9 : Hid (Below w.heap.size w ((w6.setCell ⟨w.heap.size, 0, none⟩ (.slice A n c)).setCell ⟨w.heap.size, 1, none⟩ (.slice (some ⟨g6, 0, none⟩) (m + 1) c6))) := below_setCell (below_setCell (btr hbr.out hb6') (Nat.le_refl _) _) (Nat.le_refl _) _
            have ho9 : Hid (Own64 ((w6.setCell ⟨w.heap.size, 0, none⟩ (.slice A n c)).setCell ⟨w.heap.size, 1, none⟩ (.slice (some ⟨g6, 0, none⟩) (m + 1) c6)) B₀ (.slice (some ⟨g6, 0, none⟩) (m + 1) c6) (bb ++ [x])) := own_mono (own_far (own_far ho6 (by omega) _) (by omega) _) (by omega)
            have hne9 : Hid (∀ k, (Value.slice (some ⟨g6, 0, none⟩) (m + 1) c6).ownBlock = some k → k ≠ w.heap.size) := fun k hk => by injection hk with hk; have e9 : g6 = k := hk; omega
            have p0 : ((w6.setCell ⟨w.heap.size, 0, none⟩ (.slice A n c)).setCell ⟨w.heap.size, 1, none⟩ (.slice (some ⟨g6, 0, none⟩) (m + 1) c6)).cell? ⟨w.heap.size, 0, none⟩ = some (.slice A n c) := (World.cell?_setCell_other _ _ _ _ (by intro e; injection e with e1 e2; omega)).trans (World.cell?_setCell_same _ _ _ y0)
            have p1 : ((w6.setCell ⟨w.heap.size, 0, none⟩ (.slice A n c)).setCell ⟨w.heap.size, 1, none⟩ (.slice (some ⟨g6, 0, none⟩) (m + 1) c6)).cell? ⟨w.heap.size, 1, none⟩ = some (.slice (some ⟨g6, 0, none⟩) (m + 1) c6) := World.cell?_setCell_same _ _ _ ((World.cell?_setCell_other _ _ _ _ (by intro e; injection e with e1 e2; omega)).trans y1)
            have qf0 : ((w6.setCell ⟨w.heap.size, 0, none⟩ (.slice A n c)).setCell ⟨w.heap.size, 1, none⟩ (.slice (some ⟨g6, 0, none⟩) (m + 1) c6)).frozen? ⟨w.heap.size, 0, none⟩ = false := by rw [World.frozen?_setCell, World.frozen?_setCell]; exact f0
            have qf1 : ((w6.setCell ⟨w.heap.size, 0, none⟩ (.slice A n c)).setCell ⟨w.heap.size, 1, none⟩ (.slice (some ⟨g6, 0, none⟩) (m + 1) c6)).frozen? ⟨w.heap.size, 1, none⟩ = false := by rw [World.frozen?_setCell, World.frozen?_setCell]; exact f1
            have hI9 : Hid (Ints ((w6.setCell ⟨w.heap.size, 0, none⟩ (.slice A n c)).setCell ⟨w.heap.size, 1, none⟩ (.slice (some ⟨g6, 0, none⟩) (m + 1) c6)) w.heap.size A xs) := HI00.out.keep fun p hp => hF9.out.cell hp
            refine hK.out _ _ trivial (fun _ => ?_)
            clear hK K
            try simp only [Act.put, List.setIfInBounds_toArray, List.set_cons_zero, List.set_cons_succ]
            refine wpAnyH_ready (rs := [6]) (by kernel_rfl) (by simp) ?_
            refine AllReadyH.cons rfl (fun K hK => ?_) AllReadyH.nil
            go_simp
            refine hK.out _ _ trivial (fun _ => ?_)
            clear hK K
            try simp only [Act.put, List.setIfInBounds_toArray, List.set_cons_zero, List.set_cons_succ]
            refine wpAnyH_done (by kernel_rfl) ?_ _
            clear y0 y1 f0 f1 f2 hHeld0
            go_roundw
            case rel => exact ⟨_, _, _, _, _, _, _, _, _, _, _, _, _, _, ⟨bb ++ [x], some ⟨g6, 0, none⟩, m + 1, c6, by omega, by show _ = _; rw [List.length_append, hbl.out]; rfl, Hx3, Hx4, ho9, hne9, Lib.hid p0, Lib.hid p1, Lib.hid qf0, Lib.hid qf1, hI9, hF9⟩, rfl⟩
            case measure => rw [roomIn_at p1, roomIn_at cc1]; omega
          · go_simp
            go_at_call 69
            refine HPk.out.mono ?_
            rintro e w' ⟨rfl, rfl⟩
            go_wp2_with fail
            refine hK.out _ _ trivial (fun _ => ?_)
            clear hK K
            try simp only [Act.put, List.setIfInBounds_toArray, List.set_cons_zero, List.set_cons_succ]
            refine wpAnyH_ready (rs := [0]) (by kernel_rfl) (by simp) ?_
            refine AllReadyH.cons rfl (fun K hK => ?_) AllReadyH.nil
            go_simp
            refine hK.out _ _ trivial (fun _ => ?_)
            clear hK K
            try simp only [Act.put, List.setIfInBounds_toArray, List.set_cons_zero, List.set_cons_succ]
            refine wpAnyH_ready (rs := [5]) (by kernel_rfl) (by simp) ?_
            refine AllReadyH.cons rfl (fun K hK => ?_) AllReadyH.nil
            go_simp
            go_at_call 75
            refine HWi.out.mono ?_
            rintro e w6 ⟨g6, c6, rfl, ho6, hb6⟩
            go_wp2_with fail
            have hb6' : Below wr.heap.size wr w6 := btr hb4' hb6
            have y0 := cellOf_be cc0 hb6'
            have y1 := cellOf_be cc1 hb6'
            have f0 := frozen_be hq0.out hzr hb6'
            have f1 := frozen_be hq1.out hzr hb6'
            have f2 : (w6.setCell ⟨w.heap.size, 0, none⟩ (.slice A n c)).frozen? ⟨w.heap.size, 1, none⟩ = false := by rw [World.frozen?_setCell]; exact f1
            have hg6 := (World.ownsRow.lt ho6 g6 rfl).1
            have hz4 : wr.heap.size ≤ w4.heap.size := hb4'.size
            have hgw : w.heap.size < g6 := by omega
            have hF9 : Hid (Below w.heap.size w ((w6.setCell ⟨w.heap.size, 0, none⟩ (.slice A n c)).setCell ⟨w.heap.size, 1, none⟩ (.slice (some ⟨g6, 0, none⟩) (m + 1) c6))) := below_setCell (below_setCell (btr hbr.out hb6') (Nat.le_refl _) _) (Nat.le_refl _) _
            have ho9 : Hid (Own64 ((w6.setCell ⟨w.heap.size, 0, none⟩ (.slice A n c)).setCell ⟨w.heap.size, 1, none⟩ (.slice (some ⟨g6, 0, none⟩) (m + 1) c6)) B₀ (.slice (some ⟨g6, 0, none⟩) (m + 1) c6) (bb ++ [x])) := own_mono (own_far (own_far ho6 (by omega) _) (by omega) _) (by omega)
            have hne9 : Hid (∀ k, (Value.slice (some ⟨g6, 0, none⟩) (m + 1) c6).ownBlock = some k → k ≠ w.heap.size) := fun k hk => by injection hk with hk; have e9 : g6 = k := hk; omega
            have p0 : ((w6.setCell ⟨w.heap.size, 0, none⟩ (.slice A n c)).setCell ⟨w.heap.size, 1, none⟩ (.slice (some ⟨g6, 0, none⟩) (m + 1) c6)).cell? ⟨w.heap.size, 0, none⟩ = some (.slice A n c) := (World.cell?_setCell_other _ _ _ _ (by intro e; injection e with e1 e2; omega)).trans (World.cell?_setCell_same _ _ _ y0)
            have p1 : ((w6.setCell ⟨w.heap.size, 0, none⟩ (.slice A n c)).setCell ⟨w.heap.size, 1, none⟩ (.slice (some ⟨g6, 0, none⟩) (m + 1) c6)).cell? ⟨w.heap.size, 1, none⟩ = some (.slice (some ⟨g6, 0, none⟩) (m + 1) c6) := World.cell?_setCell_same _ _ _ ((World.cell?_setCell_other _ _ _ _ (by intro e; injection e with e1 e2; omega)).trans y1)
            have qf0 : ((w6.setCell ⟨w.heap.size, 0, none⟩ (.slice A n c)).setCell ⟨w.heap.size, 1, none⟩ (.slice (some ⟨g6, 0, none⟩) (m + 1) c6)).frozen? ⟨w.heap.size, 0, none⟩ = false := by rw [World.frozen?_setCell, World.frozen?_setCell]; exact f0
            have qf1 : ((w6.setCell ⟨w.heap.size, 0, none⟩ (.slice A n c)).setCell ⟨w.heap.size, 1, none⟩ (.slice (some ⟨g6, 0, none⟩) (m + 1) c6)).frozen? ⟨w.heap.size, 1, none⟩ = false := by rw [World.frozen?_setCell, World.frozen?_setCell]; exact f1
            have hI9 : Hid (Ints ((w6.setCell ⟨w.heap.size, 0, none⟩ (.slice A n c)).setCell ⟨w.heap.size, 1, none⟩ (.slice (some ⟨g6, 0, none⟩) (m + 1) c6)) w.heap.size A xs) := HI00.out.keep fun p hp => hF9.out.cell hp
            refine hK.out _ _ trivial (fun _ => ?_)
            clear hK K
            try simp only [Act.put, List.setIfInBounds_toArray, List.set_cons_zero, List.set_cons_succ]
            refine wpAnyH_ready (rs := [6]) (by kernel_rfl) (by simp) ?_
            refine AllReadyH.cons rfl (fun K hK => ?_) AllReadyH.nil
            go_simp
            refine hK.out _ _ trivial (fun _ => ?_)
            clear hK K
            try simp only [Act.put, List.setIfInBounds_toArray, List.set_cons_zero, List.set_cons_succ]
            refine wpAnyH_done (by kernel_rfl) ?_ _
            clear y0 y1 f0 f1 f2 hHeld0
            go_roundw
            case rel => exact ⟨_, _, _, _, _, _, _, _, _, _, _, _, _, _, ⟨bb ++ [x], some ⟨g6, 0, none⟩, m + 1, c6, by omega, by show _ = _; rw [List.length_append, hbl.out]; rfl, Hx3, Hx4, ho9, hne9, Lib.hid p0, Lib.hid p1, Lib.hid qf0, Lib.hid qf1, hI9, hF9⟩, rfl⟩
            case measure => rw [roomIn_at p1, roomIn_at cc1]; omega
    · obtain rfl : m = n := by omega
      have hge : ¬ (m : Int) < (m : Int) := by omega
      have hE : Hid (bb = R) := by show _ = _; rw [← hfr.out]; exact (M.fill_done hbl.out).symm
      rw [hE.out] at ho
      clear hE
      go_wp2
      go_ret
      exact ⟨A', c', rfl, ho.out, hbr.out⟩
end Go.Proofs.Ytgnhmhfianmckaa
