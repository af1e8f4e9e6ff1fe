/- l09Order: whether a list has all nodes of a tree, each once, as the model says it. Written by geno.py. -/
import Derived.Test.YtbdmmeoelagdcaaMet
namespace Go.Proofs.Ytbdmmeoelagdcaa
open Go.RowKit

set_option maxHeartbeats 4000000 in
set_option maxRecDepth 100000 in
theorem l09Order (A A2 : Option Addr) (l : List Int) (n c L c2 : Nat) (w : World) (h24 : n ≤ 24) (hL : Hid (l.length = L)) (hl : L ≤ 1048576) (h2 : Ints w w.heap.size A2 l) :
    Calls Try.prog 152 #[.agg #[.slice A n c], .slice A2 L c2] w fun e w' => e = .returned (.bool (M.isOrd n l)) ∧ Below w.heap.size w w' := by
  have hmk := fun W => run_make_row' (P := Try.prog) (w := W) 134 4 (.bool false) 1 Try.underlying134 infoB rfl .i64 .i64 n (by omega) (by omega)
  have cT0 : Hid ((w.alloc (.cells #[.slice A n c] 29)).cell? ⟨w.heap.size, 0, none⟩ = some (.slice A n c)) := by simp [Hid, go_sem]
  have hB0 := Lib.hid (bal (b0 w) (.cells #[.slice A n c] 29))
  have H2 := Lib.hid h2
  obtain ⟨R, hR⟩ : ∃ R, Hid (M.isOrd n l = R) := ⟨_, rfl⟩
  rw [hR.out]
  clear h2
  go_enter Try.func152, Try.ntmps152
  go_wp2_with fail
  refine (l01N A n c _).mono ?_
  rintro e w1 ⟨rfl, hb⟩
  have cT1 := Lib.hid (cell_be cT0.out hb)
  have hB1 := Lib.hid (btr hB0.out hb)
  have hmk1 := hmk w1
  have Hm := Lib.hid (ownB_made (w := w1) (B := w.heap.size) (n := n) hB1.out.size (by unfold maxLen; omega))
  rw [show List.replicate n false = M.metRow n l 0 from (M.metRow_zero n l).symm] at Hm
  have hB2 := Lib.hid (bal hB1.out (.cells (madeCells #[.bool false] n) 4))
  have cT2 := Lib.hid (cell_al cT1.out (.cells (madeCells #[.bool false] n) 4))
  have hzg : w.heap.size < w1.heap.size := (World.block_lt_of_cell? _ _ cT1.out)
  have hst : Hid (M.OrdTo n l 0) := M.ordTo_zero n l
  clear hb cT0 hB0 cT1 hB1 hmk
  go_wp2
  clear hmk1
  generalize w1.heap.size = g at Hm hzg ⊢
  go_loopw [6] (fun qi wr => ∃ (k : Nat), k ≤ L ∧ qi = .int .i64 (k : Int) ∧ Hid (M.OrdTo n l k) ∧ Hid (OwnB wr w.heap.size (.slice (some ⟨g, 0, none⟩) n n) (M.metRow n l k)) ∧ Hid (wr.cell? ⟨w.heap.size, 0, none⟩ = some (.slice A n c)) ∧ Hid (Below w.heap.size w wr)) (fun qi _ => L - (intOf qi).toNat)
  case atStart => exact ⟨0, Nat.zero_le _, rfl, hst, Hm, cT2, hB2⟩
  case round =>
    obtain ⟨k, hk, rfl, hT, hm, hcT, hbr⟩ := hrel
    clear hst Hm cT2 hB2
    by_cases hlt : k < L
    · obtain ⟨b, off, x, rfl, hbl, g1, hX⟩ := (H2.out.below hbr.out (Nat.le_refl _)).at_ (k := k) (by rw [hL.out]; exact hlt)
      have hki : (k : Int) < (L : Int) := by omega
      have hk0 : (0 : Int) ≤ (k : Int) := by omega
      have hblr : b < wr.heap.size := by have := hbr.out.size; omega
      have hN : ∀ W, Hid (Below wr.heap.size wr W) → Calls Try.prog 133 #[.agg #[.slice A n c]] W fun e w' => e = .returned (.int .i64 n) ∧ Hid (Below wr.heap.size wr w') := fun W hW =>
        (l01N A n c W).mono fun e w' ⟨he, hb⟩ => ⟨he, btr hW.out hb⟩
      have HN := Lib.hid hN
      clear hN
      have hwrap : IntKind.i64.wrap ((n : Int) - 1) = (n : Int) - 1 := IntWalk.i64_in _ (by omega)
      obtain ⟨bv, hbv⟩ : ∃ bv, Hid ((decide ((0 : Int) ≤ x) && decide (x ≤ (n : Int) - 1)) = bv) := ⟨_, rfl⟩
      have HcX : Hid (∀ W, Hid (Below wr.heap.size wr W) → W.cell? ⟨b, off + k, none⟩ = some (.int .i64 x)) := fun W hW => (hW.out.cell (p := ⟨b, off + k, none⟩) hblr).trans g1
      have HcT : Hid (∀ W, Hid (Below wr.heap.size wr W) → W.cell? ⟨w.heap.size, 0, none⟩ = some (.slice A n c)) := fun W hW => cell_be hcT.out hW.out
      have hK0 : Hid (Below wr.heap.size wr wr.drew) := (Below.refl _ _).drew
      have g0 : wr.drew.cell? ⟨b, off + k, none⟩ = some (.int .i64 x) := HcX.out _ hK0
      have u0 : wr.drew.cell? ⟨w.heap.size, 0, none⟩ = some (.slice A n c) := HcT.out _ hK0
      clear g1
      cases bv
      · have hbad : R = false := by
          rw [← hR.out]
          refine M.isOrd_out hX.out fun h => ?_
          have := hbv.out
          simp at this
          omega
        subst hbad
        clear hX hm hT
        go_wp2
        refine wp_region_held_drew (S := (fun w' => w'.cell? ⟨b, off + k, none⟩ = some (.int .i64 x) ∧ w'.cell? ⟨w.heap.size, 0, none⟩ = some (.slice A n c) ∧ Hid (Below wr.heap.size wr w'))) (by kernel_rfl) (by exact ⟨g0, u0, hK0⟩) (fun hHeld0 => ?_)
        refine anyTake 0 (some 16) (.slice (some ⟨b, off, none⟩) L c2) rfl rfl (by kernel_rfl) (by kernel_rfl) (by kernel_rfl) (fun _ _ _ h => h) (by rfl) (by intro w hSw; (try dsimp only at hSw); go_simp) (by assumption) ?_
        try simp only [Act.put, List.setIfInBounds_toArray, List.set_cons_zero, List.set_cons_succ]
        refine anyTake 1 (some 17) (.int .i64 ((k : Nat) : Int)) rfl rfl (by kernel_rfl) (by kernel_rfl) (by kernel_rfl) (fun _ _ _ h => h) (by rfl) (by intro w hSw; (try dsimp only at hSw); go_simp) (by assumption) ?_
        try simp only [Act.put, List.setIfInBounds_toArray, List.set_cons_zero, List.set_cons_succ]
        refine anyTake 2 (some 18) (.pointer (some ⟨b, off + k, none⟩)) rfl rfl (by kernel_rfl) (by kernel_rfl) (by kernel_rfl) (fun _ _ _ h => h) (by rfl) (by intro w hSw; (try dsimp only at hSw); go_simp) (by assumption) ?_
        try simp only [Act.put, List.setIfInBounds_toArray, List.set_cons_zero, List.set_cons_succ]
        refine anyTake 3 (some 19) (.int .i64 x) rfl rfl (by kernel_rfl) (by kernel_rfl) (by kernel_rfl) (fun _ _ _ h => h) (by rfl) (by intro w hSw; (try dsimp only at hSw); go_simp) (by assumption) ?_
        try simp only [Act.put, List.setIfInBounds_toArray, List.set_cons_zero, List.set_cons_succ]
        refine anyTake 4 (some 20) (.agg #[.slice A n c]) rfl rfl (by kernel_rfl) (by kernel_rfl) (by kernel_rfl) (fun _ _ _ h => h) (by rfl) (by intro w hSw; (try dsimp only at hSw); go_simp) (by assumption) ?_
        try simp only [Act.put, List.setIfInBounds_toArray, List.set_cons_zero, List.set_cons_succ]
        refine wpAnyH_ready (rs := [5]) (by kernel_rfl) (by simp) ?_
        refine AllReadyH.cons rfl (fun K hK => ?_) AllReadyH.nil
        go_simp
        go_at_call 133
        refine (HN.out _ (by exact hHeld0.2.2)).mono ?_
        rintro e w7 ⟨rfl, hb7⟩
        go_wp2_with fail
        refine hK.out _ _ (by exact ⟨HcX.out _ (by assumption), HcT.out _ (by assumption), by assumption⟩) (fun hHeld => ?_)
        clear hK K
        try simp only [Act.put, List.setIfInBounds_toArray, List.set_cons_zero, List.set_cons_succ]
        clear hHeld0
        have hHeld0 := hHeld
        clear hHeld
        refine anyTake 6 (some 22) (.int .i64 ((n : Int) - 1)) rfl rfl (by kernel_rfl) (by kernel_rfl) (by kernel_rfl) (fun _ _ _ h => h) (by rfl) (by intro w hSw; (try dsimp only at hSw); go_simp) (by assumption) ?_
        try simp only [Act.put, List.setIfInBounds_toArray, List.set_cons_zero, List.set_cons_succ]
        refine wpAnyH_ready (rs := [7]) (by kernel_rfl) (by simp) ?_
        refine AllReadyH.cons rfl (fun K hK => ?_) AllReadyH.nil
        go_simp
        go_at_call 136
        refine (inAny _ _ _ _ false hbv).mono ?_
        rintro e w8 ⟨rfl, rfl⟩
        go_wp2_with fail
        refine hK.out _ _ (by exact ⟨HcX.out _ (by assumption), HcT.out _ (by assumption), by assumption⟩) (fun hHeld => ?_)
        clear hK K
        try simp only [Act.put, List.setIfInBounds_toArray, List.set_cons_zero, List.set_cons_succ]
        clear hHeld0
        have hHeld0 := hHeld
        clear hHeld
        refine anyTake 8 (some 24) (.bool true) rfl rfl (by kernel_rfl) (by kernel_rfl) (by kernel_rfl) (fun _ _ _ h => h) (by rfl) (by intro w hSw; (try dsimp only at hSw); go_simp) (by assumption) ?_
        try simp only [Act.put, List.setIfInBounds_toArray, List.set_cons_zero, List.set_cons_succ]
        refine anyTake 9 (some 25) (.bool true) rfl rfl (by kernel_rfl) (by kernel_rfl) (by kernel_rfl) (fun _ _ _ h => h) (by rfl) (by intro w hSw; (try dsimp only at hSw); go_simp) (by assumption) ?_
        try simp only [Act.put, List.setIfInBounds_toArray, List.set_cons_zero, List.set_cons_succ]
        refine anySkip 10 (some 26) rfl rfl (by kernel_rfl) (by kernel_rfl) (by kernel_rfl) (fun _ _ _ h => h) (by rfl) (by assumption) ?_
        try simp only [Act.put, List.setIfInBounds_toArray, List.set_cons_zero, List.set_cons_succ]
        refine anySkip 11 (some 27) rfl rfl (by kernel_rfl) (by kernel_rfl) (by kernel_rfl) (fun _ _ _ h => h) (by rfl) (by assumption) ?_
        try simp only [Act.put, List.setIfInBounds_toArray, List.set_cons_zero, List.set_cons_succ]
        refine anySkip 12 (some 28) rfl rfl (by kernel_rfl) (by kernel_rfl) (by kernel_rfl) (fun _ _ _ h => h) (by rfl) (by assumption) ?_
        try simp only [Act.put, List.setIfInBounds_toArray, List.set_cons_zero, List.set_cons_succ]
        refine anySkip 13 (some 29) rfl rfl (by kernel_rfl) (by kernel_rfl) (by kernel_rfl) (fun _ _ _ h => h) (by rfl) (by assumption) ?_
        try simp only [Act.put, List.setIfInBounds_toArray, List.set_cons_zero, List.set_cons_succ]
        refine anySkip 14 (some 30) rfl rfl (by kernel_rfl) (by kernel_rfl) (by kernel_rfl) (fun _ _ _ h => h) (by rfl) (by assumption) ?_
        try simp only [Act.put, List.setIfInBounds_toArray, List.set_cons_zero, List.set_cons_succ]
        refine anySkip 15 (some 31) rfl rfl (by kernel_rfl) (by kernel_rfl) (by kernel_rfl) (fun _ _ _ h => h) (by rfl) (by assumption) ?_
        try simp only [Act.put, List.setIfInBounds_toArray, List.set_cons_zero, List.set_cons_succ]
        refine anySkip 16 (some 32) rfl rfl (by kernel_rfl) (by kernel_rfl) (by kernel_rfl) (fun _ _ _ h => h) (by rfl) (by assumption) ?_
        try simp only [Act.put, List.setIfInBounds_toArray, List.set_cons_zero, List.set_cons_succ]
        refine anyTake 17 (some 33) (.bool true) rfl rfl (by kernel_rfl) (by kernel_rfl) (by kernel_rfl) (fun _ _ _ h => h) (by rfl) (by intro w hSw; (try dsimp only at hSw); go_simp) (by assumption) ?_
        try simp only [Act.put, List.setIfInBounds_toArray, List.set_cons_zero, List.set_cons_succ]
        refine wpAnyH_done (by kernel_rfl) ?_ _
        have hB7 := Lib.hid (btr hbr.out hb7.out)
        go_wp2
        go_ret
        exact ⟨rfl, hB7.out⟩
      · have hx : 0 ≤ x ∧ x < (n : Int) := by
          have := hbv.out
          simp at this
          omega
        obtain ⟨v, rfl⟩ := Int.eq_ofNat_of_zero_le hx.1
        have hvn : v < n := by omega
        have hv0 : (0 : Int) ≤ (v : Int) := by omega
        have hvi : (v : Int) < (n : Int) := by omega
        obtain ⟨q, hq⟩ : ∃ q, Hid (decide ((v : Int) ∈ l.take k) = q) := ⟨_, rfl⟩
        have hmv := M.metRow_at (l := l) (k := k) hvn
        rw [hq.out] at hmv
        obtain ⟨m1, m2, _, hgl⟩ := ownB_cell hm.out (M.metRow_len n l k) hmv
        have HcM : Hid (∀ W, Hid (Below wr.heap.size wr W) → W.cell? ⟨g, v, none⟩ = some (.bool q)) := fun W hW => (hW.out.cell (p := ⟨g, v, none⟩) hgl).trans m1
        have v0 : wr.drew.cell? ⟨g, v, none⟩ = some (.bool q) := HcM.out _ hK0
        clear hmv m1 m2
        cases q
        · have hni : (v : Int) ∉ l.take k := of_decide_eq_false hq.out
          have hs := Lib.hid (M.ordTo_step hT.out hX.out hx.1 hx.2 hni)
          have hms := Lib.hid (M.metRow_step (n := n) hX.out)
          clear hT hni hX
          go_wp2
          refine wp_region_held_drew (S := (fun w' => w'.cell? ⟨b, off + k, none⟩ = some (.int .i64 (v : Int)) ∧ w'.cell? ⟨w.heap.size, 0, none⟩ = some (.slice A n c) ∧ w'.cell? ⟨g, v, none⟩ = some (.bool false) ∧ Hid (Below wr.heap.size wr w'))) (by kernel_rfl) (by exact ⟨g0, u0, v0, hK0⟩) (fun hHeld0 => ?_)
          refine anyTake 0 (some 16) (.slice (some ⟨b, off, none⟩) L c2) rfl rfl (by kernel_rfl) (by kernel_rfl) (by kernel_rfl) (fun _ _ _ h => h) (by rfl) (by intro w hSw; (try dsimp only at hSw); go_simp) (by assumption) ?_
          try simp only [Act.put, List.setIfInBounds_toArray, List.set_cons_zero, List.set_cons_succ]
          refine anyTake 1 (some 17) (.int .i64 ((k : Nat) : Int)) rfl rfl (by kernel_rfl) (by kernel_rfl) (by kernel_rfl) (fun _ _ _ h => h) (by rfl) (by intro w hSw; (try dsimp only at hSw); go_simp) (by assumption) ?_
          try simp only [Act.put, List.setIfInBounds_toArray, List.set_cons_zero, List.set_cons_succ]
          refine anyTake 2 (some 18) (.pointer (some ⟨b, off + k, none⟩)) rfl rfl (by kernel_rfl) (by kernel_rfl) (by kernel_rfl) (fun _ _ _ h => h) (by rfl) (by intro w hSw; (try dsimp only at hSw); go_simp) (by assumption) ?_
          try simp only [Act.put, List.setIfInBounds_toArray, List.set_cons_zero, List.set_cons_succ]
          refine anyTake 3 (some 19) (.int .i64 (v : Int)) rfl rfl (by kernel_rfl) (by kernel_rfl) (by kernel_rfl) (fun _ _ _ h => h) (by rfl) (by intro w hSw; (try dsimp only at hSw); go_simp) (by assumption) ?_
          try simp only [Act.put, List.setIfInBounds_toArray, List.set_cons_zero, List.set_cons_succ]
          refine anyTake 4 (some 20) (.agg #[.slice A n c]) rfl rfl (by kernel_rfl) (by kernel_rfl) (by kernel_rfl) (fun _ _ _ h => h) (by rfl) (by intro w hSw; (try dsimp only at hSw); go_simp) (by assumption) ?_
          try simp only [Act.put, List.setIfInBounds_toArray, List.set_cons_zero, List.set_cons_succ]
          refine wpAnyH_ready (rs := [5]) (by kernel_rfl) (by simp) ?_
          refine AllReadyH.cons rfl (fun K hK => ?_) AllReadyH.nil
          go_simp
          go_at_call 133
          refine (HN.out _ (by exact hHeld0.2.2.2)).mono ?_
          rintro e w7 ⟨rfl, hb7⟩
          go_wp2_with fail
          refine hK.out _ _ (by exact ⟨HcX.out _ (by assumption), HcT.out _ (by assumption), HcM.out _ (by assumption), by assumption⟩) (fun hHeld => ?_)
          clear hK K
          try simp only [Act.put, List.setIfInBounds_toArray, List.set_cons_zero, List.set_cons_succ]
          clear hHeld0
          have hHeld0 := hHeld
          clear hHeld
          refine anyTake 6 (some 22) (.int .i64 ((n : Int) - 1)) rfl rfl (by kernel_rfl) (by kernel_rfl) (by kernel_rfl) (fun _ _ _ h => h) (by rfl) (by intro w hSw; (try dsimp only at hSw); go_simp) (by assumption) ?_
          try simp only [Act.put, List.setIfInBounds_toArray, List.set_cons_zero, List.set_cons_succ]
          refine wpAnyH_ready (rs := [7]) (by kernel_rfl) (by simp) ?_
          refine AllReadyH.cons rfl (fun K hK => ?_) AllReadyH.nil
          go_simp
          go_at_call 136
          refine (inAny _ _ _ _ true hbv).mono ?_
          rintro e w8 ⟨rfl, rfl⟩
          go_wp2_with fail
          refine hK.out _ _ (by exact ⟨HcX.out _ (by assumption), HcT.out _ (by assumption), HcM.out _ (by assumption), by assumption⟩) (fun hHeld => ?_)
          clear hK K
          try simp only [Act.put, List.setIfInBounds_toArray, List.set_cons_zero, List.set_cons_succ]
          clear hHeld0
          have hHeld0 := hHeld
          clear hHeld
          refine anyTake 8 (some 24) (.bool false) rfl rfl (by kernel_rfl) (by kernel_rfl) (by kernel_rfl) (fun _ _ _ h => h) (by rfl) (by intro w hSw; (try dsimp only at hSw); go_simp) (by assumption) ?_
          try simp only [Act.put, List.setIfInBounds_toArray, List.set_cons_zero, List.set_cons_succ]
          refine anyTake 9 (some 25) (.bool false) rfl rfl (by kernel_rfl) (by kernel_rfl) (by kernel_rfl) (fun _ _ _ h => h) (by rfl) (by intro w hSw; (try dsimp only at hSw); go_simp) (by assumption) ?_
          try simp only [Act.put, List.setIfInBounds_toArray, List.set_cons_zero, List.set_cons_succ]
          refine anyTake 10 (some 26) (.slice (some ⟨g, 0, none⟩) n n) rfl rfl (by kernel_rfl) (by kernel_rfl) (by kernel_rfl) (fun _ _ _ h => h) (by rfl) (by intro w hSw; (try dsimp only at hSw); go_simp) (by assumption) ?_
          try simp only [Act.put, List.setIfInBounds_toArray, List.set_cons_zero, List.set_cons_succ]
          refine anyTake 11 (some 27) (.slice (some ⟨b, off, none⟩) L c2) rfl rfl (by kernel_rfl) (by kernel_rfl) (by kernel_rfl) (fun _ _ _ h => h) (by rfl) (by intro w hSw; (try dsimp only at hSw); go_simp) (by assumption) ?_
          try simp only [Act.put, List.setIfInBounds_toArray, List.set_cons_zero, List.set_cons_succ]
          refine anyTake 12 (some 28) (.int .i64 ((k : Nat) : Int)) rfl rfl (by kernel_rfl) (by kernel_rfl) (by kernel_rfl) (fun _ _ _ h => h) (by rfl) (by intro w hSw; (try dsimp only at hSw); go_simp) (by assumption) ?_
          try simp only [Act.put, List.setIfInBounds_toArray, List.set_cons_zero, List.set_cons_succ]
          refine anyTake 13 (some 29) (.pointer (some ⟨b, off + k, none⟩)) rfl rfl (by kernel_rfl) (by kernel_rfl) (by kernel_rfl) (fun _ _ _ h => h) (by rfl) (by intro w hSw; (try dsimp only at hSw); go_simp) (by assumption) ?_
          try simp only [Act.put, List.setIfInBounds_toArray, List.set_cons_zero, List.set_cons_succ]
          refine anyTake 14 (some 30) (.int .i64 (v : Int)) rfl rfl (by kernel_rfl) (by kernel_rfl) (by kernel_rfl) (fun _ _ _ h => h) (by rfl) (by intro w hSw; (try dsimp only at hSw); go_simp) (by assumption) ?_
          try simp only [Act.put, List.setIfInBounds_toArray, List.set_cons_zero, List.set_cons_succ]
          refine anyTake 15 (some 31) (.pointer (some ⟨g, v, none⟩)) rfl rfl (by kernel_rfl) (by kernel_rfl) (by kernel_rfl) (fun _ _ _ h => h) (by rfl) (by intro w hSw; (try dsimp only at hSw); go_simp) (by assumption) ?_
          try simp only [Act.put, List.setIfInBounds_toArray, List.set_cons_zero, List.set_cons_succ]
          refine anyTake 16 (some 32) (.bool false) rfl rfl (by kernel_rfl) (by kernel_rfl) (by kernel_rfl) (fun _ _ _ h => h) (by rfl) (by intro w hSw; (try dsimp only at hSw); go_simp) (by assumption) ?_
          try simp only [Act.put, List.setIfInBounds_toArray, List.set_cons_zero, List.set_cons_succ]
          refine anyTake 17 (some 33) (.bool false) rfl rfl (by kernel_rfl) (by kernel_rfl) (by kernel_rfl) (fun _ _ _ h => h) (by rfl) (by intro w hSw; (try dsimp only at hSw); go_simp) (by assumption) ?_
          try simp only [Act.put, List.setIfInBounds_toArray, List.set_cons_zero, List.set_cons_succ]
          refine wpAnyH_done (by kernel_rfl) ?_ _
          have hm7 := Lib.hid (own_be hm.out hb7.out)
          have hmv := M.metRow_at (l := l) (k := k) hvn
          obtain ⟨m1, m2, _, _⟩ := ownB_cell hm7.out (M.metRow_len n l k) hmv
          have hset := Lib.hid (ownB_set hm7.out (M.metRow_len n l k) v true)
          rw [hms.out] at hset
          have cT7 := Lib.hid ((World.cell?_setCell_other w7 (a := ⟨g, v, none⟩) (b := ⟨w.heap.size, 0, none⟩) (v := .bool true) (by intro e; injection e with e1; omega)).trans (HcT.out w7 hb7))
          have cX7 := HcX.out w7 hb7
          have hB7 := Lib.hid (below_setCell (btr hbr.out hb7.out) (Nat.le_of_lt hzg) (k := v) (.bool true))
          clear hK0 g0 u0 v0 HcX HcT HcM HN hm hmv hHeld0 hcT
          go_wp2
          go_roundw
          case rel => exact ⟨k + 1, by omega, by go_num, hs, hset, cT7, hB7⟩
          case measure => simp [intOf]; omega
        · have hni : (v : Int) ∈ l.take k := of_decide_eq_true hq.out
          have hbad : R = false := by rw [← hR.out]; exact M.isOrd_twice hX.out hni
          subst hbad
          clear hX hm hT hni
          go_wp2
          refine wp_region_held_drew (S := (fun w' => w'.cell? ⟨b, off + k, none⟩ = some (.int .i64 (v : Int)) ∧ w'.cell? ⟨w.heap.size, 0, none⟩ = some (.slice A n c) ∧ w'.cell? ⟨g, v, none⟩ = some (.bool true) ∧ Hid (Below wr.heap.size wr w'))) (by kernel_rfl) (by exact ⟨g0, u0, v0, hK0⟩) (fun hHeld0 => ?_)
          refine anyTake 0 (some 16) (.slice (some ⟨b, off, none⟩) L c2) rfl rfl (by kernel_rfl) (by kernel_rfl) (by kernel_rfl) (fun _ _ _ h => h) (by rfl) (by intro w hSw; (try dsimp only at hSw); go_simp) (by assumption) ?_
          try simp only [Act.put, List.setIfInBounds_toArray, List.set_cons_zero, List.set_cons_succ]
          refine anyTake 1 (some 17) (.int .i64 ((k : Nat) : Int)) rfl rfl (by kernel_rfl) (by kernel_rfl) (by kernel_rfl) (fun _ _ _ h => h) (by rfl) (by intro w hSw; (try dsimp only at hSw); go_simp) (by assumption) ?_
          try simp only [Act.put, List.setIfInBounds_toArray, List.set_cons_zero, List.set_cons_succ]
          refine anyTake 2 (some 18) (.pointer (some ⟨b, off + k, none⟩)) rfl rfl (by kernel_rfl) (by kernel_rfl) (by kernel_rfl) (fun _ _ _ h => h) (by rfl) (by intro w hSw; (try dsimp only at hSw); go_simp) (by assumption) ?_
          try simp only [Act.put, List.setIfInBounds_toArray, List.set_cons_zero, List.set_cons_succ]
          refine anyTake 3 (some 19) (.int .i64 (v : Int)) rfl rfl (by kernel_rfl) (by kernel_rfl) (by kernel_rfl) (fun _ _ _ h => h) (by rfl) (by intro w hSw; (try dsimp only at hSw); go_simp) (by assumption) ?_
          try simp only [Act.put, List.setIfInBounds_toArray, List.set_cons_zero, List.set_cons_succ]
          refine anyTake 4 (some 20) (.agg #[.slice A n c]) rfl rfl (by kernel_rfl) (by kernel_rfl) (by kernel_rfl) (fun _ _ _ h => h) (by rfl) (by intro w hSw; (try dsimp only at hSw); go_simp) (by assumption) ?_
          try simp only [Act.put, List.setIfInBounds_toArray, List.set_cons_zero, List.set_cons_succ]
          refine wpAnyH_ready (rs := [5]) (by kernel_rfl) (by simp) ?_
          refine AllReadyH.cons rfl (fun K hK => ?_) AllReadyH.nil
          go_simp
          go_at_call 133
          refine (HN.out _ (by exact hHeld0.2.2.2)).mono ?_
          rintro e w7 ⟨rfl, hb7⟩
          go_wp2_with fail
          refine hK.out _ _ (by exact ⟨HcX.out _ (by assumption), HcT.out _ (by assumption), HcM.out _ (by assumption), by assumption⟩) (fun hHeld => ?_)
          clear hK K
          try simp only [Act.put, List.setIfInBounds_toArray, List.set_cons_zero, List.set_cons_succ]
          clear hHeld0
          have hHeld0 := hHeld
          clear hHeld
          refine anyTake 6 (some 22) (.int .i64 ((n : Int) - 1)) rfl rfl (by kernel_rfl) (by kernel_rfl) (by kernel_rfl) (fun _ _ _ h => h) (by rfl) (by intro w hSw; (try dsimp only at hSw); go_simp) (by assumption) ?_
          try simp only [Act.put, List.setIfInBounds_toArray, List.set_cons_zero, List.set_cons_succ]
          refine wpAnyH_ready (rs := [7]) (by kernel_rfl) (by simp) ?_
          refine AllReadyH.cons rfl (fun K hK => ?_) AllReadyH.nil
          go_simp
          go_at_call 136
          refine (inAny _ _ _ _ true hbv).mono ?_
          rintro e w8 ⟨rfl, rfl⟩
          go_wp2_with fail
          refine hK.out _ _ (by exact ⟨HcX.out _ (by assumption), HcT.out _ (by assumption), HcM.out _ (by assumption), by assumption⟩) (fun hHeld => ?_)
          clear hK K
          try simp only [Act.put, List.setIfInBounds_toArray, List.set_cons_zero, List.set_cons_succ]
          clear hHeld0
          have hHeld0 := hHeld
          clear hHeld
          refine anyTake 8 (some 24) (.bool false) rfl rfl (by kernel_rfl) (by kernel_rfl) (by kernel_rfl) (fun _ _ _ h => h) (by rfl) (by intro w hSw; (try dsimp only at hSw); go_simp) (by assumption) ?_
          try simp only [Act.put, List.setIfInBounds_toArray, List.set_cons_zero, List.set_cons_succ]
          refine anyTake 9 (some 25) (.bool false) rfl rfl (by kernel_rfl) (by kernel_rfl) (by kernel_rfl) (fun _ _ _ h => h) (by rfl) (by intro w hSw; (try dsimp only at hSw); go_simp) (by assumption) ?_
          try simp only [Act.put, List.setIfInBounds_toArray, List.set_cons_zero, List.set_cons_succ]
          refine anyTake 10 (some 26) (.slice (some ⟨g, 0, none⟩) n n) rfl rfl (by kernel_rfl) (by kernel_rfl) (by kernel_rfl) (fun _ _ _ h => h) (by rfl) (by intro w hSw; (try dsimp only at hSw); go_simp) (by assumption) ?_
          try simp only [Act.put, List.setIfInBounds_toArray, List.set_cons_zero, List.set_cons_succ]
          refine anyTake 11 (some 27) (.slice (some ⟨b, off, none⟩) L c2) rfl rfl (by kernel_rfl) (by kernel_rfl) (by kernel_rfl) (fun _ _ _ h => h) (by rfl) (by intro w hSw; (try dsimp only at hSw); go_simp) (by assumption) ?_
          try simp only [Act.put, List.setIfInBounds_toArray, List.set_cons_zero, List.set_cons_succ]
          refine anyTake 12 (some 28) (.int .i64 ((k : Nat) : Int)) rfl rfl (by kernel_rfl) (by kernel_rfl) (by kernel_rfl) (fun _ _ _ h => h) (by rfl) (by intro w hSw; (try dsimp only at hSw); go_simp) (by assumption) ?_
          try simp only [Act.put, List.setIfInBounds_toArray, List.set_cons_zero, List.set_cons_succ]
          refine anyTake 13 (some 29) (.pointer (some ⟨b, off + k, none⟩)) rfl rfl (by kernel_rfl) (by kernel_rfl) (by kernel_rfl) (fun _ _ _ h => h) (by rfl) (by intro w hSw; (try dsimp only at hSw); go_simp) (by assumption) ?_
          try simp only [Act.put, List.setIfInBounds_toArray, List.set_cons_zero, List.set_cons_succ]
          refine anyTake 14 (some 30) (.int .i64 (v : Int)) rfl rfl (by kernel_rfl) (by kernel_rfl) (by kernel_rfl) (fun _ _ _ h => h) (by rfl) (by intro w hSw; (try dsimp only at hSw); go_simp) (by assumption) ?_
          try simp only [Act.put, List.setIfInBounds_toArray, List.set_cons_zero, List.set_cons_succ]
          refine anyTake 15 (some 31) (.pointer (some ⟨g, v, none⟩)) rfl rfl (by kernel_rfl) (by kernel_rfl) (by kernel_rfl) (fun _ _ _ h => h) (by rfl) (by intro w hSw; (try dsimp only at hSw); go_simp) (by assumption) ?_
          try simp only [Act.put, List.setIfInBounds_toArray, List.set_cons_zero, List.set_cons_succ]
          refine anyTake 16 (some 32) (.bool true) rfl rfl (by kernel_rfl) (by kernel_rfl) (by kernel_rfl) (fun _ _ _ h => h) (by rfl) (by intro w hSw; (try dsimp only at hSw); go_simp) (by assumption) ?_
          try simp only [Act.put, List.setIfInBounds_toArray, List.set_cons_zero, List.set_cons_succ]
          refine anyTake 17 (some 33) (.bool true) rfl rfl (by kernel_rfl) (by kernel_rfl) (by kernel_rfl) (fun _ _ _ h => h) (by rfl) (by intro w hSw; (try dsimp only at hSw); go_simp) (by assumption) ?_
          try simp only [Act.put, List.setIfInBounds_toArray, List.set_cons_zero, List.set_cons_succ]
          refine wpAnyH_done (by kernel_rfl) ?_ _
          have hB7 := Lib.hid (btr hbr.out hb7.out)
          go_wp2
          go_ret
          exact ⟨rfl, hB7.out⟩
    · obtain rfl : k = L := by omega
      have hge : ¬ (k : Int) < (k : Int) := by omega
      have hE := M.isOrd_end (n := n) (l := l) (by rw [hL.out]; exact hT.out)
      rw [hR.out, hL.out] at hE
      have cT3 := hcT.out
      clear hT hm
      have HE : Hid (R = decide (k = n)) := hE
      clear hE
      go_wp2_with fail
      refine (l01N A n c _).mono ?_
      rintro e w7 ⟨rfl, hb7⟩
      have hB7 := Lib.hid (btr hbr.out hb7)
      by_cases e : k = n
      · have hb : ((k : Int) == (n : Int)) = true := by simp [e]
        have hR1 : R = true := by rw [HE.out, decide_eq_true e]
        subst hR1
        clear e HE
        go_wp2
        go_ret
        exact ⟨rfl, hB7.out⟩
      · have hb : ((k : Int) == (n : Int)) = false := by simp; omega
        have hR1 : R = false := by rw [HE.out, decide_eq_false e]
        subst hR1
        clear e HE
        go_wp2
        go_ret
        exact ⟨rfl, hB7.out⟩
end Go.Proofs.Ytbdmmeoelagdcaa
