/- The walk of the law FnExactCriticalPlaces, from the contracts of the program's function and of the model's: it returns true, and writes into nothing that was there. -/
import Derived.Test.YtbdmmeoelagdcaaTree
import Derived.Test.YtbdmmeoelagdcaaRuleArg
import Derived.Test.YtbdmmeoelagdcaaFnCriticalPlaces
import Derived.Deep.RegionHeld3
namespace Go.Proofs.Ytbdmmeoelagdcaa
open Go.RowKit

theorem takeC {P : Program} {ops : Array Oper} {Q : Exit → Act → World → Prop} {md : Region.Mode} {S : World → Prop} {oi : Oper} {fuel : Nat} {listed : Array Bool} {a : Act} {w : World} (i : Nat) (d : Option Tmp) (v : Value) (hi : ops[i]? = some oi) (hd : oi.dst = d)
    (hs : Region.noSelect ops = true) (hf : Region.free md ops listed i = true) (hr : (Region.ready md ops listed).contains i = true)
    (hQ : ∀ c a w, Q (.panic c) (a.put d v) w → Q (.panic c) a w) (hw : Region.wanted oi (yielded ops a.tmps) = true) (hy : ∀ w, S w → (execOp a.eval oi).run P w = .ok (.value v) w) (hS : S w)
    (h : wpAnyH P md ops Q S fuel (listed.setIfInBounds i true) (a.put d v) w) : wpAnyH P md ops Q S (fuel + 1) listed a w := by
  subst hd; exact wpAnyH_take hi hs hf hr hQ (.inl ⟨hw, hy⟩) hS h


set_option maxHeartbeats 8000000 in
set_option maxRecDepth 100000 in
theorem lawCriticalPlaces (F : ByteArray → ByteArray → ByteArray → ByteArray → List Int × Int) (hS0 : Hid (GivesRR 58 F)) (hI0 : Hid (GivesRR 59 F)) (hF : ∀ l r m s, (F l r m s).1.length ≤ 1048576)
    (l r m s : ByteArray) (w : World) (hl : l.size ≤ 9223372036854775807) (hr : r.size ≤ 9223372036854775807) (hm : m.size ≤ 9223372036854775807) (hs : s.size ≤ 9223372036854775807) :
    Calls Try.prog 15 #[.agg #[.string l, .string r], .agg #[.string m, .string s]] w fun e w' => e = .returned (.bool true) ∧ Below w.heap.size w w' := by
  obtain ⟨d0, d1⟩ := lrule_cells w l r
  obtain ⟨f0, f1⟩ := lrule_cells (w.alloc (.cells #[.string l, .string r] 59)) m s
  rw [World.size_alloc] at f0 f1
  obtain ⟨W, hW⟩ : ∃ W, W = (w.alloc (.cells #[.string l, .string r] 59)).alloc (.cells #[.string m, .string s] 59) := ⟨_, rfl⟩
  have a0 : W.cell? ⟨w.heap.size, 0, none⟩ = some (.string l) := by rw [hW]; exact (World.cell?_alloc_lt _ _ _ (World.block_lt_of_cell? _ _ d0)).trans d0
  have a1 : W.cell? ⟨w.heap.size, 1, none⟩ = some (.string r) := by rw [hW]; exact (World.cell?_alloc_lt _ _ _ (World.block_lt_of_cell? _ _ d1)).trans d1
  rw [← hW] at f0 f1
  have hB0 : Hid (Below w.heap.size w W) := by rw [hW]; exact bal (bal (b0 w) _) _
  obtain ⟨z, hz⟩ : ∃ z, Hid (M.szR l.size r.size 1048576 = z) := ⟨_, rfl⟩
  have hZ := Lib.hid (szRule l r 1048576 W hl hr (by omega) (by omega) z hz)
  clear d0 d1
  by_cases h : z < 0
  · clear hS0 hI0 hF
    go_enter Try.func15, Try.ntmps15
    go_wp2_with fail
    rw [← hW]
    clear hW
    refine hZ.out.mono ?_
    rintro e w1 ⟨rfl, hb1⟩
    have hB1 := Lib.hid (btr hB0.out hb1)
    go_wp2
    go_ret
    exact ⟨rfl, hB1.out⟩
  · have hsz : l.size ≤ 1048576 ∧ r.size ≤ 1048576 ∧ z ≤ 1048576 := by
      have := hz.out
      rw [M.szR] at this
      split at this
      · omega
      · split at this <;> omega
    have hz0 : 0 ≤ z := by omega
    obtain ⟨y, hy⟩ : ∃ y, Hid (M.szR m.size s.size z = y) := ⟨_, rfl⟩
    have hY := fun X => Lib.hid (szRule m s z X hm hs hz0 hsz.2.2 y hy)
    by_cases h2 : y < 0
    · clear hS0 hI0 hF hz hy hsz
      go_enter Try.func15, Try.ntmps15
      go_wp2_with fail
      rw [← hW]
      clear hW
      refine hZ.out.mono ?_
      rintro e w1 ⟨rfl, hb1⟩
      have hB1 := Lib.hid (btr hB0.out hb1)
      have g0 := cellR_be f0 hb1
      have g1 := cellR_be f1 hb1
      go_wp2_with fail
      refine (hY _).out.mono ?_
      rintro e w2 ⟨rfl, hb2⟩
      have hB2 := Lib.hid (btr hB1.out hb2)
      go_wp2
      go_ret
      exact ⟨rfl, hB2.out⟩
    · have hsz2 : m.size ≤ 1048576 ∧ s.size ≤ 1048576 := by
        have := hy.out
        rw [M.szR] at this
        split at this
        · omega
        · split at this <;> omega
      have hf := hF l r m s
      have hTl : Hid (∀ V X, Hid (Below V.heap.size V X) → Calls Try.prog 51 #[.agg #[.string l, .string r]] X fun e w' => e = .returned (.agg #[.string l, .string r]) ∧ Hid (Below V.heap.size V w')) := fun V X hX => (toRule l r X).mono fun e w' ⟨he, hb⟩ => ⟨he, btr hX.out hb⟩
      have hTm : Hid (∀ V X, Hid (Below V.heap.size V X) → Calls Try.prog 51 #[.agg #[.string m, .string s]] X fun e w' => e = .returned (.agg #[.string m, .string s]) ∧ Hid (Below V.heap.size V w')) := fun V X hX => (toRule m s X).mono fun e w' ⟨he, hb⟩ => ⟨he, btr hX.out hb⟩
      have hS : Hid (∀ V X, Hid (Below V.heap.size V X) → Calls Try.prog 58 #[.agg #[.string l, .string r], .agg #[.string m, .string s]] X fun e w' => ∃ A' c', e = .returned (.tuple #[.slice A' (F l r m s).1.length c', .int .i64 (F l r m s).2]) ∧ Hid (Own64 w' V.heap.size (.slice A' (F l r m s).1.length c') (F l r m s).1) ∧ Hid (Below V.heap.size V w')) := fun V X hX =>
        (hS0.out l r m s X hsz.1 hsz.2.1 hsz2.1 hsz2.2).mono fun e w' ⟨A', c', he, ho, hb⟩ => ⟨A', c', he, own_mono ho hX.out.size, btr hX.out hb⟩
      have hI : Hid (∀ V X, Hid (Below V.heap.size V X) → Calls Try.prog 59 #[.agg #[.string l, .string r], .agg #[.string m, .string s]] X fun e w' => ∃ A' c', e = .returned (.tuple #[.slice A' (F l r m s).1.length c', .int .i64 (F l r m s).2]) ∧ Hid (Own64 w' V.heap.size (.slice A' (F l r m s).1.length c') (F l r m s).1) ∧ Hid (Below V.heap.size V w')) := fun V X hX =>
        (hI0.out l r m s X hsz.1 hsz.2.1 hsz2.1 hsz2.2).mono fun e w' ⟨A', c', he, ho, hb⟩ => ⟨A', c', he, own_mono ho hX.out.size, btr hX.out hb⟩
      clear hS0 hI0 hF hz hy hsz hsz2
      generalize F l r m s = R at *
      obtain ⟨R1, R2⟩ := R
      simp only at hS hI hf
      go_enter Try.func15, Try.ntmps15
      go_wp2_with fail
      rw [← hW]
      clear hW
      refine hZ.out.mono ?_
      rintro e w1 ⟨rfl, hb1⟩
      have hB1 := Lib.hid (btr hB0.out hb1)
      have a0' := cellR_be a0 hb1
      have a1' := cellR_be a1 hb1
      have g0 := cellR_be f0 hb1
      have g1 := cellR_be f1 hb1
      go_wp2_with fail
      refine (hY _).out.mono ?_
      rintro e w2 ⟨rfl, hb2⟩
      have hB2 := Lib.hid (btr hB1.out hb2)
      have Cw2 : Hid ((w2.cell? ⟨w.heap.size, 0, none⟩ = some (.string l) ∧ w2.cell? ⟨w.heap.size, 1, none⟩ = some (.string r)) ∧ (w2.cell? ⟨w.heap.size + 1, 0, none⟩ = some (.string m) ∧ w2.cell? ⟨w.heap.size + 1, 1, none⟩ = some (.string s))) := ⟨⟨cellR_be a0' hb2, cellR_be a1' hb2⟩, ⟨cellR_be g0 hb2, cellR_be g1 hb2⟩⟩
      have hcb : Hid (∀ V X : World, Hid (Below V.heap.size V X) → ((V.cell? ⟨w.heap.size, 0, none⟩ = some (.string l) ∧ V.cell? ⟨w.heap.size, 1, none⟩ = some (.string r)) ∧ (V.cell? ⟨w.heap.size + 1, 0, none⟩ = some (.string m) ∧ V.cell? ⟨w.heap.size + 1, 1, none⟩ = some (.string s))) → ((X.cell? ⟨w.heap.size, 0, none⟩ = some (.string l) ∧ X.cell? ⟨w.heap.size, 1, none⟩ = some (.string r)) ∧ (X.cell? ⟨w.heap.size + 1, 0, none⟩ = some (.string m) ∧ X.cell? ⟨w.heap.size + 1, 1, none⟩ = some (.string s)))) := fun V X hX hc => ⟨⟨cellR_be hc.1.1 hX.out, cellR_be hc.1.2 hX.out⟩, ⟨cellR_be hc.2.1 hX.out, cellR_be hc.2.2 hX.out⟩⟩
      clear hb1 hb2 a0 a1 f0 f1 a0' a1' g0 g1
      go_wp2
      have K0w2 : Hid (Below w2.heap.size w2 w2.drew) := (Below.refl _ _).drew
      have E0w2 := hcb.out w2 w2.drew K0w2 Cw2.out
      refine wp_region_held_drew (S := (fun X => ((X.cell? ⟨w.heap.size, 0, none⟩ = some (.string l) ∧ X.cell? ⟨w.heap.size, 1, none⟩ = some (.string r)) ∧ (X.cell? ⟨w.heap.size + 1, 0, none⟩ = some (.string m) ∧ X.cell? ⟨w.heap.size + 1, 1, none⟩ = some (.string s))) ∧ Hid (Below w2.heap.size w2 X))) (by kernel_rfl) (by exact ⟨E0w2, K0w2⟩) (fun hHeld0 => ?_)
      refine takeC 0 (some 25) (.agg #[.string l, .string r]) rfl rfl (by kernel_rfl) (by kernel_rfl) (by kernel_rfl) (fun _ _ _ h => h) (by rfl) (by intro w hSw; (try dsimp only at hSw); go_simp) (by assumption) ?_
      try simp only [Act.put, List.setIfInBounds_toArray, List.set_cons_zero, List.set_cons_succ]
      refine takeC 2 (some 27) (.agg #[.string m, .string s]) rfl rfl (by kernel_rfl) (by kernel_rfl) (by kernel_rfl) (fun _ _ _ h => h) (by rfl) (by intro w hSw; (try dsimp only at hSw); go_simp) (by assumption) ?_
      try simp only [Act.put, List.setIfInBounds_toArray, List.set_cons_zero, List.set_cons_succ]
      refine wpAnyH_ready (rs := [1]) (by kernel_rfl) (by simp) ?_
      refine AllReadyH.cons rfl (fun K hK => ?_) AllReadyH.nil
      go_simp
      go_at_call 51
      refine (hTl.out w2 _ K0w2).mono ?_
      rintro e w7 ⟨rfl, hb7w2⟩
      go_wp2_with fail
      refine hK.out _ _ (by exact ⟨hcb.out w2 _ hb7w2 Cw2.out, hb7w2⟩) (fun hHeld1 => ?_)
      clear hK K hHeld0
      have hHeld0 := hHeld1
      clear hHeld1
      try simp only [Act.put, List.setIfInBounds_toArray, List.set_cons_zero, List.set_cons_succ]
      refine wpAnyH_ready (rs := [3]) (by kernel_rfl) (by simp) ?_
      refine AllReadyH.cons rfl (fun K hK => ?_) AllReadyH.nil
      go_simp
      go_at_call 51
      refine (hTm.out w2 _ hb7w2).mono ?_
      rintro e w8 ⟨rfl, hb8w2⟩
      go_wp2_with fail
      refine hK.out _ _ (by exact ⟨hcb.out w2 _ hb8w2 Cw2.out, hb8w2⟩) (fun hHeld1 => ?_)
      clear hK K hHeld0
      have hHeld0 := hHeld1
      clear hHeld1
      try simp only [Act.put, List.setIfInBounds_toArray, List.set_cons_zero, List.set_cons_succ]
      refine wpAnyH_ready (rs := [4]) (by kernel_rfl) (by simp) ?_
      refine AllReadyH.cons rfl (fun K hK => ?_) AllReadyH.nil
      go_simp
      go_at_call 58
      refine (hS.out w2 _ hb8w2).mono ?_
      rintro e w3 ⟨Aw, cw, rfl, ow, hb3⟩
      go_wp2_with fail
      refine hK.out _ _ (by exact ⟨hcb.out w2 _ hb3 Cw2.out, hb3⟩) (fun hHeld1 => ?_)
      clear hK K hHeld0
      have hHeld0 := hHeld1
      clear hHeld1
      try simp only [Act.put, List.setIfInBounds_toArray, List.set_cons_zero, List.set_cons_succ]
      refine takeC 5 (some 24) (.tuple #[.slice Aw R1.length cw, .int .i64 R2]) rfl rfl (by kernel_rfl) (by kernel_rfl) (by kernel_rfl) (fun _ _ _ h => h) (by rfl) (by intro w hSw; (try dsimp only at hSw); go_simp) (by assumption) ?_
      try simp only [Act.put, List.setIfInBounds_toArray, List.set_cons_zero, List.set_cons_succ]
      refine takeC 6 (some 30) (.slice Aw R1.length cw) rfl rfl (by kernel_rfl) (by kernel_rfl) (by kernel_rfl) (fun _ _ _ h => h) (by rfl) (by intro w hSw; (try dsimp only at hSw); go_simp) (by assumption) ?_
      try simp only [Act.put, List.setIfInBounds_toArray, List.set_cons_zero, List.set_cons_succ]
      refine takeC 7 (some 31) (.int .i64 R2) rfl rfl (by kernel_rfl) (by kernel_rfl) (by kernel_rfl) (fun _ _ _ h => h) (by rfl) (by intro w hSw; (try dsimp only at hSw); go_simp) (by assumption) ?_
      try simp only [Act.put, List.setIfInBounds_toArray, List.set_cons_zero, List.set_cons_succ]
      refine takeC 8 (some 6) (.slice Aw R1.length cw) rfl rfl (by kernel_rfl) (by kernel_rfl) (by kernel_rfl) (fun _ _ _ h => h) (by rfl) (by intro w hSw; (try dsimp only at hSw); go_simp) (by assumption) ?_
      try simp only [Act.put, List.setIfInBounds_toArray, List.set_cons_zero, List.set_cons_succ]
      refine takeC 9 (some 7) (.int .i64 R2) rfl rfl (by kernel_rfl) (by kernel_rfl) (by kernel_rfl) (fun _ _ _ h => h) (by rfl) (by intro w hSw; (try dsimp only at hSw); go_simp) (by assumption) ?_
      try simp only [Act.put, List.setIfInBounds_toArray, List.set_cons_zero, List.set_cons_succ]
      refine wpAnyH_done (by kernel_rfl) ?_ _
      clear hHeld0 E0w2 K0w2 hb7w2 hb8w2
      have hB3 := Lib.hid (btr hB2.out hb3.out)
      have Cw3 : Hid ((w3.cell? ⟨w.heap.size, 0, none⟩ = some (.string l) ∧ w3.cell? ⟨w.heap.size, 1, none⟩ = some (.string r)) ∧ (w3.cell? ⟨w.heap.size + 1, 0, none⟩ = some (.string m) ∧ w3.cell? ⟨w.heap.size + 1, 1, none⟩ = some (.string s))) := hcb.out w2 _ hb3 Cw2.out
      have Bw := Lib.hid (World.ownsRow.lt ow.out)
      clear hb3
      go_wp2
      have K0w3 : Hid (Below w3.heap.size w3 w3.drew) := (Below.refl _ _).drew
      have E0w3 := hcb.out w3 w3.drew K0w3 Cw3.out
      refine wp_region_held_drew (S := (fun X => ((X.cell? ⟨w.heap.size, 0, none⟩ = some (.string l) ∧ X.cell? ⟨w.heap.size, 1, none⟩ = some (.string r)) ∧ (X.cell? ⟨w.heap.size + 1, 0, none⟩ = some (.string m) ∧ X.cell? ⟨w.heap.size + 1, 1, none⟩ = some (.string s))) ∧ Hid (Below w3.heap.size w3 X))) (by kernel_rfl) (by exact ⟨E0w3, K0w3⟩) (fun hHeld0 => ?_)
      refine takeC 0 (some 33) (.agg #[.string l, .string r]) rfl rfl (by kernel_rfl) (by kernel_rfl) (by kernel_rfl) (fun _ _ _ h => h) (by rfl) (by intro w hSw; (try dsimp only at hSw); go_simp) (by assumption) ?_
      try simp only [Act.put, List.setIfInBounds_toArray, List.set_cons_zero, List.set_cons_succ]
      refine takeC 2 (some 35) (.agg #[.string m, .string s]) rfl rfl (by kernel_rfl) (by kernel_rfl) (by kernel_rfl) (fun _ _ _ h => h) (by rfl) (by intro w hSw; (try dsimp only at hSw); go_simp) (by assumption) ?_
      try simp only [Act.put, List.setIfInBounds_toArray, List.set_cons_zero, List.set_cons_succ]
      refine wpAnyH_ready (rs := [1]) (by kernel_rfl) (by simp) ?_
      refine AllReadyH.cons rfl (fun K hK => ?_) AllReadyH.nil
      go_simp
      go_at_call 51
      refine (hTl.out w3 _ K0w3).mono ?_
      rintro e w7 ⟨rfl, hb7w3⟩
      go_wp2_with fail
      refine hK.out _ _ (by exact ⟨hcb.out w3 _ hb7w3 Cw3.out, hb7w3⟩) (fun hHeld1 => ?_)
      clear hK K hHeld0
      have hHeld0 := hHeld1
      clear hHeld1
      try simp only [Act.put, List.setIfInBounds_toArray, List.set_cons_zero, List.set_cons_succ]
      refine wpAnyH_ready (rs := [3]) (by kernel_rfl) (by simp) ?_
      refine AllReadyH.cons rfl (fun K hK => ?_) AllReadyH.nil
      go_simp
      go_at_call 51
      refine (hTm.out w3 _ hb7w3).mono ?_
      rintro e w8 ⟨rfl, hb8w3⟩
      go_wp2_with fail
      refine hK.out _ _ (by exact ⟨hcb.out w3 _ hb8w3 Cw3.out, hb8w3⟩) (fun hHeld1 => ?_)
      clear hK K hHeld0
      have hHeld0 := hHeld1
      clear hHeld1
      try simp only [Act.put, List.setIfInBounds_toArray, List.set_cons_zero, List.set_cons_succ]
      refine wpAnyH_ready (rs := [4]) (by kernel_rfl) (by simp) ?_
      refine AllReadyH.cons rfl (fun K hK => ?_) AllReadyH.nil
      go_simp
      go_at_call 59
      refine (hI.out w3 _ hb8w3).mono ?_
      rintro e w4 ⟨Ag, cg, rfl, og, hb4⟩
      go_wp2_with fail
      refine hK.out _ _ (by exact ⟨hcb.out w3 _ hb4 Cw3.out, hb4⟩) (fun hHeld1 => ?_)
      clear hK K hHeld0
      have hHeld0 := hHeld1
      clear hHeld1
      try simp only [Act.put, List.setIfInBounds_toArray, List.set_cons_zero, List.set_cons_succ]
      refine takeC 5 (some 32) (.tuple #[.slice Ag R1.length cg, .int .i64 R2]) rfl rfl (by kernel_rfl) (by kernel_rfl) (by kernel_rfl) (fun _ _ _ h => h) (by rfl) (by intro w hSw; (try dsimp only at hSw); go_simp) (by assumption) ?_
      try simp only [Act.put, List.setIfInBounds_toArray, List.set_cons_zero, List.set_cons_succ]
      refine takeC 6 (some 38) (.slice Ag R1.length cg) rfl rfl (by kernel_rfl) (by kernel_rfl) (by kernel_rfl) (fun _ _ _ h => h) (by rfl) (by intro w hSw; (try dsimp only at hSw); go_simp) (by assumption) ?_
      try simp only [Act.put, List.setIfInBounds_toArray, List.set_cons_zero, List.set_cons_succ]
      refine takeC 7 (some 39) (.int .i64 R2) rfl rfl (by kernel_rfl) (by kernel_rfl) (by kernel_rfl) (fun _ _ _ h => h) (by rfl) (by intro w hSw; (try dsimp only at hSw); go_simp) (by assumption) ?_
      try simp only [Act.put, List.setIfInBounds_toArray, List.set_cons_zero, List.set_cons_succ]
      refine takeC 8 (some 8) (.slice Ag R1.length cg) rfl rfl (by kernel_rfl) (by kernel_rfl) (by kernel_rfl) (fun _ _ _ h => h) (by rfl) (by intro w hSw; (try dsimp only at hSw); go_simp) (by assumption) ?_
      try simp only [Act.put, List.setIfInBounds_toArray, List.set_cons_zero, List.set_cons_succ]
      refine takeC 9 (some 9) (.int .i64 R2) rfl rfl (by kernel_rfl) (by kernel_rfl) (by kernel_rfl) (fun _ _ _ h => h) (by rfl) (by intro w hSw; (try dsimp only at hSw); go_simp) (by assumption) ?_
      try simp only [Act.put, List.setIfInBounds_toArray, List.set_cons_zero, List.set_cons_succ]
      refine wpAnyH_done (by kernel_rfl) ?_ _
      clear hHeld0 E0w3 K0w3 hb7w3 hb8w3
      have hB4 := Lib.hid (btr hB3.out hb4.out)
      have Cw4 : Hid ((w4.cell? ⟨w.heap.size, 0, none⟩ = some (.string l) ∧ w4.cell? ⟨w.heap.size, 1, none⟩ = some (.string r)) ∧ (w4.cell? ⟨w.heap.size + 1, 0, none⟩ = some (.string m) ∧ w4.cell? ⟨w.heap.size + 1, 1, none⟩ = some (.string s))) := hcb.out w3 _ hb4 Cw3.out
      have Ow := Lib.hid (own_be ow.out hb4.out)
      have Bg := Lib.hid (World.ownsRow.lt og.out)
      clear hb4 ow
      go_wp2_with fail
      refine (eqIntsT _ _ _ _ _ _ (by omega) (ints_of_own64 og.out) (ints_of_own64 Ow.out)).mono ?_
      rintro e w5 ⟨rfl, hb5⟩
      have hB5 := Lib.hid (btr hB4.out hb5)
      have Cw5 := Lib.hid (hcb.out w4 _ (Lib.hid hb5) Cw4.out)
      have Ow5 := Lib.hid (own_be Ow.out hb5)
      have Og5 := Lib.hid (own_be og.out hb5)
      have hz3 := hB3.out.size
      clear hb5 Ow og
      go_wp2_with fail
      refine (markInts _ _ cg R1 1 _ _ rfl (by omega) (by omega) (by omega) Og5.out).mono ?_
      rintro e w6 ⟨rfl, og6, hg⟩
      have hB6 := Lib.hid (below_grown hB5.out hg (fun k e => by have := Bg.out k e; omega))
      have Cw6 : Hid ((w6.cell? ⟨w.heap.size, 0, none⟩ = some (.string l) ∧ w6.cell? ⟨w.heap.size, 1, none⟩ = some (.string r)) ∧ (w6.cell? ⟨w.heap.size + 1, 0, none⟩ = some (.string m) ∧ w6.cell? ⟨w.heap.size + 1, 1, none⟩ = some (.string s))) := by
        have hw3 := World.block_lt_of_cell? _ _ Cw3.out.2.1
        have hne : ∀ g : Nat, g < w3.heap.size → some g ≠ (Value.slice Ag R1.length cg).ownBlock := fun g hgl e => by have := Bg.out g e.symm; omega
        have h0 : w.heap.size < w3.heap.size := World.block_lt_of_cell? _ _ Cw3.out.1.1
        have h1 : w.heap.size + 1 < w3.heap.size := World.block_lt_of_cell? _ _ Cw3.out.2.1
        exact ⟨⟨hg.cell Cw5.out.1.1 (hne _ h0), hg.cell Cw5.out.1.2 (hne _ h0)⟩, ⟨hg.cell Cw5.out.2.1 (hne _ h1), hg.cell Cw5.out.2.2 (hne _ h1)⟩⟩
      have Ow6 := Lib.hid (Ow5.out.kept hg (by
        cases hv : (Value.slice Aw R1.length cw).ownBlock with
        | none => exact .inl rfl
        | some k => exact .inr fun e => by have h1 := Bw.out k hv; have h2 := Bg.out k e.symm; omega))
      have Og6 := Lib.hid (own_mono (base' := 0) og6 (Nat.zero_le _))
      clear hg og6 Bg Og5 Ow5 Cw5
      go_wp2_with fail
      refine (heldInts _ _ cg 1 _ (by omega) (by omega) (by omega) (ints_of_own64 Og6.out)).mono ?_
      rintro e w' ⟨rfl, rfl⟩
      go_wp2
      have K0w6 : Hid (Below w6.heap.size w6 w6.drew) := (Below.refl _ _).drew
      have E0w6 := hcb.out w6 w6.drew K0w6 Cw6.out
      refine wp_region_held_drew (S := (fun X => ((X.cell? ⟨w.heap.size, 0, none⟩ = some (.string l) ∧ X.cell? ⟨w.heap.size, 1, none⟩ = some (.string r)) ∧ (X.cell? ⟨w.heap.size + 1, 0, none⟩ = some (.string m) ∧ X.cell? ⟨w.heap.size + 1, 1, none⟩ = some (.string s))) ∧ Hid (Below w6.heap.size w6 X))) (by kernel_rfl) (by exact ⟨E0w6, K0w6⟩) (fun hHeld0 => ?_)
      refine takeC 0 (some 61) (.agg #[.string l, .string r]) rfl rfl (by kernel_rfl) (by kernel_rfl) (by kernel_rfl) (fun _ _ _ h => h) (by rfl) (by intro w hSw; (try dsimp only at hSw); go_simp) (by assumption) ?_
      try simp only [Act.put, List.setIfInBounds_toArray, List.set_cons_zero, List.set_cons_succ]
      refine takeC 2 (some 63) (.agg #[.string m, .string s]) rfl rfl (by kernel_rfl) (by kernel_rfl) (by kernel_rfl) (fun _ _ _ h => h) (by rfl) (by intro w hSw; (try dsimp only at hSw); go_simp) (by assumption) ?_
      try simp only [Act.put, List.setIfInBounds_toArray, List.set_cons_zero, List.set_cons_succ]
      refine wpAnyH_ready (rs := [1]) (by kernel_rfl) (by simp) ?_
      refine AllReadyH.cons rfl (fun K hK => ?_) AllReadyH.nil
      go_simp
      go_at_call 51
      refine (hTl.out w6 _ K0w6).mono ?_
      rintro e w7 ⟨rfl, hb7w6⟩
      go_wp2_with fail
      refine hK.out _ _ (by exact ⟨hcb.out w6 _ hb7w6 Cw6.out, hb7w6⟩) (fun hHeld1 => ?_)
      clear hK K hHeld0
      have hHeld0 := hHeld1
      clear hHeld1
      try simp only [Act.put, List.setIfInBounds_toArray, List.set_cons_zero, List.set_cons_succ]
      refine wpAnyH_ready (rs := [3]) (by kernel_rfl) (by simp) ?_
      refine AllReadyH.cons rfl (fun K hK => ?_) AllReadyH.nil
      go_simp
      go_at_call 51
      refine (hTm.out w6 _ hb7w6).mono ?_
      rintro e w8 ⟨rfl, hb8w6⟩
      go_wp2_with fail
      refine hK.out _ _ (by exact ⟨hcb.out w6 _ hb8w6 Cw6.out, hb8w6⟩) (fun hHeld1 => ?_)
      clear hK K hHeld0
      have hHeld0 := hHeld1
      clear hHeld1
      try simp only [Act.put, List.setIfInBounds_toArray, List.set_cons_zero, List.set_cons_succ]
      refine wpAnyH_ready (rs := [4]) (by kernel_rfl) (by simp) ?_
      refine AllReadyH.cons rfl (fun K hK => ?_) AllReadyH.nil
      go_simp
      go_at_call 59
      refine (hI.out w6 _ hb8w6).mono ?_
      rintro e w7h ⟨Ah, ch, rfl, oh, hb7⟩
      go_wp2_with fail
      refine hK.out _ _ (by exact ⟨hcb.out w6 _ hb7 Cw6.out, hb7⟩) (fun hHeld1 => ?_)
      clear hK K hHeld0
      have hHeld0 := hHeld1
      clear hHeld1
      try simp only [Act.put, List.setIfInBounds_toArray, List.set_cons_zero, List.set_cons_succ]
      refine takeC 5 (some 60) (.tuple #[.slice Ah R1.length ch, .int .i64 R2]) rfl rfl (by kernel_rfl) (by kernel_rfl) (by kernel_rfl) (fun _ _ _ h => h) (by rfl) (by intro w hSw; (try dsimp only at hSw); go_simp) (by assumption) ?_
      try simp only [Act.put, List.setIfInBounds_toArray, List.set_cons_zero, List.set_cons_succ]
      refine takeC 6 (some 66) (.slice Ah R1.length ch) rfl rfl (by kernel_rfl) (by kernel_rfl) (by kernel_rfl) (fun _ _ _ h => h) (by rfl) (by intro w hSw; (try dsimp only at hSw); go_simp) (by assumption) ?_
      try simp only [Act.put, List.setIfInBounds_toArray, List.set_cons_zero, List.set_cons_succ]
      refine takeC 7 (some 67) (.int .i64 R2) rfl rfl (by kernel_rfl) (by kernel_rfl) (by kernel_rfl) (fun _ _ _ h => h) (by rfl) (by intro w hSw; (try dsimp only at hSw); go_simp) (by assumption) ?_
      try simp only [Act.put, List.setIfInBounds_toArray, List.set_cons_zero, List.set_cons_succ]
      refine takeC 8 (some 12) (.slice Ah R1.length ch) rfl rfl (by kernel_rfl) (by kernel_rfl) (by kernel_rfl) (fun _ _ _ h => h) (by rfl) (by intro w hSw; (try dsimp only at hSw); go_simp) (by assumption) ?_
      try simp only [Act.put, List.setIfInBounds_toArray, List.set_cons_zero, List.set_cons_succ]
      refine takeC 9 (some 13) (.int .i64 R2) rfl rfl (by kernel_rfl) (by kernel_rfl) (by kernel_rfl) (fun _ _ _ h => h) (by rfl) (by intro w hSw; (try dsimp only at hSw); go_simp) (by assumption) ?_
      try simp only [Act.put, List.setIfInBounds_toArray, List.set_cons_zero, List.set_cons_succ]
      refine wpAnyH_done (by kernel_rfl) ?_ _
      clear hHeld0 E0w6 K0w6 hb7w6 hb8w6
      have hB7 := Lib.hid (btr hB6.out hb7.out)
      have Ow7 := Lib.hid (own_be Ow6.out hb7.out)
      have Og7 := Lib.hid (own_be Og6.out hb7.out)
      clear hb7
      go_wp2_with fail
      refine (eqIntsT _ _ _ _ _ _ (by omega) (ints_of_own64 oh.out) (ints_of_own64 Ow7.out)).mono ?_
      rintro e w8 ⟨rfl, hb8⟩
      have hB8 := Lib.hid (btr hB7.out hb8)
      have Og8 := Lib.hid (own_be Og7.out hb8)
      clear hb8 oh Ow7
      go_wp2_with fail
      refine (heldInts _ _ cg 1 _ (by omega) (by omega) (by omega) (ints_of_own64 Og8.out)).mono ?_
      rintro e w' ⟨rfl, rfl⟩
      go_wp2
      go_ret
      exact ⟨rfl, hB8.out⟩
end Go.Proofs.Ytbdmmeoelagdcaa
