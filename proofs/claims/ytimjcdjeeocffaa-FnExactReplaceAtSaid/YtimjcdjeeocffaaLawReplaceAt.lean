/- The walk of the law FnExactReplaceAt, from the contracts of the program's function and of the model's: it returns true, and writes into nothing that was there. -/
import Derived.Test.YtimjcdjeeocffaaReplaceIn
import Derived.Deep.RegionHeld3
import Derived.Deep.DeepCutAuto
namespace Go.Proofs.Ytimjcdjeeocffaa
open Go.RowKit

theorem kept_ne {w w' : World} {base e size n : Nat} {v : Value} {xs : List Value} {row : Option Nat} (h : w.ownsRow base e size v n xs) (hg : w.grownBy w' row) (hne : ∀ k, v.ownBlock = some k → row = some k → False) : w'.ownsRow base e size v n xs :=
  h.kept hg (by
    cases hv : v.ownBlock with
    | none => exact .inl rfl
    | some k => exact .inr fun e => hne k hv e.symm)

theorem newbox {X w1 : World} {v : Value} {t : TypeId} (hb : Below (X.alloc (.cells #[v] t)).heap.size (X.alloc (.cells #[v] t)) w1) : w1.heap[X.heap.size]? = some (.cells #[v] t (0, 0)) :=
  (hb.block X.heap.size (by simp)).trans (heap_alloc_new X _)

theorem newboxD {X w1 : World} {v : Value} {t : TypeId} (hb : Below (X.drew.alloc (.cells #[v] t)).heap.size (X.drew.alloc (.cells #[v] t)) w1) : w1.heap[X.heap.size]? = some (.cells #[v] t (0, 0)) := newbox (X := X.drew) hb

set_option maxHeartbeats 8000000 in
set_option maxRecDepth 100000 in
theorem lawReplaceAt (F : List Int → Int → List Int → List Int × Int) (hS : Hid (GivesTree3 26 F)) (hI : Hid (GivesTree3 27 F)) (hF : ∀ (xs : List Int) (v : Int) (ys : List Int), (F xs v ys).1.length ≤ 1048576)
    (A A2 : Option Addr) (xs ys : List Int) (c c2 : Nat) (v : Int) (w : World) (hx : xs.length ≤ 9223372036854775807) (hy : ys.length ≤ 9223372036854775807) (h : Ints w w.heap.size A xs) (h2 : Ints w w.heap.size A2 ys) :
    Calls Try.prog 5 #[.agg #[.slice A xs.length c], .int .i64 v, .agg #[.slice A2 ys.length c2]] w fun e w' => e = .returned (.bool true) ∧ Below w.heap.size w w' := by
  obtain ⟨W, hW⟩ : ∃ W, W = (w.alloc (.cells #[.slice A xs.length c] 24)).alloc (.cells #[.slice A2 ys.length c2] 24) := ⟨_, rfl⟩
  have C1 : Hid (W.cell? ⟨w.heap.size, 0, none⟩ = some (.slice A xs.length c)) := by subst hW; exact cell_al (by simp) _
  have C2 : Hid (W.cell? ⟨w.heap.size + 1, 0, none⟩ = some (.slice A2 ys.length c2)) := by subst hW; exact World.cell?_alloc_at _ _ _ _ (by simp)
  have i1 : Hid (Ints W W.heap.size A xs) := by subst hW; exact (h.al _).al _
  have i2 : Hid (Ints W W.heap.size A2 ys) := by subst hW; exact (h2.al _).al _
  have hBW : Hid (Below w.heap.size w W) := by subst hW; exact bal (bal (b0 w) _) _
  have HW := Lib.hid hW
  clear hW h h2
  by_cases hs : xs.length ≤ 1048576
  · have hl : Hid ((if (1048576 : Int) - xs.length < 0 then -1 else (1048576 : Int) - xs.length) = 1048576 - xs.length) := if_neg (by omega)
    have hl1 : ¬ (1048576 : Int) - (xs.length : Int) < 0 := by omega
    by_cases hs2 : (ys.length : Int) ≤ 1048576 - xs.length
    · have hl2 : Hid ((if (1048576 : Int) - xs.length - ys.length < 0 then -1 else (1048576 : Int) - xs.length - ys.length) = 1048576 - xs.length - ys.length) := if_neg (by omega)
      have hl3 : ¬ (1048576 : Int) - (xs.length : Int) - (ys.length : Int) < 0 := by omega
      have hx' : Hid (xs.length ≤ 1000000000000) := (show xs.length ≤ 1000000000000 by omega)
      have hy' : Hid (ys.length ≤ 1000000000000) := (show ys.length ≤ 1000000000000 by omega)
      have hys : ys.length ≤ 1048576 := by omega
      have HS : Hid (∀ A' A3 W', Hid (Ints W' W'.heap.size A' xs) → Hid (Ints W' W'.heap.size A3 ys) → Calls Try.prog 26 #[.agg #[.slice A' xs.length xs.length], .int .i64 v, .agg #[.slice A3 ys.length ys.length]] W' fun e w' => ∃ A' c', e = .returned (.tuple #[.agg #[.slice A' (F xs v ys).1.length c'], .int .i64 (F xs v ys).2]) ∧ Hid (Own64 w' W'.heap.size (.slice A' (F xs v ys).1.length c') (F xs v ys).1) ∧ Hid (Below W'.heap.size W' w')) :=
        fun A' A3 W' h1 h2 => hS.out A' A3 xs ys xs.length ys.length v W' hs hys ⟨Nat.le_refl _, hx'.out⟩ ⟨Nat.le_refl _, hy'.out⟩ h1.out h2.out
      have HI : Hid (∀ A' A3 W', Hid (Ints W' W'.heap.size A' xs) → Hid (Ints W' W'.heap.size A3 ys) → Calls Try.prog 27 #[.agg #[.slice A' xs.length xs.length], .int .i64 v, .agg #[.slice A3 ys.length ys.length]] W' fun e w' => ∃ A' c', e = .returned (.tuple #[.agg #[.slice A' (F xs v ys).1.length c'], .int .i64 (F xs v ys).2]) ∧ Hid (Own64 w' W'.heap.size (.slice A' (F xs v ys).1.length c') (F xs v ys).1) ∧ Hid (Below W'.heap.size W' w')) :=
        fun A' A3 W' h1 h2 => hI.out A' A3 xs ys xs.length ys.length v W' hs hys ⟨Nat.le_refl _, hx'.out⟩ ⟨Nat.le_refl _, hy'.out⟩ h1.out h2.out
      have hf := hF xs v ys
      clear hF hS hI
      generalize F xs v ys = R at *
      obtain ⟨Z, r⟩ := R
      simp only at HS HI hf
      clear hx hy
      have HT : Hid (∀ W', Hid (Below W.heap.size W W') → ∀ (A' : Option Addr) (zs : List Int) (c' : Nat), Hid (Ints W W.heap.size A' zs) → Hid (zs.length ≤ 1000000000000) → Calls Try.prog 15 #[.agg #[.slice A' zs.length c']] W' fun e w' => ∃ g, e = .returned (.agg #[.slice (some ⟨g, 0, none⟩) zs.length zs.length]) ∧
          Hid (Own64 w' W'.heap.size (.slice (some ⟨g, 0, none⟩) zs.length zs.length) zs) ∧ Hid (Below W.heap.size W w') ∧ Hid (Below W'.heap.size W' w')) := fun W' hW' A' zs c' hi hz =>
        (toTree A' zs c' W' hz.out (hi.out.be hW'.out)).mono fun e w' ⟨g, he, ho, hb⟩ => ⟨g, he, ho, btr hW'.out hb, hb⟩
      have HC : Hid (∀ W', Hid (Below W.heap.size W W') → W'.cell? ⟨w.heap.size, 0, none⟩ = some (.slice A xs.length c) ∧ W'.cell? ⟨w.heap.size + 1, 0, none⟩ = some (.slice A2 ys.length c2)) := fun W' hW' => ⟨cell_be C1.out hW'.out, cell_be C2.out hW'.out⟩
      go_enter Try.func5, Try.ntmps5
      go_wp2_with fail
      rw [← HW.out]
      have c1 := C1.out
      refine (szTree A xs.length c 1048576 _ (by omega) (by omega) (by omega)).mono ?_
      rintro e w1 ⟨he, hb⟩
      rw [hl.out] at he
      subst he
      have B := Lib.hid hb
      clear hb c1
      have c2' := cell_be C2.out B.out
      go_wp2_with fail
      refine (szTree A2 ys.length c2 (1048576 - xs.length) _ (by omega) (by omega) (by omega)).mono ?_
      rintro e w2 ⟨he, hb⟩
      rw [hl2.out] at he
      subst he
      replace B := Lib.hid (btr B.out hb)
      clear hb c2'
      obtain ⟨c1', c2'⟩ := HC.out _ B
      go_upto_region 8 with fail
      go_cut [8, 9] (fun s8 s9 wx => ∃ (gB cw : Nat) (Aw : Option Addr), s8 = .pointer (some ⟨gB, 0, none⟩) ∧ s9 = .int .i64 r ∧ W.heap.size ≤ gB ∧ Hid (wx.cell? ⟨gB, 0, none⟩ = some (.slice Aw Z.length cw)) ∧ Hid (Own64 wx W.heap.size (.slice Aw Z.length cw) Z) ∧ Hid (Below W.heap.size W wx))
      case first =>
        have K0 : Hid (Below W.heap.size W w2.drew) := B.out.drew
        obtain ⟨c10, c20⟩ := HC.out _ K0
        have HKa : Hid (∀ W' o, Hid (Below W.heap.size W W') → (W'.alloc o).cell? ⟨w.heap.size, 0, none⟩ = some (.slice A xs.length c) ∧ (W'.alloc o).cell? ⟨w.heap.size + 1, 0, none⟩ = some (.slice A2 ys.length c2) ∧ Hid (Below W.heap.size W (W'.alloc o))) := fun W' o hW' => ⟨cell_al (cell_be C1.out hW'.out) _, cell_al (cell_be C2.out hW'.out) _, bal hW'.out _⟩
        have HKs : Hid (∀ W' g u, Hid (Below W.heap.size W W') → W.heap.size ≤ g → (W'.setCell ⟨g, 0, none⟩ u).cell? ⟨w.heap.size, 0, none⟩ = some (.slice A xs.length c) ∧ (W'.setCell ⟨g, 0, none⟩ u).cell? ⟨w.heap.size + 1, 0, none⟩ = some (.slice A2 ys.length c2) ∧ Hid (Below W.heap.size W (W'.setCell ⟨g, 0, none⟩ u))) := fun W' g u hW' hg => ⟨cell_be C1.out (below_setCell hW'.out hg u), cell_be C2.out (below_setCell hW'.out hg u), below_setCell hW'.out hg u⟩
        have ne1 := World.new_ne _ _ c10
        have ne2 := World.new_ne _ _ c20
        go_region_held3 (fun w' => w'.cell? ⟨w.heap.size, 0, none⟩ = some (.slice A xs.length c) ∧ w'.cell? ⟨w.heap.size + 1, 0, none⟩ = some (.slice A2 ys.length c2) ∧ Hid (Below W.heap.size W w')) (first | exact ⟨c10, c20, K0⟩ | exact ⟨(HC.out _ (by assumption)).1, (HC.out _ (by assumption)).2, by assumption⟩ | exact HKa.out _ _ (by assumption) | exact HKs.out _ _ _ (by assumption) (by first | exact hB9.out.size | exact hb8.out.size | exact hb7.out.size | exact K0.out.size)) (first | (go_at_call_of 15 (Value.agg #[Value.slice A xs.length c]); refine (HT.out _ (by first | assumption | exact bal (Hid.out (by assumption)) _) A xs c i1 hx').mono ?_; rintro e w7 ⟨g7, rfl, ho7, hb7, hc7⟩; obtain ⟨c17, c27⟩ := HC.out _ hb7; have ne17 := World.new_ne _ _ c17; have ne27 := World.new_ne _ _ c27; first | (have kb7 := Lib.hid (newboxD hc7.out)) | (have kb7 := Lib.hid (newbox hc7.out)) | skip) | (go_at_call_of 15 (Value.agg #[Value.slice A2 ys.length c2]); refine (HT.out _ (by first | assumption | exact bal (Hid.out (by assumption)) _) A2 ys c2 i2 hy').mono ?_; rintro e w8 ⟨g8, rfl, ho8, hb8, hc8⟩; obtain ⟨c18, c28⟩ := HC.out _ hb8; have ne18 := World.new_ne _ _ c18; have ne28 := World.new_ne _ _ c28; first | (have kb8 := Lib.hid (newbox hc8.out)) | (have kb8 := Lib.hid ((hc8.out.block _ (lt_of_block kb7.out)).trans kb7.out)) | skip) | (go_at_call 26; refine (HS.out _ _ _ (by first | exact (ints_of_own64 ho7.out).be hc8.out | exact ((ints_of_own64 ho7.out).be hc8.out).al _ | exact ((ints_of_own64 ho7.out).al _).be hc8.out) (by first | exact ints_of_own64 ho8.out | exact (ints_of_own64 ho8.out).al _)).mono ?_; rintro e w9 ⟨Aw, cw, rfl, how, hb9⟩; have hB9 : Hid (Below W.heap.size W w9) := (by first | exact btr hb8.out hb9.out | exact btr (bal hb8.out _) hb9.out); obtain ⟨c19, c29⟩ := HC.out _ hB9; have ne19 := World.new_ne _ _ c19; have ne29 := World.new_ne _ _ c29; first | (have kb9 := Lib.hid (newbox hb9.out); have kc9 := cell_of_one kb9.out; have kf9 := free_of_one kb9.out) | (have kb9 := Lib.hid ((hb9.out.block _ (lt_of_block kb8.out)).trans kb8.out); have kc9 := cell_of_one kb9.out; have kf9 := free_of_one kb9.out) | skip))
        all_goals (go_wp2_with fail)
        all_goals (go_meet)
        all_goals have z9 := hB9.out.size
        all_goals have z8 := hb8.out.size
        all_goals have z7 := hb7.out.size
        all_goals have z2 : W.heap.size ≤ w2.heap.size := K0.out.size
        all_goals have z87 := hc8.out.size
        all_goals try simp only [World.size_alloc] at z87
        all_goals try (have z72 := (show (w2.alloc (.cells #[.slice none 0 0] 26)).heap.size ≤ w7.heap.size from hc7.out.size); rw [World.size_alloc] at z72)
        all_goals first
          | exact ⟨w9.heap.size, cw, Aw, rfl, rfl, z9, (Boxed.new _ _ _).cell, own_mono (how.out.alloc _) (by first | omega | (simp only [World.size_alloc]; omega)), bal hB9.out _⟩
          | exact ⟨_, cw, Aw, rfl, rfl, z8, (Boxed.set _ kb9.out).cell, own_mono (own_far how.out (by first | omega | (simp only [World.size_alloc]; omega)) _) (by first | omega | (simp only [World.size_alloc]; omega)), below_setCell hB9.out z8 _⟩
          | exact ⟨_, cw, Aw, rfl, rfl, z7, (Boxed.set _ kb9.out).cell, own_mono (own_far how.out (by first | omega | (simp only [World.size_alloc]; omega)) _) (by first | omega | (simp only [World.size_alloc]; omega)), below_setCell hB9.out z7 _⟩
          | exact ⟨_, cw, Aw, rfl, rfl, z2, (Boxed.set _ kb9.out).cell, own_mono (own_far how.out (by first | omega | (simp only [World.size_alloc]; omega)) _) (by first | omega | (simp only [World.size_alloc]; omega)), below_setCell hB9.out z2 _⟩
          | trace_state
      case rest =>
        obtain ⟨gB, cw, Aw, rfl, rfl, hgB, cW, Ow, B⟩ := hcut
        obtain ⟨c1', c2'⟩ := HC.out _ B
        have zB : gB < wc.heap.size := World.block_lt_of_cell? _ _ cW.out
        have Pw : Hid (∀ k, (Value.slice Aw Z.length cw).ownBlock = some k → k < wc.heap.size) := fun k e => (World.ownsRow.lt Ow.out k e).2
        have z0 := B.out.size
        have cW' := cW.out

        go_wp2_with fail
        -- x0
        refine (HT.out _ B A xs c i1 hx').mono ?_
        rintro e w4 ⟨gx, rfl, ox, B4, hb⟩
        have gx1 := World.ownsRow.lt ox.out gx rfl
        replace cW := Lib.hid (cell_be cW.out hb.out)
        replace Ow := Lib.hid (own_be Ow.out hb.out)
        replace B4 := Lib.hid (bal B4.out (.cells #[.slice (some ⟨gx, 0, none⟩) xs.length xs.length] 26))
        replace cW := Lib.hid (cell_al cW.out (.cells #[.slice (some ⟨gx, 0, none⟩) xs.length xs.length] 26))
        replace Ow := Lib.hid (Ow.out.alloc (.cells #[.slice (some ⟨gx, 0, none⟩) xs.length xs.length] 26))
        have Ox := Lib.hid (ox.out.alloc (.cells #[.slice (some ⟨gx, 0, none⟩) xs.length xs.length] 26))
        have cX := Lib.hid (Boxed.new w4 26 (.slice (some ⟨gx, 0, none⟩) xs.length xs.length)).cell
        obtain ⟨c1', c2'⟩ := HC.out _ B4
        clear ox hb B
        go_wp2_with fail
        -- x2
        refine (HT.out _ B4 A2 ys c2 i2 hy').mono ?_
        rintro e w5 ⟨gy, rfl, oy, B5, hb⟩
        have gy1 := World.ownsRow.lt oy.out gy rfl
        simp only [World.size_alloc] at gy1
        replace B5 := Lib.hid (bal B5.out (.cells #[.slice (some ⟨gy, 0, none⟩) ys.length ys.length] 26))
        replace cW := Lib.hid (cell_al (cell_be cW.out hb.out) (.cells #[.slice (some ⟨gy, 0, none⟩) ys.length ys.length] 26))
        replace cX := Lib.hid (cell_al (cell_be cX.out hb.out) (.cells #[.slice (some ⟨gy, 0, none⟩) ys.length ys.length] 26))
        replace Ow := Lib.hid ((own_be Ow.out hb.out).alloc (.cells #[.slice (some ⟨gy, 0, none⟩) ys.length ys.length] 26))
        replace Ox := Lib.hid ((own_be Ox.out hb.out).alloc (.cells #[.slice (some ⟨gy, 0, none⟩) ys.length ys.length] 26))
        have Oy := Lib.hid (oy.out.alloc (.cells #[.slice (some ⟨gy, 0, none⟩) ys.length ys.length] 26))
        have cY := Lib.hid (Boxed.new w5 26 (.slice (some ⟨gy, 0, none⟩) ys.length ys.length)).cell
        have cX' := cX.out
        clear oy hb B4 c1' c2'
        go_wp2_with fail
        -- g0
        refine (HI.out _ _ _ (ints_of_own64 Ox.out) (ints_of_own64 Oy.out)).mono ?_
        rintro e w6 ⟨Ag, cg, rfl, og, hb⟩
        have z56 := hb.out.size
        simp only [World.size_alloc] at z56
        have Gx : Hid (∀ k, (Value.slice Ag Z.length cg).ownBlock = some k → w5.heap.size < k ∧ k < w6.heap.size) := fun k hk => by have := World.ownsRow.lt og.out k hk; simp only [World.size_alloc] at this; omega
        have B6 := Lib.hid (bal (btr B5.out hb.out) (.cells #[.slice Ag Z.length cg] 26))
        replace cW := Lib.hid (cell_al (cell_be cW.out hb.out) (.cells #[.slice Ag Z.length cg] 26))
        replace cX := Lib.hid (cell_al (cell_be cX.out hb.out) (.cells #[.slice Ag Z.length cg] 26))
        replace cY := Lib.hid (cell_al (cell_be cY.out hb.out) (.cells #[.slice Ag Z.length cg] 26))
        replace Ow := Lib.hid ((own_be Ow.out hb.out).alloc (.cells #[.slice Ag Z.length cg] 26))
        replace Ox := Lib.hid ((own_be Ox.out hb.out).alloc (.cells #[.slice Ag Z.length cg] 26))
        replace Oy := Lib.hid ((own_be Oy.out hb.out).alloc (.cells #[.slice Ag Z.length cg] 26))
        have Og := Lib.hid (og.out.alloc (.cells #[.slice Ag Z.length cg] 26))
        have cG := Lib.hid (Boxed.new w6 26 (.slice Ag Z.length cg)).cell
        have cW' := cW.out
        clear og hb B5 cX'
        go_wp2_with fail
        have hfz : Z.length ≤ 1000000000000000 := by omega
        refine (eqTreeT _ _ Z _ _ _ hfz (ints_of_own64 Og.out) (ints_of_own64 Ow.out)).mono ?_
        rintro e w7 ⟨rfl, hb⟩
        have B7 := Lib.hid (btr B6.out hb)
        have z67 := hb.size
        simp only [World.size_alloc] at z67
        replace cW := Lib.hid (cell_be cW.out hb)
        replace cX := Lib.hid (cell_be cX.out hb)
        replace cY := Lib.hid (cell_be cY.out hb)
        replace cG := Lib.hid (cell_be cG.out hb)
        replace Ow := Lib.hid (own_be Ow.out hb)
        replace Ox := Lib.hid (own_be Ox.out hb)
        replace Oy := Lib.hid (own_be Oy.out hb)
        replace Og := Lib.hid (own_be Og.out hb)
        obtain ⟨c1', c2'⟩ := HC.out _ B7
        have cX' := cX.out
        clear hb B6 cW'
        go_wp2
        have HE : Hid (∀ (g g' : Nat) (zs : List Int) B' W', Hid (zs.length ≤ 1000000000000) → Hid (Ints W' W'.heap.size (some ⟨g, 0, none⟩) zs) → Hid (Own64 W' B' (.slice (some ⟨g', 0, none⟩) zs.length zs.length) zs) →
            Calls Try.prog 17 #[.agg #[.slice (some ⟨g, 0, none⟩) zs.length zs.length], .agg #[.slice (some ⟨g', 0, none⟩) zs.length zs.length]] W' fun e w' => e = .returned (.bool true) ∧ Hid (Below W'.heap.size W' w')) := fun g g' zs B' W' hz hi ho =>
          (eqTreeT _ _ zs _ _ W' (by have := hz.out; omega) hi.out (ints_of_own64 ho.out)).mono fun e w' ⟨he, hb⟩ => ⟨he, hb⟩
        have K0 : Hid (Below w7.heap.size w7 w7.drew) := (Below.refl _ _).drew
        have KW : Hid (Below W.heap.size W w7.drew) := B7.out.drew
        have c10 : w7.drew.cell? ⟨w.heap.size, 0, none⟩ = some (.slice A xs.length c) := c1'
        have x10 : w7.drew.cell? ⟨w4.heap.size, 0, none⟩ = some (.slice (some ⟨gx, 0, none⟩) xs.length xs.length) := cX'
        go_region_held3 (fun w' => w'.cell? ⟨w.heap.size, 0, none⟩ = some (.slice A xs.length c) ∧ w'.cell? ⟨w4.heap.size, 0, none⟩ = some (.slice (some ⟨gx, 0, none⟩) xs.length xs.length) ∧ Hid (Below w7.heap.size w7 w')) (first | exact ⟨c10, x10, K0⟩ | exact ⟨cell_be c1' (Hid.out (by assumption)), cell_be cX' (Hid.out (by assumption)), by assumption⟩) (first | (go_at_call 15; refine (HT.out _ KW A xs c i1 hx').mono ?_; rintro e w17 ⟨g17, rfl, ho17, hb17, hc17⟩; have hd17 : Hid (Below w7.heap.size w7 w17) := btr K0.out hc17.out) | (go_at_call 17; refine (HE.out gx g17 xs _ _ hx' ((ints_of_own64 Ox.out).be hd17.out) ho17).mono ?_; rintro e w8 ⟨rfl, hb⟩; have hd8 : Hid (Below w7.heap.size w7 w8) := btr hd17.out hb.out))
        have B8 : Hid (Below W.heap.size W w8) := btr B7.out hd8.out
        have z78 := hd8.out.size
        replace cW := Lib.hid (cell_be cW.out hd8.out)
        replace cX := Lib.hid (cell_be cX.out hd8.out)
        replace cY := Lib.hid (cell_be cY.out hd8.out)
        replace cG := Lib.hid (cell_be cG.out hd8.out)
        replace Ow := Lib.hid (own_be Ow.out hd8.out)
        replace Ox := Lib.hid (own_be Ox.out hd8.out)
        replace Oy := Lib.hid (own_be Oy.out hd8.out)
        replace Og := Lib.hid (own_be Og.out hd8.out)
        clear c1' c2' cX' c10 x10 K0 KW B7 hd8 hd17 hb17 hc17 ho17 hb
        obtain ⟨c1', c2'⟩ := HC.out _ B8
        have cY' := cY.out
        clear c1'
        go_wp2
        have K0 : Hid (Below w8.heap.size w8 w8.drew) := (Below.refl _ _).drew
        have KW : Hid (Below W.heap.size W w8.drew) := B8.out.drew
        have c20 : w8.drew.cell? ⟨w.heap.size + 1, 0, none⟩ = some (.slice A2 ys.length c2) := c2'
        have y10 : w8.drew.cell? ⟨w5.heap.size, 0, none⟩ = some (.slice (some ⟨gy, 0, none⟩) ys.length ys.length) := cY'
        go_region_held3 (fun w' => w'.cell? ⟨w.heap.size + 1, 0, none⟩ = some (.slice A2 ys.length c2) ∧ w'.cell? ⟨w5.heap.size, 0, none⟩ = some (.slice (some ⟨gy, 0, none⟩) ys.length ys.length) ∧ Hid (Below w8.heap.size w8 w')) (first | exact ⟨c20, y10, K0⟩ | exact ⟨cell_be c2' (Hid.out (by assumption)), cell_be cY' (Hid.out (by assumption)), by assumption⟩) (first | (go_at_call 15; refine (HT.out _ KW A2 ys c2 i2 hy').mono ?_; rintro e w17 ⟨g17, rfl, ho17, hb17, hc17⟩; have hd17 : Hid (Below w8.heap.size w8 w17) := btr K0.out hc17.out) | (go_at_call 17; refine (HE.out gy g17 ys _ _ hy' ((ints_of_own64 Oy.out).be hd17.out) ho17).mono ?_; rintro e w9 ⟨rfl, hb⟩; have hd9 : Hid (Below w8.heap.size w8 w9) := btr hd17.out hb.out))
        have B9 : Hid (Below W.heap.size W w9) := btr B8.out hd9.out
        have z89 := hd9.out.size
        replace cW := Lib.hid (cell_be cW.out hd9.out)
        replace cX := Lib.hid (cell_be cX.out hd9.out)
        replace cY := Lib.hid (cell_be cY.out hd9.out)
        replace cG := Lib.hid (cell_be cG.out hd9.out)
        replace Ow := Lib.hid (own_be Ow.out hd9.out)
        replace Ox := Lib.hid (own_be Ox.out hd9.out)
        replace Oy := Lib.hid (own_be Oy.out hd9.out)
        replace Og := Lib.hid (own_be Og.out hd9.out)
        clear c2' cY' c20 y10 K0 KW B8 hd9 hd17 hb17 hc17 ho17 hb HE
        have cX' := cX.out
        -- the arguments are marked
        go_wp2_with fail
        refine (markTree _ xs.length xs.length xs 1 _ _ rfl hx'.out (by omega) (by omega) Ox.out).mono ?_
        rintro e w10 ⟨rfl, _, hg⟩
        have hgb : ∀ k, (Value.slice (some ⟨gx, 0, none⟩) xs.length xs.length).ownBlock = some k → k = gx := fun k e => by injection e with e; exact e.symm
        have z910 := hg.size
        have B10 := Lib.hid (below_grown B9.out hg (fun k e => by have := hgb k e; omega))
        replace cW := Lib.hid (cell_grown cW.out hg (fun k e => by have := hgb k e; omega))
        replace cY := Lib.hid (cell_grown cY.out hg (fun k e => by have := hgb k e; omega))
        replace cG := Lib.hid (cell_grown cG.out hg (fun k e => by have := hgb k e; omega))
        replace Ow := Lib.hid (kept_ne Ow.out hg (fun k e e2 => by have := Pw.out k e; have := hgb k e2; omega))
        replace Oy := Lib.hid (kept_ne Oy.out hg (fun k e e2 => by have e3 : gy = k := (by injection e); have := hgb k e2; omega))
        replace Og := Lib.hid (kept_ne Og.out hg (fun k e e2 => by have := Gx.out k e; have := hgb k e2; omega))
        have cY' := cY.out
        clear hg cX cX' Ox hgb B9
        go_wp2_with fail
        refine (markTree _ ys.length ys.length ys _ _ _ rfl hy'.out (by omega) (by have := hx'.out; omega) Oy.out).mono ?_
        rintro e w11 ⟨rfl, _, hg⟩
        have hgb : ∀ k, (Value.slice (some ⟨gy, 0, none⟩) ys.length ys.length).ownBlock = some k → k = gy := fun k e => by injection e with e; exact e.symm
        have z1011 := hg.size
        have B11 := Lib.hid (below_grown B10.out hg (fun k e => by have := hgb k e; omega))
        replace cW := Lib.hid (cell_grown cW.out hg (fun k e => by have := hgb k e; omega))
        replace cG := Lib.hid (cell_grown cG.out hg (fun k e => by have := hgb k e; omega))
        replace Ow := Lib.hid (kept_ne Ow.out hg (fun k e e2 => by have := Pw.out k e; have := hgb k e2; omega))
        replace Og := Lib.hid (kept_ne Og.out hg (fun k e e2 => by have := Gx.out k e; have := hgb k e2; omega))
        have cW' := cW.out
        have cG' := cG.out
        clear hg cY cY' Oy hgb B10
        have hkp : ¬ (1 : Int) + (xs.length : Int) + (ys.length : Int) < 0 := by omega
        go_wp2_with fail
        refine (eqTreeT _ _ Z _ _ _ hfz (ints_of_own64 Og.out) (ints_of_own64 Ow.out)).mono ?_
        rintro e w12 ⟨rfl, hb⟩
        have B12 := Lib.hid (btr B11.out hb)
        have z1112 := hb.size
        replace cW := Lib.hid (cell_be cW.out hb)
        replace cG := Lib.hid (cell_be cG.out hb)
        replace Ow := Lib.hid (own_be Ow.out hb)
        replace Og := Lib.hid (own_be Og.out hb)
        have cG' := cG.out
        clear hb B11 cW'
        -- the result is marked
        go_wp2_with fail
        refine (markTree _ _ cg Z 1 _ _ rfl (by omega) (by omega) (by omega) Og.out).mono ?_
        rintro e w13 ⟨rfl, og, hg⟩
        have z1213 := hg.size
        have B13 := Lib.hid (below_grown B12.out hg (fun k e => by have := Gx.out k e; omega))
        replace cW := Lib.hid (cell_grown cW.out hg (fun k e => by have := Gx.out k e; omega))
        replace cG := Lib.hid (cell_grown cG.out hg (fun k e => by have := Gx.out k e; omega))
        replace Ow := Lib.hid (kept_ne Ow.out hg (fun k e e2 => by have := Pw.out k e; have := Gx.out k e2; omega))
        replace Og := Lib.hid (own_mono (base' := 0) og (Nat.zero_le _))
        have cG' := cG.out
        clear hg og B12
        go_wp2_with fail
        refine (heldTree _ _ cg 1 _ (by omega) (by omega) (by omega) (ints_of_own64 Og.out)).mono ?_
        rintro e w14 ⟨rfl, hb⟩
        have B14 := Lib.hid (btr B13.out hb)
        replace cW := Lib.hid (cell_be cW.out hb)
        replace cG := Lib.hid (cell_be cG.out hb)
        replace Ow := Lib.hid (own_be Ow.out hb)
        replace Og := Lib.hid (own_be Og.out hb)
        clear hb B13 cG' Gx Pw
        obtain ⟨c1', c2'⟩ := HC.out _ B14
        have C1x : Hid (w14.cell? ⟨w.heap.size, 0, none⟩ = some (.slice A xs.length c)) := c1'
        have C2x : Hid (w14.cell? ⟨w.heap.size + 1, 0, none⟩ = some (.slice A2 ys.length c2)) := c2'
        have HC14 : Hid (∀ W', Hid (Below w14.heap.size w14 W') → W'.cell? ⟨w.heap.size, 0, none⟩ = some (.slice A xs.length c) ∧ W'.cell? ⟨w.heap.size + 1, 0, none⟩ = some (.slice A2 ys.length c2)) := fun W' hW' => ⟨cell_be C1x.out hW'.out, cell_be C2x.out hW'.out⟩
        have HT14 : Hid (∀ W', Hid (Below w14.heap.size w14 W') → ∀ (A' : Option Addr) (zs : List Int) (c' : Nat), Hid (Ints W W.heap.size A' zs) → Hid (zs.length ≤ 1000000000000) → Calls Try.prog 15 #[.agg #[.slice A' zs.length c']] W' fun e w' => ∃ g, e = .returned (.agg #[.slice (some ⟨g, 0, none⟩) zs.length zs.length]) ∧
            Hid (Own64 w' W'.heap.size (.slice (some ⟨g, 0, none⟩) zs.length zs.length) zs) ∧ Hid (Below w14.heap.size w14 w') ∧ Hid (Below W'.heap.size W' w')) := fun W' hW' A' zs c' hi hz =>
          (HT.out W' (btr B14.out hW'.out) A' zs c' hi hz).mono fun e w' ⟨g, he, ho, _, hb⟩ => ⟨g, he, ho, btr hW'.out hb.out, hb⟩
        -- once more
        go_upto_region 31 with fail
        go_cut [17, 18] (fun s17 s18 wx => ∃ (gB cw : Nat) (Aw : Option Addr), s17 = .pointer (some ⟨gB, 0, none⟩) ∧ s18 = .int .i64 r ∧ w14.heap.size ≤ gB ∧ Hid (wx.cell? ⟨gB, 0, none⟩ = some (.slice Aw Z.length cw)) ∧ Hid (Own64 wx w14.heap.size (.slice Aw Z.length cw) Z) ∧ Hid (Below w14.heap.size w14 wx))
        case first =>
          have K0 : Hid (Below w14.heap.size w14 w14.drew) := (Below.refl _ _).drew
          obtain ⟨c10, c20⟩ := HC14.out _ K0
          have HKa : Hid (∀ W' o, Hid (Below w14.heap.size w14 W') → (W'.alloc o).cell? ⟨w.heap.size, 0, none⟩ = some (.slice A xs.length c) ∧ (W'.alloc o).cell? ⟨w.heap.size + 1, 0, none⟩ = some (.slice A2 ys.length c2) ∧ Hid (Below w14.heap.size w14 (W'.alloc o))) := fun W' o hW' => ⟨cell_al (cell_be C1x.out hW'.out) _, cell_al (cell_be C2x.out hW'.out) _, bal hW'.out _⟩
          have HKs : Hid (∀ W' g u, Hid (Below w14.heap.size w14 W') → w14.heap.size ≤ g → (W'.setCell ⟨g, 0, none⟩ u).cell? ⟨w.heap.size, 0, none⟩ = some (.slice A xs.length c) ∧ (W'.setCell ⟨g, 0, none⟩ u).cell? ⟨w.heap.size + 1, 0, none⟩ = some (.slice A2 ys.length c2) ∧ Hid (Below w14.heap.size w14 (W'.setCell ⟨g, 0, none⟩ u))) := fun W' g u hW' hg => ⟨cell_be C1x.out (below_setCell hW'.out hg u), cell_be C2x.out (below_setCell hW'.out hg u), below_setCell hW'.out hg u⟩
          have ne1 := World.new_ne _ _ c10
          have ne2 := World.new_ne _ _ c20
          go_region_held3 (fun w' => w'.cell? ⟨w.heap.size, 0, none⟩ = some (.slice A xs.length c) ∧ w'.cell? ⟨w.heap.size + 1, 0, none⟩ = some (.slice A2 ys.length c2) ∧ Hid (Below w14.heap.size w14 w')) (first | exact ⟨c10, c20, K0⟩ | exact ⟨(HC14.out _ (by assumption)).1, (HC14.out _ (by assumption)).2, by assumption⟩ | exact HKa.out _ _ (by assumption) | exact HKs.out _ _ _ (by assumption) (by first | exact hB9.out.size | exact hb8.out.size | exact hb7.out.size | exact K0.out.size)) (first | (go_at_call_of 15 (Value.agg #[Value.slice A xs.length c]); refine (HT14.out _ (by first | assumption | exact bal (Hid.out (by assumption)) _) A xs c i1 hx').mono ?_; rintro e w7 ⟨g7, rfl, ho7, hb7, hc7⟩; obtain ⟨c17, c27⟩ := HC14.out _ hb7; have ne17 := World.new_ne _ _ c17; have ne27 := World.new_ne _ _ c27; first | (have kb7 := Lib.hid (newboxD hc7.out)) | (have kb7 := Lib.hid (newbox hc7.out)) | skip) | (go_at_call_of 15 (Value.agg #[Value.slice A2 ys.length c2]); refine (HT14.out _ (by first | assumption | exact bal (Hid.out (by assumption)) _) A2 ys c2 i2 hy').mono ?_; rintro e w8 ⟨g8, rfl, ho8, hb8, hc8⟩; obtain ⟨c18, c28⟩ := HC14.out _ hb8; have ne18 := World.new_ne _ _ c18; have ne28 := World.new_ne _ _ c28; first | (have kb8 := Lib.hid (newbox hc8.out)) | (have kb8 := Lib.hid ((hc8.out.block _ (lt_of_block kb7.out)).trans kb7.out)) | skip) | (go_at_call 27; refine (HI.out _ _ _ (by first | exact (ints_of_own64 ho7.out).be hc8.out | exact ((ints_of_own64 ho7.out).be hc8.out).al _ | exact ((ints_of_own64 ho7.out).al _).be hc8.out) (by first | exact ints_of_own64 ho8.out | exact (ints_of_own64 ho8.out).al _)).mono ?_; rintro e w9 ⟨Aw, cw, rfl, how, hb9⟩; have hB9 : Hid (Below w14.heap.size w14 w9) := (by first | exact btr hb8.out hb9.out | exact btr (bal hb8.out _) hb9.out); obtain ⟨c19, c29⟩ := HC14.out _ hB9; have ne19 := World.new_ne _ _ c19; have ne29 := World.new_ne _ _ c29; first | (have kb9 := Lib.hid (newbox hb9.out); have kc9 := cell_of_one kb9.out; have kf9 := free_of_one kb9.out) | (have kb9 := Lib.hid ((hb9.out.block _ (lt_of_block kb8.out)).trans kb8.out); have kc9 := cell_of_one kb9.out; have kf9 := free_of_one kb9.out) | skip))
          all_goals (go_wp2_with fail)
          all_goals (go_meet)
          all_goals have z9 := hB9.out.size
          all_goals have z8 := hb8.out.size
          all_goals have z7 := hb7.out.size
          all_goals have z2 : w14.heap.size ≤ w14.heap.size := K0.out.size
          all_goals have z87 := hc8.out.size
          all_goals try simp only [World.size_alloc] at z87
          all_goals try (have z72 := (show (w14.alloc (.cells #[.slice none 0 0] 26)).heap.size ≤ w7.heap.size from hc7.out.size); rw [World.size_alloc] at z72)
          all_goals first
            | exact ⟨w9.heap.size, cw, Aw, rfl, rfl, z9, (Boxed.new _ _ _).cell, own_mono (how.out.alloc _) (by first | omega | (simp only [World.size_alloc]; omega)), bal hB9.out _⟩
            | exact ⟨_, cw, Aw, rfl, rfl, z8, (Boxed.set _ kb9.out).cell, own_mono (own_far how.out (by first | omega | (simp only [World.size_alloc]; omega)) _) (by first | omega | (simp only [World.size_alloc]; omega)), below_setCell hB9.out z8 _⟩
            | exact ⟨_, cw, Aw, rfl, rfl, z7, (Boxed.set _ kb9.out).cell, own_mono (own_far how.out (by first | omega | (simp only [World.size_alloc]; omega)) _) (by first | omega | (simp only [World.size_alloc]; omega)), below_setCell hB9.out z7 _⟩
            | exact ⟨_, cw, Aw, rfl, rfl, z2, (Boxed.set _ kb9.out).cell, own_mono (own_far how.out (by first | omega | (simp only [World.size_alloc]; omega)) _) (by first | omega | (simp only [World.size_alloc]; omega)), below_setCell hB9.out z2 _⟩
            | trace_state
        case rest =>
          obtain ⟨gH, ch, Ah, rfl, rfl, hgH, cH, Oh, Bh⟩ := hcut
          have B15 := Lib.hid (btr B14.out Bh.out)
          replace cW := Lib.hid (cell_be cW.out Bh.out)
          replace cG := Lib.hid (cell_be cG.out Bh.out)
          replace Ow := Lib.hid (own_be Ow.out Bh.out)
          replace Og := Lib.hid (own_be Og.out Bh.out)
          have cW' := cW.out
          have cH' := cH.out
          clear Bh B14 HT14 HC14 C1x C2x HI HS HT c1' c2'
          go_wp2_with fail
          refine (eqTreeT _ _ Z _ _ _ hfz (ints_of_own64 Oh.out) (ints_of_own64 Ow.out)).mono ?_
          rintro e w16 ⟨rfl, hb⟩
          have B16 := Lib.hid (btr B15.out hb)
          replace cG := Lib.hid (cell_be cG.out hb)
          replace Og := Lib.hid (own_be Og.out hb)
          have cG' := cG.out
          clear hb B15 cW cW' cH cH' Oh Ow
          go_wp2_with fail
          refine (heldTree _ _ cg 1 _ (by omega) (by omega) (by omega) (ints_of_own64 Og.out)).mono ?_
          rintro e w17 ⟨rfl, hb⟩
          have B17 := Lib.hid (btr B16.out hb)
          clear hb B16 cG cG' Og
          go_wp2
          go_ret
          exact ⟨rfl, btr hBW.out B17.out⟩
    · have hl2 : Hid ((if (1048576 : Int) - xs.length - ys.length < 0 then -1 else (1048576 : Int) - xs.length - ys.length) = -1) := if_pos (by omega)
      go_enter Try.func5, Try.ntmps5
      go_wp2_with fail
      rw [← HW.out]
      have c1 := C1.out
      refine (szTree A xs.length c 1048576 _ (by omega) (by omega) (by omega)).mono ?_
      rintro e w1 ⟨he, hb⟩
      rw [hl.out] at he
      subst he
      have B := Lib.hid hb
      clear hb c1
      have c2' := cell_be C2.out B.out
      go_wp2_with fail
      refine (szTree A2 ys.length c2 (1048576 - xs.length) _ (by omega) (by omega) (by omega)).mono ?_
      rintro e w2 ⟨he, hb⟩
      rw [hl2.out] at he
      subst he
      replace B := Lib.hid (btr B.out hb)
      clear hb c2'
      go_wp2
      go_ret
      exact ⟨rfl, btr hBW.out B.out⟩
  · have hl : Hid ((if (1048576 : Int) - xs.length < 0 then -1 else (1048576 : Int) - xs.length) = -1) := if_pos (by omega)
    go_enter Try.func5, Try.ntmps5
    go_wp2_with fail
    rw [← HW.out]
    have c1 := C1.out
    refine (szTree A xs.length c 1048576 _ (by omega) (by omega) (by omega)).mono ?_
    rintro e w1 ⟨he, hb⟩
    rw [hl.out] at he
    subst he
    have B := Lib.hid hb
    clear hb c1
    go_wp2
    go_ret
    exact ⟨rfl, btr hBW.out B.out⟩
end Go.Proofs.Ytimjcdjeeocffaa
