/- The walk of the law FnExactFillPattern, from the contracts of the program's function and of the model's: it returns true, and writes into nothing that was there. -/
import Derived.Test.YtmhpobgfgimfcaaTreesArg
import Derived.Test.YtmhpobgfgimfcaaFnFillPattern
namespace Go.Proofs.Ytmhpobgfgimfcaa
open Go.RowKit

theorem own_frame {w w' : World} {base e size n : Nat} {v : Value} {xs : List Value} {hs : List Hdr} (h : w.ownsRow base e size v n xs) (hf : ∀ j, j < w.heap.size → (∀ h' ∈ hs, h'.1 ≠ j) → w'.heap[j]? = w.heap[j]?) (hne : ∀ k, v.ownBlock = some k → ∀ h' ∈ hs, h'.1 ≠ k) : w'.ownsRow base e size v n xs := by
  refine ⟨h.1, ?_⟩
  rcases h.2 with h1 | ⟨g, cap, cur, hv, hb, hg, rest⟩
  · exact .inl h1
  · exact .inr ⟨g, cap, cur, hv, hb, (hf g (Array.getElem?_eq_some_iff.1 hg).1 (hne g (by rw [hv]; rfl))).trans hg, rest⟩
theorem cell_frame {w w' : World} {b : Nat} {v : Value} {hs : List Hdr} (h : w.cell? ⟨b, 0, none⟩ = some v) (hf : ∀ j, j < w.heap.size → (∀ h' ∈ hs, h'.1 ≠ j) → w'.heap[j]? = w.heap[j]?) (hne : ∀ h' ∈ hs, h'.1 ≠ b) : w'.cell? ⟨b, 0, none⟩ = some v :=
  (World.cell?_of_block (w := w) (a := ⟨b, 0, none⟩) (hf b (World.block_lt_of_cell? _ _ h) hne)).trans h

set_option maxHeartbeats 8000000 in
set_option maxRecDepth 100000 in
theorem lawFillPattern (F0 : ByteArray → List (List Int) → List Int × Int) (hS : Hid (GivesFill 35 F0)) (hI : Hid (GivesFill 37 F0)) (hF : ∀ p zss, (F0 p zss).1.length ≤ 48)
    (p : ByteArray) (A : Option Addr) (zss : List (List Int)) (n c : Nat) (w : World) (hn : Hid (zss.length = n)) (hn' : n ≤ 9223372036854775807) (h : Hid (TreesL w A zss)) :
    Calls Try.prog 7 #[.string p, .slice A n c] w fun e w' => e = .returned (.bool true) ∧ Below w.heap.size w w' := by
  by_cases hps : p.size ≤ 1048576
  case neg =>
    have hp1 : (1048576 : Int) < (p.size : Int) := by omega
    go_enter Try.func7, Try.ntmps7
    go_wp2
    go_ret
    exact ⟨rfl, b0 w⟩
  have hp1 : ¬ (1048576 : Int) < (p.size : Int) := by omega
  have HSz := Lib.hid (szTreeS A zss n c w hn hn' h)
  go_enter Try.func7, Try.ntmps7
  go_wp2_with fail
  refine HSz.out.mono ?_
  rintro e w1 ⟨r0, rfl, hp, hm, hb⟩
  have B := Lib.hid hb
  clear hb HSz
  by_cases hr0 : r0 < 0
  · obtain rfl := hm hr0
    clear hp hm hr0
    go_wp2
    go_ret
    exact ⟨rfl, B.out⟩
  · obtain ⟨hsum, _⟩ := hp (by omega)
    clear hp hm
    have hn1 : n ≤ 1048576 := by omega
    have hT : Hid (M.tot zss ≤ 2000000000) := (show _ ≤ _ by omega)
    have hz1 : Hid (∀ zs ∈ zss, zs.length ≤ 1048576) := fun zs hz => by have := M.tot_mem hz; omega
    have hz2 : Hid (∀ zs ∈ zss, zs.length ≤ 1000000000000) := fun zs hz => by have := M.tot_mem hz; omega
    have HS : Hid (∀ A' W, Hid (TreesC W A' zss) → Calls Try.prog 35 #[.string p, .slice A' n n] W fun e w' => ∃ A' c', e = .returned (.tuple #[.agg #[.slice A' (F0 p zss).1.length c'], .int .i64 (F0 p zss).2]) ∧ Own64 w' W.heap.size (.slice A' (F0 p zss).1.length c') (F0 p zss).1 ∧ Below W.heap.size W w') := fun A' W h' => hS.out p A' zss n n W hn hn1 (Nat.le_refl _) (by omega) hps hz1 h'
    have HI : Hid (∀ A' W, Hid (TreesC W A' zss) → Calls Try.prog 37 #[.string p, .slice A' n n] W fun e w' => ∃ A' c', e = .returned (.tuple #[.agg #[.slice A' (F0 p zss).1.length c'], .int .i64 (F0 p zss).2]) ∧ Own64 w' W.heap.size (.slice A' (F0 p zss).1.length c') (F0 p zss).1 ∧ Below W.heap.size W w') := fun A' W h' => hI.out p A' zss n n W hn hn1 (Nat.le_refl _) (by omega) hps hz1 h'
    have HT : Hid (∀ W, Hid (Below w.heap.size w W) → Calls Try.prog 36 #[.slice A n c] W fun e w' => ∃ g hs, e = .returned (.slice (some ⟨g, 0, none⟩) n n) ∧ Woods w' W.heap.size (.slice (some ⟨g, 0, none⟩) n n) hs zss ∧ Below W.heap.size W w') := fun W hW => toTreeS A zss n c W hn hn1 hz2 (h.out.be hW.out)
    have hf := hF p zss
    obtain ⟨t, ht⟩ : ∃ t, Hid (M.tot zss = t) := ⟨_, rfl⟩
    rw [ht.out] at hsum
    clear hS hI hF h hn'
    generalize F0 p zss = R at *
    obtain ⟨Z, r⟩ := R
    simp only at HS HI hf
    have hfz : Z.length ≤ 1000000000000000 := by omega
    go_wp2_with fail
    refine (HT.out _ B).mono ?_
    rintro e w2 ⟨g2, hs2, rfl, ow2, hb⟩
    replace B := Lib.hid (btr B.out hb)
    have Ow2 := Lib.hid ow2.treesC
    clear hb ow2
    go_wp2_with fail
    refine (HS.out _ _ Ow2).mono ?_
    rintro e w3 ⟨Aw, cw, rfl, ow, hb⟩
    have z03 : w.heap.size ≤ w3.heap.size := (btr B.out hb).size
    have Pw : Hid (∀ k, (Value.slice Aw Z.length cw).ownBlock = some k → k < w3.heap.size) := fun k e => (World.ownsRow.lt ow k e).2
    replace B := Lib.hid (bal (btr B.out hb) (.cells #[.slice Aw Z.length cw] 29))
    have Ow := Lib.hid (ow.alloc (.cells #[.slice Aw Z.length cw] 29))
    have cW := Lib.hid (Boxed.new w3 29 (.slice Aw Z.length cw)).cell
    clear hb ow Ow2 HS
    go_wp2_with fail
    -- x0
    refine (HT.out _ B).mono ?_
    rintro e w4 ⟨gx, hsx, rfl, ox, hb⟩
    have Hx : Hid (∀ h' ∈ hsx, w3.heap.size < h'.1 ∧ h'.1 < w4.heap.size) := fun h' hh => by have := ox.lt hh; simp only [World.size_alloc] at this; omega
    replace B := Lib.hid (btr B.out hb)
    replace cW := Lib.hid (cell_be cW.out hb)
    replace Ow := Lib.hid (own_be Ow.out hb)
    have Ox := Lib.hid (ox.mono (B' := w.heap.size) (by simp only [World.size_alloc]; omega))
    have z34 := hb.size
    simp only [World.size_alloc] at z34
    clear hb ox
    go_wp2_with fail
    -- g0
    refine (HI.out _ _ (Lib.hid Ox.out.treesC)).mono ?_
    rintro e w5 ⟨Ag, cg, rfl, og, hb⟩
    have z45 := hb.size
    have Gx : Hid (∀ k, (Value.slice Ag Z.length cg).ownBlock = some k → w4.heap.size ≤ k ∧ k < w5.heap.size) := fun k hk => World.ownsRow.lt og k hk
    replace B := Lib.hid (bal (btr B.out hb) (.cells #[.slice Ag Z.length cg] 29))
    replace cW := Lib.hid (cell_al (cell_be cW.out hb) (.cells #[.slice Ag Z.length cg] 29))
    replace Ow := Lib.hid ((own_be Ow.out hb).alloc (.cells #[.slice Ag Z.length cg] 29))
    replace Ox := Lib.hid ((Ox.out.be hb).alloc (.cells #[.slice Ag Z.length cg] 29))
    have Og := Lib.hid (og.alloc (.cells #[.slice Ag Z.length cg] 29))
    have cG := Lib.hid (Boxed.new w5 29 (.slice Ag Z.length cg)).cell
    have cW' := cW.out
    clear hb og
    go_wp2_with fail
    refine (eqTreeT _ _ Z _ _ _ hfz (ints_of_own64 Og.out) (ints_of_own64 Ow.out)).mono ?_
    rintro e w6 ⟨rfl, hb⟩
    have z56 := hb.size
    simp only [World.size_alloc] at z56
    replace B := Lib.hid (btr B.out hb)
    replace cW := Lib.hid (cell_be cW.out hb)
    replace cG := Lib.hid (cell_be cG.out hb)
    replace Ow := Lib.hid (own_be Ow.out hb)
    replace Ox := Lib.hid (Ox.out.be hb)
    replace Og := Lib.hid (own_be Og.out hb)
    clear hb cW'
    go_wp2_with fail
    -- x0 is as it was
    refine (HT.out _ B).mono ?_
    rintro e w7 ⟨gy, hsy, rfl, oy, hb⟩
    have z67 := hb.size
    replace B := Lib.hid (btr B.out hb)
    replace cW := Lib.hid (cell_be cW.out hb)
    replace cG := Lib.hid (cell_be cG.out hb)
    replace Ow := Lib.hid (own_be Ow.out hb)
    replace Ox := Lib.hid (Ox.out.be hb)
    replace Og := Lib.hid (own_be Og.out hb)
    have Oy := Lib.hid oy.trees
    clear hb oy
    go_wp2_with fail
    refine (eqTreeS _ _ zss n n n _ hn (by omega) hz2 Ox.out.trees Oy).mono ?_
    rintro e w8 ⟨rfl, hb⟩
    have z78 := hb.size
    replace B := Lib.hid (btr B.out hb)
    replace cW := Lib.hid (cell_be cW.out hb)
    replace cG := Lib.hid (cell_be cG.out hb)
    replace Ow := Lib.hid (own_be Ow.out hb)
    replace Ox := Lib.hid (Ox.out.be hb)
    replace Og := Lib.hid (own_be Og.out hb)
    clear hb Oy
    go_wp2_with fail
    -- the argument is marked
    have zB := B.out.size
    refine (markTreeS _ n n hsx zss 1 w.heap.size w8 hn (by omega) hT (by omega) (by omega) zB Ox).mono ?_
    rintro e w9 ⟨he, _, hb, hfr⟩
    rw [ht.out] at he
    subst he
    have z89 := hb.size
    replace B := Lib.hid (B.out.trans hb)
    replace cW := Lib.hid (cell_frame cW.out hfr (fun h' hh e => by have := Hx.out h' hh; omega))
    replace cG := Lib.hid (cell_frame cG.out hfr (fun h' hh e => by have := Hx.out h' hh; omega))
    replace Ow := Lib.hid (own_frame Ow.out hfr (fun k hk h' hh e => by have := Hx.out h' hh; have := Pw.out k hk; omega))
    replace Og := Lib.hid (own_frame Og.out hfr (fun k hk h' hh e => by have := Hx.out h' hh; have := Gx.out k hk; omega))
    have cW' := cW.out
    have cG' := cG.out
    have hkp : ¬ (1 : Int) + (t : Int) < 0 := by omega
    clear hb hfr Ox Hx
    go_wp2_with fail
    refine (eqTreeT _ _ Z _ _ _ hfz (ints_of_own64 Og.out) (ints_of_own64 Ow.out)).mono ?_
    rintro e w10 ⟨rfl, hb⟩
    have z910 := hb.size
    replace B := Lib.hid (btr B.out hb)
    replace cW := Lib.hid (cell_be cW.out hb)
    replace cG := Lib.hid (cell_be cG.out hb)
    replace Ow := Lib.hid (own_be Ow.out hb)
    replace Og := Lib.hid (own_be Og.out hb)
    have cG' := cG.out
    clear hb cW'
    -- the result is marked
    go_wp2_with fail
    refine (markTree _ _ cg Z 1 _ _ rfl (by omega) (by omega) (by omega) Og.out).mono ?_
    rintro e w11 ⟨rfl, og, hg⟩
    have z1011 := hg.size
    replace B := Lib.hid (below_grown B.out hg (fun k e => by have := Gx.out k e; omega))
    replace cW := Lib.hid (cell_grown cW.out hg (fun k e => by have := Gx.out k e; omega))
    replace cG := Lib.hid (cell_grown cG.out hg (fun k e => by have := Gx.out k e; omega))
    replace Ow := Lib.hid (Ow.out.kept hg (by
      cases hv : (Value.slice Aw Z.length cw).ownBlock with
      | none => exact .inl rfl
      | some k => exact .inr fun e => by have h1 := Pw.out k hv; have h2 := Gx.out k e.symm; omega))
    replace Og := Lib.hid (own_mono (base' := 0) og (Nat.zero_le _))
    have cG' := cG.out
    clear hg og Gx Pw
    go_wp2_with fail
    refine (heldTree _ _ cg 1 _ (by omega) (by omega) (by omega) (ints_of_own64 Og.out)).mono ?_
    rintro e w12 ⟨rfl, hb⟩
    replace B := Lib.hid (btr B.out hb)
    replace cW := Lib.hid (cell_be cW.out hb)
    replace cG := Lib.hid (cell_be cG.out hb)
    replace Ow := Lib.hid (own_be Ow.out hb)
    replace Og := Lib.hid (own_be Og.out hb)
    clear hb cG'
    go_wp2_with fail
    -- once more
    refine (HT.out _ B).mono ?_
    rintro e w13 ⟨gu, hsu, rfl, ou, hb⟩
    replace B := Lib.hid (btr B.out hb)
    replace cW := Lib.hid (cell_be cW.out hb)
    replace cG := Lib.hid (cell_be cG.out hb)
    replace Ow := Lib.hid (own_be Ow.out hb)
    replace Og := Lib.hid (own_be Og.out hb)
    have Ou := Lib.hid ou.treesC
    clear hb ou HT
    go_wp2_with fail
    refine (HI.out _ _ Ou).mono ?_
    rintro e w14 ⟨Ah, ch, rfl, oh, hb⟩
    replace B := Lib.hid (bal (btr B.out hb) (.cells #[.slice Ah Z.length ch] 29))
    replace cW := Lib.hid (cell_al (cell_be cW.out hb) (.cells #[.slice Ah Z.length ch] 29))
    replace cG := Lib.hid (cell_al (cell_be cG.out hb) (.cells #[.slice Ah Z.length ch] 29))
    replace Ow := Lib.hid ((own_be Ow.out hb).alloc (.cells #[.slice Ah Z.length ch] 29))
    replace Og := Lib.hid ((own_be Og.out hb).alloc (.cells #[.slice Ah Z.length ch] 29))
    have Oh := Lib.hid (oh.alloc (.cells #[.slice Ah Z.length ch] 29))
    have cW' := cW.out
    clear hb oh Ou HI
    go_wp2_with fail
    refine (eqTreeT _ _ Z _ _ _ hfz (ints_of_own64 Oh.out) (ints_of_own64 Ow.out)).mono ?_
    rintro e w15 ⟨rfl, hb⟩
    replace B := Lib.hid (btr B.out hb)
    replace cG := Lib.hid (cell_be cG.out hb)
    replace Og := Lib.hid (own_be Og.out hb)
    have cG' := cG.out
    clear hb cW cW' Ow Oh
    go_wp2_with fail
    refine (heldTree _ _ cg 1 _ (by omega) (by omega) (by omega) (ints_of_own64 Og.out)).mono ?_
    rintro e w16 ⟨rfl, hb⟩
    replace B := Lib.hid (btr B.out hb)
    clear hb cG cG' Og
    go_wp2
    go_ret
    exact ⟨rfl, B.out⟩
end Go.Proofs.Ytmhpobgfgimfcaa
