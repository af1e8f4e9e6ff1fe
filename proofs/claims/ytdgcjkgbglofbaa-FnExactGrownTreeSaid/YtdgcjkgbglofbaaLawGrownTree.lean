/- The walk of the law FnExactGrownTree, from the contracts of the program's function and of the model's: it returns true, and writes into nothing that was there. Written by genlawgt.py. -/
import Derived.Test.YtdgcjkgbglofbaaFnGrownTree
import Derived.Test.YtdgcjkgbglofbaaTree
namespace Go.Proofs.Ytdgcjkgbglofbaa
open Go.RowKit

theorem own_neB {v : Value} {row : Option Nat} (h : ∀ k, v.ownBlock = some k → row = some k → False) : v.ownBlock = none ∨ v.ownBlock ≠ row := by
  cases hv : v.ownBlock with
  | none => exact .inl rfl
  | some k => exact .inr fun e => h k hv e.symm

set_option maxHeartbeats 8000000 in
set_option maxRecDepth 100000 in
theorem lawGrownTree (A : Option Addr) (xs : List Int) (c : Nat) (w : World) (h0 : Ints w w.heap.size A xs) :
    Calls Try.prog 14 #[.slice A xs.length c] w fun e w' => e = .returned (.bool true) ∧ Below w.heap.size w w' := by
  by_cases hs : xs.length ≤ 1048576
  · have hx' : xs.length ≤ 1000000000000 := by omega
    have hd : ¬ (1048576 : Int) < (xs.length : Int) := by omega
    have H := Lib.hid h0
    obtain ⟨D, T, r, hF⟩ : ∃ D T r, Hid (F_GrownTree xs = (D, T, r)) := ⟨_, _, _, rfl⟩
    have HI := Lib.hid (fun (A' : Option Addr) (c' : Nat) (w' : World) h' => impl_GrownTree A' xs c' w' hs h')
    have HS := Lib.hid (fun (A' : Option Addr) (c' : Nat) (w' : World) h' => spec_GrownTree A' xs c' w' hs h')
    rw [hF.out] at HI HS
    simp only at HI HS
    have hl := F_GrownTree_len xs
    rw [hF.out] at hl
    obtain ⟨hl1, hl2⟩ : D.length ≤ 1048576 ∧ T.length ≤ 1048576 := hl
    have hnr : (r != r) = false := by simp
    have B : Hid (Below w.heap.size w w) := b0 w
    clear h0 hF
    go_enter Try.func14, Try.ntmps14
    go_wp2_with fail
    refine (toInts A xs c _ hx' (H.out.be B.out)).mono ?_
    rintro e w2 ⟨g2, rfl, o2, hb⟩
    replace B := Lib.hid (btr B.out hb)
    clear hb
    go_wp2_with fail
    refine (HS.out _ _ _ (ints_of_own64 o2)).mono ?_
    rintro e w3 ⟨Aw1, cw1, Aw2, cw2, rfl, t, hb⟩
    replace B := Lib.hid (btr B.out hb)
    have z3 := B.out.size
    have Bw := Lib.hid (fun k (hk : (Value.slice Aw1 D.length cw1).ownBlock = some k) => (t.1.lt k hk).2)
    have Bv := Lib.hid (fun k (hk : (Value.slice Aw2 T.length cw2).ownBlock = some k) => (t.2.1.lt k hk).2)
    obtain ⟨bw, hbw⟩ : ∃ b, Hid (w3.heap.size = b) := ⟨_, rfl⟩
    have cw : (w3.alloc (.cells #[.slice Aw1 D.length cw1] 26)).cell? ⟨bw, 0, none⟩ = some (.slice Aw1 D.length cw1) := by rw [← hbw.out]; simp
    have Ow := Lib.hid (t.1.alloc (.cells #[.slice Aw1 D.length cw1] 26))
    have Pw := Lib.hid (t.2.1.alloc (.cells #[.slice Aw1 D.length cw1] 26))
    replace B := Lib.hid (bal B.out (.cells #[.slice Aw1 D.length cw1] 26))
    clear hb t
    clear o2
    go_wp2_with fail
    rw [hbw.out]
    refine (toInts A xs c _ hx' (H.out.be B.out)).mono ?_
    rintro e w4 ⟨gx, rfl, ox, hb⟩
    have gx1 := (World.ownsRow.lt ox gx rfl).1
    have gx2 := (World.ownsRow.lt ox gx rfl).2
    simp only [World.size_alloc] at gx1
    have z4 := Lib.hid B.out.size
    replace B := Lib.hid (btr B.out hb)
    replace cw := cell_be cw hb
    replace Ow := Lib.hid (own_be Ow.out hb)
    replace Pw := Lib.hid (own_be Pw.out hb)
    have Ox := Lib.hid ox
    clear ox hb
    go_wp2_with fail
    refine (HI.out _ _ _ (ints_of_own64 Ox.out)).mono ?_
    rintro e w5 ⟨Ag1, cg1, Ag2, cg2, rfl, t, hb⟩
    replace B := Lib.hid (btr B.out hb)
    replace cw := cell_be cw hb
    replace Ow := Lib.hid (own_be Ow.out hb)
    replace Pw := Lib.hid (own_be Pw.out hb)
    replace Ox := Lib.hid (own_be Ox.out hb)
    have z45 := hb.size
    have Gz := Lib.hid (fun k (hk : (Value.slice Ag1 D.length cg1).ownBlock = some k) => (t.1.lt k hk).2)
    have Gy := Lib.hid (fun k (hk : (Value.slice Ag2 T.length cg2).ownBlock = some k) => (t.2.1.lt k hk).2)
    have Gg := Lib.hid (fun k (hk : (Value.slice Ag1 D.length cg1).ownBlock = some k) => (t.1.lt k hk).1)
    have Gh := Lib.hid (fun k (hk : (Value.slice Ag2 T.length cg2).ownBlock = some k) => (t.2.1.lt k hk).1)
    obtain ⟨bg, hbg⟩ : ∃ b, Hid (w5.heap.size = b) := ⟨_, rfl⟩
    have cg : (w5.alloc (.cells #[.slice Ag1 D.length cg1] 26)).cell? ⟨bg, 0, none⟩ = some (.slice Ag1 D.length cg1) := by rw [← hbg.out]; simp
    have Og := Lib.hid (t.1.alloc (.cells #[.slice Ag1 D.length cg1] 26))
    have Pg := Lib.hid (t.2.1.alloc (.cells #[.slice Ag1 D.length cg1] 26))
    have Apg := Lib.hid t.2.2
    replace B := Lib.hid (bal B.out (.cells #[.slice Ag1 D.length cg1] 26))
    replace cw := cell_al cw (.cells #[.slice Ag1 D.length cg1] 26)
    replace Ow := Lib.hid (own_be Ow.out (bal (b0 _) (.cells #[.slice Ag1 D.length cg1] 26)))
    replace Pw := Lib.hid (own_be Pw.out (bal (b0 _) (.cells #[.slice Ag1 D.length cg1] 26)))
    replace Ox := Lib.hid (own_be Ox.out (bal (b0 _) (.cells #[.slice Ag1 D.length cg1] 26)))
    clear hb t
    go_wp2_with fail
    rw [hbg.out]
    refine (eqTreeT Ag1 Aw1 D cg1 cw1 _ (by omega) (ints_of_own64 Og.out) (ints_of_own64 Ow.out)).mono ?_
    rintro e w6 ⟨rfl, hb⟩
    replace B := Lib.hid (btr B.out hb)
    replace cw := cell_be cw hb
    replace Ow := Lib.hid (own_be Ow.out hb)
    replace Pw := Lib.hid (own_be Pw.out hb)
    replace Ox := Lib.hid (own_be Ox.out hb)
    replace cg := cell_be cg hb
    replace Og := Lib.hid (own_be Og.out hb)
    replace Pg := Lib.hid (own_be Pg.out hb)
    clear hb
    go_wp2_with fail
    refine (eqIntsT Ag2 Aw2 T cg2 cw2 _ (by omega) (ints_of_own64 Pg.out) (ints_of_own64 Pw.out)).mono ?_
    rintro e w7 ⟨rfl, hb⟩
    replace B := Lib.hid (btr B.out hb)
    replace cw := cell_be cw hb
    replace Ow := Lib.hid (own_be Ow.out hb)
    replace Pw := Lib.hid (own_be Pw.out hb)
    replace Ox := Lib.hid (own_be Ox.out hb)
    replace cg := cell_be cg hb
    replace Og := Lib.hid (own_be Og.out hb)
    replace Pg := Lib.hid (own_be Pg.out hb)
    clear hb
    go_wp2_with fail
    refine (toInts A xs c _ hx' (H.out.be B.out)).mono ?_
    rintro e w8 ⟨g8, rfl, o8, hb⟩
    replace B := Lib.hid (btr B.out hb)
    replace cw := cell_be cw hb
    replace Ow := Lib.hid (own_be Ow.out hb)
    replace Pw := Lib.hid (own_be Pw.out hb)
    replace Ox := Lib.hid (own_be Ox.out hb)
    replace cg := cell_be cg hb
    replace Og := Lib.hid (own_be Og.out hb)
    replace Pg := Lib.hid (own_be Pg.out hb)
    clear hb
    go_wp2_with fail
    refine (eqIntsT _ _ _ _ _ _ (by omega) (ints_of_own64 Ox.out) (ints_of_own64 o8)).mono ?_
    rintro e w9 ⟨rfl, hb⟩
    replace B := Lib.hid (btr B.out hb)
    replace cw := cell_be cw hb
    replace Ow := Lib.hid (own_be Ow.out hb)
    replace Pw := Lib.hid (own_be Pw.out hb)
    replace Ox := Lib.hid (own_be Ox.out hb)
    replace cg := cell_be cg hb
    replace Og := Lib.hid (own_be Og.out hb)
    replace Pg := Lib.hid (own_be Pg.out hb)
    clear hb o8
    go_wp2_with fail
    refine (markInts _ xs.length xs.length xs 1 _ _ rfl hx' (by omega) (by omega) Ox.out).mono ?_
    rintro e w10 ⟨rfl, _, hg⟩
    have hgb : Hid (∀ k, (Value.slice (some ⟨gx, 0, none⟩) xs.length xs.length).ownBlock = some k → k = gx) := fun k e => by injection e with e; exact e.symm
    replace B := Lib.hid (below_grown B.out hg (fun k e => by have := hgb.out k e; omega))
    replace cw := cell_grown cw hg (fun k e => by have := hgb.out k e; have := hbw.out; have := hbg.out; omega)
    replace cg := cell_grown cg hg (fun k e => by have := hgb.out k e; have := hbw.out; have := hbg.out; omega)
    replace Ow := Lib.hid (Ow.out.kept hg (own_neB (fun k hk e => by have := Bw.out k hk; have := hgb.out k e; omega)))
    replace Pw := Lib.hid (Pw.out.kept hg (own_neB (fun k hk e => by have := Bv.out k hk; have := hgb.out k e; omega)))
    replace Og := Lib.hid (Og.out.kept hg (own_neB (fun k hk e => by have := Gg.out k hk; have := hgb.out k e; omega)))
    replace Pg := Lib.hid (Pg.out.kept hg (own_neB (fun k hk e => by have := Gh.out k hk; have := hgb.out k e; omega)))
    clear hg Ox hgb
    go_wp2_with fail
    refine (eqTreeT Ag1 Aw1 D cg1 cw1 _ (by omega) (ints_of_own64 Og.out) (ints_of_own64 Ow.out)).mono ?_
    rintro e w11 ⟨rfl, hb⟩
    replace B := Lib.hid (btr B.out hb)
    replace cw := cell_be cw hb
    replace Ow := Lib.hid (own_be Ow.out hb)
    replace Pw := Lib.hid (own_be Pw.out hb)
    replace cg := cell_be cg hb
    replace Og := Lib.hid (own_be Og.out hb)
    replace Pg := Lib.hid (own_be Pg.out hb)
    clear hb
    go_wp2_with fail
    refine (eqIntsT Ag2 Aw2 T cg2 cw2 _ (by omega) (ints_of_own64 Pg.out) (ints_of_own64 Pw.out)).mono ?_
    rintro e w12 ⟨rfl, hb⟩
    replace B := Lib.hid (btr B.out hb)
    replace cw := cell_be cw hb
    replace Ow := Lib.hid (own_be Ow.out hb)
    replace Pw := Lib.hid (own_be Pw.out hb)
    replace cg := cell_be cg hb
    replace Og := Lib.hid (own_be Og.out hb)
    replace Pg := Lib.hid (own_be Pg.out hb)
    clear hb
    go_wp2_with fail
    refine (markTree _ _ cg1 D 1 _ _ rfl (by omega) (by omega) (by omega) Og.out).mono ?_
    rintro e w13 ⟨rfl, og, hg⟩
    replace B := Lib.hid (below_grown B.out hg (fun k e => by have := Gg.out k e; omega))
    replace cw := cell_grown cw hg (fun k e => by have := Gg.out k e; have := hbw.out; have := hbg.out; have := Gz.out k e; omega)
    replace cg := cell_grown cg hg (fun k e => by have := Gg.out k e; have := hbw.out; have := hbg.out; have := Gz.out k e; omega)
    replace Ow := Lib.hid (Ow.out.kept hg (own_neB (fun k hk e => by have := Bw.out k hk; have := Gg.out k e; omega)))
    replace Pw := Lib.hid (Pw.out.kept hg (own_neB (fun k hk e => by have := Bv.out k hk; have := Gg.out k e; omega)))
    replace Pg := Lib.hid (Pg.out.kept hg (own_neB (fun k hk e => Apg.out k e hk)))
    replace Og := Lib.hid (own_mono (base' := 0) og (Nat.zero_le _))
    clear hg og
    go_wp2_with fail
    refine (markInts _ _ cg2 T (1 + D.length) _ _ rfl (by omega) (by omega) (by omega) Pg.out).mono ?_
    rintro e w14 ⟨rfl, og, hg⟩
    replace B := Lib.hid (below_grown B.out hg (fun k e => by have := Gh.out k e; omega))
    replace cw := cell_grown cw hg (fun k e => by have := Gh.out k e; have := hbw.out; have := hbg.out; have := Gy.out k e; omega)
    replace cg := cell_grown cg hg (fun k e => by have := Gh.out k e; have := hbw.out; have := hbg.out; have := Gy.out k e; omega)
    replace Ow := Lib.hid (Ow.out.kept hg (own_neB (fun k hk e => by have := Bw.out k hk; have := Gh.out k e; omega)))
    replace Pw := Lib.hid (Pw.out.kept hg (own_neB (fun k hk e => by have := Bv.out k hk; have := Gh.out k e; omega)))
    replace Og := Lib.hid (Og.out.kept hg (own_neB (fun k hk e => Apg.out k hk e)))
    replace Pg := Lib.hid (own_mono (base' := 0) og (Nat.zero_le _))
    clear hg og
    have hnq : ((1 : Int) + (D.length : Int) + (T.length : Int) != (1 : Int) + (D.length : Int) + (T.length : Int)) = false := by simp
    go_wp2_with fail
    refine (heldTree _ _ cg1 1 _ (by omega) (by omega) (by omega) (ints_of_own64 Og.out)).mono ?_
    rintro e w15 ⟨rfl, hb⟩
    replace B := Lib.hid (btr B.out hb)
    replace cw := cell_be cw hb
    replace Ow := Lib.hid (own_be Ow.out hb)
    replace Pw := Lib.hid (own_be Pw.out hb)
    replace cg := cell_be cg hb
    replace Og := Lib.hid (own_be Og.out hb)
    replace Pg := Lib.hid (own_be Pg.out hb)
    clear hb
    go_wp2_with fail
    refine (heldInts _ _ cg2 (1 + D.length) _ (by omega) (by omega) (by omega) (ints_of_own64 Pg.out)).mono ?_
    rintro e w16 ⟨rfl, rfl⟩
    go_wp2_with fail
    refine (toInts A xs c _ hx' (H.out.be B.out)).mono ?_
    rintro e w17 ⟨g17, rfl, o17, hb⟩
    replace B := Lib.hid (btr B.out hb)
    replace cw := cell_be cw hb
    replace Ow := Lib.hid (own_be Ow.out hb)
    replace Pw := Lib.hid (own_be Pw.out hb)
    replace cg := cell_be cg hb
    replace Og := Lib.hid (own_be Og.out hb)
    replace Pg := Lib.hid (own_be Pg.out hb)
    clear hb
    go_wp2_with fail
    refine (HI.out _ _ _ (ints_of_own64 o17)).mono ?_
    rintro e w18 ⟨Ah1, ch1, Ah2, ch2, rfl, t, hb⟩
    replace B := Lib.hid (btr B.out hb)
    replace cw := cell_be cw hb
    replace Ow := Lib.hid (own_be Ow.out hb)
    replace Pw := Lib.hid (own_be Pw.out hb)
    replace cg := cell_be cg hb
    replace Og := Lib.hid (own_be Og.out hb)
    replace Pg := Lib.hid (own_be Pg.out hb)
    obtain ⟨bh, hbh⟩ : ∃ b, Hid (w18.heap.size = b) := ⟨_, rfl⟩
    have ch : (w18.alloc (.cells #[.slice Ah1 D.length ch1] 26)).cell? ⟨bh, 0, none⟩ = some (.slice Ah1 D.length ch1) := by rw [← hbh.out]; simp
    have Oh := Lib.hid (t.1.alloc (.cells #[.slice Ah1 D.length ch1] 26))
    have Ph := Lib.hid (t.2.1.alloc (.cells #[.slice Ah1 D.length ch1] 26))
    replace B := Lib.hid (bal B.out (.cells #[.slice Ah1 D.length ch1] 26))
    replace cw := cell_al cw (.cells #[.slice Ah1 D.length ch1] 26)
    replace Ow := Lib.hid (own_be Ow.out (bal (b0 _) (.cells #[.slice Ah1 D.length ch1] 26)))
    replace Pw := Lib.hid (own_be Pw.out (bal (b0 _) (.cells #[.slice Ah1 D.length ch1] 26)))
    replace cg := cell_al cg (.cells #[.slice Ah1 D.length ch1] 26)
    replace Og := Lib.hid (own_be Og.out (bal (b0 _) (.cells #[.slice Ah1 D.length ch1] 26)))
    replace Pg := Lib.hid (own_be Pg.out (bal (b0 _) (.cells #[.slice Ah1 D.length ch1] 26)))
    clear hb t
    clear o17
    go_wp2_with fail
    rw [hbh.out]
    refine (eqTreeT Ah1 Aw1 D ch1 cw1 _ (by omega) (ints_of_own64 Oh.out) (ints_of_own64 Ow.out)).mono ?_
    rintro e w19 ⟨rfl, hb⟩
    replace B := Lib.hid (btr B.out hb)
    replace cw := cell_be cw hb
    replace Ow := Lib.hid (own_be Ow.out hb)
    replace Pw := Lib.hid (own_be Pw.out hb)
    replace cg := cell_be cg hb
    replace Og := Lib.hid (own_be Og.out hb)
    replace Pg := Lib.hid (own_be Pg.out hb)
    replace ch := cell_be ch hb
    replace Oh := Lib.hid (own_be Oh.out hb)
    replace Ph := Lib.hid (own_be Ph.out hb)
    clear hb
    go_wp2_with fail
    refine (eqIntsT Ah2 Aw2 T ch2 cw2 _ (by omega) (ints_of_own64 Ph.out) (ints_of_own64 Pw.out)).mono ?_
    rintro e w20 ⟨rfl, hb⟩
    replace B := Lib.hid (btr B.out hb)
    replace cw := cell_be cw hb
    replace Ow := Lib.hid (own_be Ow.out hb)
    replace Pw := Lib.hid (own_be Pw.out hb)
    replace cg := cell_be cg hb
    replace Og := Lib.hid (own_be Og.out hb)
    replace Pg := Lib.hid (own_be Pg.out hb)
    replace ch := cell_be ch hb
    replace Oh := Lib.hid (own_be Oh.out hb)
    replace Ph := Lib.hid (own_be Ph.out hb)
    clear hb
    clear cw Ow Pw ch Oh Ph
    go_wp2_with fail
    refine (heldTree _ _ cg1 1 _ (by omega) (by omega) (by omega) (ints_of_own64 Og.out)).mono ?_
    rintro e w21 ⟨rfl, hb⟩
    replace B := Lib.hid (btr B.out hb)
    replace cg := cell_be cg hb
    replace Og := Lib.hid (own_be Og.out hb)
    replace Pg := Lib.hid (own_be Pg.out hb)
    clear hb
    go_wp2_with fail
    refine (heldInts _ _ cg2 (1 + D.length) _ (by omega) (by omega) (by omega) (ints_of_own64 Pg.out)).mono ?_
    rintro e w22 ⟨rfl, rfl⟩
    go_wp2
    go_ret
    exact ⟨rfl, B.out⟩
  · have hd : (1048576 : Int) < (xs.length : Int) := by omega
    go_enter Try.func14, Try.ntmps14
    go_wp2
    go_ret
    exact ⟨rfl, b0 _⟩
end Go.Proofs.Ytdgcjkgbglofbaa
