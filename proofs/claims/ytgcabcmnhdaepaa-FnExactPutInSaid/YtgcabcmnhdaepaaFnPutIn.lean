/- PutIn, the model's: the tree with a node put in, or a code. -/
import Derived.Test.YtgcabcmnhdaepaaImPutMade
namespace Go.Proofs.Ytgcabcmnhdaepaa
open Go.RowKit

theorem ints_endP (w : World) (B : Nat) (A : Option Addr) (xs : List Int) (E : Nat) (h : xs.length ≤ E) : Hid (Ints w B A (xs.drop E)) := by show Ints _ _ _ _; rw [List.drop_eq_nil_of_le h]; exact Ints.nil_ _ _ _

set_option maxHeartbeats 4000000 in
set_option maxRecDepth 100000 in
/-- behind the place is known -/
theorem l07PutIn (b off : Nat) (xs : List Int) (c v i k : Nat) (w : World) (hlen : xs.length < 24) (hcl : xs.length ≤ c) (hcu : c ≤ 1000000000000) (Ht : Hid (M.isTree xs = true)) (hvl : v < xs.length) (hid : i + k ≤ M.deg xs v) (h : Hid (Ints w w.heap.size (some ⟨b, off, none⟩) xs)) :
    Calls Try.prog 94 #[.agg #[.slice (some ⟨b, off, none⟩) xs.length c], .int .i64 (v : Int), .int .i64 (i : Int), .int .i64 (k : Int)] w fun e w' => ∃ A' c', e = .returned (.agg #[.slice A' (M.putIn xs v i k).length c']) ∧ Hid (Own64 w' w.heap.size (.slice A' (M.putIn xs v i k).length c') (M.putIn xs v i k)) ∧ Hid (Below w.heap.size w w') := by
  obtain ⟨d, hd, hd24⟩ := M.tree_degN Ht.out hvl
  have hdg := M.deg_at hd
  rw [hdg] at hid
  obtain ⟨hEv, hEn⟩ := M.putAt_gt Ht.out hvl (i := i)
  obtain ⟨E, hE⟩ : ∃ E, Hid (M.putAt xs v i = E) := ⟨_, rfl⟩
  rw [hE.out] at hEv hEn
  have hto : Hid (M.putIn xs v i k = (M.putL xs v i (k : Int)).set v ((d : Int) - (k : Int) + 1)) := by show _ = _; rw [M.putIn, hdg]
  have hla : Hid ((M.putL xs v i (k : Int))[v]? = some (d : Int)) := M.putL_at hd (by rw [hE.out]; exact hEv)
  have hll : Hid ((M.putL xs v i (k : Int)).length = xs.length + 1) := M.putL_len (by rw [hE.out]; exact hEn)
  have hle : Hid (M.putL xs v i (k : Int) = xs.take E ++ [(k : Int)] ++ xs.drop E) := by show _ = _; rw [M.putL, hE.out]
  obtain ⟨Z, hZ⟩ : ∃ Z, Hid (v + M.span 1 (xs.drop v) = Z) := ⟨_, rfl⟩
  obtain ⟨W, hW⟩ : ∃ W, W = (w.alloc (.cells #[.slice (some ⟨b, off, none⟩) xs.length c] 44)).alloc (.cells #[.slice none 0 0] 44) := ⟨_, rfl⟩
  have hbx : W.cell? ⟨w.heap.size, 0, none⟩ = some (.slice (some ⟨b, off, none⟩) xs.length c) := by subst hW; exact cell_al (by simp) _
  have hBW : Hid (Below w.heap.size w W) := by subst hW; exact bal (bal (b0 w) _) _
  have hI : Hid (Ints W W.heap.size (some ⟨b, off, none⟩) xs) := h.out.be hBW.out
  have hres : Hid (W.heap[w.heap.size + 1]? = some (.cells #[.slice none 0 0] 44 (0, 0))) := by
    subst hW
    have h1 := World.alloc_heap_new (w.alloc (.cells #[.slice (some ⟨b, off, none⟩) xs.length c] 44)) (.cells #[.slice none 0 0] 44)
    rw [World.size_alloc] at h1
    exact h1
  have zW : Hid (w.heap.size + 1 < W.heap.size) := lt_of_block hres.out
  have HS : Hid (∀ w', Hid (Below W.heap.size W w') → w'.cell? ⟨w.heap.size, 0, none⟩ = some (.slice (some ⟨b, off, none⟩) xs.length c)) := fun w' hb => cell_be hbx hb.out
  have HKd := Lib.hid (l01Children (some ⟨b, off, none⟩) xs c v d W (by omega) Ht (Lib.hid hd) hI.out)
  have HEnd : Hid (∀ w', Hid (Below W.heap.size W w') → Calls Try.prog 132 #[.agg #[.slice (some ⟨b, off, none⟩) xs.length c], .int .i64 (v : Int)] w' fun e w'' => e = .returned (.int .i64 (Z : Int)) ∧ Below w'.heap.size w' w'') := fun w' hb =>
    l01End _ xs c v Z w' hZ (by omega) (Lib.hid (M.tree_ok Ht.out hvl)) (hI.out.be hb.out)
  have HOwn : Hid (∀ w', Hid (Below W.heap.size W w') → Calls Try.prog 69 #[.slice (some ⟨b, off, none⟩) E c] w' fun e w'' => ∃ A' c', e = .returned (.slice A' E c') ∧ Hid (Own64 w'' W.heap.size (.slice A' E c') (xs.take E)) ∧ Hid (Below W.heap.size W w'')) := fun w' hb => by
    have hi : Hid (Ints w' w'.heap.size (some ⟨b, off, none⟩) (xs.take E)) := by
      have := ints_sub (hI.out.be hb.out) 0 E
      exact Lib.hid (by simpa using this)
    exact (l01Own _ (xs.take E) E c w' (show _ = _ by rw [List.length_take]; omega) (by omega) (fun e => by cases e) hi).mono fun e w'' ⟨A', c', he, ho, hb2⟩ => ⟨A', c', he, own_mono ho hb.out.size, btr hb.out hb2⟩
  have hmE : Hid ((xs.drop E).length = xs.length - E) := by show _ = _; simp
  have HZE : Hid (¬ i < d → (Z : Int) = (E : Int)) := fun hn => by have h1 := hE.out; rw [M.putAt, hdg, if_neg hn] at h1; simp only [M.fin] at h1; rw [hZ.out] at h1; omega
  have HKE : Hid (i < d → M.kidAt xs v i = E) := fun hn => by rw [← hE.out, M.putAt, hdg, if_pos hn]
  have HW := Lib.hid hW
  have v0 : (0 : Int) ≤ (v : Int) := by omega
  have e0 : (0 : Int) ≤ (E : Int) := by omega
  have e1 : (E : Int) ≤ (c : Int) := by omega
  have e2 : (E : Int) ≤ (xs.length : Int) := by omega
  rw [hto.out, List.length_set]
  obtain ⟨bq, hbq⟩ : ∃ bq, Hid (decide (i < d) = bq) := ⟨_, rfl⟩
  clear hW h hd hdg
  go_enter Try.func94, Try.ntmps94
  go_wp2_with fail
  rw [← HW.out]
  refine HKd.out.mono ?_
  rintro e w1 ⟨A1, c1, rfl, ho1, hb1⟩
  have B1 := Lib.hid hb1
  have O1 := Lib.hid ho1
  have x1 := HS.out _ B1
  clear ho1 hb1 HKd HW
  go_wp2_with fail
  refine (HEnd.out _ B1).mono ?_
  rintro e w2 ⟨rfl, hb2⟩
  have B2 : Hid (Below W.heap.size W w2) := btr B1.out hb2
  have O2 := Lib.hid (own_be O1.out hb2)
  have x2 := HS.out _ B2
  have z1 := B1.out.size
  clear hb2 HEnd x1 O1
  have es1 : IntKind.i64.wrap ((d : Int) - (k : Int)) = (d : Int) - (k : Int) := IntWalk.i64_in _ (by omega)
  have es2 : IntKind.i64.wrap ((d : Int) - (k : Int) + 1) = (d : Int) - (k : Int) + 1 := IntWalk.i64_in _ (by omega)
  have vv1 : (v : Int) < (xs.length : Int) := by omega
  cases bq
  · have hid2 : ¬ (i : Int) < (d : Int) := by have := hbq.out; simp at this; omega
    have hZe := HZE.out (by have := hbq.out; simp at this; omega)
    go_wp2_with fail
    refine (HOwn.out _ B2).mono ?_
    rintro e w3 ⟨A3, c3, rfl, ho3, B3⟩
    have z3 := B3.out.size
    have x3 := HS.out _ B3
    clear x2 O2
    rcases Nat.lt_or_ge E c with hEc | hEc
    · have hne : ¬ c = E := by omega
      have HI2 : Hid (∀ w', Hid (Below W.heap.size W w') → Hid (Ints w' w'.heap.size (some ⟨b, off + E, none⟩) (xs.drop E))) := fun w' hb => by
        have := ints_sub (hI.out.be hb.out) E (xs.length - E)
        rw [show (xs.drop E).take (xs.length - E) = xs.drop E from List.take_of_length_le (by simp)] at this
        exact this
      clear hEc
      go_wp2_with (first | (at_builtin; refine push64 rfl (.tmp 30) (.tmp 32) rfl w3 W.heap.size A3 E c3 (xs.take E) (k : Int) rfl rfl ho3 z3 (by omega) ?_; intro A4 c4 w4 ho4 hb4; have B4 : Hid (Below W.heap.size W w4) := B3.out.trans hb4.out; have z4 := B4.out.size; have x4 := HS.out _ B4) | (at_builtin; refine appendInts rfl (.tmp 34) (.tmp 38) rfl w4 W.heap.size A4 (E + 1) c4 (xs.take E ++ [(k : Int)]) (some ⟨b, off + E, none⟩) (xs.length - E) (c - E) (xs.drop E) rfl rfl ho4 (HI2.out _ B4) hmE (fun e => by cases e) z4 (by omega) (by omega) ?_; intro A5 c5 w5 ho5 hb5; obtain ⟨n7, hn7⟩ : ∃ n7, E + 1 + (xs.length - E) = n7 := ⟨_, rfl⟩; rw [hn7] at ho5 ⊢; have B5 : Hid (Below W.heap.size W w5) := B4.out.trans hb5.out; have ho6 : Hid (Own64 w5 W.heap.size (.slice A5 n7 c5) (M.putL xs v i (k : Int))) := (by rw [hle.out]; exact ho5); have hn8 : Hid (n7 = (M.putL xs v i (k : Int)).length) := own64_len ho6.out; obtain ⟨g7, rfl⟩ := own64_at ho6.out (by rw [hll.out]; omega); obtain ⟨d1, d2, d3, d4⟩ := own64_cell ho6.out hn8.out.symm hla.out; have hp7 : (v : Int) < (n7 : Int) := (by have := hn8.out; have := hll.out; omega); have zz2 := zW.out; have hr8 : (w5.setCell ⟨g7, v, none⟩ (.int .i64 ((d : Int) - (k : Int) + 1))).heap[w.heap.size + 1]? = some (.cells #[.slice none 0 0] 44 (0, 0)) := (heap_setCell_other _ _ _ _ (show w.heap.size + 1 ≠ g7 by omega)).trans ((B5.out.block _ zz2).trans hres.out); have hr2 := cell_of_one hr8; have hf2 := free_of_one hr8; clear ho5 hn7 hr8))
      have hset := Lib.hid (own64_set ho6.out hn8.out.symm v ((d : Int) - (k : Int) + 1))
      have hBf : Hid (Below w.heap.size w (w5.setCell ⟨g7, v, none⟩ (.int .i64 ((d : Int) - (k : Int) + 1)))) := below_setCell (btr hBW.out B5.out) (by have := hBW.out.size; omega) _
      have hnl2 := hn8.out
      subst hnl2
      refine bodyPost_ret (v := .agg #[.slice (some ⟨g7, 0, none⟩) (M.putL xs v i (k : Int)).length c5]) (by simp [results, Try.results94, go_sem, hr2]) rfl ?_
      exact ⟨_, _, rfl, own_mono (own_far hset.out (by omega) _) (by have := hBW.out.size; omega), below_setCell hBf.out (by omega) _⟩
    · have hEq : E = c := by omega
      have hzz : Hid (xs.length ≤ E) := (show xs.length ≤ E by omega)
      have HI2 : Hid (∀ w', Hid (Ints w' w'.heap.size (some ⟨b, off, none⟩) (xs.drop E))) := fun w' => ints_endP _ _ _ _ _ hzz.out
      subst hEq
      clear hEc hcl
      go_wp2_with (first | (at_builtin; refine push64 rfl (.tmp 30) (.tmp 32) rfl w3 W.heap.size A3 E c3 (xs.take E) (k : Int) rfl rfl ho3 z3 (by omega) ?_; intro A4 c4 w4 ho4 hb4; have B4 : Hid (Below W.heap.size W w4) := B3.out.trans hb4.out; have z4 := B4.out.size; have x4 := HS.out _ B4) | (at_builtin; refine appendInts rfl (.tmp 34) (.tmp 38) rfl w4 W.heap.size A4 (E + 1) c4 (xs.take E ++ [(k : Int)]) (some ⟨b, off, none⟩) (xs.length - E) 0 (xs.drop E) rfl rfl ho4 (HI2.out _) hmE (fun e => by cases e) z4 (by omega) (by omega) ?_; intro A5 c5 w5 ho5 hb5; obtain ⟨n7, hn7⟩ : ∃ n7, E + 1 + (xs.length - E) = n7 := ⟨_, rfl⟩; rw [hn7] at ho5 ⊢; have B5 : Hid (Below W.heap.size W w5) := B4.out.trans hb5.out; have ho6 : Hid (Own64 w5 W.heap.size (.slice A5 n7 c5) (M.putL xs v i (k : Int))) := (by rw [hle.out]; exact ho5); have hn8 : Hid (n7 = (M.putL xs v i (k : Int)).length) := own64_len ho6.out; obtain ⟨g7, rfl⟩ := own64_at ho6.out (by rw [hll.out]; omega); obtain ⟨d1, d2, d3, d4⟩ := own64_cell ho6.out hn8.out.symm hla.out; have hp7 : (v : Int) < (n7 : Int) := (by have := hn8.out; have := hll.out; omega); have zz2 := zW.out; have hr8 : (w5.setCell ⟨g7, v, none⟩ (.int .i64 ((d : Int) - (k : Int) + 1))).heap[w.heap.size + 1]? = some (.cells #[.slice none 0 0] 44 (0, 0)) := (heap_setCell_other _ _ _ _ (show w.heap.size + 1 ≠ g7 by omega)).trans ((B5.out.block _ zz2).trans hres.out); have hr2 := cell_of_one hr8; have hf2 := free_of_one hr8; clear ho5 hn7 hr8))
      have hset := Lib.hid (own64_set ho6.out hn8.out.symm v ((d : Int) - (k : Int) + 1))
      have hBf : Hid (Below w.heap.size w (w5.setCell ⟨g7, v, none⟩ (.int .i64 ((d : Int) - (k : Int) + 1)))) := below_setCell (btr hBW.out B5.out) (by have := hBW.out.size; omega) _
      have hnl2 := hn8.out
      subst hnl2
      refine bodyPost_ret (v := .agg #[.slice (some ⟨g7, 0, none⟩) (M.putL xs v i (k : Int)).length c5]) (by simp [results, Try.results94, go_sem, hr2]) rfl ?_
      exact ⟨_, _, rfl, own_mono (own_far hset.out (by omega) _) (by have := hBW.out.size; omega), below_setCell hBf.out (by omega) _⟩
  · have hid' : i < d := by have := hbq.out; simpa using this
    have hid2 : (i : Int) < (d : Int) := by omega
    have i0 : (0 : Int) ≤ (i : Int) := by omega
    obtain ⟨g1, rfl⟩ := own64_at O2.out (by rw [M.childs_length]; omega)
    have hk2 := (own64_cell O2.out (M.childs_length _ _ _) (M.childs_at xs v hid')).1
    rw [HKE.out hid'] at hk2
    go_wp2_with fail
    refine (HOwn.out _ B2).mono ?_
    rintro e w3 ⟨A3, c3, rfl, ho3, B3⟩
    have z3 := B3.out.size
    have x3 := HS.out _ B3
    clear x2 O2
    rcases Nat.lt_or_ge E c with hEc | hEc
    · have hne : ¬ c = E := by omega
      have HI2 : Hid (∀ w', Hid (Below W.heap.size W w') → Hid (Ints w' w'.heap.size (some ⟨b, off + E, none⟩) (xs.drop E))) := fun w' hb => by
        have := ints_sub (hI.out.be hb.out) E (xs.length - E)
        rw [show (xs.drop E).take (xs.length - E) = xs.drop E from List.take_of_length_le (by simp)] at this
        exact this
      clear hEc
      go_wp2_with (first | (at_builtin; refine push64 rfl (.tmp 30) (.tmp 32) rfl w3 W.heap.size A3 E c3 (xs.take E) (k : Int) rfl rfl ho3 z3 (by omega) ?_; intro A4 c4 w4 ho4 hb4; have B4 : Hid (Below W.heap.size W w4) := B3.out.trans hb4.out; have z4 := B4.out.size; have x4 := HS.out _ B4) | (at_builtin; refine appendInts rfl (.tmp 34) (.tmp 38) rfl w4 W.heap.size A4 (E + 1) c4 (xs.take E ++ [(k : Int)]) (some ⟨b, off + E, none⟩) (xs.length - E) (c - E) (xs.drop E) rfl rfl ho4 (HI2.out _ B4) hmE (fun e => by cases e) z4 (by omega) (by omega) ?_; intro A5 c5 w5 ho5 hb5; obtain ⟨n7, hn7⟩ : ∃ n7, E + 1 + (xs.length - E) = n7 := ⟨_, rfl⟩; rw [hn7] at ho5 ⊢; have B5 : Hid (Below W.heap.size W w5) := B4.out.trans hb5.out; have ho6 : Hid (Own64 w5 W.heap.size (.slice A5 n7 c5) (M.putL xs v i (k : Int))) := (by rw [hle.out]; exact ho5); have hn8 : Hid (n7 = (M.putL xs v i (k : Int)).length) := own64_len ho6.out; obtain ⟨g7, rfl⟩ := own64_at ho6.out (by rw [hll.out]; omega); obtain ⟨d1, d2, d3, d4⟩ := own64_cell ho6.out hn8.out.symm hla.out; have hp7 : (v : Int) < (n7 : Int) := (by have := hn8.out; have := hll.out; omega); have zz2 := zW.out; have hr8 : (w5.setCell ⟨g7, v, none⟩ (.int .i64 ((d : Int) - (k : Int) + 1))).heap[w.heap.size + 1]? = some (.cells #[.slice none 0 0] 44 (0, 0)) := (heap_setCell_other _ _ _ _ (show w.heap.size + 1 ≠ g7 by omega)).trans ((B5.out.block _ zz2).trans hres.out); have hr2 := cell_of_one hr8; have hf2 := free_of_one hr8; clear ho5 hn7 hr8))
      have hset := Lib.hid (own64_set ho6.out hn8.out.symm v ((d : Int) - (k : Int) + 1))
      have hBf : Hid (Below w.heap.size w (w5.setCell ⟨g7, v, none⟩ (.int .i64 ((d : Int) - (k : Int) + 1)))) := below_setCell (btr hBW.out B5.out) (by have := hBW.out.size; omega) _
      have hnl2 := hn8.out
      subst hnl2
      refine bodyPost_ret (v := .agg #[.slice (some ⟨g7, 0, none⟩) (M.putL xs v i (k : Int)).length c5]) (by simp [results, Try.results94, go_sem, hr2]) rfl ?_
      exact ⟨_, _, rfl, own_mono (own_far hset.out (by omega) _) (by have := hBW.out.size; omega), below_setCell hBf.out (by omega) _⟩
    · have hEq : E = c := by omega
      have hzz : Hid (xs.length ≤ E) := (show xs.length ≤ E by omega)
      have HI2 : Hid (∀ w', Hid (Ints w' w'.heap.size (some ⟨b, off, none⟩) (xs.drop E))) := fun w' => ints_endP _ _ _ _ _ hzz.out
      subst hEq
      clear hEc hcl
      go_wp2_with (first | (at_builtin; refine push64 rfl (.tmp 30) (.tmp 32) rfl w3 W.heap.size A3 E c3 (xs.take E) (k : Int) rfl rfl ho3 z3 (by omega) ?_; intro A4 c4 w4 ho4 hb4; have B4 : Hid (Below W.heap.size W w4) := B3.out.trans hb4.out; have z4 := B4.out.size; have x4 := HS.out _ B4) | (at_builtin; refine appendInts rfl (.tmp 34) (.tmp 38) rfl w4 W.heap.size A4 (E + 1) c4 (xs.take E ++ [(k : Int)]) (some ⟨b, off, none⟩) (xs.length - E) 0 (xs.drop E) rfl rfl ho4 (HI2.out _) hmE (fun e => by cases e) z4 (by omega) (by omega) ?_; intro A5 c5 w5 ho5 hb5; obtain ⟨n7, hn7⟩ : ∃ n7, E + 1 + (xs.length - E) = n7 := ⟨_, rfl⟩; rw [hn7] at ho5 ⊢; have B5 : Hid (Below W.heap.size W w5) := B4.out.trans hb5.out; have ho6 : Hid (Own64 w5 W.heap.size (.slice A5 n7 c5) (M.putL xs v i (k : Int))) := (by rw [hle.out]; exact ho5); have hn8 : Hid (n7 = (M.putL xs v i (k : Int)).length) := own64_len ho6.out; obtain ⟨g7, rfl⟩ := own64_at ho6.out (by rw [hll.out]; omega); obtain ⟨d1, d2, d3, d4⟩ := own64_cell ho6.out hn8.out.symm hla.out; have hp7 : (v : Int) < (n7 : Int) := (by have := hn8.out; have := hll.out; omega); have zz2 := zW.out; have hr8 : (w5.setCell ⟨g7, v, none⟩ (.int .i64 ((d : Int) - (k : Int) + 1))).heap[w.heap.size + 1]? = some (.cells #[.slice none 0 0] 44 (0, 0)) := (heap_setCell_other _ _ _ _ (show w.heap.size + 1 ≠ g7 by omega)).trans ((B5.out.block _ zz2).trans hres.out); have hr2 := cell_of_one hr8; have hf2 := free_of_one hr8; clear ho5 hn7 hr8))
      have hset := Lib.hid (own64_set ho6.out hn8.out.symm v ((d : Int) - (k : Int) + 1))
      have hBf : Hid (Below w.heap.size w (w5.setCell ⟨g7, v, none⟩ (.int .i64 ((d : Int) - (k : Int) + 1)))) := below_setCell (btr hBW.out B5.out) (by have := hBW.out.size; omega) _
      have hnl2 := hn8.out
      subst hnl2
      refine bodyPost_ret (v := .agg #[.slice (some ⟨g7, 0, none⟩) (M.putL xs v i (k : Int)).length c5]) (by simp [results, Try.results94, go_sem, hr2]) rfl ?_
      exact ⟨_, _, rfl, own_mono (own_far hset.out (by omega) _) (by have := hBW.out.size; omega), below_setCell hBf.out (by omega) _⟩

set_option maxHeartbeats 4000000 in
set_option maxRecDepth 100000 in
theorem spec_PutIn : GivesTree3 45 F_PutIn := by
  intro A xs c v i k w hx hcc h
  obtain ⟨r, hr⟩ : ∃ r, Hid (putCode xs v i k = r) := ⟨_, rfl⟩
  obtain ⟨q, hq⟩ : ∃ q, Hid (M.code xs [v] = q) := ⟨_, rfl⟩
  obtain ⟨W, hW⟩ : ∃ W, W = (w.alloc (.cells #[.slice A xs.length c] 44)).alloc (.cells #[.slice none 0 0] 44) := ⟨_, rfl⟩
  have hBW : Hid (Below w.heap.size w W) := by subst hW; exact bal (bal (b0 w) _) _
  have hbx : W.cell? ⟨w.heap.size, 0, none⟩ = some (.slice A xs.length c) := by subst hW; exact cell_al (by simp) _
  have hres : Hid (W.heap[w.heap.size + 1]? = some (.cells #[.slice none 0 0] 44 (0, 0))) := by
    subst hW
    have h1 := World.alloc_heap_new (w.alloc (.cells #[.slice A xs.length c] 44)) (.cells #[.slice none 0 0] 44)
    rw [World.size_alloc] at h1
    exact h1
  have zW : Hid (w.heap.size + 1 < W.heap.size) := lt_of_block hres.out
  have HI : Hid (Ints W W.heap.size A xs) := h.be hBW.out
  have HC : Hid (Calls Try.prog 90 #[.agg #[.slice A xs.length c], .slice (some ⟨w.heap.size + 1 + 1, 0, none⟩) 1 1] (W.alloc (.cells #[.int .i64 v] 2)) fun e w' => e = .returned (.int .i64 q) ∧ Hid (Below W.heap.size W w')) := by
    have hz : W.heap.size = w.heap.size + 1 + 1 := by subst hW; simp
    have hc := l01Nodes A (some ⟨W.heap.size, 0, none⟩) xs [v] c 1 (W.alloc (.cells #[.int .i64 v] 2)) (by omega) (by simp) (HI.out.al _) (ints_new W #[.int .i64 v] [v] rfl) q hq
    simp only [List.length_cons, List.length_nil, Nat.zero_add] at hc
    rw [hz] at hc
    exact hc.mono fun e w' ⟨he, hb⟩ => ⟨he, btr (bal (b0 W) _) hb⟩
  have HW := Lib.hid hW
  clear hW h
  by_cases h0 : q = 0
  · subst h0
    have hn := M.code_node hq.out
    have ht := Lib.hid (M.code_tree hq.out)
    have hlen := (M.tree_len ht.out).2
    obtain ⟨v, rfl⟩ := Int.eq_ofNat_of_zero_le hn.1
    have hvl : v < xs.length := by simpa using hn.2.1
    obtain ⟨d, hd, hd24⟩ := M.tree_degN ht.out hvl
    have hdg := M.deg_at hd
    have hpc : (if (decide (0 ≤ i) && decide (i ≤ (d : Int))) && (decide (0 ≤ k) && decide (k ≤ (d : Int) - i)) then (if xs.length = 24 then (3 : Int) else 0) else 2) = r := by
      have h1 := hr.out
      rw [putCode, if_pos hq.out, Int.toNat_natCast, hdg] at h1
      exact h1
    obtain ⟨b, off, rfl, hbB, hcv⟩ := HI.out (by omega)
    have hdc := hcv v _ hd
    have hv0 : (0 : Int) ≤ (v : Int) := by omega
    have hv1 : (v : Int) < (xs.length : Int) := by omega
    have HD : Hid (∀ w', Hid (Below W.heap.size W w') → w'.cell? ⟨b, off + v, none⟩ = some (.int .i64 (d : Int))) := fun w' hb => ((bcell hb.out).1 _ _ hbB).trans hdc
    have Hpc := Lib.hid hpc
    have Hdg := Lib.hid hdg
    clear hn hcv hdc hpc hd hdg
    cases hb1 : decide (0 ≤ i) && decide (i ≤ (d : Int))
    · have e : r = 2 := by have := Hpc.out; rw [hb1] at this; simpa using this.symm
      subst e
      have hF : F_PutIn xs (v : Int) i k = ([], 2) := by rw [F_PutIn, hr.out]; rfl
      rw [hF]
      have Hb1 := Lib.hid hb1
      clear hb1 hF hr
      go_enter Try.func45, Try.ntmps45
      go_wp2_with fail
      rw [← HW.out]
      refine HC.out.mono ?_
      rintro e w1 ⟨rfl, hb⟩
      have hB1 := Lib.hid (btr hBW.out hb.out)
      have T1 := cell_be hbx hb.out
      have hr1 : Hid (w1.heap[w.heap.size + 1]? = some (.cells #[.slice none 0 0] 44 (0, 0))) := (hb.out.block _ zW.out).trans hres.out
      have hr2 := cell_of_one hr1.out
      have hf2 := free_of_one hr1.out
      have dc := HD.out _ hb
      clear hr1 hb hbx HC HW HD
      go_wp2_with fail
      refine (inAny _ _ _ _ _ Hb1).mono ?_
      rintro e w' ⟨rfl, rfl⟩
      go_wp2
      refine bodyPost_ret (v := .tuple #[.agg #[.slice none 0 0], .int .i64 2]) (by simp [results, Try.results45, go_sem, hr2]) rfl ?_
      exact ⟨none, 0, rfl, own64_nil _ _, below_setCell hB1.out (by omega) _⟩
    · have Hb1 := Lib.hid hb1
      have hi : 0 ≤ i ∧ i ≤ (d : Int) := by simpa using hb1
      have es : IntKind.i64.wrap ((d : Int) - i) = (d : Int) - i := IntWalk.i64_in _ (by omega)
      cases hb2 : decide (0 ≤ k) && decide (k ≤ (d : Int) - i)
      · have e : r = 2 := by have := Hpc.out; rw [hb1, hb2] at this; simpa using this.symm
        subst e
        have hF : F_PutIn xs (v : Int) i k = ([], 2) := by rw [F_PutIn, hr.out]; rfl
        rw [hF]
        have Hb2 := Lib.hid hb2
        clear hb1 hb2 hF hr
        go_enter Try.func45, Try.ntmps45
        go_wp2_with fail
        rw [← HW.out]
        refine HC.out.mono ?_
        rintro e w1 ⟨rfl, hb⟩
        have hB1 := Lib.hid (btr hBW.out hb.out)
        have T1 := cell_be hbx hb.out
        have hr1 : Hid (w1.heap[w.heap.size + 1]? = some (.cells #[.slice none 0 0] 44 (0, 0))) := (hb.out.block _ zW.out).trans hres.out
        have hr2 := cell_of_one hr1.out
        have hf2 := free_of_one hr1.out
        have dc := HD.out _ hb
        clear hr1 hb hbx HC HW HD
        go_wp2_with fail
        refine (inAny _ _ _ _ _ Hb1).mono ?_
        rintro e w' ⟨rfl, rfl⟩
        go_wp2_with fail
        refine (inAny _ _ _ _ _ Hb2).mono ?_
        rintro e w' ⟨rfl, rfl⟩
        go_wp2
        refine bodyPost_ret (v := .tuple #[.agg #[.slice none 0 0], .int .i64 2]) (by simp [results, Try.results45, go_sem, hr2]) rfl ?_
        exact ⟨none, 0, rfl, own64_nil _ _, below_setCell hB1.out (by omega) _⟩
      · have Hb2 := Lib.hid hb2
        have hk : 0 ≤ k ∧ k ≤ (d : Int) - i := by simpa using hb2
        have hr3 : (if xs.length = 24 then (3 : Int) else 0) = r := by have := Hpc.out; rw [hb1, hb2] at this; simpa using this
        clear hb1 hb2
        by_cases hl : xs.length = 24
        · rw [if_pos hl] at hr3
          subst hr3
          have hF : F_PutIn xs (v : Int) i k = ([], 3) := by rw [F_PutIn, hr.out]; rfl
          rw [hF]
          have hle : ((xs.length : Int) == 24) = true := by simp; omega
          have Hl := Lib.hid hl
          clear hl hF hr
          go_enter Try.func45, Try.ntmps45
          go_wp2_with fail
          rw [← HW.out]
          refine HC.out.mono ?_
          rintro e w1 ⟨rfl, hb⟩
          have hB1 := Lib.hid (btr hBW.out hb.out)
          have T1 := cell_be hbx hb.out
          have hr1 : Hid (w1.heap[w.heap.size + 1]? = some (.cells #[.slice none 0 0] 44 (0, 0))) := (hb.out.block _ zW.out).trans hres.out
          have hr2 := cell_of_one hr1.out
          have hf2 := free_of_one hr1.out
          have dc := HD.out _ hb
          clear hb hbx HC HW HD
          go_wp2_with fail
          refine (inAny _ _ _ _ _ Hb1).mono ?_
          rintro e w' ⟨rfl, rfl⟩
          go_wp2_with fail
          refine (inAny _ _ _ _ _ Hb2).mono ?_
          rintro e w' ⟨rfl, rfl⟩
          clear hr2 hf2
          go_wp2_with fail
          refine (l01N _ _ _ _).mono ?_
          rintro e w2 ⟨rfl, hb2⟩
          have hr4 : w2.heap[w.heap.size + 1]? = some (.cells #[.slice none 0 0] 44 (0, 0)) := (hb2.block _ (lt_of_block hr1.out)).trans hr1.out
          have hr2 := cell_of_one hr4
          have hf2 := free_of_one hr4
          replace hB1 := Lib.hid (btr hB1.out hb2)
          clear hr1 hr4 hb2 dc T1
          go_wp2
          refine bodyPost_ret (v := .tuple #[.agg #[.slice none 0 0], .int .i64 3]) (by simp [results, Try.results45, go_sem, hr2]) rfl ?_
          exact ⟨none, 0, rfl, own64_nil _ _, below_setCell hB1.out (by omega) _⟩
        · rw [if_neg hl] at hr3
          subst hr3
          obtain ⟨i, rfl⟩ := Int.eq_ofNat_of_zero_le hi.1
          obtain ⟨k, rfl⟩ := Int.eq_ofNat_of_zero_le hk.1
          have hF : F_PutIn xs (v : Int) (i : Int) (k : Int) = (M.putIn xs v i k, 0) := by rw [F_PutIn, hr.out, if_pos rfl]; rfl
          rw [hF]
          have hle : ((xs.length : Int) == 24) = false := by simp; omega
          have hlt24 : xs.length < 24 := by omega
          have hik : i + k ≤ M.deg xs v := by rw [Hdg.out]; omega
          have Hl := Lib.hid hl
          clear hl hF hr hi hk
          go_enter Try.func45, Try.ntmps45
          go_wp2_with fail
          rw [← HW.out]
          refine HC.out.mono ?_
          rintro e w1 ⟨rfl, hb⟩
          have hB1 := Lib.hid (btr hBW.out hb.out)
          have T1 := cell_be hbx hb.out
          have hr1 : Hid (w1.heap[w.heap.size + 1]? = some (.cells #[.slice none 0 0] 44 (0, 0))) := (hb.out.block _ zW.out).trans hres.out
          have hr2 := cell_of_one hr1.out
          have hf2 := free_of_one hr1.out
          have dc := HD.out _ hb
          have HI1 : Hid (Ints w1 w1.heap.size (some ⟨b, off, none⟩) xs) := HI.out.be hb.out
          clear hb hbx HC HW HD hr2 hf2
          go_wp2_with fail
          refine (inAny _ _ _ _ _ Hb1).mono ?_
          rintro e w' ⟨rfl, rfl⟩
          go_wp2_with fail
          refine (inAny _ _ _ _ _ Hb2).mono ?_
          rintro e w' ⟨rfl, rfl⟩
          go_wp2_with fail
          refine (l01N _ _ _ _).mono ?_
          rintro e w2 ⟨rfl, hb2⟩
          have hr4 : Hid (w2.heap[w.heap.size + 1]? = some (.cells #[.slice none 0 0] 44 (0, 0))) := (hb2.block _ (lt_of_block hr1.out)).trans hr1.out
          replace hB1 := Lib.hid (btr hB1.out hb2)
          have T2 := cell_be T1 hb2
          have HT := Lib.hid (l07PutIn b off xs c v i k w2 hlt24 hcc.1 hcc.2 ht hvl hik (Lib.hid (HI1.out.be hb2)))
          clear hr1 hb2 dc T1 HI1
          go_wp2_with fail
          refine HT.out.mono ?_
          rintro e w3 ⟨A2, c2, rfl, ho2, hb2⟩
          have zr := lt_of_block hr4.out
          have hr5 : w3.heap[w.heap.size + 1]? = some (.cells #[.slice none 0 0] 44 (0, 0)) := (hb2.out.block _ zr).trans hr4.out
          have hr2 := cell_of_one hr5
          have hf2 := free_of_one hr5
          replace hB1 := Lib.hid (btr hB1.out hb2.out)
          clear hr5 hr4 T2 HT
          go_wp2
          refine bodyPost_ret (v := .tuple #[.agg #[.slice A2 (M.putIn xs v i k).length c2], .int .i64 0]) (by simp [results, Try.results45, go_sem, hr2]) rfl ?_
          exact ⟨A2, c2, rfl, own_mono (own_far ho2.out (by omega) _) (by omega), below_setCell hB1.out (by omega) _⟩
  · have hrq : q = r := by have := hr.out; rw [putCode, hq.out, if_neg h0] at this; exact this
    subst hrq
    have hF : F_PutIn xs v i k = ([], q) := by rw [F_PutIn, hr.out, if_neg h0]
    rw [hF]
    have hq1 : (q == 0) = false := by simp [h0]
    have hq2 : (q != 0) = true := by simp [h0]
    clear hF h0 hr
    go_enter Try.func45, Try.ntmps45
    go_wp2_with fail
    rw [← HW.out]
    refine HC.out.mono ?_
    rintro e w1 ⟨rfl, hb⟩
    have hB1 := Lib.hid (btr hBW.out hb.out)
    have T1 := cell_be hbx hb.out
    have hr1 : Hid (w1.heap[w.heap.size + 1]? = some (.cells #[.slice none 0 0] 44 (0, 0))) := (hb.out.block _ zW.out).trans hres.out
    have hr2 := cell_of_one hr1.out
    have hf2 := free_of_one hr1.out
    clear hr1 hb hbx HC HW T1
    go_wp2
    refine bodyPost_ret (v := .tuple #[.agg #[.slice none 0 0], .int .i64 q]) (by simp [results, Try.results45, go_sem, hr2]) rfl ?_
    exact ⟨none, 0, rfl, own64_nil _ _, below_setCell hB1.out (by omega) _⟩
end Go.Proofs.Ytgcabcmnhdaepaa
