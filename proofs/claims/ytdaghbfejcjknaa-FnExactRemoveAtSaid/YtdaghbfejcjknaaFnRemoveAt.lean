import Derived.Test.YtdaghbfejcjknaaRemoveIn
import Derived.Test.YtdaghbfejcjknaaParents
namespace Go.Proofs.Ytdaghbfejcjknaa
open Go.RowKit

theorem Ints_end (w : World) (B : Nat) (A : Option Addr) (xs : List Int) : Hid (Ints w B A (xs.drop xs.length)) := by show Ints _ _ _ _; rw [List.drop_length]; exact Ints.nil_ _ _ _

set_option maxHeartbeats 4000000 in
set_option maxRecDepth 100000 in
theorem spec_RemoveAt : GivesTree1 39 F_RemoveAt := by
  intro A xs c v w hx hcc h
  obtain ⟨r, hr⟩ : ∃ r, Hid (M.code xs [v] = r) := ⟨_, rfl⟩
  have hc := l01Nodes A (some ⟨w.heap.size + 2, 0, none⟩) xs [v] c 1 (((w.alloc (.cells #[.slice A xs.length c] 28)).alloc (.cells #[.slice none 0 0] 28)).alloc (.cells #[.int .i64 v] 2)) (by omega) (by simp) (((h.al _).al _).al _) (by have := ints_new ((w.alloc (.cells #[.slice A xs.length c] 28)).alloc (.cells #[.slice none 0 0] 28)) #[.int .i64 v] [v] rfl; simpa using this) r hr
  simp only [List.length_cons, List.length_nil, Nat.zero_add] at hc
  have HC := Lib.hid hc
  clear hc
  by_cases h0 : r = 0
  · subst h0
    have hn := M.code_node hr.out
    have ht := M.code_tree hr.out
    have hlen := (M.tree_len ht).2
    obtain ⟨v, rfl⟩ := Int.eq_ofNat_of_zero_le hn.1
    have hvl : v < xs.length := by simpa using hn.2.1
    rcases Nat.eq_zero_or_pos v with hv0 | hv0
    · subst hv0
      have hF : F_RemoveAt xs ((0 : Nat) : Int) = ([], 5) := by rw [F_RemoveAt, if_pos hr.out]; rfl
      rw [hF]
      clear hF hn ht
      go_enter Try.func39, Try.ntmps39
      go_wp2_with fail
      refine HC.out.mono ?_
      rintro e w1 ⟨rfl, hb⟩
      have hB := Lib.hid (btr (bal (bal (bal (b0 w) _) _) _) hb)
      have hres : Hid (w1.heap[w.heap.size + 1]? = some (.cells #[.slice none 0 0] 28 (0, 0))) := (hb.block (w.heap.size + 1) (by simp)).trans (by
        have h1 := World.alloc_heap_new (w.alloc (.cells #[.slice A xs.length c] 28)) (.cells #[.slice none 0 0] 28)
        rw [World.size_alloc] at h1
        exact (Below.heap_alloc _ _ _ (by simp)).trans h1)
      have hr2 := cell_of_one hres.out
      have hf2 := free_of_one hres.out
      clear hb
      go_wp2
      refine bodyPost_ret (v := .tuple #[.agg #[.slice none 0 0], .int .i64 5]) (by simp [results, Try.results39, go_sem, hr2]) rfl ?_
      exact ⟨none, 0, rfl, own64_nil _ _, below_setCell hB.out (by omega) _⟩
    · have hF : F_RemoveAt xs v = (M.rem xs v, 0) := by rw [F_RemoveAt, if_pos hr.out, if_neg (by omega)]; rfl
      obtain ⟨S, hS⟩ : ∃ S, Hid (M.span 1 (xs.drop v) = S) := ⟨_, rfl⟩
      obtain ⟨E, hE⟩ : ∃ E, Hid (M.fin xs v = E) := ⟨_, rfl⟩
      have hES : (v : Int) + (S : Int) = (E : Int) := by have h1 := hE.out; have h2 := hS.out; simp only [M.fin] at h1; omega
      have hok := Lib.hid (M.tree_ok ht hvl)
      have hEn : E ≤ xs.length := by have := M.end_le (xs := xs) (v := v) (by omega); have h1 := hE.out; simp only [M.fin] at h1; omega
      obtain ⟨p, d, hpar, hpv, hpd, hd1, hd24, hdg, hkid⟩ := M.par_at ht hv0 hvl
      have hrem : Hid (M.rem xs v = (M.left xs v).set p ((d : Int) - 1)) := by show _ = _; rw [M.rem, hpar, hdg]
      have hla := Lib.hid (M.left_at hpd hpv)
      have hle : Hid (M.left xs v = M.catTo (two xs v E) 2) := by show _ = _; rw [M.left, hE.out]; simp [M.catTo, two]
      have hll : Hid ((M.left xs v).length ≤ xs.length) := M.left_len
      have Ht := Lib.hid ht
      have Hkid := Lib.hid hkid
      have hvne : ((v : Int) == 0) = false := by simp; omega
      rw [hF]
      show Calls _ _ _ _ fun e w' => ∃ A' c', e = .returned (.tuple #[.agg #[.slice A' (M.rem xs v).length c'], .int .i64 0]) ∧ Own64 w' w.heap.size (.slice A' (M.rem xs v).length c') (M.rem xs v) ∧ _
      rw [hrem.out, List.length_set]
      clear hF hn ht hpar hpd hdg hkid
      go_enter Try.func39, Try.ntmps39
      go_wp2_with fail
      refine HC.out.mono ?_
      rintro e w1 ⟨rfl, hb⟩
      have hB := Lib.hid (btr (bal (bal (bal (b0 w) _) _) _) hb)
      have hcell : w1.cell? ⟨w.heap.size, 0, none⟩ = some (.slice A xs.length c) := cell_be (cell_al (cell_al (by simp) _) _) hb
      have hres : Hid (w1.heap[w.heap.size + 1]? = some (.cells #[.slice none 0 0] 28 (0, 0))) := (hb.block (w.heap.size + 1) (by simp)).trans (by
        have h1 := World.alloc_heap_new (w.alloc (.cells #[.slice A xs.length c] 28)) (.cells #[.slice none 0 0] 28)
        rw [World.size_alloc] at h1
        exact (Below.heap_alloc _ _ _ (by simp)).trans h1)
      have h1 := Lib.hid ((((h.al _).al _).al _).be hb)
      have z1 : w.heap.size + 1 < w1.heap.size := lt_of_block hres.out
      clear hb h HC
      have Hcell := Lib.hid hcell
      go_wp2_with fail
      refine (l01Parents A xs c w1 Ht h1.out).mono ?_
      rintro e w2 ⟨A8, c8, ps, rfl, hps, ho8, hb2⟩
      have hpsv := hps.out.2.2 p v Hkid.out
      obtain ⟨g8, rfl⟩ := own64_at ho8 (by rw [hps.out.1]; omega)
      have k8 := (own64_cell ho8 hps.out.1 hpsv).1
      have hB2 := Lib.hid (btr hB.out hb2)
      have hres2 : Hid (w2.heap[w.heap.size + 1]? = some (.cells #[.slice none 0 0] 28 (0, 0))) := (hb2.block _ z1).trans hres.out
      have hcell2 := cell_be hcell hb2
      have h2 := Lib.hid (h1.out.be hb2)
      have z2 : w.heap.size + 1 < w2.heap.size := lt_of_block hres2.out
      have hvx : (v : Int) < (xs.length : Int) := by omega
      clear ho8 hb2 hpsv hcell
      go_wp2
      obtain ⟨b, off, rfl, hbB, _⟩ := h2.out (by omega)
      have hK0 : Hid (Below w2.heap.size w2 w2.drew) := (Below.refl _ _).drew
      have hcell0 : w2.drew.cell? ⟨w.heap.size, 0, none⟩ = some (.slice (some ⟨b, off, none⟩) xs.length c) := hcell2
      have HS : Hid (∀ W', Hid (Below w2.heap.size w2 W') → W'.cell? ⟨w.heap.size, 0, none⟩ = some (.slice (some ⟨b, off, none⟩) xs.length c)) := fun W' hW' => cell_be hcell2 hW'.out
      have hv1 : (0 : Int) ≤ (v : Int) := by omega
      have hvc : (v : Int) ≤ (c : Int) := by omega
      have hEc0 : (0 : Int) ≤ (E : Int) := by omega
      have hEl : (E : Int) ≤ (xs.length : Int) := by omega
      have hEc2 : (E : Int) ≤ (c : Int) := by omega
      have hfin : Hid (v + M.span 1 (xs.drop v) = E) := hE
      have HOwn : Hid (∀ W', Hid (Below w2.heap.size w2 W') → Calls Try.prog 107 #[.slice (some ⟨b, off, none⟩) v c] W' fun e w' => ∃ A' c', e = .returned (.slice A' v c') ∧ Hid (Own64 w' w2.heap.size (.slice A' v c') (xs.take v)) ∧ Hid (Below w2.heap.size w2 w')) := fun W' hW' => by
        have hi : Hid (Ints W' W'.heap.size (some ⟨b, off, none⟩) (xs.take v)) := by
          have := ints_sub (h2.out.be hW'.out) 0 v
          exact Lib.hid (by simpa using this)
        exact (l01Own _ (xs.take v) v c W' (show _ = _ by rw [List.length_take]; omega) (by omega) (fun e => by cases e) hi).mono fun e w' ⟨A', c', he, ho, hb⟩ => ⟨A', c', he, own_mono ho hW'.out.size, btr hW'.out hb⟩
      have HEnd : Hid (∀ W' (A' : Option Addr) (c' : Nat), Hid (Below w2.heap.size w2 W') → Hid (Own64 W' w2.heap.size (.slice A' v c') (xs.take v)) → Calls Try.prog 98 #[.agg #[.slice (some ⟨b, off, none⟩) xs.length c], .int .i64 (v : Int)] W' fun e w' => e = .returned (.int .i64 (E : Int)) ∧ Hid (Own64 w' w2.heap.size (.slice A' v c') (xs.take v)) ∧ Hid (Below w2.heap.size w2 w')) := fun W' A' c' hW' ho =>
        (l01End _ xs c v E W' hfin hlen hok (h2.out.be hW'.out)).mono fun e w' ⟨he, hb⟩ => ⟨he, own_be ho.out hb, btr hW'.out hb⟩
      have hmE : Hid ((xs.drop E).length = xs.length - E) := by show _ = _; simp
      rcases Nat.lt_or_ge E c with hEc | hEc
      · have hne : ¬ c = E := by omega
        have HI2 : Hid (∀ W', Hid (Below w2.heap.size w2 W') → Hid (Ints W' W'.heap.size (some ⟨b, off + E, none⟩) (xs.drop E))) := fun W' hW' => by
          have := ints_sub (h2.out.be hW'.out) E (xs.length - E)
          rw [show (xs.drop E).take (xs.length - E) = xs.drop E from List.take_of_length_le (by simp)] at this
          exact this
        clear hcell2
        go_region_held3 (fun w' => w'.cell? ⟨w.heap.size, 0, none⟩ = some (.slice (some ⟨b, off, none⟩) xs.length c) ∧ Hid (Below w2.heap.size w2 w')) (first | exact ⟨hcell0, hK0⟩ | exact ⟨HS.out _ (by assumption), by assumption⟩) (first | (go_at_call 107; refine (HOwn.out _ (by assumption)).mono ?_; rintro e w7 ⟨A7, c7, rfl, ho7, hb7⟩) | (go_at_call 98; refine (HEnd.out _ _ _ (by assumption) (by assumption)).mono ?_; rintro e w9 ⟨rfl, ho9, hb9⟩) | (refine stepInts rfl (.tmp 32) (.tmp 38) rfl _ w2.heap.size A7 v c7 (xs.take v) (some ⟨b, off + E, none⟩) (xs.length - E) (c - E) (xs.drop E) rfl rfl ho9 (HI2.out _ hb9) hmE (fun e => by cases e) hb9.out.size (by omega) (by omega) ?_; intro A3 c3 w3 ho3 hb3; have hb3' : Hid (Below w2.heap.size w2 w3) := hb9.out.trans hb3.out))
        have hn7 : Hid (v + (xs.length - E) = (M.left xs v).length) := by show _ = _; rw [M.left, hE.out, List.length_append, List.length_take, List.length_drop]; omega
        have ho3' : Hid (Own64 w3 w2.heap.size (.slice A3 (v + (xs.length - E)) c3) (M.left xs v)) := by have := ho3.out; show Own64 _ _ _ _; rw [M.left, hE.out]; exact this
        have hlp : p < (M.left xs v).length := (List.getElem?_eq_some_iff.1 hla.out).1
        obtain ⟨g7, rfl⟩ := own64_at ho3'.out (by omega)
        have hn25 : v + (xs.length - E) ≤ 24 := by have := hll.out; have := hn7.out; omega
        have hp7 : p < v + (xs.length - E) := by rw [hn7.out]; exact hlp
        generalize v + (xs.length - E) = n7 at *
        obtain ⟨d1, d2, d3, d4⟩ := own64_cell ho3'.out hn7.out.symm hla.out
        have hset := Lib.hid (own64_set ho3'.out hn7.out.symm p ((d : Int) - 1))
        have hres8 : Hid ((w3.setCell ⟨g7, p, none⟩ (.int .i64 ((d : Int) - 1))).heap[w.heap.size + 1]? = some (.cells #[.slice none 0 0] 28 (0, 0))) := (heap_setCell_other _ _ _ _ (show w.heap.size + 1 ≠ g7 by omega)).trans ((hb3'.out.block _ z2).trans hres2.out)
        have hr2 := cell_of_one hres8.out
        have hf2 := free_of_one hres8.out
        have hbF : Hid (Below w.heap.size w (w3.setCell ⟨g7, p, none⟩ (.int .i64 ((d : Int) - 1)))) := below_setCell (btr hB2.out hb3'.out) (by omega) _
        have hpv0 : (0 : Int) ≤ (p : Int) := by omega
        have hp72 : (p : Int) < (n7 : Int) := by omega
        clear ho3 hlp HOwn HEnd HS HI2 hK0 hcell0 ho3' ho7 ho9 hb7 hb9 hb3
        go_wp2
        refine bodyPost_ret (v := .tuple #[.agg #[.slice (some ⟨g7, 0, none⟩) n7 c3], .int .i64 0]) (by simp [results, Try.results39, go_sem, hr2]) rfl ?_
        have hnl2 := hn7.out
        subst hnl2
        exact ⟨_, _, rfl, own_mono (own_far hset.out z2 _) (by omega), below_setCell hbF.out (by omega) _⟩
      · have hEq : c = E := by omega
        have hEx : E = xs.length := by omega
        obtain rfl : c = xs.length := hEq.trans hEx
        subst hEx
        clear hEq hcell2
        go_region_held3 (fun w' => w'.cell? ⟨w.heap.size, 0, none⟩ = some (.slice (some ⟨b, off, none⟩) xs.length xs.length) ∧ Hid (Below w2.heap.size w2 w')) (first | exact ⟨hcell0, hK0⟩ | exact ⟨HS.out _ (by assumption), by assumption⟩) (first | (go_at_call 107; refine (HOwn.out _ (by assumption)).mono ?_; rintro e w7 ⟨A7, c7, rfl, ho7, hb7⟩) | (go_at_call 98; refine (HEnd.out _ _ _ (by assumption) (by assumption)).mono ?_; rintro e w9 ⟨rfl, ho9, hb9⟩) | (refine stepInts rfl (.tmp 32) (.tmp 38) rfl _ w2.heap.size A7 v c7 (xs.take v) (some ⟨b, off, none⟩) 0 0 (xs.drop xs.length) rfl rfl ho9 (Ints_end _ _ _ _) (show _ = _ by simp) (fun e => by cases e) hb9.out.size (by omega) (by omega) ?_; intro A3 c3 w3 ho3 hb3; have hb3' : Hid (Below w2.heap.size w2 w3) := hb9.out.trans hb3.out))
        have hn7 : Hid (v = (M.left xs v).length) := by show _ = _; rw [M.left, hE.out, List.length_append, List.length_take, List.length_drop]; omega
        have ho3' : Hid (Own64 w3 w2.heap.size (.slice A3 (v) c3) (M.left xs v)) := by have := ho3.out; show Own64 _ _ _ _; rw [M.left, hE.out]; exact this
        have hlp : p < (M.left xs v).length := (List.getElem?_eq_some_iff.1 hla.out).1
        obtain ⟨g7, rfl⟩ := own64_at ho3'.out (by omega)
        have hn25 : v ≤ 24 := by have := hll.out; have := hn7.out; omega
        have hp7 : p < v := by rw [hn7.out]; exact hlp
        obtain ⟨d1, d2, d3, d4⟩ := own64_cell ho3'.out hn7.out.symm hla.out
        have hset := Lib.hid (own64_set ho3'.out hn7.out.symm p ((d : Int) - 1))
        have hres8 : Hid ((w3.setCell ⟨g7, p, none⟩ (.int .i64 ((d : Int) - 1))).heap[w.heap.size + 1]? = some (.cells #[.slice none 0 0] 28 (0, 0))) := (heap_setCell_other _ _ _ _ (show w.heap.size + 1 ≠ g7 by omega)).trans ((hb3'.out.block _ z2).trans hres2.out)
        have hr2 := cell_of_one hres8.out
        have hf2 := free_of_one hres8.out
        have hbF : Hid (Below w.heap.size w (w3.setCell ⟨g7, p, none⟩ (.int .i64 ((d : Int) - 1)))) := below_setCell (btr hB2.out hb3'.out) (by omega) _
        have hpv0 : (0 : Int) ≤ (p : Int) := by omega
        have hp72 : (p : Int) < (v : Int) := by omega
        clear ho3 hlp HOwn HEnd HS hK0 hcell0 ho3' ho7 ho9 hb7 hb9 hb3
        go_wp2
        refine bodyPost_ret (v := .tuple #[.agg #[.slice (some ⟨g7, 0, none⟩) v c3], .int .i64 0]) (by simp [results, Try.results39, go_sem, hr2]) rfl ?_
        have hnl2 := hn7.out
        rw [← hnl2]
        exact ⟨_, _, rfl, own_mono (own_far hset.out z2 _) (by omega), below_setCell hbF.out (by omega) _⟩
  · have hF : F_RemoveAt xs v = ([], r) := by rw [← hr.out]; exact if_neg (by rw [hr.out]; exact h0)
    rw [hF]
    have hq : (r != 0) = true := by simp [h0]
    clear hF h0
    go_enter Try.func39, Try.ntmps39
    go_wp2_with fail
    refine HC.out.mono ?_
    rintro e w1 ⟨rfl, hb⟩
    have hB := Lib.hid (btr (bal (bal (bal (b0 w) _) _) _) hb)
    have hres : Hid (w1.heap[w.heap.size + 1]? = some (.cells #[.slice none 0 0] 28 (0, 0))) := (hb.block (w.heap.size + 1) (by simp)).trans (by
      have h1 := World.alloc_heap_new (w.alloc (.cells #[.slice A xs.length c] 28)) (.cells #[.slice none 0 0] 28)
      rw [World.size_alloc] at h1
      exact (Below.heap_alloc _ _ _ (by simp)).trans h1)
    have hr2 := cell_of_one hres.out
    have hf2 := free_of_one hres.out
    clear hb
    go_wp2
    refine bodyPost_ret (v := .tuple #[.agg #[.slice none 0 0], .int .i64 r]) (by simp [results, Try.results39, go_sem, hr2]) rfl ?_
    exact ⟨none, 0, rfl, own64_nil _ _, below_setCell hB.out (by omega) _⟩
end Go.Proofs.Ytdaghbfejcjknaa
