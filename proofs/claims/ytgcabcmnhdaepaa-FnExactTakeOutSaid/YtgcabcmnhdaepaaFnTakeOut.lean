/- TakeOut, the model's: the tree without a node, or a code. -/
import Derived.Test.YtgcabcmnhdaepaaImTakeOut
namespace Go.Proofs.Ytgcabcmnhdaepaa
open Go.RowKit

theorem ints_end (w : World) (B : Nat) (A : Option Addr) (xs : List Int) (E : Nat) (h : xs.length ≤ E) : Hid (Ints w B A (xs.drop E)) := by show Ints _ _ _ _; rw [List.drop_eq_nil_of_le h]; exact Ints.nil_ _ _ _

set_option maxHeartbeats 4000000 in
set_option maxRecDepth 100000 in
theorem l07TakeOut (b off : Nat) (xs : List Int) (c v : Nat) (w : World) (hlen : xs.length ≤ 24) (hcl : xs.length ≤ c) (hcu : c ≤ 1000000000000) (Ht : Hid (M.isTree xs = true)) (hv0 : 0 < v) (hvl : v < xs.length) (h : Hid (Ints w w.heap.size (some ⟨b, off, none⟩) xs)) :
    Calls Try.prog 91 #[.agg #[.slice (some ⟨b, off, none⟩) xs.length c], .int .i64 (v : Int)] w fun e w' => ∃ A' c', e = .returned (.agg #[.slice A' (M.takeOut xs v).length c']) ∧ Hid (Own64 w' w.heap.size (.slice A' (M.takeOut xs v).length c') (M.takeOut xs v)) ∧ Hid (Below w.heap.size w w') := by
  obtain ⟨p, d, hpar, hpv, hpd, hd1, hd24, hdg, hkid⟩ := M.par_at Ht.out hv0 hvl
  obtain ⟨dv, hdv, hdv24⟩ := M.tree_degN Ht.out hvl
  have hto : Hid (M.takeOut xs v = (M.outL xs v).set p ((d : Int) - 1 + (dv : Int))) := by show _ = _; rw [M.takeOut, hpar, hdg, M.deg_at hdv]; congr 1; omega
  have hla := Lib.hid (M.outL_at hpd hpv)
  have hll := Lib.hid (M.outL_len hvl)
  have Hkid := Lib.hid hkid
  obtain ⟨W, hW⟩ : ∃ W, W = (w.alloc (.cells #[.slice (some ⟨b, off, none⟩) xs.length c] 44)).alloc (.cells #[.slice none 0 0] 44) := ⟨_, rfl⟩
  have hbx : W.cell? ⟨w.heap.size, 0, none⟩ = some (.slice (some ⟨b, off, none⟩) xs.length c) := by subst hW; exact cell_al (by simp) _
  have hBW : Hid (Below w.heap.size w W) := by subst hW; exact bal (bal (b0 w) _) _
  have hI : Hid (Ints W W.heap.size (some ⟨b, off, none⟩) xs) := h.out.be hBW.out
  have hres : Hid (W.heap[w.heap.size + 1]? = some (.cells #[.slice none 0 0] 44 (0, 0))) := by
    subst hW
    have h1 := World.alloc_heap_new (w.alloc (.cells #[.slice (some ⟨b, off, none⟩) xs.length c] 44)) (.cells #[.slice none 0 0] 44)
    rw [World.size_alloc] at h1
    exact h1
  have zW : Hid (w.heap.size + 1 < W.heap.size) := lt_of_block hres.out
  have HW := Lib.hid hW
  have Hdv := Lib.hid hdv
  rw [hto.out, List.length_set]
  have HPar := Lib.hid (l01Parents (some ⟨b, off, none⟩) xs c W Ht hI.out)
  have hv1 : (0 : Int) ≤ (v : Int) := by omega
  have hv2 : (v : Int) < (xs.length : Int) := by omega
  have hv3 : (v : Int) ≤ (c : Int) := by omega
  have hv4 : (v : Int) + 1 ≤ (xs.length : Int) := by omega
  have hv5 : (0 : Int) ≤ (v : Int) + 1 := by omega
  have hv6 : (v : Int) + 1 ≤ (c : Int) := by omega
  have ew : IntKind.i64.wrap ((v : Int) + 1) = (v : Int) + 1 := IntWalk.i64_in _ (by omega)
  clear hpar hpd hdg hkid hW h hdv
  go_enter Try.func91, Try.ntmps91
  go_wp2_with fail
  rw [← HW.out]
  refine HPar.out.mono ?_
  rintro e w2 ⟨A8, c8, ps, rfl, hps, ho8, hb2⟩
  have hpsv := hps.out.2.2 p v Hkid.out
  obtain ⟨g8, rfl⟩ := own64_at ho8 (by rw [hps.out.1]; omega)
  have k8 := (own64_cell ho8 hps.out.1 hpsv).1
  have hB2 := Lib.hid hb2
  have hcell2 := cell_be hbx hb2
  have h2 := Lib.hid (hI.out.be hb2)
  have hv0' : Hid (0 < v) := hv0
  clear ho8 hb2 hpsv HW HPar hv0
  go_wp2
  have hK0 : Hid (Below w2.heap.size w2 w2.drew) := (Below.refl _ _).drew
  have hcell0 : w2.drew.cell? ⟨w.heap.size, 0, none⟩ = some (.slice (some ⟨b, off, none⟩) xs.length c) := hcell2
  have HS : Hid (∀ W', Hid (Below w2.heap.size w2 W') → W'.cell? ⟨w.heap.size, 0, none⟩ = some (.slice (some ⟨b, off, none⟩) xs.length c)) := fun W' hW' => cell_be hcell2 hW'.out
  have HOwn : Hid (∀ W', Hid (Below w2.heap.size w2 W') → Calls Try.prog 69 #[.slice (some ⟨b, off, none⟩) v c] W' fun e w' => ∃ A' c', e = .returned (.slice A' v c') ∧ Hid (Own64 w' w2.heap.size (.slice A' v c') (xs.take v)) ∧ Hid (Below w2.heap.size w2 w')) := fun W' hW' => by
    have hi : Hid (Ints W' W'.heap.size (some ⟨b, off, none⟩) (xs.take v)) := by
      have := ints_sub (h2.out.be hW'.out) 0 v
      exact Lib.hid (by simpa using this)
    exact (l01Own _ (xs.take v) v c W' (show _ = _ by rw [List.length_take]; omega) (by omega) (fun e => by cases e) hi).mono fun e w' ⟨A', c', he, ho, hb⟩ => ⟨A', c', he, own_mono ho hW'.out.size, btr hW'.out hb⟩
  have hmE : Hid ((xs.drop (v + 1)).length = xs.length - (v + 1)) := by show _ = _; simp
  have hn7 : Hid (v + (xs.length - (v + 1)) = (M.outL xs v).length) := by show _ = _; rw [hll.out]; omega
  clear hcell2
  go_cut [5, 6] (fun s5 s6 wx => ∃ (A7 : Option Addr) (c7 n7 : Nat), s5 = .int .i64 (p : Int) ∧ s6 = .slice A7 n7 c7 ∧ Hid (n7 = (M.outL xs v).length) ∧ Hid (Own64 wx w2.heap.size (.slice A7 n7 c7) (M.outL xs v)) ∧ Hid (Below w2.heap.size w2 wx))
  case first =>
    rcases Nat.lt_or_ge (v + 1) c with hEc | hEc
    · have hne : ¬ c = v + 1 := by omega
      have HI2 : Hid (∀ W', Hid (Below w2.heap.size w2 W') → Hid (Ints W' W'.heap.size (some ⟨b, off + (v + 1), none⟩) (xs.drop (v + 1)))) := fun W' hW' => by
        have := ints_sub (h2.out.be hW'.out) (v + 1) (xs.length - (v + 1))
        rw [show (xs.drop (v + 1)).take (xs.length - (v + 1)) = xs.drop (v + 1) from List.take_of_length_le (by simp)] at this
        exact this
      clear hEc
      go_region_held3 (fun w' => w'.cell? ⟨w.heap.size, 0, none⟩ = some (.slice (some ⟨b, off, none⟩) xs.length c) ∧ Hid (Below w2.heap.size w2 w')) (first | exact ⟨hcell0, hK0⟩ | exact ⟨HS.out _ (by assumption), by assumption⟩) (first | (go_at_call 69; refine (HOwn.out _ (by assumption)).mono ?_; rintro e w7 ⟨A7, c7, rfl, ho7, hb7⟩) | (refine stepInts rfl (.tmp 16) (.tmp 21) rfl _ w2.heap.size A7 v c7 (xs.take v) (some ⟨b, off + (v + 1), none⟩) (xs.length - (v + 1)) (c - (v + 1)) (xs.drop (v + 1)) rfl rfl ho7 (HI2.out _ hb7) hmE (fun e => by cases e) hb7.out.size (by omega) (by omega) ?_; intro A3 c3 w3 ho3 hb3; have hb3' : Hid (Below w2.heap.size w2 w3) := hb7.out.trans hb3.out))
      go_wp2_with fail
      go_meet
      exact ⟨_, _, _, rfl, rfl, hn7, by rw [M.outL]; exact ho3, hb3'⟩
    · have hEq : c = v + 1 := by omega
      have hzz : Hid (xs.length ≤ v + 1) := (show xs.length ≤ v + 1 by omega)
      subst hEq
      have hw1 : (v : Int) ≤ (v : Int) + 1 := by omega
      clear hEc hcl hv3
      go_region_held3 (fun w' => w'.cell? ⟨w.heap.size, 0, none⟩ = some (.slice (some ⟨b, off, none⟩) xs.length (v + 1)) ∧ Hid (Below w2.heap.size w2 w')) (first | exact ⟨hcell0, hK0⟩ | exact ⟨HS.out _ (by assumption), by assumption⟩) (first | (go_at_call 69; refine (HOwn.out _ (by assumption)).mono ?_; rintro e w7 ⟨A7, c7, rfl, ho7, hb7⟩) | (refine stepInts rfl (.tmp 16) (.tmp 21) rfl _ w2.heap.size A7 v c7 (xs.take v) (some ⟨b, off, none⟩) (xs.length - (v + 1)) 0 (xs.drop (v + 1)) rfl rfl ho7 (ints_end _ _ _ _ _ hzz.out) hmE (fun e => by cases e) hb7.out.size (by omega) (by omega) ?_; intro A3 c3 w3 ho3 hb3; have hb3' : Hid (Below w2.heap.size w2 w3) := hb7.out.trans hb3.out))
      go_wp2_with fail
      go_meet
      exact ⟨_, _, _, rfl, rfl, hn7, by rw [M.outL]; exact ho3, hb3'⟩
  case rest =>
    obtain ⟨A7, c7, n7, rfl, rfl, hn77, ho7, hb7⟩ := hcut
    clear hn7
    obtain ⟨g7, rfl⟩ := own64_at ho7.out (by rw [hll.out]; have := hv0'.out; omega)
    have hbd : Hid (Below w2.heap.size w2 wc.drew) := hb7.out.drew
    have hb2 : wc.drew.cell? ⟨w.heap.size, 0, none⟩ = some (.slice (some ⟨b, off, none⟩) xs.length c) := HS.out _ hbd
    obtain ⟨d1, d2, d3, d4⟩ := own64_cell ho7.out hn77.out.symm hla.out
    have hI7 := (h2.out.be hbd.out)
    obtain ⟨_, _, e, hbz, hcv⟩ := hI7 (by omega)
    injection e with e
    injection e with e1 e2
    subst e1; subst e2
    have d5 : wc.drew.cell? ⟨b, off + v, none⟩ = some (.int .i64 (dv : Int)) := hcv v _ Hdv.out
    have d1' : wc.drew.cell? ⟨g7, p, none⟩ = some (.int .i64 (d : Int)) := d1
    have d2' : wc.drew.frozen? ⟨g7, p, none⟩ = false := d2
    have hp7 : (p : Int) < (n7 : Int) := by have := hn77.out; have := hll.out; omega
    have hp0 : (0 : Int) ≤ (p : Int) := by omega
    have hset := Lib.hid (own64_set (show Own64 wc.drew w2.heap.size _ _ from ho7.out) hn77.out.symm p ((d : Int) - 1 + (dv : Int)))
    have ew1 : IntKind.i64.wrap ((d : Int) - 1) = (d : Int) - 1 := IntWalk.i64_in _ (by omega)
    have ew2 : IntKind.i64.wrap ((d : Int) - 1 + (dv : Int)) = (d : Int) - 1 + (dv : Int) := IntWalk.i64_in _ (by omega)
    have hBf : Hid (Below w.heap.size w (wc.setCell ⟨g7, p, none⟩ (.int .i64 ((d : Int) - 1 + (dv : Int))))) := below_setCell (btr (btr hBW.out hB2.out) hb7.out) (by have := hBW.out.size; have := hB2.out.size; omega) _
    have zz2 : w.heap.size + 1 < w2.heap.size := Nat.lt_of_lt_of_le zW.out hB2.out.size
    have hr8 : (wc.setCell ⟨g7, p, none⟩ (.int .i64 ((d : Int) - 1 + (dv : Int)))).heap[w.heap.size + 1]? = some (.cells #[.slice none 0 0] 44 (0, 0)) := (heap_setCell_other _ _ _ _ (show w.heap.size + 1 ≠ g7 by omega)).trans ((hb7.out.block _ zz2).trans ((hB2.out.block _ zW.out).trans hres.out))
    have hr2 := cell_of_one hr8
    have hf2 := free_of_one hr8
    clear hcv hI7 hbz d1 d2 ho7 hb7 hr8 HS HOwn
    go_wp2
    go_region
    all_goals
      go_wp2
      have hnl2 := hn77.out
      subst hnl2
      refine bodyPost_ret (v := .agg #[.slice (some ⟨g7, 0, none⟩) (M.outL xs v).length c7]) (by simp [results, Try.results91, go_sem, hr2]) rfl ?_
      have hfar := own_mono (base' := w.heap.size) (own_far hset.out zz2 (k := 0) (.slice (some ⟨g7, 0, none⟩) (M.outL xs v).length c7)) (by omega)
      have hBz := below_setCell hBf.out (g := w.heap.size + 1) (k := 0) (by omega) (.slice (some ⟨g7, 0, none⟩) (M.outL xs v).length c7)
      exact ⟨_, _, rfl, hfar, hBz.drew⟩

set_option maxHeartbeats 4000000 in
set_option maxRecDepth 100000 in
theorem spec_TakeOut : GivesTree1 42 F_TakeOut := by
  intro A xs c v w hx hcc h
  obtain ⟨r, hr⟩ : ∃ r, Hid (M.code xs [v] = r) := ⟨_, rfl⟩
  have hc := l01Nodes A (some ⟨w.heap.size + 2, 0, none⟩) xs [v] c 1 (((w.alloc (.cells #[.slice A xs.length c] 44)).alloc (.cells #[.slice none 0 0] 44)).alloc (.cells #[.int .i64 v] 2)) (by omega) (by simp) (((h.al _).al _).al _) (by have := ints_new ((w.alloc (.cells #[.slice A xs.length c] 44)).alloc (.cells #[.slice none 0 0] 44)) #[.int .i64 v] [v] rfl; simpa using this) r hr
  simp only [List.length_cons, List.length_nil, Nat.zero_add] at hc
  have HC := Lib.hid hc
  have hresX : ∀ w1, Below (((w.alloc (.cells #[.slice A xs.length c] 44)).alloc (.cells #[.slice none 0 0] 44)).alloc (.cells #[.int .i64 v] 2)).heap.size (((w.alloc (.cells #[.slice A xs.length c] 44)).alloc (.cells #[.slice none 0 0] 44)).alloc (.cells #[.int .i64 v] 2)) w1 → w1.heap[w.heap.size + 1]? = some (.cells #[.slice none 0 0] 44 (0, 0)) := fun w1 hb => (hb.block (w.heap.size + 1) (by simp)).trans (by
    have h1 := World.alloc_heap_new (w.alloc (.cells #[.slice A xs.length c] 44)) (.cells #[.slice none 0 0] 44)
    rw [World.size_alloc] at h1
    exact (Below.heap_alloc _ _ _ (by simp)).trans h1)
  have HresX := Lib.hid hresX
  clear hc hresX
  by_cases h0 : r = 0
  · subst h0
    have hn := M.code_node hr.out
    have ht := Lib.hid (M.code_tree hr.out)
    have hlen := (M.tree_len ht.out).2
    obtain ⟨v, rfl⟩ := Int.eq_ofNat_of_zero_le hn.1
    have hvl : v < xs.length := by simpa using hn.2.1
    rcases Nat.eq_zero_or_pos v with hv0 | hv0
    · subst hv0
      have hF : F_TakeOut xs ((0 : Nat) : Int) = ([], 5) := by rw [F_TakeOut, if_pos hr.out]; rfl
      rw [hF]
      clear hF hn
      go_enter Try.func42, Try.ntmps42
      go_wp2_with fail
      refine HC.out.mono ?_
      rintro e w1 ⟨rfl, hb⟩
      have hB := Lib.hid (btr (bal (bal (bal (b0 w) _) _) _) hb)
      have hres := HresX.out w1 hb
      have hr2 := cell_of_one hres
      have hf2 := free_of_one hres
      clear hb hres HresX HC
      go_wp2
      refine bodyPost_ret (v := .tuple #[.agg #[.slice none 0 0], .int .i64 5]) (by simp [results, Try.results42, go_sem, hr2]) rfl ?_
      exact ⟨none, 0, rfl, own64_nil _ _, below_setCell hB.out (by omega) _⟩
    · have hF : F_TakeOut xs (v : Int) = (M.takeOut xs v, 0) := by rw [F_TakeOut, if_pos hr.out, if_neg (by omega)]; rfl
      rw [hF]
      obtain ⟨b, off, rfl, hbB, _⟩ := h (by omega)
      have hvne : ((v : Int) == 0) = false := by simp; omega
      have Hv0 : Hid (0 < v) := hv0
      clear hF hn hbB hv0
      go_enter Try.func42, Try.ntmps42
      go_wp2_with fail
      refine HC.out.mono ?_
      rintro e w1 ⟨rfl, hb⟩
      have hB := Lib.hid (btr (bal (bal (bal (b0 w) _) _) _) hb)
      have hres := Lib.hid (HresX.out w1 hb)
      have hcell : w1.cell? ⟨w.heap.size, 0, none⟩ = some (.slice (some ⟨b, off, none⟩) xs.length c) := cell_be (cell_al (cell_al (by simp) _) _) hb
      have h1 := Lib.hid ((((h.al _).al _).al _).be hb)
      have HT := Lib.hid (l07TakeOut b off xs c v w1 hlen hcc.1 hcc.2 ht Hv0.out hvl h1)
      clear hb HresX HC h
      go_wp2_with fail
      refine HT.out.mono ?_
      rintro e w2 ⟨A2, c2, rfl, ho2, hb2⟩
      have hB2 := Lib.hid (btr hB.out hb2.out)
      have zr := lt_of_block hres.out
      have hr2' : w2.heap[w.heap.size + 1]? = some (.cells #[.slice none 0 0] 44 (0, 0)) := (hb2.out.block _ zr).trans hres.out
      have hr2 := cell_of_one hr2'
      have hf2 := free_of_one hr2'
      clear hr2' hcell
      go_wp2
      refine bodyPost_ret (v := .tuple #[.agg #[.slice A2 (M.takeOut xs v).length c2], .int .i64 0]) (by simp [results, Try.results42, go_sem, hr2]) rfl ?_
      exact ⟨A2, c2, rfl, own_mono (own_far ho2.out (by omega) _) (by omega), below_setCell hB2.out (by omega) _⟩
  · have hF : F_TakeOut xs v = ([], r) := by rw [← hr.out]; exact if_neg (by rw [hr.out]; exact h0)
    rw [hF]
    have hq : (r != 0) = true := by simp [h0]
    have hq2 : (r == 0) = false := by simp [h0]
    clear hF h0
    go_enter Try.func42, Try.ntmps42
    go_wp2_with fail
    refine HC.out.mono ?_
    rintro e w1 ⟨rfl, hb⟩
    have hB := Lib.hid (btr (bal (bal (bal (b0 w) _) _) _) hb)
    have hres := HresX.out w1 hb
    have hr2 := cell_of_one hres
    have hf2 := free_of_one hres
    clear hb hres HresX HC
    go_wp2
    refine bodyPost_ret (v := .tuple #[.agg #[.slice none 0 0], .int .i64 r]) (by simp [results, Try.results42, go_sem, hr2]) rfl ?_
    exact ⟨none, 0, rfl, own64_nil _ _, below_setCell hB.out (by omega) _⟩
end Go.Proofs.Ytgcabcmnhdaepaa
