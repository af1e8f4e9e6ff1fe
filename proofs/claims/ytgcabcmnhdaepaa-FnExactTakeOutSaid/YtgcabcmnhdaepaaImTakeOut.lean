/- TakeOut, the program's: the tree without a node, or a code. -/
import Derived.Test.YtgcabcmnhdaepaaEdit
import Derived.Test.YtgcabcmnhdaepaaParents
import Derived.Test.YtgcabcmnhdaepaaNewBox
import Derived.Handy
import Derived.Deep.DeepCutAuto
namespace Go.Proofs.Ytgcabcmnhdaepaa
open Go.RowKit

set_option maxRecDepth 100000 in
theorem takingOut_code (A : Option Addr) (xs : List Int) (c : Nat) (v r : Int) (w : World) (hx : xs.length ≤ 1048576) (h : Ints w w.heap.size A xs) (hr : Hid ((if M.code xs [v] = 0 then (if v = 0 then 5 else 0) else M.code xs [v]) = r)) :
    Calls Try.prog 220 #[.agg #[.int .i64 v], .agg #[.slice A xs.length c]] w fun e w' => e = .returned (.int .i64 r) ∧ Below w.heap.size w w' := by
  obtain ⟨q, hq⟩ : ∃ q, Hid (M.code xs [v] = q) := ⟨_, rfl⟩
  rw [hq.out] at hr
  have hc := codeOf A (some ⟨w.heap.size + 2, 0, none⟩) xs [v] c 1 (((w.alloc (.cells #[.int .i64 v] 105)).alloc (.cells #[.slice A xs.length c] 44)).alloc (.cells #[.int .i64 v] 2)) (by omega) (by simp) (((h.al _).al _).al _) (by have := ints_new ((w.alloc (.cells #[.int .i64 v] 105)).alloc (.cells #[.slice A xs.length c] 44)) #[.int .i64 v] [v] rfl; simpa using this) q hq
  simp only [List.length_cons, List.length_nil, Nat.zero_add] at hc
  have HC := Lib.hid hc
  clear hc
  by_cases h0 : q = 0
  · subst h0
    have hr2 : (if v = 0 then (5 : Int) else 0) = r := by have := hr.out; rwa [if_pos rfl] at this
    clear hr
    by_cases hv : v = 0
    · subst hv
      rw [if_pos rfl] at hr2
      subst hr2
      go_enter Try.func220, Try.ntmps220
      go_wp2_with fail
      refine HC.out.mono ?_
      rintro e w1 ⟨rfl, hb⟩
      have hB := btr (bal (bal (bal (b0 w) _) _) _) hb
      have hcell : w1.cell? ⟨w.heap.size, 0, none⟩ = some (.int .i64 0) := cell_be (cell_al (cell_al (by simp) _) _) hb
      go_wp2
      go_ret
      exact ⟨rfl, hB⟩
    · rw [if_neg hv] at hr2
      subst hr2
      have hq2 : (v == 0) = false := by simp [hv]
      go_enter Try.func220, Try.ntmps220
      go_wp2_with fail
      refine HC.out.mono ?_
      rintro e w1 ⟨rfl, hb⟩
      have hB := btr (bal (bal (bal (b0 w) _) _) _) hb
      have hcell : w1.cell? ⟨w.heap.size, 0, none⟩ = some (.int .i64 v) := cell_be (cell_al (cell_al (by simp) _) _) hb
      go_wp2
      go_ret
      exact ⟨rfl, hB⟩
  · have hr2 : q = r := by have := hr.out; rwa [if_neg h0] at this
    subst hr2
    have hq2 : (q != 0) = true := by simp [h0]
    clear hr
    go_enter Try.func220, Try.ntmps220
    go_wp2_with fail
    refine HC.out.mono ?_
    rintro e w1 ⟨rfl, hb⟩
    have hB := btr (bal (bal (bal (b0 w) _) _) _) hb
    go_wp2
    go_ret
    exact ⟨rfl, hB⟩

theorem own64_len_set {w : World} {B g c p : Nat} {zs : List Int} {x : Int} (h : Own64 w B (.slice (some ⟨g, 0, none⟩) zs.length c) (zs.set p x)) : Own64 w.drew B (.slice (some ⟨g, 0, none⟩) zs.length c) (zs.set p x) := h

set_option maxHeartbeats 4000000 in
set_option maxRecDepth 100000 in
theorem takingOut_made (b off : Nat) (xs : List Int) (c v : Nat) (w : World) (hlen : xs.length ≤ 24) (hcl : xs.length ≤ c) (hcu : c ≤ 1000000000000) (Ht : Hid (M.isTree xs = true)) (hv0 : 0 < v) (hvl : v < xs.length) (h : Hid (Ints w w.heap.size (some ⟨b, off, none⟩) xs)) :
    Calls Try.prog 221 #[.agg #[.int .i64 (v : Int)], .slice (some ⟨b, off, none⟩) xs.length c] w fun e w' => ∃ A' c' n, e = .returned (.slice A' n c') ∧ Hid (Own64 w' w.heap.size (.slice A' n c') (M.takeOut xs v)) ∧ Hid (Below w.heap.size w w') := by
  obtain ⟨p, d, hpar, hpv, hpd, hd1, hd24, hdg, hkid⟩ := M.par_at Ht.out hv0 hvl
  obtain ⟨dv, hdv, hdv24⟩ := M.tree_degN Ht.out hvl
  have hto : Hid (M.takeOut xs v = (M.outL xs v).set p ((d : Int) + ((dv : Int) - 1))) := by show _ = _; rw [M.takeOut, hpar, hdg, M.deg_at hdv]; congr 1; omega
  have hla := Lib.hid (M.outL_at hpd hpv)
  have hll := Lib.hid (M.outL_len hvl)
  have hle : Hid (M.outL xs v = M.catTo (two xs v (v + 1)) 2) := by show _ = _; rw [M.outL]; simp [M.catTo, two]
  have Hkid := Lib.hid hkid
  obtain ⟨W, hW⟩ : ∃ W, W = w.alloc (.cells #[.int .i64 (v : Int)] 105) := ⟨_, rfl⟩
  have hbx : W.cell? ⟨w.heap.size, 0, none⟩ = some (.int .i64 (v : Int)) := by subst hW; simp
  have hBW : Hid (Below w.heap.size w W) := by subst hW; exact bal (b0 w) _
  have hI : Hid (Ints W W.heap.size (some ⟨b, off, none⟩) xs) := h.out.be hBW.out
  have HW := Lib.hid hW
  have hvx : Hid (v < xs.length) := hvl
  rw [hto.out]
  have Hdv := Lib.hid hdv
  clear hpar hpd hdg hkid hW h hdv
  have Hpar : Hid (∀ W', Hid (Below W.heap.size W W') → Calls Try.prog 222 #[.slice (some ⟨b, off, none⟩) xs.length c] W' fun e w' => ∃ g c' ps, e = .returned (.slice (some ⟨g, 0, none⟩) xs.length c') ∧ Hid (w'.cell? ⟨g, v, none⟩ = some (.int .i64 (p : Int))) ∧ Hid (Below W.heap.size W w') ∧ Hid (ps = v)) := fun W' hW' =>
    ((callsIn_wide (n := 5)).1 (parentsIn_in _ xs c W' hcl hcu Ht (hI.out.be hW'.out))).mono fun e w' ⟨A', c', ps, he, hps, ho, hb⟩ => by
      obtain ⟨g, rfl⟩ := own64_at ho (by rw [hps.out.1]; omega)
      exact ⟨g, c', v, he, (own64_cell ho hps.out.1 (hps.out.2.2 p v Hkid.out)).1, btr hW'.out hb, rfl⟩
  have hXl : Hid (∀ j, j < 2 → (two xs v (v + 1) j).length ≤ 24) := fun j hj => by
    match j, hj with
    | 0, _ => simp only [two, List.length_take]; omega
    | 1, _ => simp only [two, List.length_drop]; omega
  have hcat : Hid (∀ (A2 : Option Addr) (c2 : Nat), (A2 = some ⟨b, off + (v + 1), none⟩ ∨ (v + 1 = xs.length ∧ ∃ a, A2 = some a)) → ∀ W', Hid (Below W.heap.size W W') → Calls Try.prog 223 #[.slice (some ⟨W'.heap.size, 0, none⟩) 2 2] (W'.alloc (.cells #[.slice (some ⟨b, off, none⟩) v c, .slice A2 (xs.length - (v + 1)) c2] 23)) fun e w' => ∃ A' c' n, e = .returned (.slice A' n c') ∧ Hid (Own64 w' W.heap.size (.slice A' n c') (M.outL xs v)) ∧ Hid (Below W.heap.size W w')) := fun A2 c2 hA2 W' hW' => by
    have hz := hW'.out.size
    have hp := parts_two (c := c) (v := v) (c2 := c2) (hI.out.be hW'.out) (by omega) (by omega) hA2
    refine (concat W'.heap.size 2 (two xs v (v + 1)) _ (by omega) hXl (by simp) hp).mono ?_
    rintro e w' ⟨A', c', n, he, ho, hb⟩
    exact ⟨A', c', n, he, by rw [hle.out]; exact own_mono ho (by simp; omega), btr hW'.out ((bal (b0 W') _).trans (hb.mono (by simp)))⟩
  have HS : Hid (∀ W', Hid (Below W.heap.size W W') → W'.cell? ⟨w.heap.size, 0, none⟩ = some (.int .i64 (v : Int))) := fun W' hW' => cell_be hbx hW'.out
  have hK0 : Hid (Below W.heap.size W W.drew) := (Below.refl _ _).drew
  have hbx0 : W.drew.cell? ⟨w.heap.size, 0, none⟩ = some (.int .i64 (v : Int)) := hbx
  have hv1 : (0 : Int) ≤ (v : Int) := by omega
  have hv2 : (v : Int) < (xs.length : Int) := by omega
  go_enter Try.func221, Try.ntmps221
  go_wp2
  rw [← HW.out]
  clear HW
  go_cut [5] (fun s5 wx => s5 = .int .i64 (p : Int) ∧ Hid (Below W.heap.size W wx))
  case first =>
    go_region_with (go_at_call 222; refine (Hpar.out _ hK0).mono ?_; rintro e w7 ⟨g7, c7, _, rfl, hc7, hb7, _⟩; have hc7' := hc7.out; have hbx7 := HS.out _ hb7)
    all_goals (go_wp2_with fail)
    all_goals (go_meet)
    all_goals exact ⟨rfl, hb7⟩
  case rest =>
    obtain ⟨rfl, hb1⟩ := hcut
    have hb1d : Hid (Below W.heap.size W wc.drew) := hb1.out.drew
    have hbx1 : wc.drew.cell? ⟨w.heap.size, 0, none⟩ = some (.int .i64 (v : Int)) := HS.out _ hb1d
    have hv3 : (v : Int) ≤ (c : Int) := by omega
    have hv4 : (v : Int) + 1 ≤ (xs.length : Int) := by omega
    have hv5 : (0 : Int) ≤ (v : Int) + 1 := by omega
    have hv6 : (v : Int) + 1 ≤ (c : Int) := by omega
    have ew : IntKind.i64.wrap ((v : Int) + 1) = (v : Int) + 1 := IntWalk.i64_in _ (by omega)
    clear hv0
    go_wp2
    go_cut [5, 6] (fun s5 s6 wx => ∃ (A7 : Option Addr) (c7 n7 : Nat), s5 = .int .i64 (p : Int) ∧ s6 = .slice A7 n7 c7 ∧ Hid (Own64 wx W.heap.size (.slice A7 n7 c7) (M.outL xs v)) ∧ Hid (Below W.heap.size W wx))
    case first =>
      rcases Nat.lt_or_ge (v + 1) c with hEc | hEc
      · have hne : ¬ c = v + 1 := by omega
        have HCat := Lib.hid (hcat.out (some ⟨b, off + (v + 1), none⟩) (c - (v + 1)) (.inl rfl))
        clear hcat hEc
        go_region_held3 (fun w' => w'.cell? ⟨w.heap.size, 0, none⟩ = some (.int .i64 (v : Int)) ∧ Hid (Below W.heap.size W w')) (first | exact ⟨hbx1, hb1d⟩ | exact ⟨cell_al hbx1 _, bal hb1d.out _⟩ | exact ⟨HS.out _ (by assumption), by assumption⟩) (first | (go_at_call 223; refine (HCat.out wc.drew hb1d).mono ?_; rintro e w7 ⟨A7, c7, n7, rfl, ho7, hb7⟩))
        go_wp2_with fail
        go_meet
        exact ⟨_, _, _, rfl, rfl, ho7, hb7⟩
      · have hEq : c = v + 1 := by omega
        have HCat := Lib.hid (hcat.out (some ⟨b, off, none⟩) 0 (.inr ⟨by omega, _, rfl⟩))
        have hzz : Hid (xs.length = v + 1) := (show xs.length = v + 1 by omega)
        subst hEq
        have hw1 : (v : Int) ≤ (v : Int) + 1 := by omega
        clear hcat hEc hcl hv3
        go_region_held3 (fun w' => w'.cell? ⟨w.heap.size, 0, none⟩ = some (.int .i64 (v : Int)) ∧ Hid (Below W.heap.size W w')) (first | exact ⟨hbx1, hb1d⟩ | exact ⟨cell_al hbx1 _, bal hb1d.out _⟩ | exact ⟨HS.out _ (by assumption), by assumption⟩) (first | (go_at_call 223; refine (HCat.out wc.drew hb1d).mono ?_; rintro e w7 ⟨A7, c7, n7, rfl, ho7, hb7⟩))
        go_wp2_with fail
        go_meet
        exact ⟨_, _, _, rfl, rfl, ho7, hb7⟩
    case rest =>
      obtain ⟨A7, c7, n7, rfl, rfl, ho7, hb7⟩ := hcut
      have hnl := Lib.hid (own64_len ho7.out)
      obtain ⟨g7, rfl⟩ := own64_at ho7.out (by rw [hll.out]; omega)
      have hbd : Hid (Below W.heap.size W wc.drew) := hb7.out.drew
      have hb2 : wc.drew.cell? ⟨w.heap.size, 0, none⟩ = some (.int .i64 (v : Int)) := HS.out _ hbd
      obtain ⟨d1, d2, d3, d4⟩ := own64_cell ho7.out hnl.out.symm hla.out
      have hI7 := (hI.out.be hbd.out)
      obtain ⟨_, _, e, hbz, hcv⟩ := hI7 (by omega)
      injection e with e
      injection e with e1 e2
      subst e1; subst e2
      have d5 : wc.drew.cell? ⟨b, off + v, none⟩ = some (.int .i64 (dv : Int)) := hcv v _ Hdv.out
      have d1' : wc.drew.cell? ⟨g7, p, none⟩ = some (.int .i64 (d : Int)) := d1
      have d2' : wc.drew.frozen? ⟨g7, p, none⟩ = false := d2
      have hp7 : (p : Int) < (n7 : Int) := by have := hnl.out; have := hll.out; omega
      have hp0 : (0 : Int) ≤ (p : Int) := by omega
      have hset := Lib.hid (own64_set (show Own64 wc.drew W.heap.size _ _ from ho7.out) hnl.out.symm p ((d : Int) + ((dv : Int) - 1)))
      have ew1 : IntKind.i64.wrap ((dv : Int) - 1) = (dv : Int) - 1 := IntWalk.i64_in _ (by omega)
      have ew2 : IntKind.i64.wrap ((d : Int) + ((dv : Int) - 1)) = (d : Int) + ((dv : Int) - 1) := IntWalk.i64_in _ (by omega)
      have hBf := Lib.hid (below_setCell hbd.out d3 (g := g7) (k := p) (.int .i64 ((d : Int) + ((dv : Int) - 1))))
      clear hcv hI7 hbz d1 d2 ho7 hb7 hcat
      go_wp2
      go_region
      all_goals
        go_wp2
        go_ret
        have hz := hBW.out.size
        have hnl2 := hnl.out
        subst hnl2
        exact ⟨_, _, _, rfl, Lib.hid (own64_len_set (own_mono (base' := w.heap.size) hset.out hz)), btr hBW.out hBf.out⟩

set_option maxHeartbeats 4000000 in
set_option maxRecDepth 100000 in
theorem edited_takeOut (A : Option Addr) (xs : List Int) (c : Nat) (v : Int) (w : World) (hx : xs.length ≤ 1048576) (hcc : xs.length ≤ c ∧ c ≤ 1000000000000) (h : Ints w w.heap.size A xs) :
    Calls Try.prog 92 #[.agg #[.slice A xs.length c], .iface 105 (.agg #[.int .i64 v])] w fun e w' => ∃ A' c', e = .returned (.tuple #[.agg #[.slice A' (F_TakeOut xs v).1.length c'], .int .i64 (F_TakeOut xs v).2]) ∧
      Hid (Own64 w' w.heap.size (.slice A' (F_TakeOut xs v).1.length c') (F_TakeOut xs v).1) ∧ Hid (Below w.heap.size w w') := by
  obtain ⟨r, hr⟩ : ∃ r, Hid ((if M.code xs [v] = 0 then (if v = 0 then 5 else 0) else M.code xs [v]) = r) := ⟨_, rfl⟩
  obtain ⟨W, hW⟩ : ∃ W, W = (w.alloc (.cells #[.slice A xs.length c] 44)).alloc (.cells #[.slice none 0 0] 44) := ⟨_, rfl⟩
  have hBW : Hid (Below w.heap.size w W) := by subst hW; exact bal (bal (b0 w) _) _
  have hbx : W.cell? ⟨w.heap.size, 0, none⟩ = some (.slice A xs.length c) := by subst hW; exact cell_al (by simp) _
  have hres : Hid (W.heap[w.heap.size + 1]? = some (.cells #[.slice none 0 0] 44 (0, 0))) := by
    subst hW
    have h1 := World.alloc_heap_new (w.alloc (.cells #[.slice A xs.length c] 44)) (.cells #[.slice none 0 0] 44)
    rw [World.size_alloc] at h1
    exact h1
  have HI : Hid (Ints W W.heap.size A xs) := h.be hBW.out
  have HC := Lib.hid (takingOut_code A xs c v r W hx HI.out hr)
  have HW := Lib.hid hW
  have zW : Hid (w.heap.size + 1 < W.heap.size) := lt_of_block hres.out
  clear hW h
  by_cases h0 : r = 0
  · subst h0
    have hq : M.code xs [v] = 0 ∧ v ≠ 0 := by
      have := hr.out
      split at this
      · rename_i h1
        split at this
        · cases this
        · rename_i h2; exact ⟨h1, h2⟩
      · rename_i h1; exact absurd this h1
    have hn := M.code_node hq.1
    have ht := Lib.hid (M.code_tree hq.1)
    have hlen := (M.tree_len ht.out).2
    obtain ⟨v, rfl⟩ := Int.eq_ofNat_of_zero_le hn.1
    have hvl : v < xs.length := by simpa using hn.2.1
    have hv0 : 0 < v := by have := hq.2; omega
    have hF : F_TakeOut xs (v : Int) = (M.takeOut xs v, 0) := by rw [F_TakeOut, if_pos hq.1, if_neg hq.2]; rfl
    rw [hF]
    obtain ⟨b, off, rfl, hbB, _⟩ := HI.out (by omega)
    clear hF hn hq hr
    go_enter Try.func92, Try.ntmps92
    go_wp2_with fail
    rw [← HW.out]
    refine HC.out.mono ?_
    rintro e w1 ⟨rfl, hb⟩
    have hbx1 := cell_be hbx hb
    have HI1 : Hid (Ints w1 w1.heap.size (some ⟨b, off, none⟩) xs) := HI.out.be hb
    have hB1 := Lib.hid (btr hBW.out hb)
    have hr1 : Hid (w1.heap[w.heap.size + 1]? = some (.cells #[.slice none 0 0] 44 (0, 0))) := (hb.block _ zW.out).trans hres.out
    have HMd := Lib.hid (takingOut_made b off xs c v w1 hlen hcc.1 hcc.2 ht hv0 hvl HI1)
    clear hb hbx HW HC
    go_wp2_with fail
    refine HMd.out.mono ?_
    rintro e w2 ⟨A2, c2, n2, rfl, ho2, hb2⟩
    have hB2 := Lib.hid (btr hB1.out hb2.out)
    have zr := lt_of_block hr1.out
    have hr2' : w2.heap[w.heap.size + 1]? = some (.cells #[.slice none 0 0] 44 (0, 0)) := (hb2.out.block _ zr).trans hr1.out
    have hr2 := cell_of_one hr2'
    have hf2 := free_of_one hr2'
    have hnl := own64_len ho2.out
    subst hnl
    clear hr2' hbx1
    go_wp2
    refine bodyPost_ret (v := .tuple #[.agg #[.slice A2 (M.takeOut xs v).length c2], .int .i64 0]) (by simp [results, Try.results92, go_sem, hr2]) rfl ?_
    exact ⟨A2, c2, rfl, own_mono (own_far ho2.out (by omega) _) (by omega), below_setCell hB2.out (by omega) _⟩
  · have hF : F_TakeOut xs v = ([], r) := by
      have h1 := hr.out
      rw [F_TakeOut]
      split at h1
      · rename_i h2
        rw [if_pos h2]
        split at h1
        · rename_i h3; rw [if_pos h3, ← h1]
        · exact absurd h1.symm h0
      · rename_i h2; rw [if_neg h2, h1]
    rw [hF]
    have hq : (r != 0) = true := by simp [h0]
    clear hF h0 hr
    go_enter Try.func92, Try.ntmps92
    go_wp2_with fail
    rw [← HW.out]
    refine HC.out.mono ?_
    rintro e w1 ⟨rfl, hb⟩
    have hB1 := Lib.hid (btr hBW.out hb)
    have hr1 : w1.heap[w.heap.size + 1]? = some (.cells #[.slice none 0 0] 44 (0, 0)) := (hb.block _ zW.out).trans hres.out
    have hr2 := cell_of_one hr1
    have hf2 := free_of_one hr1
    clear hb hr1 HW HC hbx
    go_wp2
    refine bodyPost_ret (v := .tuple #[.agg #[.slice none 0 0], .int .i64 r]) (by simp [results, Try.results92, go_sem, hr2]) rfl ?_
    exact ⟨none, 0, rfl, own64_nil _ _, below_setCell hB1.out (by omega) _⟩

set_option maxRecDepth 100000 in
theorem impl_TakeOut : GivesTree1 44 F_TakeOut := by
  intro A xs c v w hx hcc h
  obtain ⟨W, hW⟩ : ∃ W, W = (w.alloc (.cells #[.slice A xs.length c] 44)).alloc (.cells #[.slice none 0 0] 44) := ⟨_, rfl⟩
  have hBW : Hid (Below w.heap.size w W) := by subst hW; exact bal (bal (b0 w) _) _
  have hres : Hid (W.heap[w.heap.size + 1]? = some (.cells #[.slice none 0 0] 44 (0, 0))) := by
    subst hW
    have h1 := World.alloc_heap_new (w.alloc (.cells #[.slice A xs.length c] 44)) (.cells #[.slice none 0 0] 44)
    rw [World.size_alloc] at h1
    exact h1
  have HE := Lib.hid (edited_takeOut A xs c v W hx hcc (h.be hBW.out))
  have HW := Lib.hid hW
  have zW : Hid (w.heap.size + 1 < W.heap.size) := lt_of_block hres.out
  generalize F_TakeOut xs v = R at *
  clear hW h
  go_enter Try.func44, Try.ntmps44
  go_wp2_with fail
  rw [← HW.out]
  refine HE.out.mono ?_
  rintro e w1 ⟨A1, c1, rfl, ho, hb⟩
  have hB1 := Lib.hid (btr hBW.out hb.out)
  have hr1 : w1.heap[w.heap.size + 1]? = some (.cells #[.slice none 0 0] 44 (0, 0)) := (hb.out.block _ zW.out).trans hres.out
  have hr2 := cell_of_one hr1
  have hf2 := free_of_one hr1
  have zz := zW.out
  clear hb hr1 HW HE
  go_wp2
  refine bodyPost_ret (v := .tuple #[.agg #[.slice A1 R.1.length c1], .int .i64 R.2]) (by simp [results, Try.results44, go_sem, hr2]) rfl ?_
  exact ⟨A1, c1, rfl, own_mono (own_far ho.out zz _) (by omega), below_setCell hB1.out (by omega) _⟩
end Go.Proofs.Ytgcabcmnhdaepaa
