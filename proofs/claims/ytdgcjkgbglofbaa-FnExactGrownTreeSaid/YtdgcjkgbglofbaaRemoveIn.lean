/- RemoveAt, the program's and the model's: the tree without a subtree, or a code. -/
import Derived.Test.YtdgcjkgbglofbaaCopy
import Derived.Test.YtdgcjkgbglofbaaNodes
import Derived.Test.YtdgcjkgbglofbaaGives
import Derived.Test.YtdgcjkgbglofbaaConcat
import Derived.Test.YtdgcjkgbglofbaaAddr
import Derived.Test.YtdgcjkgbglofbaaParentsIn
import Derived.Deep.RegionHeld3
namespace Go.Proofs.Ytdgcjkgbglofbaa
open Go.RowKit

namespace M
open Classical in
noncomputable def par (xs : List Int) (c : Nat) : Nat := if h : ∃ p, IsKid xs p c then h.choose else 0
theorem par_eq {xs : List Int} (ht : isTree xs = true) {p c : Nat} (h : IsKid xs p c) : par xs c = p := by
  have hx : ∃ p, IsKid xs p c := ⟨p, h⟩
  rw [par, dif_pos hx]
  exact kid_unique ht hx.choose_spec h
/-- what is left: the degrees ahead of v's subtree and behind it -/
def left (xs : List Int) (v : Nat) : List Int := xs.take v ++ xs.drop (fin xs v)
noncomputable def rem (xs : List Int) (v : Nat) : List Int := (left xs v).set (par xs v) ((deg xs (par xs v) : Int) - 1)
theorem left_at {xs : List Int} {v p d : Nat} (h : xs[p]? = some (d : Int)) (hp : p < v) : (left xs v)[p]? = some (d : Int) := by
  have hl := (List.getElem?_eq_some_iff.1 h).1
  rw [left, List.getElem?_append_left (by rw [List.length_take]; omega), List.getElem?_take_of_lt hp]
  exact h
theorem left_len {xs : List Int} {v : Nat} : (left xs v).length ≤ xs.length := by
  have := span_pos (xs := xs) (v := v)
  rw [left, List.length_append, List.length_take, List.length_drop]
  rcases Nat.lt_or_ge v xs.length with h | h
  · have := this h; simp only [fin]; omega
  · simp only [fin]; omega
theorem rem_len {xs : List Int} {v : Nat} : (rem xs v).length ≤ xs.length := by
  rw [rem, List.length_set]
  exact left_len
/-- the node's parent -/
theorem par_at {xs : List Int} (ht : isTree xs = true) {v : Nat} (h0 : 0 < v) (hv : v < xs.length) : ∃ p d : Nat, par xs v = p ∧ p < v ∧ xs[p]? = some (d : Int) ∧ 1 ≤ d ∧ d ≤ 24 ∧ deg xs p = d ∧ IsKid xs p v := by
  obtain ⟨p, hp⟩ := kid_has ht h0 hv
  have hp2 := hp
  obtain ⟨d, i, hd, hi, _⟩ := hp
  exact ⟨p, d, par_eq ht hp2, (kid_bounds ht hp2).1, hd, by omega, by have := (tree_deg ht hd).2; omega, deg_at hd, hp2⟩
end M

noncomputable def F_RemoveAt (xs : List Int) (v : Int) : List Int × Int := if M.code xs [v] = 0 then (if v = 0 then ([], 5) else (M.rem xs v.toNat, 0)) else ([], M.code xs [v])
theorem F_RemoveAt_len (xs : List Int) (v : Int) : (F_RemoveAt xs v).1.length ≤ 1048576 := by
  rw [F_RemoveAt]
  split
  · rename_i h
    have h1 := (M.tree_len (M.code_tree h)).2
    split
    · simp
    · show (M.rem _ _).length ≤ _
      have := M.rem_len (xs := xs) (v := v.toNat)
      omega
  · simp
/-- the two parts -/
def two (xs : List Int) (v E : Nat) : Nat → List Int
  | 0 => xs.take v
  | _ => xs.drop E

theorem own64_at {w : World} {B n c : Nat} {A : Option Addr} {zs : List Int} (h : Own64 w B (.slice A n c) zs) (hn : 0 < zs.length) : ∃ g, A = some ⟨g, 0, none⟩ := by
  have hl := own64_len h
  rcases h.2 with ⟨h0, _⟩ | ⟨g, cap, cur, hv, _⟩
  · injection h0 with _ e _; omega
  · injection hv with e1; exact ⟨g, e1⟩
theorem parts_two {w : World} {b off c v E c2 : Nat} {A2 : Option Addr} {xs : List Int} (h : Ints w w.heap.size (some ⟨b, off, none⟩) xs) (hv : v ≤ xs.length) (hE : E ≤ xs.length) (hA : A2 = some ⟨b, off + E, none⟩ ∨ (E = xs.length ∧ ∃ a, A2 = some a)) :
    Parts (w.alloc (.cells #[.slice (some ⟨b, off, none⟩) v c, .slice A2 (xs.length - E) c2] 24)) w.heap.size 2 (two xs v E) := by
  intro j hj
  have h2 := h.al (.cells #[.slice (some ⟨b, off, none⟩) v c, .slice A2 (xs.length - E) c2] 24)
  match j, hj with
  | 0, _ =>
    refine ⟨some ⟨b, off, none⟩, c, ?_, ?_, fun e => by cases e⟩
    · have e : (two xs v E 0).length = v := by simp only [two, List.length_take]; omega
      rw [e]; simp
    · have := ints_sub h2 0 v
      simpa [two] using this
  | 1, _ =>
    refine ⟨A2, c2, ?_, ?_, fun e => by rcases hA with rfl | ⟨_, a, rfl⟩ <;> cases e⟩
    · have e : (two xs v E 1).length = xs.length - E := by simp only [two, List.length_drop]
      rw [e]
      simp
    · rcases hA with rfl | ⟨rfl, _⟩
      · have := ints_sub h2 E (xs.length - E)
        have e : (xs.drop E).take (xs.length - E) = xs.drop E := List.take_of_length_le (by simp)
        rw [e] at this
        exact this
      · have e : two xs v xs.length 1 = [] := by simp [two]
        rw [e]
        exact Ints.nil_ _ _ _

set_option maxHeartbeats 4000000 in
set_option maxRecDepth 100000 in
theorem impl_RemoveAt : GivesTree1 65 F_RemoveAt := by
  intro A xs c v w hx hcc h
  obtain ⟨r, hr⟩ : ∃ r, Hid (M.code xs [v] = r) := ⟨_, rfl⟩
  have hc := codeOf A (some ⟨w.heap.size + 2, 0, none⟩) xs [v] c 1 (((w.alloc (.cells #[.slice A xs.length c] 26)).alloc (.cells #[.slice none 0 0] 26)).alloc (.cells #[.int .i64 v] 2)) (by omega) (by simp) (((h.al _).al _).al _) (by have := ints_new ((w.alloc (.cells #[.slice A xs.length c] 26)).alloc (.cells #[.slice none 0 0] 26)) #[.int .i64 v] [v] rfl; simpa using this) r hr
  simp only [List.length_cons, List.length_nil, Nat.zero_add] at hc
  have HC := Lib.hid hc
  clear hc
  by_cases h0 : r = 0
  · subst h0
    have hn := M.code_node hr.out
    have ht := M.code_tree hr.out
    have hlen := (M.tree_len ht).2
    obtain ⟨v, rfl⟩ := Int.eq_ofNat_of_zero_le hn.1
    have hvl : v < xs.length := by simpa using hn.2.1
    rcases Nat.eq_zero_or_pos v with hv0 | hv0
    · subst hv0
      have hF : F_RemoveAt xs ((0 : Nat) : Int) = ([], 5) := by rw [F_RemoveAt, if_pos hr.out]; rfl
      rw [hF]
      clear hF hn ht
      go_enter Try.func65, Try.ntmps65
      go_wp2_with fail
      refine HC.out.mono ?_
      rintro e w1 ⟨rfl, hb⟩
      have hB := Lib.hid (btr (bal (bal (bal (b0 w) _) _) _) hb)
      have hres : Hid (w1.heap[w.heap.size + 1]? = some (.cells #[.slice none 0 0] 26 (0, 0))) := (hb.block (w.heap.size + 1) (by simp)).trans (by
        have h1 := World.alloc_heap_new (w.alloc (.cells #[.slice A xs.length c] 26)) (.cells #[.slice none 0 0] 26)
        rw [World.size_alloc] at h1
        exact (Below.heap_alloc _ _ _ (by simp)).trans h1)
      have hr2 := cell_of_one hres.out
      have hf2 := free_of_one hres.out
      clear hb
      go_wp2
      refine bodyPost_ret (v := .tuple #[.agg #[.slice none 0 0], .int .i64 5]) (by simp [results, Try.results65, go_sem, hr2]) rfl ?_
      exact ⟨none, 0, rfl, own64_nil _ _, below_setCell hB.out (by omega) _⟩
    · have hF : F_RemoveAt xs v = (M.rem xs v, 0) := by rw [F_RemoveAt, if_pos hr.out, if_neg (by omega)]; rfl
      obtain ⟨S, hS⟩ : ∃ S, Hid (M.span 1 (xs.drop v) = S) := ⟨_, rfl⟩
      obtain ⟨E, hE⟩ : ∃ E, Hid (M.fin xs v = E) := ⟨_, rfl⟩
      have hES : (v : Int) + (S : Int) = (E : Int) := by have h1 := hE.out; have h2 := hS.out; simp only [M.fin] at h1; omega
      have hok := Lib.hid (M.tree_ok ht hvl)
      have hEn : E ≤ xs.length := by have := M.end_le (xs := xs) (v := v) (by omega); have h1 := hE.out; simp only [M.fin] at h1; omega
      obtain ⟨p, d, hpar, hpv, hpd, hd1, hd24, hdg, hkid⟩ := M.par_at ht hv0 hvl
      have hrem : Hid (M.rem xs v = (M.left xs v).set p ((d : Int) - 1)) := by show _ = _; rw [M.rem, hpar, hdg]
      have hla := Lib.hid (M.left_at hpd hpv)
      have hle : Hid (M.left xs v = M.catTo (two xs v E) 2) := by show _ = _; rw [M.left, hE.out]; simp [M.catTo, two]
      have hll : Hid ((M.left xs v).length ≤ xs.length) := M.left_len
      have Ht := Lib.hid ht
      have Hkid := Lib.hid hkid
      have hvne : ((v : Int) == 0) = false := by simp; omega
      rw [hF]
      show Calls _ _ _ _ fun e w' => ∃ A' c', e = .returned (.tuple #[.agg #[.slice A' (M.rem xs v).length c'], .int .i64 0]) ∧ Own64 w' w.heap.size (.slice A' (M.rem xs v).length c') (M.rem xs v) ∧ _
      rw [hrem.out, List.length_set]
      clear hF hn ht hpar hpd hdg hkid
      go_enter Try.func65, Try.ntmps65
      go_wp2_with fail
      refine HC.out.mono ?_
      rintro e w1 ⟨rfl, hb⟩
      have hB := Lib.hid (btr (bal (bal (bal (b0 w) _) _) _) hb)
      have hcell : w1.cell? ⟨w.heap.size, 0, none⟩ = some (.slice A xs.length c) := cell_be (cell_al (cell_al (by simp) _) _) hb
      have hres : Hid (w1.heap[w.heap.size + 1]? = some (.cells #[.slice none 0 0] 26 (0, 0))) := (hb.block (w.heap.size + 1) (by simp)).trans (by
        have h1 := World.alloc_heap_new (w.alloc (.cells #[.slice A xs.length c] 26)) (.cells #[.slice none 0 0] 26)
        rw [World.size_alloc] at h1
        exact (Below.heap_alloc _ _ _ (by simp)).trans h1)
      have h1 := Lib.hid ((((h.al _).al _).al _).be hb)
      have z1 : w.heap.size + 1 < w1.heap.size := lt_of_block hres.out
      clear hb h HC
      have Hcell := Lib.hid hcell
      go_wp2_with fail
      refine (sizeAt A xs c v S _ hS hlen hcc.1 hcc.2 hok h1.out).mono ?_
      rintro e w' ⟨rfl, rfl⟩
      go_wp2
      obtain ⟨b, off, rfl, hbB, _⟩ := h1.out (by omega)
      have Hpar : Hid (∀ W : World, Ints W W.heap.size (some ⟨b, off, none⟩) xs → Calls Try.prog 171 #[.slice (some ⟨b, off, none⟩) xs.length c] W fun e w' => ∃ A' c' ps, e = .returned (.slice A' xs.length c') ∧ Hid (M.ParsOK xs ps) ∧ Own64 w' W.heap.size (.slice A' xs.length c') ps ∧ Below W.heap.size W w') := fun W hW => (callsIn_wide (n := 5)).1 (parentsIn_in _ xs c W hcc.1 hcc.2 Ht hW)
      have hK0 : Hid (Below w1.heap.size w1 w1.drew) := (Below.refl _ _).drew
      have hcell0 : w1.drew.cell? ⟨w.heap.size, 0, none⟩ = some (.slice (some ⟨b, off, none⟩) xs.length c) := hcell
      have HS : Hid (∀ W', Hid (Below w1.heap.size w1 W') → W'.cell? ⟨w.heap.size, 0, none⟩ = some (.slice (some ⟨b, off, none⟩) xs.length c)) := fun W' hW' => cell_be hcell hW'.out
      have hv1 : (0 : Int) ≤ (v : Int) := by omega
      have hvc : (v : Int) ≤ (c : Int) := by omega
      have hEc0 : (0 : Int) ≤ (E : Int) := by omega
      have hEl : (E : Int) ≤ (xs.length : Int) := by omega
      have hXl : Hid (∀ j, j < 2 → (two xs v E j).length ≤ 24) := fun j hj => by
        match j, hj with
        | 0, _ => simp only [two, List.length_take]; omega
        | 1, _ => simp only [two, List.length_drop]; omega
      have hcat : Hid (∀ (A2 : Option Addr) (c2 : Nat), (A2 = some ⟨b, off + E, none⟩ ∨ (E = xs.length ∧ ∃ a, A2 = some a)) → ∀ W', Hid (Below w1.heap.size w1 W') → Calls Try.prog 192 #[.slice (some ⟨W'.heap.size, 0, none⟩) 2 2] (W'.alloc (.cells #[.slice (some ⟨b, off, none⟩) v c, .slice A2 (xs.length - E) c2] 24)) fun e w' => ∃ A' c' n, e = .returned (.slice A' n c') ∧ Hid (Own64 w' w1.heap.size (.slice A' n c') (M.left xs v)) ∧ Hid (Below w1.heap.size w1 w')) := fun A2 c2 hA2 W' hW' => by
        have hz := hW'.out.size
        have hp := parts_two (c := c) (v := v) (c2 := c2) (h1.out.be hW'.out) (by omega) hEn hA2
        refine (concat W'.heap.size 2 (two xs v E) _ (by omega) hXl (by simp) hp).mono ?_
        rintro e w' ⟨A', c', n, he, ho, hb⟩
        exact ⟨A', c', n, he, by rw [hle.out]; exact own_mono ho (by simp; omega), btr hW'.out ((bal (b0 W') _).trans (hb.mono (by simp)))⟩
      rcases Nat.lt_or_ge E c with hEc | hEc
      · have hne : ¬ c = E := by omega
        have hEc2 : (E : Int) ≤ (c : Int) := by omega
        have HCat := Lib.hid (hcat.out (some ⟨b, off + E, none⟩) (c - E) (.inl rfl))
        clear hcell hcat
        go_region_held3 (fun w' => w'.cell? ⟨w.heap.size, 0, none⟩ = some (.slice (some ⟨b, off, none⟩) xs.length c) ∧ Hid (Below w1.heap.size w1 w')) (first | exact ⟨hcell0, hK0⟩ | exact ⟨cell_al hcell0 _, bal hK0.out _⟩ | exact ⟨HS.out _ (by assumption), by assumption⟩) (first | (go_at_call 192; refine (HCat.out w1.drew hK0).mono ?_; rintro e w7 ⟨A7, c7, n7, rfl, ho7, hb7⟩))
        have hlp : p < (M.left xs v).length := (List.getElem?_eq_some_iff.1 hla.out).1
        have hnl := Lib.hid (own64_len ho7.out)
        obtain ⟨g7, rfl⟩ := own64_at ho7.out (by omega)
        have hcell7 := HS.out _ hb7
        have hI7 := Lib.hid (h1.out.be hb7.out)
        have hp7 : p < n7 := by rw [hnl.out]; exact hlp
        have hn25 : n7 ≤ 24 := by have := hll.out; have := hnl.out; omega
        clear HCat HS hK0 hcell0 hlp
        go_wp2_with fail
        refine (Hpar.out _ hI7.out).mono ?_
        rintro e w8 ⟨A8, c8, ps, rfl, hps, ho8, hb8⟩
        have hpsv := hps.out.2.2 p v Hkid.out
        obtain ⟨g8, rfl⟩ := own64_at ho8 (by rw [hps.out.1]; omega)
        have k8 := (own64_cell ho8 hps.out.1 hpsv).1
        have ho78 := own_be ho7.out hb8
        obtain ⟨d1, d2, d3, d4⟩ := own64_cell ho78 hnl.out.symm hla.out
        have hset := Lib.hid (own64_set ho78 hnl.out.symm p ((d : Int) - 1))
        have hb78 : Hid (Below w1.heap.size w1 w8) := btr hb7.out hb8
        have hres8 : Hid ((w8.setCell ⟨g7, p, none⟩ (.int .i64 ((d : Int) - 1))).heap[w.heap.size + 1]? = some (.cells #[.slice none 0 0] 26 (0, 0))) := (heap_setCell_other _ _ _ _ (show w.heap.size + 1 ≠ g7 by omega)).trans ((hb78.out.block _ z1).trans hres.out)
        have hr2 := cell_of_one hres8.out
        have hf2 := free_of_one hres8.out
        have hbF : Hid (Below w.heap.size w (w8.setCell ⟨g7, p, none⟩ (.int .i64 ((d : Int) - 1)))) := below_setCell (btr hB.out hb78.out) (by omega) _
        have hpv0 : (0 : Int) ≤ (p : Int) := by omega
        have hvx : (v : Int) < (xs.length : Int) := by omega
        clear ho8 hb8 hpsv ho78 hcell7 hps
        go_wp2
        refine bodyPost_ret (v := .tuple #[.agg #[.slice (some ⟨g7, 0, none⟩) n7 c7], .int .i64 0]) (by simp [results, Try.results65, go_sem, hr2]) rfl ?_
        have hnl2 := hnl.out
        subst hnl2
        exact ⟨_, _, rfl, own_mono (own_far hset.out z1 _) (by omega), below_setCell hbF.out (by omega) _⟩
      · have hEq : c = E := by omega
        have hEx : E = xs.length := by omega
        have HCat := Lib.hid (hcat.out (some ⟨b, off, none⟩) 0 (.inr ⟨hEx, _, rfl⟩))
        have hzz : xs.length - E = 0 := by omega
        rw [hzz] at HCat
        obtain rfl : c = xs.length := hEq.trans hEx
        subst hEx
        clear hzz hEq
        clear hcell hcat
        go_region_held3 (fun w' => w'.cell? ⟨w.heap.size, 0, none⟩ = some (.slice (some ⟨b, off, none⟩) xs.length xs.length) ∧ Hid (Below w1.heap.size w1 w')) (first | exact ⟨hcell0, hK0⟩ | exact ⟨cell_al hcell0 _, bal hK0.out _⟩ | exact ⟨HS.out _ (by assumption), by assumption⟩) (first | (go_at_call 192; refine (HCat.out w1.drew hK0).mono ?_; rintro e w7 ⟨A7, c7, n7, rfl, ho7, hb7⟩))
        have hlp : p < (M.left xs v).length := (List.getElem?_eq_some_iff.1 hla.out).1
        have hnl := Lib.hid (own64_len ho7.out)
        obtain ⟨g7, rfl⟩ := own64_at ho7.out (by omega)
        have hcell7 := HS.out _ hb7
        have hI7 := Lib.hid (h1.out.be hb7.out)
        have hp7 : p < n7 := by rw [hnl.out]; exact hlp
        have hn25 : n7 ≤ 24 := by have := hll.out; have := hnl.out; omega
        clear HCat HS hK0 hcell0 hlp
        go_wp2_with fail
        refine (Hpar.out _ hI7.out).mono ?_
        rintro e w8 ⟨A8, c8, ps, rfl, hps, ho8, hb8⟩
        have hpsv := hps.out.2.2 p v Hkid.out
        obtain ⟨g8, rfl⟩ := own64_at ho8 (by rw [hps.out.1]; omega)
        have k8 := (own64_cell ho8 hps.out.1 hpsv).1
        have ho78 := own_be ho7.out hb8
        obtain ⟨d1, d2, d3, d4⟩ := own64_cell ho78 hnl.out.symm hla.out
        have hset := Lib.hid (own64_set ho78 hnl.out.symm p ((d : Int) - 1))
        have hb78 : Hid (Below w1.heap.size w1 w8) := btr hb7.out hb8
        have hres8 : Hid ((w8.setCell ⟨g7, p, none⟩ (.int .i64 ((d : Int) - 1))).heap[w.heap.size + 1]? = some (.cells #[.slice none 0 0] 26 (0, 0))) := (heap_setCell_other _ _ _ _ (show w.heap.size + 1 ≠ g7 by omega)).trans ((hb78.out.block _ z1).trans hres.out)
        have hr2 := cell_of_one hres8.out
        have hf2 := free_of_one hres8.out
        have hbF : Hid (Below w.heap.size w (w8.setCell ⟨g7, p, none⟩ (.int .i64 ((d : Int) - 1)))) := below_setCell (btr hB.out hb78.out) (by omega) _
        have hpv0 : (0 : Int) ≤ (p : Int) := by omega
        have hvx : (v : Int) < (xs.length : Int) := by omega
        clear ho8 hb8 hpsv ho78 hcell7 hps
        go_wp2
        refine bodyPost_ret (v := .tuple #[.agg #[.slice (some ⟨g7, 0, none⟩) n7 c7], .int .i64 0]) (by simp [results, Try.results65, go_sem, hr2]) rfl ?_
        have hnl2 := hnl.out
        subst hnl2
        exact ⟨_, _, rfl, own_mono (own_far hset.out z1 _) (by omega), below_setCell hbF.out (by omega) _⟩
  · have hF : F_RemoveAt xs v = ([], r) := by rw [← hr.out]; exact if_neg (by rw [hr.out]; exact h0)
    rw [hF]
    have hq : (r != 0) = true := by simp [h0]
    clear hF h0
    go_enter Try.func65, Try.ntmps65
    go_wp2_with fail
    refine HC.out.mono ?_
    rintro e w1 ⟨rfl, hb⟩
    have hB := Lib.hid (btr (bal (bal (bal (b0 w) _) _) _) hb)
    have hres : Hid (w1.heap[w.heap.size + 1]? = some (.cells #[.slice none 0 0] 26 (0, 0))) := (hb.block (w.heap.size + 1) (by simp)).trans (by
      have h1 := World.alloc_heap_new (w.alloc (.cells #[.slice A xs.length c] 26)) (.cells #[.slice none 0 0] 26)
      rw [World.size_alloc] at h1
      exact (Below.heap_alloc _ _ _ (by simp)).trans h1)
    have hr2 := cell_of_one hres.out
    have hf2 := free_of_one hres.out
    clear hb
    go_wp2
    refine bodyPost_ret (v := .tuple #[.agg #[.slice none 0 0], .int .i64 r]) (by simp [results, Try.results65, go_sem, hr2]) rfl ?_
    exact ⟨none, 0, rfl, own64_nil _ _, below_setCell hB.out (by omega) _⟩
end Go.Proofs.Ytdgcjkgbglofbaa
