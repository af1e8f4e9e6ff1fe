/- LevelOrderOf, the program's and the model's: the nodes by levels, or a code. -/
import Derived.Test.YtemfaginhipihabKids
import Derived.Test.YtemfaginhipihabEnd
import Derived.Test.YtemfaginhipihabApp
import Derived.Test.YtemfaginhipihabLevel
import Derived.Deep.AppendLies
import Derived.Deep.RegionLaw
namespace Go.Proofs.Ytemfaginhipihab
open Go.RowKit

def F_LevelOrderOf (xs : List Int) : List Int × Int := M.cond xs (M.level xs)
theorem F_LevelOrderOf_len (xs : List Int) : (F_LevelOrderOf xs).1.length ≤ 1048576 := by
  cases ht : M.isTree xs
  · rw [F_LevelOrderOf, M.cond_no ht]; simp
  · rw [F_LevelOrderOf, M.cond_yes ht]
    have h1 := M.lev_len ht xs.length [0] 0 (M.lgood_start ht)
    have h2 := (M.tree_len ht).2
    simp only [M.level]
    omega

theorem own64_one {w : World} {B : Nat} (hB : B ≤ w.heap.size) (x : Int) : Own64 (w.alloc (.cells #[.int .i64 x] 2)) B (.slice (some ⟨w.heap.size, 0, none⟩) 1 1) [x] := by
  exact ⟨by simp, .inr ⟨w.heap.size, 1, #[.int .i64 x], rfl, hB, heap_alloc_new w _, by simp, by simp [maxLen], by simp, by simp⟩⟩

set_option maxHeartbeats 2000000 in
set_option maxRecDepth 100000 in
theorem impl_LevelOrderOf : GivesList 37 F_LevelOrderOf := by
  intro A xs c w hx hcc h
  have hc := codeOf0 A xs c (w.alloc (.cells #[.slice A xs.length c] 26)) (by omega) (h.al _) _ rfl
  cases ht : M.isTree xs
  · rw [ht] at hc
    have HC := Lib.hid hc
    have hF : F_LevelOrderOf xs = ([], 1) := M.cond_no ht
    rw [hF]
    clear hc ht hF
    go_enter Try.func37, Try.ntmps37
    go_wp2_with fail
    refine HC.out.mono ?_
    rintro e w1 ⟨rfl, hb⟩
    have hB := btr (bal (b0 w) _) hb
    go_wp2
    go_ret2
    exact ⟨none, 0, rfl, own64_nil _ _, hB⟩
  · rw [ht] at hc
    have HC := Lib.hid hc
    have hF : F_LevelOrderOf xs = (M.lev xs xs.length [0] 0, 0) := M.cond_yes ht
    have hlen := (M.tree_len ht).2
    have Ht := Lib.hid ht
    have hst := Lib.hid (M.lgood_start ht)
    rw [hF]
    obtain ⟨R, hR⟩ : ∃ R, Hid (M.lev xs (xs.length - 0) [0] 0 = R) := ⟨_, rfl⟩
    have hR' : M.lev xs xs.length [0] 0 = R := hR.out
    rw [hR']
    clear hc ht hF hR'
    go_enter Try.func37, Try.ntmps37
    go_wp2_with fail
    refine HC.out.mono ?_
    rintro e w1 ⟨rfl, hb⟩
    have hB := Lib.hid (btr (bal (b0 w) _) hb)
    have HcellA := Lib.hid (show w1.cell? ⟨w.heap.size, 0, none⟩ = some (.slice A xs.length c) from cell_be (by simp) hb)
    have h1 := Lib.hid ((h.al _).be hb)
    have z1 := hB.out.size
    have ho1 := Lib.hid (own64_one (w := w1) (Nat.le_refl _) 0)
    clear hb h HC
    go_wp2
    go_loopw [5, 6] (fun q i wr => ∃ (k : Nat) (A' : Option Addr) (n c' : Nat) (out : List Int), i = .int .i64 k ∧ q = .slice A' n c' ∧ Hid (Own64 wr w1.heap.size (.slice A' n c') out) ∧ Hid (M.lev xs (xs.length - k) out k = R) ∧ Hid (M.lgood xs k out) ∧ Hid (Below w1.heap.size w1 wr)) (fun _ i _ => xs.length - (intOf i).toNat)
    case atStart => exact ⟨0, _, _, _, [0], rfl, rfl, ho1, hR, hst, bal (b0 w1) _⟩
    case round =>
      obtain ⟨k, A', n, c', out, rfl, rfl, ho, hl, hg, hbr⟩ := hrel
      have hol := Lib.hid (own64_len ho.out)
      have hgl := M.lgood_len hg.out
      have hnr : n ≤ 24 := by have := hol.out; omega
      have hcr := cell_be HcellA.out hbr.out
      by_cases hlt : k < n
      · have hlt' : k < out.length := by have := hol.out; omega
        have hkx : k < xs.length := by omega
        obtain ⟨x, hx0⟩ : ∃ x, out[k]? = some x := ⟨_, List.getElem?_eq_getElem hlt'⟩
        obtain ⟨hv0, hv1⟩ := hg.out.2.2 x (List.mem_of_getElem? hx0)
        obtain ⟨v, rfl⟩ := Int.eq_ofNat_of_zero_le hv0
        obtain ⟨d, hd, hd2⟩ := M.tree_degN Ht.out hv1
        simp only [Int.toNat_natCast] at hd
        have Hd := Lib.hid hd
        have hstep := Lib.hid (M.lev_step hkx hx0 hd)
        have hgood := Lib.hid (M.lgood_step Ht.out hg.out hx0 hd)
        obtain ⟨g, rfl⟩ : ∃ g, A' = some ⟨g, 0, none⟩ := by
          rcases ho.out.2 with ⟨h0, _⟩ | ⟨g, cap, cur, hv, _⟩
          · injection h0 with _ e _; omega
          · injection hv with e1; exact ⟨g, e1⟩
        have gp := (own64_cell ho.out hol.out.symm hx0).1
        have hcl := Lib.hid (M.childs_length xs v d)
        clear hx0 hv0 hv1 hd hlt' hgl
        have HCall := Lib.hid (fun W (hW : Hid (Below w1.heap.size w1 W)) => (childrenIn A xs c v d W hlen hcc.1 hcc.2 Ht Hd (h1.out.be hW.out)).mono fun e w' he => (show ∃ A2 c2, e = .returned (.slice A2 d c2) ∧ Hid (Own64 w' W.heap.size (.slice A2 d c2) (M.childs xs v d)) ∧ Hid (Below W.heap.size W w') from he))
        have hB1 := hbr.out.size
        go_wp2_with fail
        go_region_law (first | (refine stepInts rfl (.tmp 19) (.tmp 26) rfl _ w1.heap.size (some ⟨g, 0, none⟩) n c' out A2 d c2 (M.childs xs v d) rfl rfl (own_be (own_be ho.out (Below.refl _ _).drew) hb2.out) (ints_of_own64 o2.out) hcl (own64_z o2.out) (by have := hb2.out.size; simp at this; omega) (by omega) (by omega) ?_; intro A3 c3 w3 ho3 hb3) | (go_simp; go_at_call 67; refine (HCall.out _ hbr.out.drew).mono ?_; rintro e w2 ⟨A2, c2, rfl, o2, hb2⟩))
        all_goals go_wp2
        all_goals go_roundw
        all_goals first
          | exact ⟨k + 1, A3, _, c3, _, by go_num, rfl, ho3, hstep.out.symm.trans hl.out, hgood, (btr hbr.out.drew hb2.out).trans hb3.out⟩
          | (simp [intOf]; omega)
      · have hend := Lib.hid (M.lev_end (xs := xs) (f := xs.length - k) (show out.length ≤ k by have := hol.out; omega))
        have hRo : out = R := hend.out.symm.trans hl.out
        subst hRo
        have hnn := hol.out
        subst hnn
        go_wp2
        go_ret2
        exact ⟨A', c', rfl, own_mono ho.out z1, btr hB.out hbr.out⟩

set_option maxHeartbeats 2000000 in
set_option maxRecDepth 100000 in
theorem spec_LevelOrderOf : GivesList 36 F_LevelOrderOf := by
  intro A xs c w hx hcc h
  have hc := specIs A xs c (w.alloc (.cells #[.slice A xs.length c] 26)) (by omega) (h.al _)
  cases ht : M.isTree xs
  · rw [ht] at hc
    have HC := Lib.hid hc
    have hF : F_LevelOrderOf xs = ([], 1) := M.cond_no ht
    rw [hF]
    clear hc ht hF
    go_enter Try.func36, Try.ntmps36
    go_wp2_with fail
    refine HC.out.mono ?_
    rintro e w1 ⟨rfl, hb⟩
    have hB := btr (bal (b0 w) _) hb
    go_wp2
    go_ret2
    exact ⟨none, 0, rfl, own64_nil _ _, hB⟩
  · rw [ht] at hc
    have HC := Lib.hid hc
    have hF : F_LevelOrderOf xs = (M.lev xs xs.length [0] 0, 0) := M.cond_yes ht
    have hlen := (M.tree_len ht).2
    have Ht := Lib.hid ht
    have hst := Lib.hid (M.lgood_start ht)
    rw [hF]
    obtain ⟨R, hR⟩ : ∃ R, Hid (M.lev xs (xs.length - 0) [0] 0 = R) := ⟨_, rfl⟩
    have hR' : M.lev xs xs.length [0] 0 = R := hR.out
    rw [hR']
    clear hc ht hF hR'
    go_enter Try.func36, Try.ntmps36
    go_wp2_with fail
    refine HC.out.mono ?_
    rintro e w1 ⟨rfl, hb⟩
    have hB := Lib.hid (btr (bal (b0 w) _) hb)
    have HcellA := Lib.hid (show w1.cell? ⟨w.heap.size, 0, none⟩ = some (.slice A xs.length c) from cell_be (by simp) hb)
    have h1 := Lib.hid ((h.al _).be hb)
    have z1 := hB.out.size
    have ho1 := Lib.hid (own64_one (w := w1) (Nat.le_refl _) 0)
    clear hb h HC
    go_wp2
    go_loopw [4, 5] (fun q i wr => ∃ (k : Nat) (A' : Option Addr) (n c' : Nat) (out : List Int), i = .int .i64 k ∧ q = .slice A' n c' ∧ Hid (Own64 wr w1.heap.size (.slice A' n c') out) ∧ Hid (M.lev xs (xs.length - k) out k = R) ∧ Hid (M.lgood xs k out) ∧ Hid (Below w1.heap.size w1 wr)) (fun _ i _ => xs.length - (intOf i).toNat)
    case atStart => exact ⟨0, _, _, _, [0], rfl, rfl, ho1, hR, hst, bal (b0 w1) _⟩
    case round =>
      obtain ⟨k, A', n, c', out, rfl, rfl, ho, hl, hg, hbr⟩ := hrel
      have hol := Lib.hid (own64_len ho.out)
      have hgl := M.lgood_len hg.out
      have hnr : n ≤ 24 := by have := hol.out; omega
      have hcr := cell_be HcellA.out hbr.out
      by_cases hlt : k < n
      · have hlt' : k < out.length := by have := hol.out; omega
        have hkx : k < xs.length := by omega
        obtain ⟨x, hx0⟩ : ∃ x, out[k]? = some x := ⟨_, List.getElem?_eq_getElem hlt'⟩
        obtain ⟨hv0, hv1⟩ := hg.out.2.2 x (List.mem_of_getElem? hx0)
        obtain ⟨v, rfl⟩ := Int.eq_ofNat_of_zero_le hv0
        obtain ⟨d, hd, hd2⟩ := M.tree_degN Ht.out hv1
        simp only [Int.toNat_natCast] at hd
        have Hd := Lib.hid hd
        have hstep := Lib.hid (M.lev_step hkx hx0 hd)
        have hgood := Lib.hid (M.lgood_step Ht.out hg.out hx0 hd)
        obtain ⟨g, rfl⟩ : ∃ g, A' = some ⟨g, 0, none⟩ := by
          rcases ho.out.2 with ⟨h0, _⟩ | ⟨g, cap, cur, hv, _⟩
          · injection h0 with _ e _; omega
          · injection hv with e1; exact ⟨g, e1⟩
        have gp := (own64_cell ho.out hol.out.symm hx0).1
        have hcl := Lib.hid (M.childs_length xs v d)
        clear hx0 hv0 hv1 hd hlt' hgl
        have HCall := Lib.hid (fun W (hW : Hid (Below w1.heap.size w1 W)) => (l01Children A xs c v d W hlen Ht Hd (h1.out.be hW.out)).mono fun e w' he => (show ∃ A2 c2, e = .returned (.slice A2 d c2) ∧ Hid (Own64 w' W.heap.size (.slice A2 d c2) (M.childs xs v d)) ∧ Hid (Below W.heap.size W w') from he))
        have hB1 := hbr.out.size
        go_wp2_with fail
        go_region_law (first | (refine stepInts rfl (.tmp 16) (.tmp 22) rfl _ w1.heap.size (some ⟨g, 0, none⟩) n c' out A2 d c2 (M.childs xs v d) rfl rfl (own_be (own_be ho.out (Below.refl _ _).drew) hb2.out) (ints_of_own64 o2.out) hcl (own64_z o2.out) (by have := hb2.out.size; simp at this; omega) (by omega) (by omega) ?_; intro A3 c3 w3 ho3 hb3) | (go_simp; go_at_call 66; refine (HCall.out _ hbr.out.drew).mono ?_; rintro e w2 ⟨A2, c2, rfl, o2, hb2⟩))
        all_goals go_wp2
        all_goals go_roundw
        all_goals first
          | exact ⟨k + 1, A3, _, c3, _, by go_num, rfl, ho3, hstep.out.symm.trans hl.out, hgood, (btr hbr.out.drew hb2.out).trans hb3.out⟩
          | (simp [intOf]; omega)
      · have hend := Lib.hid (M.lev_end (xs := xs) (f := xs.length - k) (show out.length ≤ k by have := hol.out; omega))
        have hRo : out = R := hend.out.symm.trans hl.out
        subst hRo
        have hnn := hol.out
        subst hnn
        go_wp2
        go_ret2
        exact ⟨A', c', rfl, own_mono ho.out z1, btr hB.out hbr.out⟩
end Go.Proofs.Ytemfaginhipihab
