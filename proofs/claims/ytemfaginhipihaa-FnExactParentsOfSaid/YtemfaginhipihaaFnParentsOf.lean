/- ParentsOf, the program's and the model's: the parents, or a code. -/
import Derived.Test.YtemfaginhipihaaParentsIn
namespace Go.Proofs.Ytemfaginhipihaa
open Go.RowKit

namespace M
theorem parsOK_unique {xs ps qs : List Int} (ht : isTree xs = true) (h : ParsOK xs ps) (h' : ParsOK xs qs) : ps = qs := by
  refine List.ext_getElem? fun i => ?_
  rcases Nat.lt_or_ge i xs.length with hi | hi
  · rcases Nat.eq_zero_or_pos i with h0 | h0
    · subst h0; rw [h.2.1, h'.2.1]
    · obtain ⟨p, hp⟩ := kid_has ht h0 hi
      rw [h.2.2 p i hp, h'.2.2 p i hp]
  · rw [List.getElem?_eq_none (by rw [h.1]; exact hi), List.getElem?_eq_none (by rw [h'.1]; exact hi)]
open Classical in
noncomputable def parents (xs : List Int) : List Int := if h : ∃ ps, ParsOK xs ps then h.choose else []
theorem parents_eq {xs ps : List Int} (ht : isTree xs = true) (h : ParsOK xs ps) : parents xs = ps := by
  have hx : ∃ ps, ParsOK xs ps := ⟨ps, h⟩
  rw [parents, dif_pos hx]
  exact parsOK_unique ht hx.choose_spec h
theorem parents_len {xs : List Int} : (parents xs).length ≤ xs.length := by
  rw [parents]
  split
  · rename_i h; exact Nat.le_of_eq h.choose_spec.1
  · exact Nat.zero_le _
end M

noncomputable def F_ParentsOf (xs : List Int) : List Int × Int := M.cond xs (M.parents xs)
theorem F_ParentsOf_len (xs : List Int) : (F_ParentsOf xs).1.length ≤ 1048576 := by
  cases ht : M.isTree xs
  · rw [F_ParentsOf, M.cond_no ht]; simp
  · rw [F_ParentsOf, M.cond_yes ht]
    have h1 := M.parents_len (xs := xs)
    have h2 := (M.tree_len ht).2
    show (M.parents xs).length ≤ _
    omega

set_option maxHeartbeats 2000000 in
theorem impl_ParentsOf : GivesList 19 F_ParentsOf := by
  intro A xs c w hx hcc h
  have hc := codeOf0 A xs c (w.alloc (.cells #[.slice A xs.length c] 26)) (by omega) (h.al _) _ rfl
  cases ht : M.isTree xs
  · rw [ht] at hc
    have HC := Lib.hid hc
    have hF : F_ParentsOf xs = ([], 1) := M.cond_no ht
    rw [hF]
    clear hc ht hF
    go_enter Try.func19, Try.ntmps19
    go_wp2_with fail
    refine HC.out.mono ?_
    rintro e w1 ⟨rfl, hb⟩
    have hB := btr (bal (b0 w) _) hb
    go_wp2
    go_ret2
    exact ⟨none, 0, rfl, own64_nil _ _, hB⟩
  · rw [ht] at hc
    have HC := Lib.hid hc
    have hF : F_ParentsOf xs = (M.parents xs, 0) := M.cond_yes ht
    have Ht := Lib.hid ht
    rw [hF]
    clear hc ht hF
    go_enter Try.func19, Try.ntmps19
    go_wp2_with fail
    refine HC.out.mono ?_
    rintro e w1 ⟨rfl, hb⟩
    have hB := Lib.hid (btr (bal (b0 w) _) hb)
    have hcell : w1.cell? ⟨w.heap.size, 0, none⟩ = some (.slice A xs.length c) := cell_be (by simp) hb
    have h1 := Lib.hid ((h.al _).be hb)
    have z1 := hB.out.size
    clear hb h HC
    go_wp2_with fail
    refine ((callsIn_wide (n := 5)).1 (parentsIn_in A xs c _ hcc.1 hcc.2 Ht h1.out)).mono ?_
    rintro e w2 ⟨A', c', ps, rfl, hok, ho, hb⟩
    have hB2 := Lib.hid (btr hB.out hb)
    have Ho := Lib.hid ho
    have He := Lib.hid (M.parents_eq Ht.out hok.out)
    have hl := Lib.hid hok.out.1
    clear ho hb
    go_wp2
    go_ret2
    rw [He.out, hl.out]
    exact ⟨A', c', rfl, own_mono Ho.out z1, hB2.out⟩

set_option maxHeartbeats 2000000 in
theorem spec_ParentsOf : GivesList 20 F_ParentsOf := by
  intro A xs c w hx hcc h
  have hc := specIs A xs c (w.alloc (.cells #[.slice A xs.length c] 26)) (by omega) (h.al _)
  cases ht : M.isTree xs
  · rw [ht] at hc
    have HC := Lib.hid hc
    have hF : F_ParentsOf xs = ([], 1) := M.cond_no ht
    rw [hF]
    clear hc ht hF
    go_enter Try.func20, Try.ntmps20
    go_wp2_with fail
    refine HC.out.mono ?_
    rintro e w1 ⟨rfl, hb⟩
    have hB := btr (bal (b0 w) _) hb
    go_wp2
    go_ret2
    exact ⟨none, 0, rfl, own64_nil _ _, hB⟩
  · rw [ht] at hc
    have HC := Lib.hid hc
    have hF : F_ParentsOf xs = (M.parents xs, 0) := M.cond_yes ht
    have Ht := Lib.hid ht
    rw [hF]
    clear hc ht hF
    go_enter Try.func20, Try.ntmps20
    go_wp2_with fail
    refine HC.out.mono ?_
    rintro e w1 ⟨rfl, hb⟩
    have hB := Lib.hid (btr (bal (b0 w) _) hb)
    have hcell : w1.cell? ⟨w.heap.size, 0, none⟩ = some (.slice A xs.length c) := cell_be (by simp) hb
    have h1 := Lib.hid ((h.al _).be hb)
    have z1 := hB.out.size
    clear hb h HC
    go_wp2_with fail
    refine (l01Parents A xs c _ Ht h1.out).mono ?_
    rintro e w2 ⟨A', c', ps, rfl, hok, ho, hb⟩
    have hB2 := Lib.hid (btr hB.out hb)
    have Ho := Lib.hid ho
    have He := Lib.hid (M.parents_eq Ht.out hok.out)
    have hl := Lib.hid hok.out.1
    clear ho hb
    go_wp2
    go_ret2
    rw [He.out, hl.out]
    exact ⟨A', c', rfl, own_mono Ho.out z1, hB2.out⟩
end Go.Proofs.Ytemfaginhipihaa
