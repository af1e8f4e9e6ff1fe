/- ParentsOf, the program's and the model's: the parents, or a code. -/
import Derived.Test.YtbdmmeoelagdcaaParentsIn
namespace Go.Proofs.Ytbdmmeoelagdcaa
open Go.RowKit

namespace M
theorem parsOK_unique {xs ps qs : List Int} (ht : isTree xs = true) (h : ParsOK xs ps) (h' : ParsOK xs qs) : ps = qs := by
  refine List.ext_getElem? fun i => ?_
  rcases Nat.lt_or_ge i xs.length with hi | hi
  · rcases Nat.eq_zero_or_pos i with h0 | h0
    · subst h0; rw [h.2.1, h'.2.1]
    · obtain ⟨p, hp⟩ := kid_has ht h0 hi
      rw [h.2.2 p i hp, h'.2.2 p i hp]
  · rw [List.getElem?_eq_none (by rw [h.1]; exact hi), List.getElem?_eq_none (by rw [h'.1]; exact hi)]
open Classical in
noncomputable def parents (xs : List Int) : List Int := if h : ∃ ps, ParsOK xs ps then h.choose else []
theorem parents_eq {xs ps : List Int} (ht : isTree xs = true) (h : ParsOK xs ps) : parents xs = ps := by
  have hx : ∃ ps, ParsOK xs ps := ⟨ps, h⟩
  rw [parents, dif_pos hx]
  exact parsOK_unique ht hx.choose_spec h
theorem parents_len {xs : List Int} : (parents xs).length ≤ xs.length := by
  rw [parents]
  split
  · rename_i h; exact Nat.le_of_eq h.choose_spec.1
  · exact Nat.zero_le _
end M

noncomputable def F_ParentsOf (xs : List Int) : List Int × Int := M.cond xs (M.parents xs)
theorem F_ParentsOf_len (xs : List Int) : (F_ParentsOf xs).1.length ≤ 1048576 := by
  cases ht : M.isTree xs
  · rw [F_ParentsOf, M.cond_no ht]; simp
  · rw [F_ParentsOf, M.cond_yes ht]
    have h1 := M.parents_len (xs := xs)
    have h2 := (M.tree_len ht).2
    show (M.parents xs).length ≤ _
    omega

end Go.Proofs.Ytbdmmeoelagdcaa
