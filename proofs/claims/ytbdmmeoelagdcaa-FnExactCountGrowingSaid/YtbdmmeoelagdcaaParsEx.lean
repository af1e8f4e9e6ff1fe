/- Each tree has a row of parents: mathematics. -/
import Derived.Test.YtbdmmeoelagdcaaStateCode
namespace Go.Proofs.Ytbdmmeoelagdcaa
namespace M
open Classical in
theorem pars_ex9 {xs : List Int} (ht : isTree xs = true) : ∃ ps, ParsOK xs ps := by
  have hl := tree_len ht
  refine ⟨(List.range xs.length).map fun i => if h : ∃ p, IsKid xs p i then (h.choose : Int) else -1, by simp, ?_, fun p c h => ?_⟩
  · have h0 : ¬ ∃ p, IsKid xs p 0 := fun ⟨p, h⟩ => by have := kid_bounds ht h; omega
    rw [List.getElem?_map, List.getElem?_range (by omega)]
    simp only [Option.map_some, dif_neg h0]
  · have hb := kid_bounds ht h
    have hx : ∃ p, IsKid xs p c := ⟨p, h⟩
    rw [List.getElem?_map, List.getElem?_range hb.2.2]
    simp only [Option.map_some, dif_pos hx]
    rw [kid_unique ht hx.choose_spec h]
theorem parents_tree {xs : List Int} (ht : isTree xs = true) : Parents xs.length (parents xs) := by
  obtain ⟨ps, hp⟩ := pars_ex9 ht
  rw [parents_eq ht hp]
  exact parents_of ht hp
end M
end Go.Proofs.Ytbdmmeoelagdcaa
