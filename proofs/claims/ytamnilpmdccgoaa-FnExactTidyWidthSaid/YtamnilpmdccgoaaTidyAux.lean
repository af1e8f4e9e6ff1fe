/- tidyIn: by how much the next subtree is moved. -/
import Derived.Test.YtamnilpmdccgoaaMoveIn
import Derived.Test.YtamnilpmdccgoaaStepsIn
import Derived.Test.YtamnilpmdccgoaaCaps
import Derived.Test.YtamnilpmdccgoaaCopy
namespace Go.Proofs.Ytamnilpmdccgoaa
open Go.RowKit

namespace M
theorem minTo_in {xs : List Int} : ∀ {k : Nat}, 0 < k → k ≤ xs.length → ∃ j, j < k ∧ xs[j]? = some (minTo xs k) := by
  intro k
  induction k with
  | zero => intro h; omega
  | succ k ih =>
    intro _ hk
    obtain ⟨x, hx⟩ : ∃ x, xs[k]? = some x := ⟨_, List.getElem?_eq_getElem (by omega)⟩
    rcases Nat.eq_zero_or_pos k with h0 | h0
    · subst h0
      exact ⟨0, by omega, by rw [minTo_one hx]; exact hx⟩
    · obtain ⟨j, hj, hm⟩ := ih h0 (by omega)
      rw [minTo_step hx h0 rfl]
      by_cases h : minTo xs k ≤ x
      · exact ⟨j, by omega, by rw [hm]; congr 1; omega⟩
      · exact ⟨k, by omega, by rw [hx]; congr 1; omega⟩
theorem deps_in {xs ds : List Int} (ht : isTree xs = true) (h : DepsOK xs ds) (i : Nat) (x : Int) (hx : ds[i]? = some x) : 0 ≤ x ∧ x < 24 := by
  have h1 := (List.getElem?_eq_some_iff.1 hx).1
  have h2 := depsOK_le ht h (i + 1) i x (by omega) hx
  have h3 := (tree_len ht).2
  rw [h.1] at h1
  omega
theorem tdMid_part {xs ds : List Int} (ht : isTree xs = true) (hD : DepsOK xs ds) {v d j p : Nat} (hd : xs[v]? = some (d : Int)) (hj : j < d) (hp : kidAt xs v j = p) : ((tdMid xs ds v j).drop p).take (span 1 (xs.drop p)) = td xs ds p := by
  have hkl := kid_lt ht hd (i := j) (by omega)
  have h3 := (tdP_good ht hD hd (j := j) (by omega)).1
  have h4 := (td_good ht hD hkl).1
  have hl : (List.replicate (v + 1) (0 : Int) ++ tdP xs ds v j).length = kidAt xs v j := by simp only [List.length_append, List.length_replicate]; omega
  rw [← hp, tdMid, woods_step hkl]
  conv => lhs; rw [← hl]
  rw [List.drop_left, hl, ← h4, List.take_left]
theorem tdMid_prev {xs ds : List Int} (ht : isTree xs = true) (hD : DepsOK xs ds) {v d j p : Nat} (hd : xs[v]? = some (d : Int)) (hj : j ≤ d) (hp : kidAt xs v j = p) : ((tdMid xs ds v j).drop (v + 1)).take (p - (v + 1)) = tdP xs ds v j := by
  have h3 := (tdP_good ht hD hd hj).1
  have hl : (List.replicate (v + 1) (0 : Int)).length = v + 1 := by simp
  rw [← hp, tdMid, List.append_assoc, List.drop_left' hl, show kidAt xs v j - (v + 1) = (tdP xs ds v j).length by omega, List.take_left]
theorem fo_abs {xs ds : List Int} (ht : isTree xs = true) (hD : DepsOK xs ds) : ∀ (f v : Nat) {x : Int}, x ∈ fo xs ds f v → -46 ≤ x ∧ x ≤ 46 := by
  intro f
  induction f with
  | zero => intro v x h; simp [fo] at h
  | succ f ih =>
    intro v x h
    rw [fo] at h
    split at h
    · rename_i hv
      rcases List.mem_append.1 h with h | h
      · exact td_abs ht hD hv h
      · exact ih _ h
    · simp at h
theorem tdMid_abs {xs ds : List Int} (ht : isTree xs = true) (hD : DepsOK xs ds) {v d j : Nat} (hd : xs[v]? = some (d : Int)) (hj : j ≤ d) {x : Int} (h : x ∈ tdMid xs ds v j) : -46 ≤ x ∧ x ≤ 46 := by
  rw [tdMid] at h
  rcases List.mem_append.1 h with h | h
  · rcases List.mem_append.1 h with h | h
    · have := List.eq_of_mem_replicate h; omega
    · exact tdP_abs ht hD hd hj h
  · exact fo_abs ht hD _ _ h
end M

theorem steps_td {xs ds : List Int} (ht : M.isTree xs = true) (hD : M.DepsOK xs ds) {v d j p S n gR gd cd B : Nat} (hd : xs[v]? = some (d : Int)) (hj : j + 1 < d) (hp : M.kidAt xs v (j + 1) = p) (hS : M.span 1 (xs.drop p) = S) (hn : xs.length = n) (W : World)
    (oR : Own64 W B (.slice (some ⟨gR, 0, none⟩) n n) (M.tdMid xs ds v (j + 1))) (oD : Own64 W B (.slice (some ⟨gd, 0, none⟩) n cd) ds) :
    Calls Try.prog 125 #[.agg #[.slice (some ⟨gR, p, none⟩) S S, .slice (some ⟨gd, p, none⟩) S S], .agg #[.slice (some ⟨gR, v + 1, none⟩) (p - (v + 1)) (p - (v + 1)), .slice (some ⟨gd, v + 1, none⟩) (p - (v + 1)) (p - (v + 1))]] W fun e w' =>
      e = .returned (.int .i64 (M.byOf ds (v + 1) p (M.tdP xs ds v (j + 1)) (M.td xs ds p))) ∧ Hid (Below W.heap.size W w') := by
  have hlen := M.tree_len ht
  have hkl := M.kid_lt ht hd (i := j + 1) (by omega)
  rw [hp] at hkl
  have hgood := M.tdP_good ht hD hd (j := j + 1) (by omega)
  rw [hp] at hgood
  have htd := M.td_good ht hD hkl
  have hspl := M.span_le (xs.drop p) 1
  rw [List.length_drop] at hspl
  have hdl := hD.1
  have hkd := (M.kid_due ht hd (j + 1) (by omega)).2.2
  rw [hp] at hkd
  have i1 := ints_sub (ints_of_own64 oR) p S
  have i2 := ints_sub (ints_of_own64 oD) p S
  have i3 := ints_sub (ints_of_own64 oR) (v + 1) (p - (v + 1))
  have i4 := ints_sub (ints_of_own64 oD) (v + 1) (p - (v + 1))
  have e1 := M.tdMid_part ht hD hd hj hp
  rw [hS] at e1
  rw [e1, Nat.zero_add] at i1
  rw [Nat.zero_add] at i2
  rw [M.tdMid_prev ht hD hd (by omega) hp, Nat.zero_add] at i3
  rw [Nat.zero_add] at i4
  have l1 : (M.td xs ds p).length = S := by rw [← hS]; exact htd.1
  have l2 : ((ds.drop p).take S).length = S := by simp only [List.length_take, List.length_drop]; omega
  have l3 : (M.tdP xs ds v (j + 1)).length = p - (v + 1) := by omega
  have l4 : ((ds.drop (v + 1)).take (p - (v + 1))).length = p - (v + 1) := by simp only [List.length_take, List.length_drop]; omega
  have bD : ∀ x ∈ ds, 0 ≤ x ∧ x < 24 := fun x hx => by
    obtain ⟨i, hi⟩ := List.getElem?_of_mem hx
    exact M.deps_in ht hD i x hi
  have b1 : ∀ x ∈ M.td xs ds p, -100 ≤ x ∧ x ≤ 100 := fun x hx => by have := M.td_abs ht hD hkl hx; omega
  have b3 : ∀ x ∈ M.tdP xs ds v (j + 1), -100 ≤ x ∧ x ≤ 100 := fun x hx => by have := M.tdP_abs ht hD hd (by omega) hx; omega
  refine (stepsBehind _ _ _ _ (M.td xs ds p) ((ds.drop p).take S) (M.tdP xs ds v (j + 1)) ((ds.drop (v + 1)).take (p - (v + 1))) S S S (p - (v + 1)) (p - (v + 1)) (p - (v + 1)) W (by omega) (by omega) l1 l2 l3 l4 i1 i2 i3 i4 b1
    (fun x hx => bD x (List.mem_of_mem_drop (List.mem_of_mem_take hx))) b3 (fun x hx => bD x (List.mem_of_mem_drop (List.mem_of_mem_take hx)))).mono ?_
  rintro e w' ⟨s, L, R, rfl, hL, hR, hS2, hb⟩
  have hpos := (hgood.2.1 (by omega)).1
  have hsp := M.span_pos hkl
  have hby := M.steps_by (ds := ds) (P := M.tdP xs ds v (j + 1)) (own := M.td xs ds p) (p := v + 1) (q := p) (by rw [l3]) (by rw [l1]) (fun i x h => M.deps_in ht hD i x h) (by rw [l1]; exact hL.out) (by rw [l3]; exact hR.out) hS2.out
    (fun x hx => M.tdP_abs ht hD hd (by omega) hx) (fun x hx => M.td_abs ht hD hkl hx) ⟨0, 0, _, _, by
      have := M.td_pair hD hd hj (by omega) (P := M.tdP xs ds v (j + 1)) (own := M.td xs ds p) (List.getElem?_eq_getElem hpos) (List.getElem?_eq_getElem (show 0 < (M.td xs ds p).length by omega))
      rw [hp] at this
      exact this⟩
  rw [M.byOf_eq hby]
  exact ⟨rfl, hb⟩

/-- both cells of a box that a write elsewhere left alone -/
theorem box2 {W W' : World} {g gR : Nat} {t : TypeId} {a b : Value} (h : W.heap[g]? = some (.cells #[a, b] t (0, 0))) (hg : W.grownBy W' (some gR)) (hne : g ≠ gR) : W'.cell? ⟨g, 0, none⟩ = some a ∧ W'.cell? ⟨g, 1, none⟩ = some b := by
  have h1 := (hg.block g (Array.getElem?_eq_some_iff.1 h).1 (fun e => by injection e with e; exact hne e)).trans h
  exact ⟨by simp [World.cell?, h1], by simp [World.cell?, h1]⟩
end Go.Proofs.Ytamnilpmdccgoaa
