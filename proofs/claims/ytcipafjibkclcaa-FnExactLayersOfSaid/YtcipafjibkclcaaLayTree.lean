/- The neighbours of a tree's nodes as a graph; the greatest node that is left has at most one neighbour left. No program is named here. -/
import Derived.Test.YtcipafjibkclcaaLayers
import Derived.Test.YtcipafjibkclcaaInside
namespace Go.Proofs.Ytcipafjibkclcaa
namespace M
/-- the neighbours of a node, numbers of nodes -/
noncomputable def arN (xs : List Int) (v : Nat) : List Nat := (List.range (xs[v]?.getD 0).toNat).map (kidAt xs v) ++ (if v = 0 then [] else [((parents xs)[v]?.getD 0).toNat])
theorem arN_root {xs : List Int} {d : Nat} (hd : xs[0]? = some (d : Int)) : arN xs 0 = (List.range d).map (kidAt xs 0) := by
  rw [arN, hd, if_pos rfl, List.append_nil]; rfl
theorem arN_step {xs ps : List Int} (ht : isTree xs = true) (hp : ParsOK xs ps) {v d p : Nat} (hd : xs[v]? = some (d : Int)) (h0 : 0 < v) (hv : ps[v]? = some (p : Int)) : arN xs v = (List.range d).map (kidAt xs v) ++ [p] := by
  rw [arN, hd, if_neg (by omega), parents_eq ht hp, hv]; rfl
theorem kids_mem {xs : List Int} {v d u : Nat} (hd : xs[v]? = some (d : Int)) : u ∈ (List.range d).map (kidAt xs v) ↔ IsKid xs v u := by
  rw [List.mem_map]
  constructor
  · rintro ⟨i, hi, e⟩
    exact ⟨d, i, hd, List.mem_range.1 hi, e⟩
  · rintro ⟨d', i, hd', hi, e⟩
    rw [hd] at hd'
    injection hd' with hd'
    exact ⟨i, List.mem_range.2 (by omega), e⟩
theorem mem_arN {xs ps : List Int} (ht : isTree xs = true) (hp : ParsOK xs ps) {v u : Nat} (hv : v < xs.length) : u ∈ arN xs v ↔ IsKid xs v u ∨ IsKid xs u v := by
  obtain ⟨d, hd, _⟩ := tree_degN ht hv
  rcases Nat.eq_zero_or_pos v with h0 | h0
  · subst h0
    rw [arN_root hd, kids_mem hd]
    constructor
    · exact .inl
    · rintro (h | h)
      · exact h
      · have := (kid_bounds ht h).1; omega
  · obtain ⟨p, hk⟩ := kid_has ht h0 hv
    rw [arN_step ht hp hd h0 (hp.2.2 p v hk), List.mem_append, kids_mem hd, List.mem_singleton]
    constructor
    · rintro (h | h)
      · exact .inl h
      · subst h; exact .inr hk
    · rintro (h | h)
      · exact .inl h
      · exact .inr (kid_unique ht h hk)
theorem kids_nodup {xs : List Int} (ht : isTree xs = true) {v d : Nat} (hd : xs[v]? = some (d : Int)) : ∀ k, k ≤ d → ((List.range k).map (kidAt xs v)).Nodup := by
  intro k
  induction k with
  | zero => intro _; simp
  | succ k ih =>
    intro hk
    rw [List.range_succ, List.map_append]
    refine List.nodup_append.2 ⟨ih (by omega), by simp, fun a ha b hb e => ?_⟩
    obtain ⟨i, hi, e1⟩ := List.mem_map.1 ha
    have hi' := List.mem_range.1 hi
    simp only [List.map_cons, List.map_nil, List.mem_singleton] at hb
    have := kid_lt_kid ht hd (i := i) (j := k) (by omega) hi'
    omega
theorem arN_graph {xs : List Int} (ht : isTree xs = true) {ps : List Int} (hp : ParsOK xs ps) : Graph xs.length (arN xs) := by
  refine ⟨fun v hv => ?_, fun v hv u hu => ?_, fun v u hv hu => ?_⟩
  · obtain ⟨d, hd, _⟩ := tree_degN ht hv
    rcases Nat.eq_zero_or_pos v with h0 | h0
    · subst h0
      rw [arN_root hd]
      exact kids_nodup ht hd d (Nat.le_refl _)
    · obtain ⟨p, hk⟩ := kid_has ht h0 hv
      rw [arN_step ht hp hd h0 (hp.2.2 p v hk)]
      refine List.nodup_append.2 ⟨kids_nodup ht hd d (Nat.le_refl _), by simp, fun a ha b hb e => ?_⟩
      have h1 := (kid_bounds ht ((kids_mem hd).1 ha)).1
      have h2 := (kid_bounds ht hk).1
      rw [List.mem_singleton] at hb
      omega
  · rcases (mem_arN ht hp hv).1 hu with h | h
    · exact (kid_bounds ht h).2.2
    · have := kid_bounds ht h; omega
  · rw [mem_arN ht hp hv, mem_arN ht hp hu]
    exact or_comm
/-- the greatest node that is left has no child left -/
theorem cnt_last {xs ps : List Int} (ht : isTree xs = true) (hp : ParsOK xs ps) {R : Nat → Bool} {v : Nat} (hv : v < xs.length) (hR : ∀ u, v < u → u < xs.length → R u = false) : cnt (arN xs) R v ≤ 1 := by
  obtain ⟨d, hd, _⟩ := tree_degN ht hv
  have hk0 : ((List.range d).map (kidAt xs v)).countP R = 0 := by
    rw [List.countP_eq_zero]
    intro a ha
    have hb := kid_bounds ht ((kids_mem hd).1 ha)
    rw [hR a hb.1 hb.2.2]
    decide
  rcases Nat.eq_zero_or_pos v with h0 | h0
  · subst h0
    rw [cnt, arN_root hd, hk0]; omega
  · obtain ⟨p, hk⟩ := kid_has ht h0 hv
    rw [cnt, arN_step ht hp hd h0 (hp.2.2 p v hk), List.countP_append, hk0]
    have := List.countP_le_length (p := R) (l := [p])
    simp only [List.length_cons, List.length_nil] at this
    omega
theorem last_of (R : Nat → Bool) : ∀ n : Nat, (∃ v, v < n ∧ R v = true) → ∃ v, v < n ∧ R v = true ∧ ∀ u, v < u → u < n → R u = false := by
  intro n
  induction n with
  | zero => rintro ⟨v, h, _⟩; omega
  | succ n ih =>
    rintro ⟨v, h, hr⟩
    cases hn : R n with
    | true => exact ⟨n, by omega, hn, fun u h1 h2 => by omega⟩
    | false =>
      have hvn : v ≠ n := fun e => by rw [e, hn] at hr; cases hr
      obtain ⟨v', h1, h2, h3⟩ := ih ⟨v, by omega, hr⟩
      refine ⟨v', by omega, h2, fun u h4 h5 => ?_⟩
      rcases Nat.lt_or_ge u n with h6 | h6
      · exact h3 u h4 h6
      · rw [show u = n by omega]; exact hn
/-- as long as a node is left, a round takes one -/
theorem round_takes {xs ps : List Int} (ht : isTree xs = true) (hp : ParsOK xs ps) {R : Nat → Bool} {l : Nat → Int} {out : List Nat} (h : Round xs.length (arN xs) R l out) (he : ∃ v, v < xs.length ∧ R v = true) : out ≠ [] := by
  obtain ⟨v, h1, h2, h3⟩ := last_of R xs.length he
  intro e
  have := (h.mem v).2 ⟨h1, h2, cnt_last ht hp h1 h3⟩
  rw [e] at this
  cases this
theorem aroundOf_N {xs ps : List Int} (ht : isTree xs = true) (hp : ParsOK xs ps) {v : Nat} (hv : v < xs.length) : aroundOf xs v = (arN xs v).map fun u : Nat => (u : Int) := by
  obtain ⟨d, hd, _⟩ := tree_degN ht hv
  rcases Nat.eq_zero_or_pos v with h0 | h0
  · subst h0
    rw [around_root hd, arN_root hd, childs, List.map_map]; rfl
  · obtain ⟨p, hk⟩ := kid_has ht h0 hv
    rw [around_step ht hp hd h0 (hp.2.2 p v hk), arN_step ht hp hd h0 (hp.2.2 p v hk), List.map_append, childs, List.map_map]; rfl
end M
end Go.Proofs.Ytcipafjibkclcaa
