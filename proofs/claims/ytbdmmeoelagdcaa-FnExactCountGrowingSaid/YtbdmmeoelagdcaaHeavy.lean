/- Heavy children, heavy paths, light steps, intervals and ancestors: their mathematics. No program is named here. -/
import Derived.Test.YtbdmmeoelagdcaaWay
import Derived.Test.YtbdmmeoelagdcaaLeast
namespace Go.Proofs.Ytbdmmeoelagdcaa
namespace M
/-- the heavy one among the first k children of a node, and its size -/
def hvTo (xs : List Int) (v : Nat) : Nat → Int × Int
  | 0 => (-1, 0)
  | k + 1 => if (hvTo xs v k).2 < (span 1 (xs.drop (kidAt xs v k)) : Int) then ((kidAt xs v k : Int), (span 1 (xs.drop (kidAt xs v k)) : Int)) else hvTo xs v k
theorem hvTo_hit {xs : List Int} {v k C S : Nat} {h s : Int} (hk : hvTo xs v k = (h, s)) (hC : kidAt xs v k = C) (hS : span 1 (xs.drop C) = S) (hlt : s < (S : Int)) : hvTo xs v (k + 1) = ((C : Int), (S : Int)) := by
  simp only [hvTo, hk, hC, hS]
  rw [if_pos hlt]
theorem hvTo_miss {xs : List Int} {v k C S : Nat} {h s : Int} (hk : hvTo xs v k = (h, s)) (hC : kidAt xs v k = C) (hS : span 1 (xs.drop C) = S) (hlt : ¬ s < (S : Int)) : hvTo xs v (k + 1) = (h, s) := by
  simp only [hvTo, hk, hC, hS]
  rw [if_neg hlt]
theorem hvTo_kid (xs : List Int) (v : Nat) : ∀ k, (k = 0 ∧ hvTo xs v k = (-1, 0)) ∨ (1 ≤ k ∧ ((hvTo xs v k).2 = 0 → (hvTo xs v k).1 = -1) ∧ 0 ≤ (hvTo xs v k).2 ∧ ((hvTo xs v k).1 = -1 ∨ ∃ i, i < k ∧ (hvTo xs v k).1 = (kidAt xs v i : Int))) := by
  intro k
  induction k with
  | zero => exact .inl ⟨rfl, rfl⟩
  | succ k ih =>
    refine .inr ⟨by omega, ?_⟩
    have h0 : ((hvTo xs v k).2 = 0 → (hvTo xs v k).1 = -1) ∧ 0 ≤ (hvTo xs v k).2 ∧ ((hvTo xs v k).1 = -1 ∨ ∃ i, i < k ∧ (hvTo xs v k).1 = (kidAt xs v i : Int)) := by
      rcases ih with ⟨rfl, h⟩ | h
      · rw [h]; exact ⟨fun _ => rfl, by decide, .inl rfl⟩
      · exact h.2
    rw [hvTo]
    split
    · rename_i hlt
      refine ⟨fun h => ?_, by omega, .inr ⟨k, by omega, rfl⟩⟩
      have := h0.2.1
      simp only at h
      omega
    · refine ⟨h0.1, h0.2.1, ?_⟩
      rcases h0.2.2 with h | ⟨i, hi, h⟩
      · exact .inl h
      · exact .inr ⟨i, by omega, h⟩
theorem hvTo_bounds {xs : List Int} (hx : xs.length ≤ 24) (v : Nat) : ∀ k, 0 ≤ (hvTo xs v k).2 ∧ (hvTo xs v k).2 ≤ 24 := by
  intro k
  induction k with
  | zero => simp [hvTo]
  | succ k ih =>
    rw [hvTo]
    split
    · have := span_le (xs.drop (kidAt xs v k)) 1
      simp only [List.length_drop] at this
      simp only
      omega
    · exact ih
/-- the heavy child of a node, -1 for a leaf -/
def hvAt (xs : List Int) (v : Nat) : Int := (hvTo xs v (xs[v]?.getD 0).toNat).1
theorem hvAt_eq {xs : List Int} {v d : Nat} (hd : xs[v]? = some (d : Int)) : hvAt xs v = (hvTo xs v d).1 := by simp [hvAt, hd]
theorem hvAt_kid {xs : List Int} (ht : isTree xs = true) {v : Nat} (hv : v < xs.length) : hvAt xs v = -1 ∨ ∃ c : Nat, hvAt xs v = (c : Int) ∧ IsKid xs v c := by
  obtain ⟨d, hd, _⟩ := tree_degN ht hv
  rw [hvAt_eq hd]
  rcases hvTo_kid xs v d with ⟨_, h⟩ | ⟨_, _, _, h | ⟨i, hi, h⟩⟩
  · rw [h]; exact .inl rfl
  · exact .inl h
  · exact .inr ⟨_, h, d, i, hd, hi, rfl⟩
theorem hvAt_lt {xs : List Int} (ht : isTree xs = true) {v : Nat} (hv : v < xs.length) : hvAt xs v = -1 ∨ ∃ c : Nat, hvAt xs v = (c : Int) ∧ v < c ∧ c < xs.length := by
  rcases hvAt_kid ht hv with h | ⟨c, h, hk⟩
  · exact .inl h
  · have := kid_bounds ht hk
    exact .inr ⟨c, h, this.1, this.2.2⟩
/-- the heavy children of all nodes -/
def heavy (xs : List Int) : List Int := rowOf xs.length (hvAt xs)
theorem heavy_len (xs : List Int) : (heavy xs).length = xs.length := rowOf_len _ _
theorem heavy_at (xs : List Int) {v : Nat} (h : v < xs.length) : (heavy xs)[v]? = some (hvAt xs v) := rowOf_at _ h
/-- is a node a heavy child -/
def isHeavy (xs : List Int) (v : Nat) : Bool := decide ((v : Int) ∈ heavy xs)
theorem isHeavy_mem (xs : List Int) (v : Nat) : decide ((v : Int) ∈ heavy xs) = isHeavy xs v := rfl
theorem isHeavy_root {xs : List Int} (ht : isTree xs = true) : isHeavy xs 0 = false := by
  refine decide_eq_false fun hm => ?_
  simp only [heavy, rowOf, List.mem_map, List.mem_range] at hm
  obtain ⟨p, hp, h⟩ := hm
  rcases hvAt_lt ht hp with h1 | ⟨c, h1, h2, _⟩ <;> omega
theorem isHeavy_par {xs ps : List Int} (ht : isTree xs = true) (hp : ParsOK xs ps) {v p : Nat} (hv : v < xs.length) (hq : ps[v]? = some (p : Int)) : isHeavy xs v = decide (hvAt xs p = (v : Int)) := by
  have h0 : 0 < v := by
    rcases Nat.eq_zero_or_pos v with h | h
    · subst h; rw [hp.2.1] at hq; injection hq with hq; omega
    · exact h
  obtain ⟨p', h1, h2, hk⟩ := par_has ht hp h0 hv
  rw [hq] at h1
  injection h1 with h1
  obtain rfl : p = p' := by omega
  simp only [isHeavy]
  rw [Bool.eq_iff_iff]
  simp only [decide_eq_true_eq]
  constructor
  · intro hm
    simp only [heavy, rowOf, List.mem_map, List.mem_range] at hm
    obtain ⟨q, hq1, h⟩ := hm
    rcases hvAt_kid ht hq1 with h3 | ⟨c, h3, hk3⟩
    · omega
    · obtain rfl : c = v := by omega
      have := kid_unique ht hk hk3
      subst this
      exact h
  · intro h
    rw [← h]
    exact List.mem_of_getElem? (heavy_at xs (show p < xs.length by omega))
/-- the heavy path from a node down -/
def hvDown (xs : List Int) : Nat → Nat → List Int
  | 0, _ => []
  | k + 1, v => (v : Int) :: (if 0 ≤ hvAt xs v then hvDown xs k (hvAt xs v).toNat else [])
theorem hvDown_fuel {xs : List Int} (ht : isTree xs = true) : ∀ {k k' v : Nat}, v < xs.length → xs.length ≤ v + k → xs.length ≤ v + k' → hvDown xs k v = hvDown xs k' v := by
  intro k
  induction k with
  | zero => intro k' v h h1; omega
  | succ k ih =>
    intro k' v h h1 h2
    cases k' with
    | zero => omega
    | succ k' =>
      simp only [hvDown]
      rcases hvAt_lt ht h with h3 | ⟨c, h3, h4, h5⟩
      · rw [h3]; rfl
      · rw [h3]
        simp only [Int.toNat_natCast]
        rw [ih h5 (by omega) (k' := k') (by omega)]
def hvPath (xs : List Int) (v : Nat) : List Int := hvDown xs xs.length v
theorem hvPath_end {xs : List Int} {v : Nat} (hv : v < xs.length) (h : hvAt xs v = -1) : hvPath xs v = [(v : Int)] := by
  obtain ⟨n, hn⟩ : ∃ n, xs.length = n + 1 := ⟨xs.length - 1, by omega⟩
  rw [hvPath, hn, hvDown, h]; rfl
theorem hvPath_step {xs : List Int} (ht : isTree xs = true) {v c : Nat} (hv : v < xs.length) (h : hvAt xs v = (c : Int)) : hvPath xs v = (v : Int) :: hvPath xs c := by
  rcases hvAt_lt ht hv with h3 | ⟨c', h3, h4, h5⟩
  · omega
  · obtain rfl : c = c' := by omega
    obtain ⟨n, hn⟩ : ∃ n, xs.length = n + 1 := ⟨xs.length - 1, by omega⟩
    rw [hvPath, hn, hvDown, h, if_pos (by omega), Int.toNat_natCast, hvPath, hvDown_fuel ht (k := n) (k' := xs.length) h5 (by omega) (by omega)]
theorem hvPath_len {xs : List Int} (ht : isTree xs = true) : ∀ (k : Nat) {v : Nat}, v < xs.length → xs.length ≤ v + k → (hvPath xs v).length + v ≤ xs.length := by
  intro k
  induction k with
  | zero => intro v h h1; omega
  | succ k ih =>
    intro v h h1
    rcases hvAt_lt ht h with h3 | ⟨c, h3, h4, h5⟩
    · rw [hvPath_end h h3]; simp; omega
    · rw [hvPath_step ht h h3]
      have := ih h5 (by omega)
      simp only [List.length_cons]
      omega
theorem hvPath_le {xs : List Int} (ht : isTree xs = true) {v : Nat} (hv : v < xs.length) : (hvPath xs v).length ≤ 24 := by
  have := hvPath_len ht xs.length hv (by omega)
  have := (tree_len ht).2
  omega
/-- the heavy paths from the tops among the first k nodes -/
def hvPaths (xs : List Int) : Nat → List (List Int)
  | 0 => []
  | k + 1 => if isHeavy xs k then hvPaths xs k else hvPaths xs k ++ [hvPath xs k]
theorem hvPaths_hit {xs : List Int} {k : Nat} (h : isHeavy xs k = true) : hvPaths xs (k + 1) = hvPaths xs k := by rw [hvPaths, if_pos h]
theorem hvPaths_miss {xs : List Int} {k : Nat} (h : isHeavy xs k = false) : hvPaths xs (k + 1) = hvPaths xs k ++ [hvPath xs k] := by rw [hvPaths, if_neg (by simp [h])]
theorem hvPaths_len (xs : List Int) : ∀ k, (hvPaths xs k).length ≤ k := by
  intro k
  induction k with
  | zero => simp [hvPaths]
  | succ k ih =>
    rw [hvPaths]
    split
    · omega
    · simp only [List.length_append, List.length_cons, List.length_nil]; omega
def heavyPaths (xs : List Int) : List (List Int) × Int := if isTree xs then (hvPaths xs xs.length, 0) else ([], 1)
theorem heavyPaths_yes {xs : List Int} (h : isTree xs = true) : heavyPaths xs = (hvPaths xs xs.length, 0) := by simp [heavyPaths, h]
theorem heavyPaths_no {xs : List Int} (h : isTree xs = false) : heavyPaths xs = ([], 1) := by simp [heavyPaths, h]
/-- how many of a list are not heavy -/
def lightIn (xs : List Int) : List Int → Int
  | [] => 0
  | v :: r => (if v ∈ heavy xs then 0 else 1) + lightIn xs r
theorem lightIn_append (xs l r : List Int) : lightIn xs (l ++ r) = lightIn xs l + lightIn xs r := by
  induction l with
  | nil => simp [lightIn]
  | cons v l ih => simp only [List.cons_append, lightIn, ih]; omega
theorem lightIn_reverse (xs l : List Int) : lightIn xs l.reverse = lightIn xs l := by
  induction l with
  | nil => rfl
  | cons v l ih => simp only [List.reverse_cons, lightIn_append, ih, lightIn]; omega
theorem lightIn_bounds (xs : List Int) : ∀ l, 0 ≤ lightIn xs l ∧ lightIn xs l ≤ l.length := by
  intro l
  induction l with
  | nil => simp [lightIn]
  | cons v l ih => simp only [lightIn, List.length_cons]; split <;> omega
theorem lightIn_take_hit {xs l : List Int} {k : Nat} {v : Int} (h : l[k]? = some v) (hv : v ∈ heavy xs) : lightIn xs (l.take (k + 1)) = lightIn xs (l.take k) := by
  obtain ⟨hk, rfl⟩ := List.getElem?_eq_some_iff.1 h
  rw [List.take_succ_eq_append_getElem hk, lightIn_append, lightIn, if_pos hv, lightIn]; omega
theorem lightIn_take_miss {xs l : List Int} {k : Nat} {v : Int} (h : l[k]? = some v) (hv : v ∉ heavy xs) : lightIn xs (l.take (k + 1)) = lightIn xs (l.take k) + 1 := by
  obtain ⟨hk, rfl⟩ := List.getElem?_eq_some_iff.1 h
  rw [List.take_succ_eq_append_getElem hk, lightIn_append, lightIn, if_neg hv, lightIn]; omega
theorem meet_root {xs : List Int} (v : Nat) : meet xs 0 v = 0 := by
  have := meetDown_le xs 0 v (min 0 v)
  rw [Nat.zero_min] at this
  simp only [meet, Nat.zero_min]; omega
theorem meet_root' {xs : List Int} (v : Nat) : meet xs v 0 = 0 := by
  have := meetDown_le xs v 0 (min v 0)
  rw [Nat.min_zero] at this
  simp only [meet, Nat.min_zero]; omega
theorem climb_top {xs ps : List Int} (ht : isTree xs = true) {v : Nat} (hv : v < xs.length) : Climb xs ps v 0 0 (upTo ps 0 v) :=
  ⟨by omega, bel_iff.2 ⟨Nat.zero_le _, by rw [fin_root ht]; exact hv⟩, Nat.le_refl _, by rw [upTo_end ps (Nat.le_refl 0), List.append_nil]⟩
theorem way_up {xs ps : List Int} (ht : isTree xs = true) (hp : ParsOK xs ps) {v : Nat} (hv : v < xs.length) : way xs v 0 = upTo ps 0 v ++ [0] := by
  have := way_mk ht hp (meet_root' v) (climb_top (ps := ps) ht hv) (climb_top (ps := ps) ht (v := 0) (by omega))
  rw [upTo_end ps (Nat.le_refl 0)] at this
  simpa using this.symm
theorem way_down {xs ps : List Int} (ht : isTree xs = true) (hp : ParsOK xs ps) {v : Nat} (hv : v < xs.length) : way xs 0 v = (0 : Int) :: (upTo ps 0 v).reverse := by
  have := way_mk ht hp (meet_root v) (climb_top (ps := ps) ht (v := 0) (by omega)) (climb_top (ps := ps) ht hv)
  rw [upTo_end ps (Nat.le_refl 0)] at this
  simpa using this.symm
/-- how many light nodes are on the way from the root, without the root -/
noncomputable def lights (xs : List Int) (v : Nat) : Int := lightIn xs ((way xs 0 v).drop 1)
theorem lights_up {xs ps : List Int} (ht : isTree xs = true) (hp : ParsOK xs ps) {v : Nat} (hv : v < xs.length) : lights xs v = lightIn xs (upTo ps 0 v) := by
  rw [lights, way_down ht hp hv]
  simp only [List.drop_succ_cons, List.drop_zero]
  exact lightIn_reverse _ _
theorem upTo_len {xs ps : List Int} (ht : isTree xs = true) (hp : ParsOK xs ps) {v : Nat} (hv : v < xs.length) : (upTo ps 0 v).length ≤ v :=
  climb_len ht hp hv (bel_iff.2 ⟨Nat.zero_le _, by rw [fin_root ht]; exact hv⟩)
theorem lightIn_root (xs ps : List Int) : lightIn xs (upTo ps 0 0) = 0 := by rw [upTo_end ps (Nat.le_refl 0)]; rfl
theorem lightIn_step {xs ps : List Int} (ht : isTree xs = true) (hp : ParsOK xs ps) {v p : Nat} (h0 : 0 < v) (hv : v < xs.length) (hq : ps[v]? = some (p : Int)) : lightIn xs (upTo ps 0 v) = (if isHeavy xs v then 0 else 1) + lightIn xs (upTo ps 0 p) := by
  rw [upTo_step ht hp h0 hv hq, lightIn]
  simp [isHeavy]
noncomputable def lightSteps (xs : List Int) (v : Int) : Int × Int := if code xs [v] = 0 then (lights xs v.toNat, 0) else (0, code xs [v])
theorem lightSteps_yes {xs : List Int} {v : Nat} (h : code xs [(v : Int)] = 0) : lightSteps xs v = (lights xs v, 0) := by simp [lightSteps, h]
theorem lightSteps_no {xs : List Int} {v : Int} (h : code xs [v] ≠ 0) : lightSteps xs v = (0, code xs [v]) := by simp [lightSteps, h]
/-- the nodes of the interval of a node, and a code -/
def intervalOf (xs : List Int) (v : Int) : Int × Int × Int := if code xs [v] = 0 then (v, v + (span 1 (xs.drop v.toNat) : Int) - 1, 0) else (0, 0, code xs [v])
theorem intervalOf_yes {xs : List Int} {v : Nat} (h : code xs [(v : Int)] = 0) : intervalOf xs v = ((v : Int), (v : Int) + (span 1 (xs.drop v) : Int) - 1, 0) := by simp [intervalOf, h]
theorem intervalOf_no {xs : List Int} {v : Int} (h : code xs [v] ≠ 0) : intervalOf xs v = (0, 0, code xs [v]) := by simp [intervalOf, h]
/-- the ancestor of k steps, and a code -/
noncomputable def ancestorOf (xs : List Int) (v k : Int) : Int × Int :=
  if code xs [v] = 0 then (if 0 ≤ k ∧ k ≤ 24 then (match (way xs v.toNat 0)[k.toNat]? with | none => (0, 4) | some a => (a, 0)) else (0, 2)) else (0, code xs [v])
theorem ancestorOf_no {xs : List Int} {v k : Int} (h : code xs [v] ≠ 0) : ancestorOf xs v k = (0, code xs [v]) := by simp [ancestorOf, h]
theorem ancestorOf_range {xs : List Int} {v k : Int} (h : code xs [v] = 0) (hk : ¬ (0 ≤ k ∧ k ≤ 24)) : ancestorOf xs v k = (0, 2) := by rw [ancestorOf, if_pos h, if_neg hk]
theorem ancestorOf_none {xs : List Int} {v k : Nat} (h : code xs [(v : Int)] = 0) (hk : k ≤ 24) (hw : (way xs v 0).length ≤ k) : ancestorOf xs v k = (0, 4) := by
  rw [ancestorOf, if_pos h, if_pos (by omega), Int.toNat_natCast, Int.toNat_natCast, List.getElem?_eq_none hw]
theorem ancestorOf_some {xs : List Int} {v k : Nat} {a : Int} (h : code xs [(v : Int)] = 0) (hk : k ≤ 24) (hw : (way xs v 0)[k]? = some a) : ancestorOf xs v k = (a, 0) := by
  rw [ancestorOf, if_pos h, if_pos (by omega), Int.toNat_natCast, Int.toNat_natCast, hw]
/-- the model's steps: behind j of k steps -/
def Anc (ps : List Int) (l : List Int) (j a : Nat) : Prop := l.drop j = upTo ps 0 a ++ [0]
theorem anc_at {ps l : List Int} {xs : List Int} (ht : isTree xs = true) (hp : ParsOK xs ps) {j a : Nat} (ha : a < xs.length) (h : Anc ps l j a) : l[j]? = some (a : Int) := by
  have e : l[j]? = (l.drop j)[0]? := by rw [List.getElem?_drop]; simp
  rw [e, h]
  rcases Nat.eq_zero_or_pos a with h0 | h0
  · subst h0; rw [upTo_end ps (Nat.le_refl 0)]; rfl
  · obtain ⟨p, h1, _, _⟩ := par_has ht hp h0 ha
    rw [upTo_step ht hp h0 ha h1]; rfl
theorem anc_step {xs ps l : List Int} (ht : isTree xs = true) (hp : ParsOK xs ps) {j a p : Nat} (h0 : 0 < a) (ha : a < xs.length) (hq : ps[a]? = some (p : Int)) (h : Anc ps l j a) : Anc ps l (j + 1) p := by
  have e : l.drop (j + 1) = (l.drop j).drop 1 := by rw [List.drop_drop]
  rw [Anc, e, h, upTo_step ht hp h0 ha hq]; rfl
theorem anc_root {ps l : List Int} {j : Nat} (h : Anc ps l j 0) : l.length ≤ j + 1 := by
  have := congrArg List.length h
  rw [upTo_end ps (Nat.le_refl 0)] at this
  simp only [List.length_drop, List.nil_append, List.length_cons, List.length_nil] at this
  omega
theorem anc_zero {xs ps : List Int} (ht : isTree xs = true) (hp : ParsOK xs ps) {v : Nat} (hv : v < xs.length) : Anc ps (way xs v 0) 0 v := by
  rw [Anc, List.drop_zero]; exact way_up ht hp hv
end M
end Go.Proofs.Ytbdmmeoelagdcaa
