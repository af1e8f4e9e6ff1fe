/- Least numbers of a list and their places; rows made by a function of places; reaches as greatest distances; sums of distances: the mathematics. No program is named here. -/
import Derived.Test.YtbdmmeoelagdcaaWay
import Derived.Test.YtbdmmeoelagdcaaMax
namespace Go.Proofs.Ytbdmmeoelagdcaa
namespace M
/-- a row by a function of places -/
def rowOf (n : Nat) (f : Nat → Int) : List Int := (List.range n).map f
theorem rowOf_len (n : Nat) (f : Nat → Int) : (rowOf n f).length = n := by simp [rowOf]
theorem rowOf_at {n i : Nat} (f : Nat → Int) (h : i < n) : (rowOf n f)[i]? = some (f i) := by simp [rowOf, h]
theorem rowOf_succ (n : Nat) (f : Nat → Int) : rowOf (n + 1) f = rowOf n f ++ [f n] := by simp [rowOf, List.range_succ]
theorem rowOf_congr {n : Nat} {f g : Nat → Int} (h : ∀ i, i < n → f i = g i) : rowOf n f = rowOf n g := by
  apply List.ext_getElem?
  intro i
  by_cases hi : i < n
  · rw [rowOf_at f hi, rowOf_at g hi, h i hi]
  · rw [List.getElem?_eq_none (by rw [rowOf_len]; omega), List.getElem?_eq_none (by rw [rowOf_len]; omega)]
theorem rowOf_set {n k : Nat} (f : Nat → Int) (x : Int) : (rowOf n f).set k x = rowOf n (fun i => if i = k then x else f i) := by
  apply List.ext_getElem?
  intro i
  by_cases hi : i < n
  · rw [rowOf_at _ hi]
    by_cases hk : k = i
    · subst hk; rw [List.getElem?_set_self (by rw [rowOf_len]; exact hi), if_pos rfl]
    · rw [List.getElem?_set_ne hk, rowOf_at f hi, if_neg (fun e => hk e.symm)]
  · rw [List.getElem?_eq_none (by rw [List.length_set, rowOf_len]; omega), List.getElem?_eq_none (by rw [rowOf_len]; omega)]
theorem rowOf_zero (n : Nat) : rowOf n (fun _ => 0) = List.replicate n 0 := by
  apply List.ext_getElem?
  intro i
  rw [List.getElem?_replicate]
  by_cases hi : i < n
  · rw [rowOf_at _ hi, if_pos hi]
  · rw [if_neg hi, List.getElem?_eq_none (by rw [rowOf_len]; omega)]
/-- the least of the first k numbers, for 1 or more of them -/
def minTo (xs : List Int) : Nat → Int
  | 0 => 0
  | k + 1 => if k = 0 then xs[0]?.getD 0 else min (minTo xs k) (xs[k]?.getD 0)
theorem minTo_one {xs : List Int} {x : Int} (h : xs[0]? = some x) : minTo xs 1 = x := by simp [minTo, h]
theorem minTo_step {xs : List Int} {k : Nat} {x y : Int} (h : xs[k]? = some x) (hk : 1 ≤ k) (hy : minTo xs k = y) : minTo xs (k + 1) = min y x := by
  rw [minTo, if_neg (by omega), h, hy]; rfl
theorem minTo_le {xs : List Int} {j : Nat} {x : Int} (h : xs[j]? = some x) : ∀ k, j < k → minTo xs k ≤ x := by
  intro k
  induction k with
  | zero => intro h; omega
  | succ k ih =>
    intro hj
    rw [minTo]
    by_cases h0 : k = 0
    · subst h0
      obtain rfl : j = 0 := by omega
      rw [if_pos rfl, h]; exact Int.le_refl _
    · rw [if_neg h0]
      by_cases h1 : j < k
      · have := ih h1; omega
      · obtain rfl : j = k := by omega
        rw [h]
        simp only [Option.getD_some]
        omega
/-- the places below k at which m stands -/
def atTo (xs : List Int) (m : Int) : Nat → List Int
  | 0 => []
  | k + 1 => atTo xs m k ++ (if xs[k]? = some m then [(k : Int)] else [])
theorem atTo_hit {xs : List Int} {m : Int} {k : Nat} (h : xs[k]? = some m) : atTo xs m (k + 1) = atTo xs m k ++ [(k : Int)] := by simp [atTo, h]
theorem atTo_miss {xs : List Int} {m x : Int} {k : Nat} (h : xs[k]? = some x) (hx : x ≠ m) : atTo xs m (k + 1) = atTo xs m k := by simp [atTo, h, hx]
theorem atTo_len (xs : List Int) (m : Int) : ∀ k, (atTo xs m k).length ≤ k := by
  intro k
  induction k with
  | zero => simp [atTo]
  | succ k ih => simp only [atTo, List.length_append]; split <;> simp <;> omega
theorem atTo_none {xs : List Int} {m : Int} : ∀ {k : Nat}, (∀ j x, j < k → xs[j]? = some x → x ≠ m) → atTo xs m k = [] := by
  intro k
  induction k with
  | zero => intro _; rfl
  | succ k ih =>
    intro h
    rw [atTo, ih fun j x hj => h j x (by omega), if_neg fun e => h k m (by omega) e rfl]; rfl
/-- the places of the least numbers among the first k -/
def least (xs : List Int) (k : Nat) : List Int := atTo xs (minTo xs k) k
theorem least_len (xs : List Int) (k : Nat) : (least xs k).length ≤ k := atTo_len _ _ _
theorem least_less {xs : List Int} {k : Nat} {x : Int} (h : xs[k]? = some x) (hk : 1 ≤ k) (hx : x < minTo xs k) : least xs (k + 1) = [(k : Int)] ∧ minTo xs (k + 1) = x := by
  have hm : minTo xs (k + 1) = x := by rw [minTo_step h hk rfl]; omega
  refine ⟨?_, hm⟩
  rw [least, hm, atTo_hit h, atTo_none fun j y hj hy e => ?_]
  · rfl
  · have := minTo_le hy k hj; omega
theorem least_same {xs : List Int} {k : Nat} {x : Int} (h : xs[k]? = some x) (hk : 1 ≤ k) (hx : x = minTo xs k) : least xs (k + 1) = least xs k ++ [(k : Int)] ∧ minTo xs (k + 1) = x := by
  have hm : minTo xs (k + 1) = x := by rw [minTo_step h hk rfl]; omega
  refine ⟨?_, hm⟩
  rw [least, hm, atTo_hit h, least, hx]
theorem least_more {xs : List Int} {k : Nat} {x : Int} (h : xs[k]? = some x) (hk : 1 ≤ k) (hx : minTo xs k < x) : least xs (k + 1) = least xs k ∧ minTo xs (k + 1) = minTo xs k := by
  have hm : minTo xs (k + 1) = minTo xs k := by rw [minTo_step h hk rfl]; omega
  refine ⟨?_, hm⟩
  rw [least, hm, atTo_miss h (by omega), least]
theorem least_one {xs : List Int} {x : Int} (h : xs[0]? = some x) : least xs 1 = [0] ∧ minTo xs 1 = x := by
  refine ⟨?_, minTo_one h⟩
  rw [least, minTo_one h, atTo_hit h]; rfl
/-- the first of the least places is one of them -/
theorem atTo_head {xs : List Int} {m : Int} : ∀ {k : Nat} {a : Int}, (atTo xs m k)[0]? = some a → ∃ j : Nat, a = (j : Int) ∧ j < k ∧ xs[j]? = some m := by
  intro k
  induction k with
  | zero => intro a h; simp [atTo] at h
  | succ k ih =>
    intro a h
    rw [atTo] at h
    by_cases hl : 0 < (atTo xs m k).length
    · rw [List.getElem?_append_left hl] at h
      obtain ⟨j, h1, h2, h3⟩ := ih h
      exact ⟨j, h1, by omega, h3⟩
    · have : atTo xs m k = [] := List.eq_nil_of_length_eq_zero (by omega)
      rw [this, List.nil_append] at h
      split at h
      · rename_i hx
        simp at h
        exact ⟨k, h.symm, by omega, hx⟩
      · simp at h
theorem least_pos {xs : List Int} : ∀ {k : Nat}, 1 ≤ k → k ≤ xs.length → 1 ≤ (least xs k).length := by
  intro k
  induction k with
  | zero => intro h; omega
  | succ k ih =>
    intro _ hk
    have hx : xs[k]? = some xs[k] := List.getElem?_eq_getElem (by omega)
    by_cases h0 : k = 0
    · subst h0; rw [(least_one hx).1]; simp
    · rcases Int.lt_trichotomy xs[k] (minTo xs k) with h | h | h
      · rw [(least_less hx (by omega) h).1]; simp
      · rw [(least_same hx (by omega) h).1]; simp
      · rw [(least_more hx (by omega) h).1]; exact ih (by omega) (by omega)

/-- the distances of a node -/
noncomputable def distRow (xs : List Int) (v : Nat) : List Int := rowOf xs.length fun w => (dist xs v w : Int)
theorem distRow_len (xs : List Int) (v : Nat) : (distRow xs v).length = xs.length := rowOf_len _ _
theorem distRow_at (xs : List Int) (v : Nat) {w : Nat} (h : w < xs.length) : (distRow xs v)[w]? = some (dist xs v w : Int) := rowOf_at _ h
noncomputable def reach (xs : List Int) (v : Nat) : Int := maxTo (distRow xs v) xs.length
noncomputable def reaches (xs : List Int) : List Int := rowOf xs.length (reach xs)
theorem reaches_len (xs : List Int) : (reaches xs).length = xs.length := rowOf_len _ _
/-- the reaches while they are made: those of the nodes below v are there, that of v over the first k nodes -/
noncomputable def reachRow (xs : List Int) (v k : Nat) : List Int := rowOf xs.length fun i => if i < v then reach xs i else if i = v then maxTo (distRow xs v) k else 0
theorem reachRow_len (xs : List Int) (v k : Nat) : (reachRow xs v k).length = xs.length := rowOf_len _ _
theorem reachRow_zero (xs : List Int) : reachRow xs 0 0 = List.replicate xs.length 0 := by
  rw [← rowOf_zero]
  refine rowOf_congr fun i hi => ?_
  rw [if_neg (by omega)]
  split <;> rfl
theorem reachRow_at (xs : List Int) {v : Nat} (k : Nat) (h : v < xs.length) : (reachRow xs v k)[v]? = some (maxTo (distRow xs v) k) := by
  rw [reachRow, rowOf_at _ h, if_neg (by omega), if_pos rfl]
theorem reachRow_step {xs : List Int} {v k : Nat} {x : Int} (h : maxTo (distRow xs v) (k + 1) = x) : (reachRow xs v k).set v x = reachRow xs v (k + 1) := by
  rw [reachRow, rowOf_set]
  refine rowOf_congr fun i hi => ?_
  by_cases h1 : i = v
  · subst h1; rw [if_pos rfl, if_neg (by omega), if_pos rfl, h]
  · rw [if_neg h1, if_neg h1, if_neg h1]
theorem reachRow_next {xs : List Int} {v : Nat} : reachRow xs v xs.length = reachRow xs (v + 1) 0 := by
  refine rowOf_congr fun i hi => ?_
  by_cases h1 : i < v
  · rw [if_pos h1, if_pos (by omega)]
  · by_cases h2 : i = v
    · subst h2; rw [if_neg (by omega), if_pos rfl, if_pos (by omega)]; rfl
    · rw [if_neg h1, if_neg h2, if_neg (by omega)]
      split <;> rfl
theorem reachRow_end {xs : List Int} {k : Nat} : reachRow xs xs.length k = reaches xs := by
  refine rowOf_congr fun i hi => ?_
  rw [if_pos hi]
theorem reach_le {xs : List Int} (ht : isTree xs = true) (hE : ∃ ps, ParsOK xs ps) {v : Nat} (hv : v < xs.length) (k : Nat) : 0 ≤ maxTo (distRow xs v) k ∧ maxTo (distRow xs v) k ≤ 46 := by
  refine ⟨maxTo_pos _ _, maxTo_le (by omega) (fun x hx => ?_) k⟩
  obtain ⟨i, hi⟩ := List.getElem?_of_mem hx
  have hl : i < xs.length := by have := (List.getElem?_eq_some_iff.1 hi).1; rwa [distRow_len] at this
  rw [distRow_at xs v hl] at hi
  injection hi with hi
  have := dist_le ht hE hv hl
  omega
/-- the sum of the distances of v to the first k nodes -/
noncomputable def sumRow (xs : List Int) (v : Nat) : Nat → Nat
  | 0 => 0
  | k + 1 => sumRow xs v k + dist xs v k
/-- the sum of the distances of all two nodes below v -/
noncomputable def sumTo (xs : List Int) : Nat → Nat
  | 0 => 0
  | v + 1 => sumTo xs v + sumRow xs v v
theorem sumRow_le {xs : List Int} (ht : isTree xs = true) (hE : ∃ ps, ParsOK xs ps) {v : Nat} (hv : v < xs.length) : ∀ {k : Nat}, k ≤ xs.length → sumRow xs v k ≤ 46 * k := by
  intro k
  induction k with
  | zero => intro _; simp [sumRow]
  | succ k ih => intro hk; have h1 := ih (by omega); have h2 := dist_le ht hE hv (w := k) (by omega); simp only [sumRow]; omega
theorem sumTo_le {xs : List Int} (ht : isTree xs = true) (hE : ∃ ps, ParsOK xs ps) : ∀ {v : Nat}, v ≤ xs.length → sumTo xs v ≤ 1104 * v := by
  have hl := (tree_len ht).2
  intro v
  induction v with
  | zero => intro _; simp [sumTo]
  | succ v ih => intro hv; have h1 := ih (by omega); have h2 := sumRow_le ht hE (v := v) (by omega) (k := v) (by omega); simp only [sumTo]; omega
end M
end Go.Proofs.Ytbdmmeoelagdcaa
