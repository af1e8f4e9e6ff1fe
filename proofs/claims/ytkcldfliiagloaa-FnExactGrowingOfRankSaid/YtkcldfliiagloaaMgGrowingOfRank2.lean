/- slices.Max over numbers of at least 0. -/

import Derived.Test.YtkcldfliiagloaaMgGrowingOfRank1
import Derived.Laws.CopyOwn
import Derived.Deep.RegionLaw
import Derived.Laws.AppendOwnNone
import Derived.Lib.AppendZeros
import Derived.RangeFuncRecord
import Derived.WalkSpells
import Derived.StillTailTactics
import Derived.Laws.Cover3
import Derived.Deep.MidRow
import Derived.Shelf.SortM.Plain
import Derived.Test.YtkcldfliiagloaaProg
import Derived.Sort.OwnSortedInts
namespace Go.Proofs.Ytkcldfliiagloaa
open Go.RowKit

namespace M
/-- the greatest of the first k numbers, and of 0 -/
def maxTo (xs : List Int) : Nat → Int
  | 0 => 0
  | k + 1 => if maxTo xs k ≤ xs[k]?.getD 0 then xs[k]?.getD 0 else maxTo xs k
theorem maxTo_hit {xs : List Int} {k : Nat} {x : Int} (h : xs[k]? = some x) (hx : maxTo xs k ≤ x) : maxTo xs (k + 1) = x := by simp [maxTo, h, hx]
theorem maxTo_miss {xs : List Int} {k : Nat} {x : Int} (h : xs[k]? = some x) (hx : x < maxTo xs k) : maxTo xs (k + 1) = maxTo xs k := by
  rw [maxTo, h, if_neg (by simp; omega)]
theorem maxTo_step {xs : List Int} {k : Nat} {x y : Int} (h : xs[k]? = some x) (hy : maxTo xs k = y) : maxTo xs (k + 1) = if y < x then x else y := by
  simp only [maxTo, h, Option.getD_some, hy]
  split <;> split <;> omega
theorem maxTo_pos (xs : List Int) : ∀ k, 0 ≤ maxTo xs k := by
  intro k
  induction k with
  | zero => exact Int.le_refl _
  | succ k ih => simp only [maxTo]; split <;> omega
theorem maxTo_le {xs : List Int} {b : Int} (hb : 0 ≤ b) (h : ∀ x ∈ xs, x ≤ b) : ∀ k, maxTo xs k ≤ b := by
  intro k
  induction k with
  | zero => exact hb
  | succ k ih =>
    simp only [maxTo]
    split
    · rcases hx : xs[k]? with _ | x
      · simpa using hb
      · simpa using h x (List.mem_of_getElem? hx)
    · exact ih
theorem maxTo_ge {xs : List Int} {j : Nat} {x : Int} (h : xs[j]? = some x) : ∀ k, j < k → x ≤ maxTo xs k := by
  intro k
  induction k with
  | zero => intro h; omega
  | succ k ih =>
    intro hj
    rcases Nat.lt_or_ge j k with h1 | h1
    · have := ih h1
      simp only [maxTo]
      split <;> omega
    · obtain rfl : j = k := by omega
      simp only [maxTo, h, Option.getD_some]
      split <;> omega
end M

set_option maxHeartbeats 1000000 in
theorem slicesMax (A : Option Addr) (xs : List Int) (c : Nat) (w : World) (hx : xs.length ≤ 1000000) (hpos : 0 < xs.length) (h0 : Hid (∀ x ∈ xs, 0 ≤ x)) (h : Ints w w.heap.size A xs) (r : Int) (hr : Hid (M.maxTo xs xs.length = r)) :
    Calls Try.prog 145 #[.slice A xs.length c] w fun e w' => e = .returned (.int .i64 r) ∧ w = w' := by
  obtain ⟨x0, hx0⟩ : ∃ x, xs[0]? = some x := ⟨_, List.getElem?_eq_getElem hpos⟩
  have hm1 : M.maxTo xs 1 = x0 := M.maxTo_hit hx0 (by simp only [M.maxTo]; exact h0.out x0 (List.mem_of_getElem? hx0))
  have Hm1 := Lib.hid hm1
  obtain ⟨b, off, rfl, hbB, hcells⟩ := h hpos
  have c0 : w.cell? ⟨b, off, none⟩ = some (.int .i64 x0) := by simpa using hcells 0 _ hx0
  have Hcells := Lib.hid hcells
  clear hcells hm1 hx0
  have hl1 : 1 ≤ xs.length := hpos
  have hd1 : ¬ (xs.length : Int) < 1 := by omega
  go_enter Try.func145, Try.ntmps145
  go_wp2
  go_loop [3, 4] (fun m i => ∃ (k : Nat) (y : Int), 1 ≤ k ∧ k ≤ xs.length ∧ i = .int .i64 k ∧ m = .int .i64 y ∧ Hid (M.maxTo xs k = y)) (fun _ i => xs.length - (intOf i).toNat)
  case atStart => exact ⟨1, x0, Nat.le_refl _, hl1, rfl, rfl, Hm1⟩
  case round =>
    obtain ⟨k, y, hk1, hk, rfl, rfl, hy⟩ := hrel
    clear c0
    by_cases hlt : k < xs.length
    · obtain ⟨x, hX⟩ : ∃ x, xs[k]? = some x := ⟨_, List.getElem?_eq_getElem hlt⟩
      have g := Hcells.out k _ hX
      have hs : Hid (M.maxTo xs (k + 1) = if y < x then x else y) := M.maxTo_step hX hy.out
      have hs2 : Hid (M.maxTo xs (k + 1) = max y x) := by
        show _ = _
        rw [hs.out]
        split <;> omega
      clear hX
      go_wp2
      all_goals
        go_round
        case rel => first | exact ⟨k + 1, _, by omega, by omega, by go_num, rfl, hs⟩ | exact ⟨k + 1, _, by omega, by omega, by go_num, rfl, hs2⟩
        case measure => simp [intOf]; omega
    · obtain rfl : k = xs.length := by omega
      have he : Hid (y = r) := hy.out.symm.trans hr.out
      go_wp2
      go_ret
      exact ⟨by rw [← he.out]; rfl, rfl⟩
end Go.Proofs.Ytkcldfliiagloaa

/- Least numbers of a list and their places; rows made by a function of places; reaches as greatest distances; sums of distances: the mathematics. No program is named here. -/
namespace Go.Proofs.Ytkcldfliiagloaa
namespace M
/-- a row by a function of places -/
def rowOf (n : Nat) (f : Nat → Int) : List Int := (List.range n).map f
theorem rowOf_len (n : Nat) (f : Nat → Int) : (rowOf n f).length = n := by simp [rowOf]
theorem rowOf_at {n i : Nat} (f : Nat → Int) (h : i < n) : (rowOf n f)[i]? = some (f i) := by simp [rowOf, h]
theorem rowOf_succ (n : Nat) (f : Nat → Int) : rowOf (n + 1) f = rowOf n f ++ [f n] := by simp [rowOf, List.range_succ]
theorem rowOf_congr {n : Nat} {f g : Nat → Int} (h : ∀ i, i < n → f i = g i) : rowOf n f = rowOf n g := by
  apply List.ext_getElem?
  intro i
  by_cases hi : i < n
  · rw [rowOf_at f hi, rowOf_at g hi, h i hi]
  · rw [List.getElem?_eq_none (by rw [rowOf_len]; omega), List.getElem?_eq_none (by rw [rowOf_len]; omega)]
theorem rowOf_set {n k : Nat} (f : Nat → Int) (x : Int) : (rowOf n f).set k x = rowOf n (fun i => if i = k then x else f i) := by
  apply List.ext_getElem?
  intro i
  by_cases hi : i < n
  · rw [rowOf_at _ hi]
    by_cases hk : k = i
    · subst hk; rw [List.getElem?_set_self (by rw [rowOf_len]; exact hi), if_pos rfl]
    · rw [List.getElem?_set_ne hk, rowOf_at f hi, if_neg (fun e => hk e.symm)]
  · rw [List.getElem?_eq_none (by rw [List.length_set, rowOf_len]; omega), List.getElem?_eq_none (by rw [rowOf_len]; omega)]
theorem rowOf_zero (n : Nat) : rowOf n (fun _ => 0) = List.replicate n 0 := by
  apply List.ext_getElem?
  intro i
  rw [List.getElem?_replicate]
  by_cases hi : i < n
  · rw [rowOf_at _ hi, if_pos hi]
  · rw [if_neg hi, List.getElem?_eq_none (by rw [rowOf_len]; omega)]
/-- the least of the first k numbers, for 1 or more of them -/
def minTo (xs : List Int) : Nat → Int
  | 0 => 0
  | k + 1 => if k = 0 then xs[0]?.getD 0 else min (minTo xs k) (xs[k]?.getD 0)
theorem minTo_one {xs : List Int} {x : Int} (h : xs[0]? = some x) : minTo xs 1 = x := by simp [minTo, h]
theorem minTo_step {xs : List Int} {k : Nat} {x y : Int} (h : xs[k]? = some x) (hk : 1 ≤ k) (hy : minTo xs k = y) : minTo xs (k + 1) = min y x := by
  rw [minTo, if_neg (by omega), h, hy]; rfl
theorem minTo_le {xs : List Int} {j : Nat} {x : Int} (h : xs[j]? = some x) : ∀ k, j < k → minTo xs k ≤ x := by
  intro k
  induction k with
  | zero => intro h; omega
  | succ k ih =>
    intro hj
    rw [minTo]
    by_cases h0 : k = 0
    · subst h0
      obtain rfl : j = 0 := by omega
      rw [if_pos rfl, h]; exact Int.le_refl _
    · rw [if_neg h0]
      by_cases h1 : j < k
      · have := ih h1; omega
      · obtain rfl : j = k := by omega
        rw [h]
        simp only [Option.getD_some]
        omega
/-- the places below k at which m stands -/
def atTo (xs : List Int) (m : Int) : Nat → List Int
  | 0 => []
  | k + 1 => atTo xs m k ++ (if xs[k]? = some m then [(k : Int)] else [])
theorem atTo_hit {xs : List Int} {m : Int} {k : Nat} (h : xs[k]? = some m) : atTo xs m (k + 1) = atTo xs m k ++ [(k : Int)] := by simp [atTo, h]
theorem atTo_miss {xs : List Int} {m x : Int} {k : Nat} (h : xs[k]? = some x) (hx : x ≠ m) : atTo xs m (k + 1) = atTo xs m k := by simp [atTo, h, hx]
theorem atTo_len (xs : List Int) (m : Int) : ∀ k, (atTo xs m k).length ≤ k := by
  intro k
  induction k with
  | zero => simp [atTo]
  | succ k ih => simp only [atTo, List.length_append]; split <;> simp <;> omega
theorem atTo_none {xs : List Int} {m : Int} : ∀ {k : Nat}, (∀ j x, j < k → xs[j]? = some x → x ≠ m) → atTo xs m k = [] := by
  intro k
  induction k with
  | zero => intro _; rfl
  | succ k ih =>
    intro h
    rw [atTo, ih fun j x hj => h j x (by omega), if_neg fun e => h k m (by omega) e rfl]; rfl
/-- the places of the least numbers among the first k -/
def least (xs : List Int) (k : Nat) : List Int := atTo xs (minTo xs k) k
theorem least_len (xs : List Int) (k : Nat) : (least xs k).length ≤ k := atTo_len _ _ _
theorem least_less {xs : List Int} {k : Nat} {x : Int} (h : xs[k]? = some x) (hk : 1 ≤ k) (hx : x < minTo xs k) : least xs (k + 1) = [(k : Int)] ∧ minTo xs (k + 1) = x := by
  have hm : minTo xs (k + 1) = x := by rw [minTo_step h hk rfl]; omega
  refine ⟨?_, hm⟩
  rw [least, hm, atTo_hit h, atTo_none fun j y hj hy e => ?_]
  · rfl
  · have := minTo_le hy k hj; omega
theorem least_same {xs : List Int} {k : Nat} {x : Int} (h : xs[k]? = some x) (hk : 1 ≤ k) (hx : x = minTo xs k) : least xs (k + 1) = least xs k ++ [(k : Int)] ∧ minTo xs (k + 1) = x := by
  have hm : minTo xs (k + 1) = x := by rw [minTo_step h hk rfl]; omega
  refine ⟨?_, hm⟩
  rw [least, hm, atTo_hit h, least, hx]
theorem least_more {xs : List Int} {k : Nat} {x : Int} (h : xs[k]? = some x) (hk : 1 ≤ k) (hx : minTo xs k < x) : least xs (k + 1) = least xs k ∧ minTo xs (k + 1) = minTo xs k := by
  have hm : minTo xs (k + 1) = minTo xs k := by rw [minTo_step h hk rfl]; omega
  refine ⟨?_, hm⟩
  rw [least, hm, atTo_miss h (by omega), least]
theorem least_one {xs : List Int} {x : Int} (h : xs[0]? = some x) : least xs 1 = [0] ∧ minTo xs 1 = x := by
  refine ⟨?_, minTo_one h⟩
  rw [least, minTo_one h, atTo_hit h]; rfl
/-- the first of the least places is one of them -/
theorem atTo_head {xs : List Int} {m : Int} : ∀ {k : Nat} {a : Int}, (atTo xs m k)[0]? = some a → ∃ j : Nat, a = (j : Int) ∧ j < k ∧ xs[j]? = some m := by
  intro k
  induction k with
  | zero => intro a h; simp [atTo] at h
  | succ k ih =>
    intro a h
    rw [atTo] at h
    by_cases hl : 0 < (atTo xs m k).length
    · rw [List.getElem?_append_left hl] at h
      obtain ⟨j, h1, h2, h3⟩ := ih h
      exact ⟨j, h1, by omega, h3⟩
    · have : atTo xs m k = [] := List.eq_nil_of_length_eq_zero (by omega)
      rw [this, List.nil_append] at h
      split at h
      · rename_i hx
        simp at h
        exact ⟨k, h.symm, by omega, hx⟩
      · simp at h
theorem least_pos {xs : List Int} : ∀ {k : Nat}, 1 ≤ k → k ≤ xs.length → 1 ≤ (least xs k).length := by
  intro k
  induction k with
  | zero => intro h; omega
  | succ k ih =>
    intro _ hk
    have hx : xs[k]? = some xs[k] := List.getElem?_eq_getElem (by omega)
    by_cases h0 : k = 0
    · subst h0; rw [(least_one hx).1]; simp
    · rcases Int.lt_trichotomy xs[k] (minTo xs k) with h | h | h
      · rw [(least_less hx (by omega) h).1]; simp
      · rw [(least_same hx (by omega) h).1]; simp
      · rw [(least_more hx (by omega) h).1]; exact ih (by omega) (by omega)

/-- the distances of a node -/
noncomputable def distRow (xs : List Int) (v : Nat) : List Int := rowOf xs.length fun w => (dist xs v w : Int)
theorem distRow_len (xs : List Int) (v : Nat) : (distRow xs v).length = xs.length := rowOf_len _ _
theorem distRow_at (xs : List Int) (v : Nat) {w : Nat} (h : w < xs.length) : (distRow xs v)[w]? = some (dist xs v w : Int) := rowOf_at _ h
noncomputable def reach (xs : List Int) (v : Nat) : Int := maxTo (distRow xs v) xs.length
noncomputable def reaches (xs : List Int) : List Int := rowOf xs.length (reach xs)
theorem reaches_len (xs : List Int) : (reaches xs).length = xs.length := rowOf_len _ _
/-- the reaches while they are made: those of the nodes below v are there, that of v over the first k nodes -/
noncomputable def reachRow (xs : List Int) (v k : Nat) : List Int := rowOf xs.length fun i => if i < v then reach xs i else if i = v then maxTo (distRow xs v) k else 0
theorem reachRow_len (xs : List Int) (v k : Nat) : (reachRow xs v k).length = xs.length := rowOf_len _ _
theorem reachRow_zero (xs : List Int) : reachRow xs 0 0 = List.replicate xs.length 0 := by
  rw [← rowOf_zero]
  refine rowOf_congr fun i hi => ?_
  rw [if_neg (by omega)]
  split <;> rfl
theorem reachRow_at (xs : List Int) {v : Nat} (k : Nat) (h : v < xs.length) : (reachRow xs v k)[v]? = some (maxTo (distRow xs v) k) := by
  rw [reachRow, rowOf_at _ h, if_neg (by omega), if_pos rfl]
theorem reachRow_step {xs : List Int} {v k : Nat} {x : Int} (h : maxTo (distRow xs v) (k + 1) = x) : (reachRow xs v k).set v x = reachRow xs v (k + 1) := by
  rw [reachRow, rowOf_set]
  refine rowOf_congr fun i hi => ?_
  by_cases h1 : i = v
  · subst h1; rw [if_pos rfl, if_neg (by omega), if_pos rfl, h]
  · rw [if_neg h1, if_neg h1, if_neg h1]
theorem reachRow_next {xs : List Int} {v : Nat} : reachRow xs v xs.length = reachRow xs (v + 1) 0 := by
  refine rowOf_congr fun i hi => ?_
  by_cases h1 : i < v
  · rw [if_pos h1, if_pos (by omega)]
  · by_cases h2 : i = v
    · subst h2; rw [if_neg (by omega), if_pos rfl, if_pos (by omega)]; rfl
    · rw [if_neg h1, if_neg h2, if_neg (by omega)]
      split <;> rfl
theorem reachRow_end {xs : List Int} {k : Nat} : reachRow xs xs.length k = reaches xs := by
  refine rowOf_congr fun i hi => ?_
  rw [if_pos hi]
theorem reach_le {xs : List Int} (ht : isTree xs = true) (hE : ∃ ps, ParsOK xs ps) {v : Nat} (hv : v < xs.length) (k : Nat) : 0 ≤ maxTo (distRow xs v) k ∧ maxTo (distRow xs v) k ≤ 46 := by
  refine ⟨maxTo_pos _ _, maxTo_le (by omega) (fun x hx => ?_) k⟩
  obtain ⟨i, hi⟩ := List.getElem?_of_mem hx
  have hl : i < xs.length := by have := (List.getElem?_eq_some_iff.1 hi).1; rwa [distRow_len] at this
  rw [distRow_at xs v hl] at hi
  injection hi with hi
  have := dist_le ht hE hv hl
  omega
/-- the sum of the distances of v to the first k nodes -/
noncomputable def sumRow (xs : List Int) (v : Nat) : Nat → Nat
  | 0 => 0
  | k + 1 => sumRow xs v k + dist xs v k
/-- the sum of the distances of all two nodes below v -/
noncomputable def sumTo (xs : List Int) : Nat → Nat
  | 0 => 0
  | v + 1 => sumTo xs v + sumRow xs v v
theorem sumRow_le {xs : List Int} (ht : isTree xs = true) (hE : ∃ ps, ParsOK xs ps) {v : Nat} (hv : v < xs.length) : ∀ {k : Nat}, k ≤ xs.length → sumRow xs v k ≤ 46 * k := by
  intro k
  induction k with
  | zero => intro _; simp [sumRow]
  | succ k ih => intro hk; have h1 := ih (by omega); have h2 := dist_le ht hE hv (w := k) (by omega); simp only [sumRow]; omega
theorem sumTo_le {xs : List Int} (ht : isTree xs = true) (hE : ∃ ps, ParsOK xs ps) : ∀ {v : Nat}, v ≤ xs.length → sumTo xs v ≤ 1104 * v := by
  have hl := (tree_len ht).2
  intro v
  induction v with
  | zero => intro _; simp [sumTo]
  | succ v ih => intro hv; have h1 := ih (by omega); have h2 := sumRow_le ht hE (v := v) (by omega) (k := v) (by omega); simp only [sumTo]; omega
end M
end Go.Proofs.Ytkcldfliiagloaa

/- Heavy children, heavy paths, light steps, intervals and ancestors: their mathematics. No program is named here. -/
namespace Go.Proofs.Ytkcldfliiagloaa
namespace M
/-- the heavy one among the first k children of a node, and its size -/
def hvTo (xs : List Int) (v : Nat) : Nat → Int × Int
  | 0 => (-1, 0)
  | k + 1 => if (hvTo xs v k).2 < (span 1 (xs.drop (kidAt xs v k)) : Int) then ((kidAt xs v k : Int), (span 1 (xs.drop (kidAt xs v k)) : Int)) else hvTo xs v k
theorem hvTo_hit {xs : List Int} {v k C S : Nat} {h s : Int} (hk : hvTo xs v k = (h, s)) (hC : kidAt xs v k = C) (hS : span 1 (xs.drop C) = S) (hlt : s < (S : Int)) : hvTo xs v (k + 1) = ((C : Int), (S : Int)) := by
  simp only [hvTo, hk, hC, hS]
  rw [if_pos hlt]
theorem hvTo_miss {xs : List Int} {v k C S : Nat} {h s : Int} (hk : hvTo xs v k = (h, s)) (hC : kidAt xs v k = C) (hS : span 1 (xs.drop C) = S) (hlt : ¬ s < (S : Int)) : hvTo xs v (k + 1) = (h, s) := by
  simp only [hvTo, hk, hC, hS]
  rw [if_neg hlt]
theorem hvTo_kid (xs : List Int) (v : Nat) : ∀ k, (k = 0 ∧ hvTo xs v k = (-1, 0)) ∨ (1 ≤ k ∧ ((hvTo xs v k).2 = 0 → (hvTo xs v k).1 = -1) ∧ 0 ≤ (hvTo xs v k).2 ∧ ((hvTo xs v k).1 = -1 ∨ ∃ i, i < k ∧ (hvTo xs v k).1 = (kidAt xs v i : Int))) := by
  intro k
  induction k with
  | zero => exact .inl ⟨rfl, rfl⟩
  | succ k ih =>
    refine .inr ⟨by omega, ?_⟩
    have h0 : ((hvTo xs v k).2 = 0 → (hvTo xs v k).1 = -1) ∧ 0 ≤ (hvTo xs v k).2 ∧ ((hvTo xs v k).1 = -1 ∨ ∃ i, i < k ∧ (hvTo xs v k).1 = (kidAt xs v i : Int)) := by
      rcases ih with ⟨rfl, h⟩ | h
      · rw [h]; exact ⟨fun _ => rfl, by decide, .inl rfl⟩
      · exact h.2
    rw [hvTo]
    split
    · rename_i hlt
      refine ⟨fun h => ?_, by omega, .inr ⟨k, by omega, rfl⟩⟩
      have := h0.2.1
      simp only at h
      omega
    · refine ⟨h0.1, h0.2.1, ?_⟩
      rcases h0.2.2 with h | ⟨i, hi, h⟩
      · exact .inl h
      · exact .inr ⟨i, by omega, h⟩
theorem hvTo_bounds {xs : List Int} (hx : xs.length ≤ 24) (v : Nat) : ∀ k, 0 ≤ (hvTo xs v k).2 ∧ (hvTo xs v k).2 ≤ 24 := by
  intro k
  induction k with
  | zero => simp [hvTo]
  | succ k ih =>
    rw [hvTo]
    split
    · have := span_le (xs.drop (kidAt xs v k)) 1
      simp only [List.length_drop] at this
      simp only
      omega
    · exact ih
/-- the heavy child of a node, -1 for a leaf -/
def hvAt (xs : List Int) (v : Nat) : Int := (hvTo xs v (xs[v]?.getD 0).toNat).1
theorem hvAt_eq {xs : List Int} {v d : Nat} (hd : xs[v]? = some (d : Int)) : hvAt xs v = (hvTo xs v d).1 := by simp [hvAt, hd]
theorem hvAt_kid {xs : List Int} (ht : isTree xs = true) {v : Nat} (hv : v < xs.length) : hvAt xs v = -1 ∨ ∃ c : Nat, hvAt xs v = (c : Int) ∧ IsKid xs v c := by
  obtain ⟨d, hd, _⟩ := tree_degN ht hv
  rw [hvAt_eq hd]
  rcases hvTo_kid xs v d with ⟨_, h⟩ | ⟨_, _, _, h | ⟨i, hi, h⟩⟩
  · rw [h]; exact .inl rfl
  · exact .inl h
  · exact .inr ⟨_, h, d, i, hd, hi, rfl⟩
theorem hvAt_lt {xs : List Int} (ht : isTree xs = true) {v : Nat} (hv : v < xs.length) : hvAt xs v = -1 ∨ ∃ c : Nat, hvAt xs v = (c : Int) ∧ v < c ∧ c < xs.length := by
  rcases hvAt_kid ht hv with h | ⟨c, h, hk⟩
  · exact .inl h
  · have := kid_bounds ht hk
    exact .inr ⟨c, h, this.1, this.2.2⟩
/-- the heavy children of all nodes -/
def heavy (xs : List Int) : List Int := rowOf xs.length (hvAt xs)
theorem heavy_len (xs : List Int) : (heavy xs).length = xs.length := rowOf_len _ _
theorem heavy_at (xs : List Int) {v : Nat} (h : v < xs.length) : (heavy xs)[v]? = some (hvAt xs v) := rowOf_at _ h
/-- is a node a heavy child -/
def isHeavy (xs : List Int) (v : Nat) : Bool := decide ((v : Int) ∈ heavy xs)
theorem isHeavy_mem (xs : List Int) (v : Nat) : decide ((v : Int) ∈ heavy xs) = isHeavy xs v := rfl
theorem isHeavy_root {xs : List Int} (ht : isTree xs = true) : isHeavy xs 0 = false := by
  refine decide_eq_false fun hm => ?_
  simp only [heavy, rowOf, List.mem_map, List.mem_range] at hm
  obtain ⟨p, hp, h⟩ := hm
  rcases hvAt_lt ht hp with h1 | ⟨c, h1, h2, _⟩ <;> omega
theorem isHeavy_par {xs ps : List Int} (ht : isTree xs = true) (hp : ParsOK xs ps) {v p : Nat} (hv : v < xs.length) (hq : ps[v]? = some (p : Int)) : isHeavy xs v = decide (hvAt xs p = (v : Int)) := by
  have h0 : 0 < v := by
    rcases Nat.eq_zero_or_pos v with h | h
    · subst h; rw [hp.2.1] at hq; injection hq with hq; omega
    · exact h
  obtain ⟨p', h1, h2, hk⟩ := par_has ht hp h0 hv
  rw [hq] at h1
  injection h1 with h1
  obtain rfl : p = p' := by omega
  simp only [isHeavy]
  rw [Bool.eq_iff_iff]
  simp only [decide_eq_true_eq]
  constructor
  · intro hm
    simp only [heavy, rowOf, List.mem_map, List.mem_range] at hm
    obtain ⟨q, hq1, h⟩ := hm
    rcases hvAt_kid ht hq1 with h3 | ⟨c, h3, hk3⟩
    · omega
    · obtain rfl : c = v := by omega
      have := kid_unique ht hk hk3
      subst this
      exact h
  · intro h
    rw [← h]
    exact List.mem_of_getElem? (heavy_at xs (show p < xs.length by omega))
/-- the heavy path from a node down -/
def hvDown (xs : List Int) : Nat → Nat → List Int
  | 0, _ => []
  | k + 1, v => (v : Int) :: (if 0 ≤ hvAt xs v then hvDown xs k (hvAt xs v).toNat else [])
theorem hvDown_fuel {xs : List Int} (ht : isTree xs = true) : ∀ {k k' v : Nat}, v < xs.length → xs.length ≤ v + k → xs.length ≤ v + k' → hvDown xs k v = hvDown xs k' v := by
  intro k
  induction k with
  | zero => intro k' v h h1; omega
  | succ k ih =>
    intro k' v h h1 h2
    cases k' with
    | zero => omega
    | succ k' =>
      simp only [hvDown]
      rcases hvAt_lt ht h with h3 | ⟨c, h3, h4, h5⟩
      · rw [h3]; rfl
      · rw [h3]
        simp only [Int.toNat_natCast]
        rw [ih h5 (by omega) (k' := k') (by omega)]
def hvPath (xs : List Int) (v : Nat) : List Int := hvDown xs xs.length v
theorem hvPath_end {xs : List Int} {v : Nat} (hv : v < xs.length) (h : hvAt xs v = -1) : hvPath xs v = [(v : Int)] := by
  obtain ⟨n, hn⟩ : ∃ n, xs.length = n + 1 := ⟨xs.length - 1, by omega⟩
  rw [hvPath, hn, hvDown, h]; rfl
theorem hvPath_step {xs : List Int} (ht : isTree xs = true) {v c : Nat} (hv : v < xs.length) (h : hvAt xs v = (c : Int)) : hvPath xs v = (v : Int) :: hvPath xs c := by
  rcases hvAt_lt ht hv with h3 | ⟨c', h3, h4, h5⟩
  · omega
  · obtain rfl : c = c' := by omega
    obtain ⟨n, hn⟩ : ∃ n, xs.length = n + 1 := ⟨xs.length - 1, by omega⟩
    rw [hvPath, hn, hvDown, h, if_pos (by omega), Int.toNat_natCast, hvPath, hvDown_fuel ht (k := n) (k' := xs.length) h5 (by omega) (by omega)]
theorem hvPath_len {xs : List Int} (ht : isTree xs = true) : ∀ (k : Nat) {v : Nat}, v < xs.length → xs.length ≤ v + k → (hvPath xs v).length + v ≤ xs.length := by
  intro k
  induction k with
  | zero => intro v h h1; omega
  | succ k ih =>
    intro v h h1
    rcases hvAt_lt ht h with h3 | ⟨c, h3, h4, h5⟩
    · rw [hvPath_end h h3]; simp; omega
    · rw [hvPath_step ht h h3]
      have := ih h5 (by omega)
      simp only [List.length_cons]
      omega
theorem hvPath_le {xs : List Int} (ht : isTree xs = true) {v : Nat} (hv : v < xs.length) : (hvPath xs v).length ≤ 24 := by
  have := hvPath_len ht xs.length hv (by omega)
  have := (tree_len ht).2
  omega
/-- the heavy paths from the tops among the first k nodes -/
def hvPaths (xs : List Int) : Nat → List (List Int)
  | 0 => []
  | k + 1 => if isHeavy xs k then hvPaths xs k else hvPaths xs k ++ [hvPath xs k]
theorem hvPaths_hit {xs : List Int} {k : Nat} (h : isHeavy xs k = true) : hvPaths xs (k + 1) = hvPaths xs k := by rw [hvPaths, if_pos h]
theorem hvPaths_miss {xs : List Int} {k : Nat} (h : isHeavy xs k = false) : hvPaths xs (k + 1) = hvPaths xs k ++ [hvPath xs k] := by rw [hvPaths, if_neg (by simp [h])]
theorem hvPaths_len (xs : List Int) : ∀ k, (hvPaths xs k).length ≤ k := by
  intro k
  induction k with
  | zero => simp [hvPaths]
  | succ k ih =>
    rw [hvPaths]
    split
    · omega
    · simp only [List.length_append, List.length_cons, List.length_nil]; omega
def heavyPaths (xs : List Int) : List (List Int) × Int := if isTree xs then (hvPaths xs xs.length, 0) else ([], 1)
theorem heavyPaths_yes {xs : List Int} (h : isTree xs = true) : heavyPaths xs = (hvPaths xs xs.length, 0) := by simp [heavyPaths, h]
theorem heavyPaths_no {xs : List Int} (h : isTree xs = false) : heavyPaths xs = ([], 1) := by simp [heavyPaths, h]
/-- how many of a list are not heavy -/
def lightIn (xs : List Int) : List Int → Int
  | [] => 0
  | v :: r => (if v ∈ heavy xs then 0 else 1) + lightIn xs r
theorem lightIn_append (xs l r : List Int) : lightIn xs (l ++ r) = lightIn xs l + lightIn xs r := by
  induction l with
  | nil => simp [lightIn]
  | cons v l ih => simp only [List.cons_append, lightIn, ih]; omega
theorem lightIn_reverse (xs l : List Int) : lightIn xs l.reverse = lightIn xs l := by
  induction l with
  | nil => rfl
  | cons v l ih => simp only [List.reverse_cons, lightIn_append, ih, lightIn]; omega
theorem lightIn_bounds (xs : List Int) : ∀ l, 0 ≤ lightIn xs l ∧ lightIn xs l ≤ l.length := by
  intro l
  induction l with
  | nil => simp [lightIn]
  | cons v l ih => simp only [lightIn, List.length_cons]; split <;> omega
theorem lightIn_take_hit {xs l : List Int} {k : Nat} {v : Int} (h : l[k]? = some v) (hv : v ∈ heavy xs) : lightIn xs (l.take (k + 1)) = lightIn xs (l.take k) := by
  obtain ⟨hk, rfl⟩ := List.getElem?_eq_some_iff.1 h
  rw [List.take_succ_eq_append_getElem hk, lightIn_append, lightIn, if_pos hv, lightIn]; omega
theorem lightIn_take_miss {xs l : List Int} {k : Nat} {v : Int} (h : l[k]? = some v) (hv : v ∉ heavy xs) : lightIn xs (l.take (k + 1)) = lightIn xs (l.take k) + 1 := by
  obtain ⟨hk, rfl⟩ := List.getElem?_eq_some_iff.1 h
  rw [List.take_succ_eq_append_getElem hk, lightIn_append, lightIn, if_neg hv, lightIn]; omega
theorem meet_root {xs : List Int} (v : Nat) : meet xs 0 v = 0 := by
  have := meetDown_le xs 0 v (min 0 v)
  rw [Nat.zero_min] at this
  simp only [meet, Nat.zero_min]; omega
theorem meet_root' {xs : List Int} (v : Nat) : meet xs v 0 = 0 := by
  have := meetDown_le xs v 0 (min v 0)
  rw [Nat.min_zero] at this
  simp only [meet, Nat.min_zero]; omega
theorem climb_top {xs ps : List Int} (ht : isTree xs = true) {v : Nat} (hv : v < xs.length) : Climb xs ps v 0 0 (upTo ps 0 v) :=
  ⟨by omega, bel_iff.2 ⟨Nat.zero_le _, by rw [fin_root ht]; exact hv⟩, Nat.le_refl _, by rw [upTo_end ps (Nat.le_refl 0), List.append_nil]⟩
theorem way_up {xs ps : List Int} (ht : isTree xs = true) (hp : ParsOK xs ps) {v : Nat} (hv : v < xs.length) : way xs v 0 = upTo ps 0 v ++ [0] := by
  have := way_mk ht hp (meet_root' v) (climb_top (ps := ps) ht hv) (climb_top (ps := ps) ht (v := 0) (by omega))
  rw [upTo_end ps (Nat.le_refl 0)] at this
  simpa using this.symm
theorem way_down {xs ps : List Int} (ht : isTree xs = true) (hp : ParsOK xs ps) {v : Nat} (hv : v < xs.length) : way xs 0 v = (0 : Int) :: (upTo ps 0 v).reverse := by
  have := way_mk ht hp (meet_root v) (climb_top (ps := ps) ht (v := 0) (by omega)) (climb_top (ps := ps) ht hv)
  rw [upTo_end ps (Nat.le_refl 0)] at this
  simpa using this.symm
/-- how many light nodes are on the way from the root, without the root -/
noncomputable def lights (xs : List Int) (v : Nat) : Int := lightIn xs ((way xs 0 v).drop 1)
theorem lights_up {xs ps : List Int} (ht : isTree xs = true) (hp : ParsOK xs ps) {v : Nat} (hv : v < xs.length) : lights xs v = lightIn xs (upTo ps 0 v) := by
  rw [lights, way_down ht hp hv]
  simp only [List.drop_succ_cons, List.drop_zero]
  exact lightIn_reverse _ _
theorem upTo_len {xs ps : List Int} (ht : isTree xs = true) (hp : ParsOK xs ps) {v : Nat} (hv : v < xs.length) : (upTo ps 0 v).length ≤ v :=
  climb_len ht hp hv (bel_iff.2 ⟨Nat.zero_le _, by rw [fin_root ht]; exact hv⟩)
theorem lightIn_root (xs ps : List Int) : lightIn xs (upTo ps 0 0) = 0 := by rw [upTo_end ps (Nat.le_refl 0)]; rfl
theorem lightIn_step {xs ps : List Int} (ht : isTree xs = true) (hp : ParsOK xs ps) {v p : Nat} (h0 : 0 < v) (hv : v < xs.length) (hq : ps[v]? = some (p : Int)) : lightIn xs (upTo ps 0 v) = (if isHeavy xs v then 0 else 1) + lightIn xs (upTo ps 0 p) := by
  rw [upTo_step ht hp h0 hv hq, lightIn]
  simp [isHeavy]
noncomputable def lightSteps (xs : List Int) (v : Int) : Int × Int := if code xs [v] = 0 then (lights xs v.toNat, 0) else (0, code xs [v])
theorem lightSteps_yes {xs : List Int} {v : Nat} (h : code xs [(v : Int)] = 0) : lightSteps xs v = (lights xs v, 0) := by simp [lightSteps, h]
theorem lightSteps_no {xs : List Int} {v : Int} (h : code xs [v] ≠ 0) : lightSteps xs v = (0, code xs [v]) := by simp [lightSteps, h]
/-- the nodes of the interval of a node, and a code -/
def intervalOf (xs : List Int) (v : Int) : Int × Int × Int := if code xs [v] = 0 then (v, v + (span 1 (xs.drop v.toNat) : Int) - 1, 0) else (0, 0, code xs [v])
theorem intervalOf_yes {xs : List Int} {v : Nat} (h : code xs [(v : Int)] = 0) : intervalOf xs v = ((v : Int), (v : Int) + (span 1 (xs.drop v) : Int) - 1, 0) := by simp [intervalOf, h]
theorem intervalOf_no {xs : List Int} {v : Int} (h : code xs [v] ≠ 0) : intervalOf xs v = (0, 0, code xs [v]) := by simp [intervalOf, h]
/-- the ancestor of k steps, and a code -/
noncomputable def ancestorOf (xs : List Int) (v k : Int) : Int × Int :=
  if code xs [v] = 0 then (if 0 ≤ k ∧ k ≤ 24 then (match (way xs v.toNat 0)[k.toNat]? with | none => (0, 4) | some a => (a, 0)) else (0, 2)) else (0, code xs [v])
theorem ancestorOf_no {xs : List Int} {v k : Int} (h : code xs [v] ≠ 0) : ancestorOf xs v k = (0, code xs [v]) := by simp [ancestorOf, h]
theorem ancestorOf_range {xs : List Int} {v k : Int} (h : code xs [v] = 0) (hk : ¬ (0 ≤ k ∧ k ≤ 24)) : ancestorOf xs v k = (0, 2) := by rw [ancestorOf, if_pos h, if_neg hk]
theorem ancestorOf_none {xs : List Int} {v k : Nat} (h : code xs [(v : Int)] = 0) (hk : k ≤ 24) (hw : (way xs v 0).length ≤ k) : ancestorOf xs v k = (0, 4) := by
  rw [ancestorOf, if_pos h, if_pos (by omega), Int.toNat_natCast, Int.toNat_natCast, List.getElem?_eq_none hw]
theorem ancestorOf_some {xs : List Int} {v k : Nat} {a : Int} (h : code xs [(v : Int)] = 0) (hk : k ≤ 24) (hw : (way xs v 0)[k]? = some a) : ancestorOf xs v k = (a, 0) := by
  rw [ancestorOf, if_pos h, if_pos (by omega), Int.toNat_natCast, Int.toNat_natCast, hw]
/-- the model's steps: behind j of k steps -/
def Anc (ps : List Int) (l : List Int) (j a : Nat) : Prop := l.drop j = upTo ps 0 a ++ [0]
theorem anc_at {ps l : List Int} {xs : List Int} (ht : isTree xs = true) (hp : ParsOK xs ps) {j a : Nat} (ha : a < xs.length) (h : Anc ps l j a) : l[j]? = some (a : Int) := by
  have e : l[j]? = (l.drop j)[0]? := by rw [List.getElem?_drop]; simp
  rw [e, h]
  rcases Nat.eq_zero_or_pos a with h0 | h0
  · subst h0; rw [upTo_end ps (Nat.le_refl 0)]; rfl
  · obtain ⟨p, h1, _, _⟩ := par_has ht hp h0 ha
    rw [upTo_step ht hp h0 ha h1]; rfl
theorem anc_step {xs ps l : List Int} (ht : isTree xs = true) (hp : ParsOK xs ps) {j a p : Nat} (h0 : 0 < a) (ha : a < xs.length) (hq : ps[a]? = some (p : Int)) (h : Anc ps l j a) : Anc ps l (j + 1) p := by
  have e : l.drop (j + 1) = (l.drop j).drop 1 := by rw [List.drop_drop]
  rw [Anc, e, h, upTo_step ht hp h0 ha hq]; rfl
theorem anc_root {ps l : List Int} {j : Nat} (h : Anc ps l j 0) : l.length ≤ j + 1 := by
  have := congrArg List.length h
  rw [upTo_end ps (Nat.le_refl 0)] at this
  simp only [List.length_drop, List.nil_append, List.length_cons, List.length_nil] at this
  omega
theorem anc_zero {xs ps : List Int} (ht : isTree xs = true) (hp : ParsOK xs ps) {v : Nat} (hv : v < xs.length) : Anc ps (way xs v 0) 0 v := by
  rw [Anc, List.drop_zero]; exact way_up ht hp hv
end M
end Go.Proofs.Ytkcldfliiagloaa

/- Nodes beside each other and the even drawing: their mathematics. No program is named here. -/
namespace Go.Proofs.Ytkcldfliiagloaa
namespace M
/-- the first place from k on, of m more places, that holds x; -1 if there is none -/
def nextOf (ds : List Int) (x : Int) : Nat → Nat → Int
  | _, 0 => -1
  | k, m + 1 => if ds[k]? = some x then (k : Int) else nextOf ds x (k + 1) m
theorem nextOf_hit {ds : List Int} {x : Int} {k m : Nat} (h : ds[k]? = some x) : nextOf ds x k (m + 1) = (k : Int) := by rw [nextOf, if_pos h]
theorem nextOf_miss {ds : List Int} {x y : Int} {k m : Nat} (h : ds[k]? = some y) (hne : y ≠ x) : nextOf ds x k (m + 1) = nextOf ds x (k + 1) m := by
  rw [nextOf, if_neg (by rw [h]; intro e; injection e with e; exact hne e)]
theorem nextOf_none {ds : List Int} {x : Int} : ∀ (m k : Nat), (∀ j y, k ≤ j → j < k + m → ds[j]? = some y → y ≠ x) → nextOf ds x k m = -1 := by
  intro m
  induction m with
  | zero => intro k _; rfl
  | succ m ih =>
    intro k h
    rw [nextOf, if_neg (fun e => h k x (Nat.le_refl _) (by omega) e rfl)]
    exact ih (k + 1) fun j y h1 h2 h3 => h j y (by omega) (by omega) h3
theorem nextOf_first {ds : List Int} {x : Int} : ∀ (m k j : Nat), k ≤ j → j < k + m → ds[j]? = some x → (∀ i y, k ≤ i → i < j → ds[i]? = some y → y ≠ x) → nextOf ds x k m = (j : Int) := by
  intro m
  induction m with
  | zero => intro k j h1 h2; omega
  | succ m ih =>
    intro k j h1 h2 h3 h4
    rcases Nat.lt_or_ge k j with hk | hk
    · rw [nextOf, if_neg (fun e => h4 k x (Nat.le_refl _) hk e rfl)]
      exact ih (k + 1) j (by omega) (by omega) h3 fun i y h5 h6 h7 => h4 i y (by omega) h6 h7
    · obtain rfl : k = j := by omega
      exact nextOf_hit h3
/-- the node beside v -/
def besideAt (ds : List Int) (v : Nat) : Int := nextOf ds (ds[v]?.getD 0) (v + 1) (ds.length - (v + 1))
theorem besideAt_eq {ds : List Int} {v n : Nat} {x : Int} (h : ds[v]? = some x) (hn : ds.length = n) : besideAt ds v = nextOf ds x (v + 1) (n - (v + 1)) := by simp [besideAt, h, hn]
/-- the model's loop, from the back: the next node found among those from k on -/
def BesTo (ds : List Int) (x : Int) (k : Nat) (r : Int) : Prop := r = nextOf ds x k (ds.length - k)
theorem besTo_end {ds : List Int} {x : Int} {n : Nat} (hn : ds.length = n) : BesTo ds x n (-1) := by subst hn; simp [BesTo, nextOf]
theorem besTo_hit {ds : List Int} {x : Int} {k : Nat} (h : ds[k]? = some x) : BesTo ds x k (k : Int) := by
  have hk := (List.getElem?_eq_some_iff.1 h).1
  obtain ⟨m, hm⟩ : ∃ m, ds.length - k = m + 1 := ⟨ds.length - k - 1, by omega⟩
  rw [BesTo, hm, nextOf_hit h]
theorem besTo_miss {ds : List Int} {x y r : Int} {k : Nat} (h : ds[k]? = some y) (hne : y ≠ x) (hr : BesTo ds x (k + 1) r) : BesTo ds x k r := by
  have hk := (List.getElem?_eq_some_iff.1 h).1
  obtain ⟨m, hm⟩ : ∃ m, ds.length - k = m + 1 := ⟨ds.length - k - 1, by omega⟩
  rw [BesTo] at hr ⊢
  rw [hm, nextOf_miss h hne, hr]
  congr 1; omega
/-- beside each other: all nodes -/
def besides (ds : List Int) : List Int := rowOf ds.length (besideAt ds)
theorem besides_len (ds : List Int) : (besides ds).length = ds.length := rowOf_len _ _

/-- the program's row of the nodes beside the first k nodes, 0 elsewhere -/
def besRow (ds : List Int) (k : Nat) : List Int := rowOf ds.length fun i => if i < k then besideAt ds i else 0
theorem besRow_len (ds : List Int) (k : Nat) : (besRow ds k).length = ds.length := rowOf_len _ _
theorem besRow_zero (ds : List Int) : besRow ds 0 = List.replicate ds.length 0 := by
  rw [← rowOf_zero]
  exact rowOf_congr fun i _ => if_neg (by omega)
theorem besRow_set {ds : List Int} {k : Nat} {y : Int} (hy : besideAt ds k = y) : (besRow ds k).set k y = besRow ds (k + 1) := by
  rw [besRow, rowOf_set]
  refine rowOf_congr fun i _ => ?_
  by_cases e : i = k
  · subst e; rw [if_pos rfl, if_pos (by omega), hy]
  · rw [if_neg e]
    by_cases h : i < k
    · rw [if_pos h, if_pos (by omega)]
    · rw [if_neg h, if_neg (by omega)]
theorem besRow_end (ds : List Int) : besRow ds ds.length = besides ds := rowOf_congr fun _ h => if_pos h
theorem besRow_at {ds : List Int} (k : Nat) {i : Nat} (h : i < ds.length) : ∃ y, (besRow ds k)[i]? = some y := ⟨_, rowOf_at _ h⟩
/-- the model's row -/
def besL (ds : List Int) (k : Nat) : List Int := rowOf k (besideAt ds)
theorem besL_succ {ds : List Int} {k : Nat} {y : Int} (hy : besideAt ds k = y) : besL ds (k + 1) = besL ds k ++ [y] := by rw [besL, rowOf_succ, hy]; rfl
theorem besL_len (ds : List Int) (k : Nat) : (besL ds k).length = k := rowOf_len _ _
theorem besL_end (ds : List Int) : besL ds ds.length = besides ds := rfl
/-- the place of the first x in a list, -1 if there is none -/
def idxOf (l : List Int) (x : Int) : Int := nextOf l x 0 l.length
theorem nextOf_range (ds : List Int) (x : Int) : ∀ (m k : Nat), nextOf ds x k m = -1 ∨ ((k : Int) ≤ nextOf ds x k m ∧ nextOf ds x k m < (k : Int) + m) := by
  intro m
  induction m with
  | zero => intro k; exact .inl rfl
  | succ m ih =>
    intro k
    rw [nextOf]
    split
    · right; omega
    · rcases ih (k + 1) with h | h
      · exact .inl h
      · right; omega
theorem nextOf_drop (ds : List Int) (x : Int) (b : Nat) : ∀ (m k : Nat), nextOf ds x (b + k) m = (if nextOf (ds.drop b) x k m = -1 then -1 else (b : Int) + nextOf (ds.drop b) x k m) := by
  intro m
  induction m with
  | zero => intro k; rfl
  | succ m ih =>
    intro k
    rw [nextOf, nextOf, List.getElem?_drop]
    split
    · rw [if_neg (by omega)]; omega
    · exact ih (k + 1)
theorem beside_idx {ds : List Int} {v n : Nat} {x : Int} (h : ds[v]? = some x) (hn : ds.length = n) : besideAt ds v = (if 0 ≤ idxOf (ds.drop (v + 1)) x then (v : Int) + 1 + idxOf (ds.drop (v + 1)) x else -1) := by
  have e := nextOf_drop ds x (v + 1) (n - (v + 1)) 0
  rw [Nat.add_zero] at e
  rw [besideAt_eq h hn, e]
  have e2 : idxOf (ds.drop (v + 1)) x = nextOf (ds.drop (v + 1)) x 0 (n - (v + 1)) := by rw [idxOf, List.length_drop, hn]
  rw [e2]
  rcases nextOf_range (ds.drop (v + 1)) x (n - (v + 1)) 0 with h1 | h1
  · rw [h1]; rfl
  · rw [if_neg (by omega), if_pos (by omega)]; omega
theorem idxOf_range (l : List Int) (x : Int) : -1 ≤ idxOf l x ∧ idxOf l x < (l.length : Int) + 1 := by
  rcases nextOf_range l x l.length 0 with h | h
  · rw [idxOf, h]; omega
  · rw [idxOf]; omega

/-- half of a number, downwards -/
def half (n : Int) : Int := n / 2
theorem half_neg {n : Int} (_ : n < 0) : -((1 - n) / 2) = half n := by simp only [half]; omega
theorem half_pos {n : Int} (_ : 0 ≤ n) : n / 2 = half n := rfl
theorem half_shift (n : Int) : n.shiftRight 1 = half n := by
  rw [half]
  exact Int.shiftRight_eq_div_pow n 1
theorem half_bounds {n a b : Int} (h1 : 2 * a ≤ n) (h2 : n ≤ 2 * b) : a ≤ half n ∧ half n ≤ b := by simp only [half]; omega

/-- the columns of the leaves among the first k nodes, 0 elsewhere, and the next column -/
def evL (xs : List Int) : Nat → Int
  | 0 => 0
  | k + 1 => evL xs k + (if xs[k]? = some 0 then 2 else 0)
def evLeafRow (xs : List Int) (k : Nat) : List Int := rowOf xs.length fun i => if i < k ∧ xs[i]? = some 0 then evL xs i else 0
theorem evL_bounds (xs : List Int) : ∀ k, 0 ≤ evL xs k ∧ evL xs k ≤ 2 * k := by
  intro k
  induction k with
  | zero => simp [evL]
  | succ k ih => rw [evL]; split <;> omega
theorem evLeaf_zero (xs : List Int) : evLeafRow xs 0 = List.replicate xs.length 0 := by
  rw [← rowOf_zero]
  exact rowOf_congr fun i _ => if_neg (by omega)
theorem evLeaf_len (xs : List Int) (k : Nat) : (evLeafRow xs k).length = xs.length := rowOf_len _ _
theorem evLeaf_hit {xs : List Int} {k : Nat} {y : Int} (h : xs[k]? = some 0) (hy : evL xs k = y) : (evLeafRow xs k).set k y = evLeafRow xs (k + 1) ∧ evL xs (k + 1) = y + 2 := by
  refine ⟨?_, by rw [evL, if_pos h, hy]⟩
  rw [evLeafRow, rowOf_set]
  refine rowOf_congr fun i hi => ?_
  by_cases e : i = k
  · subst e; rw [if_pos rfl, if_pos ⟨by omega, h⟩, hy]
  · rw [if_neg e]
    by_cases hk : i < k ∧ xs[i]? = some 0
    · rw [if_pos hk, if_pos ⟨by omega, hk.2⟩]
    · rw [if_neg hk, if_neg (fun h' => hk ⟨by omega, h'.2⟩)]
theorem evLeaf_miss {xs : List Int} {k : Nat} {x : Int} (h : xs[k]? = some x) (hx : x ≠ 0) : evLeafRow xs k = evLeafRow xs (k + 1) ∧ evL xs (k + 1) = evL xs k := by
  have hne : ¬ xs[k]? = some 0 := by rw [h]; intro e; injection e with e; exact hx e
  refine ⟨rowOf_congr fun i hi => ?_, by rw [evL, if_neg hne]; omega⟩
  by_cases hk : i < k ∧ xs[i]? = some 0
  · rw [if_pos hk, if_pos ⟨by omega, hk.2⟩]
  · rw [if_neg hk, if_neg]
    rintro ⟨h1, h2⟩
    have e : i ≠ k := fun e => by subst e; exact hne h2
    exact hk ⟨by omega, h2⟩
/-- the even drawing, from the last node back to the node k -/
def evRow (xs : List Int) : Nat → List Int
  | 0 => evLeafRow xs xs.length
  | m + 1 => let r := evRow xs m; let v := xs.length - (m + 1)
             match (xs[v]?.getD 0).toNat with
             | 0 => r
             | d + 1 => r.set v (half (r[kidAt xs v 0]?.getD 0 + r[kidAt xs v d]?.getD 0))
theorem evRow_len (xs : List Int) : ∀ m, (evRow xs m).length = xs.length := by
  intro m
  induction m with
  | zero => exact evLeaf_len _ _
  | succ m ih => simp only [evRow]; split <;> simp [ih]
theorem evRow_leaf {xs : List Int} {m v : Nat} (hv : xs.length = v + (m + 1)) (hd : xs[v]? = some 0) : evRow xs (m + 1) = evRow xs m := by
  have e : xs.length - (m + 1) = v := by omega
  simp [evRow, e, hd]
theorem evRow_node {xs : List Int} {m v d : Nat} {x y : Int} (hv : xs.length = v + (m + 1)) (hd : xs[v]? = some ((d + 1 : Nat) : Int)) (hx : (evRow xs m)[kidAt xs v 0]? = some x) (hy : (evRow xs m)[kidAt xs v d]? = some y) :
    evRow xs (m + 1) = (evRow xs m).set v (half (x + y)) := by
  have e : xs.length - (m + 1) = v := by omega
  simp only [evRow, e, hd, Option.getD_some, Int.toNat_natCast, hx, hy]
theorem evRow_bounds {xs : List Int} (hx : xs.length ≤ 24) : ∀ m, ∀ z ∈ evRow xs m, 0 ≤ z ∧ z ≤ 48 := by
  intro m
  induction m with
  | zero =>
    intro z hz
    simp only [evRow, evLeafRow, rowOf, List.mem_map, List.mem_range] at hz
    obtain ⟨i, hi, h⟩ := hz
    have := evL_bounds xs i
    split at h <;> omega
  | succ m ih =>
    intro z hz
    simp only [evRow] at hz
    split at hz
    · exact ih z hz
    · rename_i d _
      rcases List.mem_or_eq_of_mem_set hz with h | h
      · exact ih z h
      · have hg : ∀ j : Nat, 0 ≤ (evRow xs m)[j]?.getD 0 ∧ (evRow xs m)[j]?.getD 0 ≤ 48 := fun j => by
          cases e : (evRow xs m)[j]? with
          | none => simp
          | some y => exact ih y (List.mem_of_getElem? e)
        have h1 := hg (kidAt xs (xs.length - (m + 1)) 0)
        have h2 := hg (kidAt xs (xs.length - (m + 1)) d)
        subst h
        exact half_bounds (by omega) (by omega)
def evens (xs : List Int) : List Int := evRow xs xs.length
theorem evens_len (xs : List Int) : (evens xs).length = xs.length := evRow_len _ _
end M
end Go.Proofs.Ytkcldfliiagloaa

/- slices.Repeat of one number, 24 times. -/
namespace Go.Proofs.Ytkcldfliiagloaa
open Go.RowKit

namespace M
/-- n times x, then zeros up to 24 -/
def repRow (x : Int) (n : Nat) : List Int := List.replicate n x ++ List.replicate (24 - n) 0
theorem repRow_len {x : Int} {n : Nat} (h : n ≤ 24) : (repRow x n).length = 24 := by simp [repRow]; omega
theorem repRow_end (x : Int) : repRow x 24 = List.replicate 24 x := by simp [repRow]
end M
def repVals (x : Int) (n : Nat) : List Value := (M.repRow x n).map (Value.int .i64)
theorem repVals_len {x : Int} {n : Nat} (h : n ≤ 24) : (repVals x n).length = 24 := by rw [repVals, List.length_map, M.repRow_len h]
theorem rep_splice (x : Int) {n m : Nat} (h : n + m ≤ 24) : splice (repVals x n) n (List.replicate m (Value.int .i64 x)) = repVals x (n + m) := by
  have e : List.replicate (24 - n) (0 : Int) = List.replicate m 0 ++ List.replicate (24 - (n + m)) 0 := by rw [List.replicate_append_replicate]; congr 1; omega
  simp only [splice, repVals, M.repRow, List.map_append, List.map_replicate, List.length_replicate]
  rw [List.take_left' (by simp), ← List.append_assoc, List.replicate_append_replicate]
  congr 1
  rw [List.drop_append, List.drop_of_length_le (by simp), List.nil_append]
  simp only [List.length_replicate, List.drop_replicate]
  congr 1; omega

set_option maxHeartbeats 1000000 in
theorem bitsMul (w : World) : Calls Try.prog 207 #[.int .u64 1, .int .u64 24] w fun e w' => e = .returned (.tuple #[.int .u64 0, .int .u64 24]) ∧ w' = w := by
  have h1 : bits BinOp.and IntKind.u64 1 4294967295 = 1 := by kernel_rfl
  have h2 : bits BinOp.and IntKind.u64 24 4294967295 = 24 := by kernel_rfl
  have h3 : bits BinOp.and IntKind.u64 0 4294967295 = 0 := by kernel_rfl
  have h4 : IntKind.u64.wrap 24 = 24 := by kernel_rfl
  have h5 : IntKind.u64.wrap 0 = 0 := by kernel_rfl
  go_enter Try.func207, Try.ntmps207
  go_wp2
  go_ret2
  exact ⟨rfl, rfl⟩

theorem addr_add (g o j : Nat) : (⟨g, o, none⟩ : Addr).add j = ⟨g, o + j, none⟩ := by unfold Addr.add; split <;> simp_all

set_option maxRecDepth 100000 in
/-- a copy of m numbers x behind the first n ones -/
theorem copyRep (x : Int) {w0 W : World} {B g n m dL dC sL sC : Nat} {b o : Nat} (hrow : W.heap[g]? = some (.cells (repVals x n).toArray 2 (0, 0))) (hnm : n + m ≤ 24) (hm : m = Nat.min sL dL) (hsrc : ∀ j, j < m → W.cell? ⟨b, o + j, none⟩ = some (.int .i64 x)) (hb : Below B w0 W) (hB : B ≤ g) :
    ∃ w5, (Builtin.copy_ #[22, 22] 3 #[.slice (some ⟨g, n, none⟩) dL dC, .slice (some ⟨b, o, none⟩) sL sC]).run Try.prog W = .ok (goInt m) w5 ∧ Hid (w5.heap[g]? = some (.cells (repVals x (n + m)).toArray 2 (0, 0))) ∧ Hid (Below B w0 w5) := by
  have h := run_copy_row (P := Try.prog) W 22 22 3 2 g n dL dC ⟨b, o, none⟩ sL sC (repVals x n).toArray 2 (List.replicate m (Value.int .i64 x)) Try.underlying22 rfl hrow (by simpa using hm) (fun j v hv => by
    obtain ⟨h1, h2⟩ := List.getElem?_eq_some_iff.1 hv
    rw [List.getElem_replicate] at h2
    subst h2
    rw [addr_add]
    exact hsrc j (by simpa using h1)) (by rw [List.size_toArray, repVals_len (by omega), List.length_replicate]; exact hnm) (fun v hv => by have := List.eq_of_mem_replicate hv; subst this; rfl)
  rw [List.length_replicate] at h
  refine ⟨_, h, ?_, below_setRow hb hB _⟩
  have h2 := setRow_heap W g _ ((repVals x n).toArray.toList.take n ++ List.replicate m (Value.int .i64 x) ++ (repVals x n).toArray.toList.drop (n + m)).toArray 2 _ hrow
  show _ = _
  rw [h2]
  have h3 := rep_splice x hnm
  simp only [splice, List.length_replicate] at h3
  rw [← h3]
  simp

theorem repCell {x : Int} {W : World} {g n j : Nat} (hrow : W.heap[g]? = some (.cells (repVals x n).toArray 2 (0, 0))) (hj : j < n) : W.cell? ⟨g, j, none⟩ = some (.int .i64 x) := by
  simp only [World.cell?, hrow]
  simp [repVals, M.repRow]
  rw [List.getElem?_append_left (by simpa using hj), List.getElem?_replicate, if_pos hj]

set_option maxHeartbeats 4000000 in
set_option maxRecDepth 100000 in
theorem repeat24 (s : Nat) (x : Int) (w : World) (hs : w.cell? ⟨s, 0, none⟩ = some (.int .i64 x)) :
    Calls Try.prog 173 #[.slice (some ⟨s, 0, none⟩) 1 1, .int .i64 24] w fun e w' => e = .returned (.slice (some ⟨w.heap.size, 0, none⟩) 24 24) ∧ Hid (w'.heap[w.heap.size]? = some (.cells (repVals x 24).toArray 2 (0, 0))) ∧ Hid (Below w.heap.size w w') := by
  have hmk : ∀ w : World, Sem.run Try.prog (Instr.makeSlice 22 (.int .i64 24) (.int .i64 24)) w = .ok (.slice (some ⟨w.heap.size, 0, none⟩) 24 24) (w.alloc (.cells (madeCells #[.int .i64 0] 24) 2)) := run_make_row' (P := Try.prog) 22 2 (.int .i64 0) 8 Try.underlying22 info64 rfl .i64 .i64 24 (by omega) (by omega)
  have hrow : (w.alloc (.cells (madeCells #[.int .i64 0] 24) 2)).heap[w.heap.size]? = some (.cells (repVals x 0).toArray 2 (0, 0)) := by
    have e : madeCells #[Value.int .i64 0] 24 = (repVals x 0).toArray := Array.ext' (by rw [toList_madeCells_one]; simp [repVals, M.repRow])
    rw [World.alloc_heap_new, e]
  have hcs : (w.alloc (.cells (madeCells #[.int .i64 0] 24) 2)).cell? ⟨s, 0, none⟩ = some (.int .i64 x) := cell_al hs _
  have hcs0 : ∀ j, j < 1 → (w.alloc (.cells (madeCells #[.int .i64 0] 24) 2)).cell? ⟨s, 0 + j, none⟩ = some (.int .i64 x) := fun j hj => by
    obtain rfl : j = 0 := by omega
    exact hcs
  obtain ⟨w5, hrun1, hr5, hb5⟩ := copyRep x (n := 0) (m := 1) (dL := 24) (dC := 24) (sL := 1) (sC := 1) (b := s) (o := 0) hrow (by omega) rfl hcs0 (bal (b0 w) _) (Nat.le_refl _)
  clear hrow hcs hs hcs0
  go_enter Try.func173, Try.ntmps173
  go_wp2_with (go_at_call 207; refine (bitsMul _).mono ?_; rintro e w' ⟨rfl, hw⟩; have hw' := hw.symm; subst hw')
  clear hrun1 hmk
  go_loopw [8] (fun q wr => ∃ n : Nat, 1 ≤ n ∧ n ≤ 24 ∧ q = .int .i64 (n : Int) ∧ Hid (wr.heap[w.heap.size]? = some (.cells (repVals x n).toArray 2 (0, 0))) ∧ Hid (Below w.heap.size w wr)) (fun q _ => 24 - (intOf q).toNat)
  case atStart => exact ⟨1, by omega, by omega, rfl, hr5, hb5⟩
  case round =>
    obtain ⟨n, hn1, hn2, rfl, hr, hb⟩ := hrel
    clear hr5 hb5
    by_cases hlt : n < 24
    · have hni : (n : Int) < 24 := by omega
      have hn0 : (0 : Int) ≤ (n : Int) := by omega
      have hne : ¬ 24 = n := by omega
      obtain ⟨m, hm⟩ : ∃ m, m = Nat.min n (24 - n) := ⟨_, rfl⟩
      have hm1 : 1 ≤ m ∧ n + m ≤ 24 := by rw [hm]; simp only [Nat.min_def]; split <;> omega
      obtain ⟨w6, hrun, hr6, hb6⟩ := copyRep x (W := wr.drew) (n := n) (m := m) (dL := 24 - n) (dC := 24 - n) (sL := n) (sC := 24) (b := w.heap.size) (o := 0) hr.out (by omega) hm (fun j hj => by rw [Nat.zero_add]; exact repCell hr.out (by rw [hm] at hj; have h9 : Nat.min n (24 - n) ≤ n := Nat.min_le_left _ _; omega)) hb.out.drew (Nat.le_refl _)
      have Hm := Lib.hid hm
      have hw1 : IntKind.i64.wrap ((n : Int) + (m : Int)) = ((n + m : Nat) : Int) := by rw [show (n : Int) + (m : Int) = ((n + m : Nat) : Int) by omega]; exact IntWalk.i64_in _ (by omega)
      clear hm hr hb
      go_wp2
      go_region
      all_goals
        go_roundw
        case rel => refine ⟨_, _, _, _, _, _, _, _, _, _, _, _, _, _, ⟨n + m, by omega, by omega, ?_, hr6, hb6⟩, rfl⟩; go_num
        case measure => simp [intOf]; omega
    · obtain rfl : n = 24 := by omega
      go_wp2
      go_ret
      exact ⟨rfl, hr, hb⟩
end Go.Proofs.Ytkcldfliiagloaa

/- append of a whole slice to a row of the call's own. -/
namespace Go.Proofs.Ytkcldfliiagloaa
open Go.RowKit

set_option maxRecDepth 100000 in
theorem appendInts {ops : Array Oper} {rest : List Oper} {o : Oper} {a : Act} {Q : Exit → Act → World → Prop} (hgd : o.guard = none) (s x : Operand)
    (ho : o.op = .call { callee := .builtin .append, args := #[s, x], argTypes := #[22, 22] }) (w : World) (B : Nat) (A : Option Addr) (n c : Nat) (zs : List Int) (A2 : Option Addr) (m c2 : Nat) (ys : List Int)
    (hs : a.eval s = .slice A n c) (hx : a.eval x = .slice A2 m c2) (hown : Hid (Own64 w B (.slice A n c) zs)) (hsrc : Hid (Ints w w.heap.size A2 ys)) (hm : Hid (ys.length = m)) (hz : Hid (A2 = none → c2 = 0)) (hB : B ≤ w.heap.size) (hlen : n ≤ 1000000) (hlen2 : m ≤ 1000000)
    (h : ∀ A' c' w', Hid (Own64 w' B (.slice A' (n + m) c') (zs ++ ys)) → Hid (Below B w w') → wpList Try.prog ops Q rest (a.put o.dst (.slice A' (n + m) c')) w') :
    wpList Try.prog ops Q (o :: rest) a w := by
  obtain ⟨i0, hi0, hz0, hz1, hz2⟩ := info_parts info64
  have hown := hown.out
  have hn := own64_len hown
  subst hn
  have hm := hm.out
  subst hm
  rcases A2 with _ | ad
  · have hy : ys = [] := by
      rcases Nat.eq_zero_or_pos ys.length with h0 | h0
      · exact List.eq_nil_of_length_eq_zero h0
      · obtain ⟨_, _, e, _⟩ := hsrc.out h0
        cases e
    subst hy
    have hc2 := hz.out rfl
    subst hc2
    refine wpList_append_own_none hgd s x 22 ho B 2 i0 1 Try.underlying22 hi0 _ zs.length (zs.map (Value.int .i64)) hs hown hx ?_
    have := h A c w (by simpa using Lib.hid hown) (Below.refl _ _)
    simpa using this
  · refine wpList_append_own _ hgd s x 22 ho B 2 i0 (.int .i64 0) 1 8 Try.underlying22 hi0 hz0 hz1 hz2 rfl (by decide) _ zs.length (zs.map (Value.int .i64)) hs hown ad ys.length c2 (ys.map (Value.int .i64)) hx (by simp) ?_ ?_ ?_ ?_ hB ?_
    · intro j u hj
      rw [List.getElem?_map] at hj
      obtain ⟨y, hy, rfl⟩ := Option.map_eq_some_iff.1 hj
      obtain ⟨b, off, e, _, hc⟩ := hsrc.out (by have := (List.getElem?_eq_some_iff.1 hy).1; omega)
      injection e with e
      subst e
      have ha : (⟨b, off, none⟩ : Addr).add j = ⟨b, off + j, none⟩ := by unfold Addr.add; split <;> simp_all
      rw [ha]
      exact hc j y hy
    · intro u hu
      obtain ⟨y, _, rfl⟩ := List.mem_map.1 hu
      rfl
    · unfold maxLen; omega
    · omega
    · intro v' w1 hown1 hg1 _
      obtain ⟨A', c', rfl⟩ : ∃ A' c', v' = .slice A' (zs.length + ys.length) c' := own_shape hown1
      refine h A' c' w1 ?_ ?_
      · show Own64 _ _ _ _
        unfold Own64
        rw [List.length_append, List.map_append]
        exact hown1
      · exact (Below.refl B w).grown hg1 hB (fun k hk => (hown.lt k hk).1)

theorem own64_z {w : World} {B n c : Nat} {A : Option Addr} {zs : List Int} (h : Own64 w B (.slice A n c) zs) : A = none → c = 0 := by
  intro e
  subst e
  rcases h.2 with ⟨h1, _⟩ | ⟨g, cap, cur, hv, _⟩
  · injection h1
  · cases hv

set_option maxRecDepth 100000 in
/-- the same at a step of a region that draws its order -/
theorem stepInts {ops : Array Oper} {o : Oper} {a : Act} {K : Act → World → Prop} {Q : Exit → Act → World → Prop} {E : Prop} (hgd : o.guard = none) (s x : Operand)
    (ho : o.op = .call { callee := .builtin .append, args := #[s, x], argTypes := #[22, 22] }) (w : World) (B : Nat) (A : Option Addr) (n c : Nat) (zs : List Int) (A2 : Option Addr) (m c2 : Nat) (ys : List Int)
    (hs : a.eval s = .slice A n c) (hx : a.eval x = .slice A2 m c2) (hown : Hid (Own64 w B (.slice A n c) zs)) (hsrc : Hid (Ints w w.heap.size A2 ys)) (hm : Hid (ys.length = m)) (hz : Hid (A2 = none → c2 = 0)) (hB : B ≤ w.heap.size) (hlen : n ≤ 1000000) (hlen2 : m ≤ 1000000)
    (h : ∀ A' c' w', Hid (Own64 w' B (.slice A' (n + m) c') (zs ++ ys)) → Hid (Below B w w') → K (a.put o.dst (.slice A' (n + m) c')) w') :
    if Region.wanted o (yielded ops a.tmps) = true then Oper.wp Try.prog o a w K Q else E := by
  have hw : Region.wanted o (yielded ops a.tmps) = true := by simp [Region.wanted, hgd]
  rw [if_pos hw]
  obtain ⟨i0, hi0, hz0, hz1, hz2⟩ := info_parts info64
  have hown := hown.out
  have hn := own64_len hown
  subst hn
  have hm := hm.out
  subst hm
  rcases A2 with _ | ad
  · have hy : ys = [] := by
      rcases Nat.eq_zero_or_pos ys.length with h0 | h0
      · exact List.eq_nil_of_length_eq_zero h0
      · obtain ⟨_, _, e, _⟩ := hsrc.out h0
        cases e
    subst hy
    have hc2 := hz.out rfl
    subst hc2
    have hrun := run_append_owned_none (P := Try.prog) (w := w) B 22 o.type 2 i0 1 Try.underlying22 hi0 _ zs.length (zs.map (Value.int .i64)) hown
    have := h A c w (by simpa using Lib.hid hown) (Below.refl _ _)
    simp only [List.length_nil] at hx
    unfold Oper.wp execOp
    simp only [ho, resolve, invoke, builtin, Sem.run_bind, Sem.run_pure, Result.andThen_ok, List.map_toArray, List.map_cons, List.map_nil, hs, hx, hrun]
    exact this
  · obtain ⟨v', w1, hr, hown1, hg1, _⟩ := run_append_own (P := Try.prog) (w := w) B 22 o.type 2 i0 (.int .i64 0) 1 8 Try.underlying22 hi0 hz0 hz1 hz2 rfl (by decide) _ zs.length (zs.map (Value.int .i64)) hown ad ys.length c2 (ys.map (Value.int .i64)) (by simp)
      (by
        intro j u hj
        rw [List.getElem?_map] at hj
        obtain ⟨y, hy, rfl⟩ := Option.map_eq_some_iff.1 hj
        obtain ⟨b, off, e, _, hc⟩ := hsrc.out (by have := (List.getElem?_eq_some_iff.1 hy).1; omega)
        injection e with e
        subst e
        have ha : (⟨b, off, none⟩ : Addr).add j = ⟨b, off + j, none⟩ := by unfold Addr.add; split <;> simp_all
        rw [ha]
        exact hc j y hy)
      (by
        intro u hu
        obtain ⟨y, _, rfl⟩ := List.mem_map.1 hu
        rfl) (by unfold maxLen; omega) (by omega) hB
    obtain ⟨A', c', rfl⟩ : ∃ A' c', v' = .slice A' (zs.length + ys.length) c' := own_shape hown1
    have := h A' c' w1 (by
        show Own64 _ _ _ _
        unfold Own64
        rw [List.length_append, List.map_append]
        exact hown1) ((Below.refl B w).grown hg1 hB (fun k hk => (hown.lt k hk).1))
    unfold Oper.wp execOp
    simp only [ho, resolve, invoke, builtin, Sem.run_bind, Sem.run_pure, Result.andThen_ok, List.map_toArray, List.map_cons, List.map_nil, hs, hx, hr]
    exact this
end Go.Proofs.Ytkcldfliiagloaa

/- slices.Grow of nil and slices.Concat: the parts one after the other, in a row of its own. -/
namespace Go.Proofs.Ytkcldfliiagloaa
open Go.RowKit

namespace M
def catTo (X : Nat → List Int) : Nat → List Int
  | 0 => []
  | k + 1 => catTo X k ++ X k
theorem catTo_len (X : Nat → List Int) {k : Nat} (h : ∀ j, j < k → (X j).length ≤ 24) : (catTo X k).length ≤ 24 * k := by
  induction k with
  | zero => simp [catTo]
  | succ k ih =>
    have := ih fun j hj => h j (by omega)
    have := h k (by omega)
    simp only [catTo, List.length_append]
    omega
end M

set_option maxHeartbeats 1000000 in
set_option maxRecDepth 100000 in
theorem growNil (n : Nat) (w : World) (hn1 : 1 ≤ n) (hn : n ≤ 1000) :
    Calls Try.prog 224 #[.slice none 0 0, .int .i64 (n : Int)] w fun e w' => ∃ A' c', e = .returned (.slice A' 0 c') ∧ Own64 w' w.heap.size (.slice A' 0 c') [] ∧ Below w.heap.size w w' := by
  obtain ⟨i0, hi0, hz0, hz1, hz2⟩ := info_parts info64
  have hr : ∀ ty, _ := fun ty => Lib.run_append_nil_zeros (P := Try.prog) w 22 3 ty 2 i0 (.int .i64 0) .i64 .i64 Try.underlying22 Try.underlying3 hi0 hz0 n (by omega) (by omega) (by omega) (by rw [hz2]; omega)
  have hG : n ≤ grownCap w n 0 2 := grownCap_ge w _ _ _
  have hG2 : grownCap w n 0 2 ≤ maxLen := grownCap_le_maxLen w n 0 2 (by unfold maxLen; omega)
  generalize grownCap w n 0 2 = G at *
  have hG3 : G ≤ 9223372036854775807 := by unfold maxLen at hG2; omega
  have ho : Hid (Own64 (w.drew.alloc (.cells (Builtin.zeroCells (Value.int .i64 0).cells n ++ Builtin.zeroCells (Value.int .i64 0).cells (G - n)) 2)) w.heap.size (.slice (some ⟨w.heap.size, 0, none⟩) 0 G) []) := by
    refine ⟨by simp, .inr ⟨w.heap.size, G, _, by simp, Nat.le_refl _, World.alloc_heap_new w.drew _, by simp, hG2, ?_, by simp⟩⟩
    simp [Builtin.zeroCells, Value.cells]
    omega
  have hb : Hid (Below w.heap.size w (w.drew.alloc (.cells (Builtin.zeroCells (Value.int .i64 0).cells n ++ Builtin.zeroCells (Value.int .i64 0).cells (G - n)) 2))) := (Below.refl _ _).drew.alloc (Nat.le_refl _) _
  go_enter Try.func224, Try.ntmps224
  go_wp2_with (at_builtin; refine Lib.wpList_append_run _ rfl _ _ _ _ rfl _ _ rfl rfl _ _ (hr _) ?_)
  go_ret
  exact ⟨_, _, rfl, ho.out, hb.out⟩

/-- block g holds k slices: slice j reads X j -/
def Parts (w : World) (g k : Nat) (X : Nat → List Int) : Prop := ∀ j, j < k → ∃ A c, w.cell? ⟨g, j, none⟩ = some (.slice A (X j).length c) ∧ Ints w w.heap.size A (X j) ∧ (A = none → c = 0)
theorem Parts.be {w w' : World} {g k : Nat} {X : Nat → List Int} (h : Parts w g k X) (hg : g < w.heap.size) (hb : Below w.heap.size w w') : Parts w' g k X := fun j hj => by
  obtain ⟨A, c, h1, h2, h3⟩ := h j hj
  exact ⟨A, c, (hb.cell (p := ⟨g, j, none⟩) hg).trans h1, h2.be hb, h3⟩

set_option maxHeartbeats 2000000 in
set_option maxRecDepth 100000 in
theorem concat (g k : Nat) (X : Nat → List Int) (w : World) (hk : k ≤ 3) (hX : Hid (∀ j, j < k → (X j).length ≤ 24)) (hg : g < w.heap.size) (hP : Hid (Parts w g k X)) :
    Calls Try.prog 169 #[.slice (some ⟨g, 0, none⟩) k k] w fun e w' => ∃ A' c' n, e = .returned (.slice A' n c') ∧ Own64 w' w.heap.size (.slice A' n c') (M.catTo X k) ∧ Below w.heap.size w w' := by
  go_enter Try.func169, Try.ntmps169
  go_wp2
  go_loop [3, 5, 11] (fun s3 _ i => ∃ (j y : Nat), j ≤ k ∧ i = .int .i64 (j : Int) ∧ s3 = .int .i64 (y : Int) ∧ Hid ((M.catTo X j).length = y)) (fun _ _ i => k - (intOf i).toNat)
  case atStart => exact ⟨0, 0, Nat.zero_le _, rfl, rfl, rfl⟩
  case round =>
    obtain ⟨j, y, hj, rfl, rfl, hy⟩ := hrel
    have hyl := M.catTo_len X (k := j) fun i hi => hX.out i (by omega)
    rw [hy.out] at hyl
    by_cases hlt : j < k
    · have hlt2 : (j : Int) < (k : Int) := by omega
      obtain ⟨A, c, k1, k2, k3⟩ := hP.out j hlt
      have hxl := hX.out j hlt
      have hs : Hid ((M.catTo X (j + 1)).length = y + (X j).length) := by show _ = _; rw [M.catTo, List.length_append, hy.out]
      obtain ⟨m, hm⟩ : ∃ m, Hid ((X j).length = m) := ⟨_, rfl⟩
      rw [hm.out] at k1 hxl hs
      have hs2 : ¬ (y : Int) + (m : Int) < 0 := by omega
      clear k2 k3
      go_wp2
      go_round
      case rel => exact ⟨j + 1, y + m, by omega, by go_num, by go_num, hs⟩
      case measure => simp [intOf]; omega
    · obtain rfl : j = k := by omega
      have hge : ¬ (j : Int) < (j : Int) := by omega
      have hG : Hid (∃ _ : Unit, Calls Try.prog 224 #[.slice none 0 0, .int .i64 (y : Int)] w fun e w' => ∃ A' c', e = .returned (.slice A' 0 c') ∧ Own64 w' w.heap.size (.slice A' 0 c') [] ∧ Below w.heap.size w w') := by
        rcases Nat.eq_zero_or_pos y with h0 | h0
        · subst h0
          refine ⟨(), ?_⟩
          go_enter Try.func224, Try.ntmps224
          go_wp2
          go_ret
          exact ⟨none, 0, rfl, own64_nil _ _, Below.refl _ _⟩
        · exact ⟨(), growNil y w h0 (by omega)⟩
      obtain ⟨_, hG⟩ := hG.out
      have HG := Lib.hid hG
      clear hG
      go_wp2_with fail
      refine HG.out.mono ?_
      rintro e w1 ⟨A1, c1, rfl, ho1, hb1⟩
      have Ho1 := Lib.hid ho1
      have Hb1 := Lib.hid hb1
      clear ho1 hb1 HG
      go_wp2
      go_loopw [6, 8, 27] (fun q _ i wr => ∃ (t n : Nat) (A' : Option Addr) (c' : Nat), t ≤ j ∧ i = .int .i64 (t : Int) ∧ q = .slice A' n c' ∧ n ≤ 1000 ∧ Hid (Own64 wr w.heap.size (.slice A' n c') (M.catTo X t)) ∧ Hid (Below w.heap.size w wr)) (fun _ _ i _ => j - (intOf i).toNat)
      case atStart => exact ⟨0, 0, A1, c1, Nat.zero_le _, rfl, rfl, by omega, Ho1, Hb1⟩
      case round =>
        obtain ⟨t, n, A', c', ht, rfl, rfl, hn, ho, hbr⟩ := hrel
        clear Ho1 Hb1
        by_cases htj : t < j
        · have htj2 : (t : Int) < (j : Int) := by omega
          obtain ⟨A, c, k1, k2, k3⟩ := (hP.out.be hg hbr.out) t htj
          have hxl := hX.out t htj
          have hzr := hbr.out.size
          obtain ⟨m, hm⟩ : ∃ m, Hid ((X t).length = m) := ⟨_, rfl⟩
          have hsrc := Lib.hid k2
          have hz := Lib.hid k3
          rw [hm.out] at k1 hxl
          have hnt : n ≤ 72 := by
            have h5 := own64_len ho.out
            have h6 := M.catTo_len X (k := t) fun i hi => hX.out i (by omega)
            omega
          clear k2 k3
          go_wp2_with (at_builtin; refine appendInts rfl (.tmp 31) (.tmp 32) rfl wr w.heap.size A' n c' (M.catTo X t) A m c (X t) rfl rfl ho hsrc hm hz hzr (by omega) (by omega) ?_; intro A3 c3 w3 ho3 hb3)
          go_roundw
          case rel => exact ⟨t + 1, n + m, A3, c3, by omega, by go_num, rfl, by omega, ho3, hbr.out.trans hb3.out⟩
          case measure => simp [intOf]; omega
        · obtain rfl : t = j := by omega
          have hge3 : ¬ (t : Int) < (t : Int) := by omega
          go_wp2
          go_ret
          exact ⟨A', c', n, rfl, ho.out, hbr.out⟩
end Go.Proofs.Ytkcldfliiagloaa

/- arrangementOf: a list of at most 24 numbers as an array, filled up with -1. -/
namespace Go.Proofs.Ytkcldfliiagloaa
open Go.RowKit

namespace M
def arr (l : List Int) : List Int := (l ++ List.replicate 24 (-1)).take 24
theorem arr_len (l : List Int) : (arr l).length = 24 := by simp [arr]
theorem arr_inj {l k : List Int} (h : l.length = k.length) (hl : l.length ≤ 24) : arr l = arr k ↔ l = k := by
  constructor
  · intro e
    have e2 : (arr l).take l.length = (arr k).take k.length := by rw [e, h]
    simpa [arr, List.take_take, Nat.min_eq_left hl, Nat.min_eq_left (h ▸ hl)] using e2
  · intro e; rw [e]
def cat2 (l : List Int) (j : Nat) : List Int := if j = 0 then l else List.replicate 24 (-1)
theorem catTo_cat2 (l : List Int) : catTo (cat2 l) 2 = l ++ List.replicate 24 (-1) := by simp [catTo, cat2]
end M

theorem below_cells' {B b : Nat} {a : World} (hb : B ≤ b) : ∀ (vs : List Value) (o : Nat) {w : World}, Below B a w → Below B a (w.setCells b o vs)
  | [], _, _, h => h
  | v :: r, o, _, h => below_cells' hb r (o + 1) (below_setCell h hb v)
theorem own_repVals' {w : World} {B g : Nat} {x : Int} (hB : B ≤ g) (h : w.heap[g]? = some (.cells (repVals x 24).toArray 2 (0, 0))) : Own64 w B (.slice (some ⟨g, 0, none⟩) 24 24) (List.replicate 24 x) := by
  have e : repVals x 24 = (List.replicate 24 x).map (Value.int .i64) := by rw [repVals, M.repRow_end]
  refine ⟨by simp, .inr ⟨g, 24, _, by simp, hB, h, by simp, by unfold maxLen; omega, ?_, ?_⟩⟩
  · rw [List.size_toArray, repVals_len (by omega)]
  · rw [e]; simp

set_option maxHeartbeats 4000000 in
set_option maxRecDepth 100000 in
theorem arrangementOf (A : Option Addr) (l : List Int) (n c : Nat) (w : World) (hn : n ≤ 24) (hl : Hid (l.length = n)) (hz : Hid (A = none → c = 0)) (h : Ints w w.heap.size A l) :
    Calls Try.prog 107 #[.slice A n c] w fun e w' => e = .returned (.agg ((M.arr l).map (Value.int .i64)).toArray) ∧ Below w.heap.size w w' := by
  have H := Lib.hid h
  clear h
  go_enter Try.func107, Try.ntmps107
  go_wp2_with fail
  obtain ⟨X, hX⟩ : ∃ X, X = ((w.alloc (.cells #[.int .i64 0, .int .i64 0, .int .i64 0, .int .i64 0, .int .i64 0, .int .i64 0, .int .i64 0, .int .i64 0, .int .i64 0, .int .i64 0, .int .i64 0, .int .i64 0, .int .i64 0, .int .i64 0, .int .i64 0, .int .i64 0, .int .i64 0, .int .i64 0, .int .i64 0, .int .i64 0, .int .i64 0, .int .i64 0, .int .i64 0, .int .i64 0] 113)).alloc (.cells #[.int .i64 (-1)] 2)) := ⟨_, rfl⟩
  have hX0 : (w.alloc (.cells #[.int .i64 0, .int .i64 0, .int .i64 0, .int .i64 0, .int .i64 0, .int .i64 0, .int .i64 0, .int .i64 0, .int .i64 0, .int .i64 0, .int .i64 0, .int .i64 0, .int .i64 0, .int .i64 0, .int .i64 0, .int .i64 0, .int .i64 0, .int .i64 0, .int .i64 0, .int .i64 0, .int .i64 0, .int .i64 0, .int .i64 0, .int .i64 0] 113)).heap.size = w.heap.size + 1 := by simp
  have hXs : X.heap.size = w.heap.size + 1 + 1 := by rw [hX]; simp
  have cX : X.cell? ⟨w.heap.size + 1, 0, none⟩ = some (.int .i64 (-1)) := by
    have := World.cell?_alloc_new (w.alloc (.cells #[.int .i64 0, .int .i64 0, .int .i64 0, .int .i64 0, .int .i64 0, .int .i64 0, .int .i64 0, .int .i64 0, .int .i64 0, .int .i64 0, .int .i64 0, .int .i64 0, .int .i64 0, .int .i64 0, .int .i64 0, .int .i64 0, .int .i64 0, .int .i64 0, .int .i64 0, .int .i64 0, .int .i64 0, .int .i64 0, .int .i64 0, .int .i64 0] 113)) #[.int .i64 (-1)] 2 0
    rw [hX0] at this
    rw [hX, this]; rfl
  have hz3 : X.heap[w.heap.size]? = some (.cells (List.replicate 24 (Value.int .i64 0)).toArray 113 (0, 0)) := by
    rw [hX, Below.heap_alloc _ _ _ (by rw [hX0]; omega)]
    exact World.alloc_heap_new w _
  have hBX : Hid (Below w.heap.size w X) := by rw [hX]; exact bal (bal (b0 w) _) _
  have HX := Lib.hid ((H.out.al (.cells #[.int .i64 0, .int .i64 0, .int .i64 0, .int .i64 0, .int .i64 0, .int .i64 0, .int .i64 0, .int .i64 0, .int .i64 0, .int .i64 0, .int .i64 0, .int .i64 0, .int .i64 0, .int .i64 0, .int .i64 0, .int .i64 0, .int .i64 0, .int .i64 0, .int .i64 0, .int .i64 0, .int .i64 0, .int .i64 0, .int .i64 0, .int .i64 0] 113)).al (.cells #[.int .i64 (-1)] 2))
  rw [← hX] at HX ⊢
  clear hX hX0 H
  refine (repeat24 (w.heap.size + 1) (-1) X cX).mono ?_
  rintro e W3 ⟨rfl, hr3, hb3⟩
  have ho3 : Hid (Own64 W3 w.heap.size (.slice (some ⟨X.heap.size, 0, none⟩) 24 24) (List.replicate 24 (-1))) := own_repVals' (by omega) hr3.out
  have hB3 : Hid (Below w.heap.size w W3) := hBX.out.trans (hb3.out.mono (by omega))
  have HL3 := Lib.hid (HX.out.be hb3.out)
  have hX3 := (Array.getElem?_eq_some_iff.1 hr3.out).1
  have hz4 : Hid (W3.heap[w.heap.size]? = some (.cells (List.replicate 24 (Value.int .i64 0)).toArray 113 (0, 0))) := (hb3.out.block _ (by omega)).trans hz3
  obtain ⟨g, hg⟩ : ∃ g, X.heap.size = g := ⟨_, rfl⟩
  rw [hg] at ho3 hX3 ⊢
  have hgw : w.heap.size + 1 + 1 = g := by omega
  clear hr3 hb3 hXs cX hz3 hBX HX hg
  have HP : Hid (Parts (W3.alloc (.cells #[.slice A n c, .slice (some ⟨g, 0, none⟩) 24 24] 22)) W3.heap.size 2 (M.cat2 l)) := fun j hj => by
    match j, hj with
    | 0, _ => exact ⟨A, c, by have := World.cell?_alloc_new W3 #[.slice A n c, .slice (some ⟨g, 0, none⟩) 24 24] 22 0; rw [this]; simp [M.cat2, hl.out], by simpa [M.cat2] using HL3.out.al _, by simpa using hz.out⟩
    | 1, _ => exact ⟨some ⟨g, 0, none⟩, 24, by have := World.cell?_alloc_new W3 #[.slice A n c, .slice (some ⟨g, 0, none⟩) 24 24] 22 1; rw [this]; simp [M.cat2], by simpa [M.cat2] using (ints_of_own64 ho3.out).al _, fun e => by cases e⟩
  have HLen : Hid (∀ j, j < 2 → (M.cat2 l j).length ≤ 24) := fun j hj => by
    match j, hj with
    | 0, _ => simp only [M.cat2]; have := hl.out; simp; omega
    | 1, _ => simp [M.cat2]
  have HC := Lib.hid (concat W3.heap.size 2 (M.cat2 l) (W3.alloc (.cells #[.slice A n c, .slice (some ⟨g, 0, none⟩) 24 24] 22)) (by omega) HLen (by simp) HP)
  have hB4 := Lib.hid (bal hB3.out (.cells #[.slice A n c, .slice (some ⟨g, 0, none⟩) 24 24] 22))
  have hz5 : Hid ((W3.alloc (.cells #[.slice A n c, .slice (some ⟨g, 0, none⟩) 24 24] 22)).heap[w.heap.size]? = some (.cells (List.replicate 24 (Value.int .i64 0)).toArray 113 (0, 0))) := (Below.heap_alloc _ _ _ (by omega)).trans hz4.out
  clear HP HLen HL3 ho3 hz4
  go_wp2_with fail
  refine HC.out.mono ?_
  rintro e W5 ⟨A5, c5, n5, rfl, ho5, hb5⟩
  have hW3 : (W3.alloc (.cells #[.slice A n c, .slice (some ⟨g, 0, none⟩) 24 24] 22)).heap.size = W3.heap.size + 1 := by simp
  rw [M.catTo_cat2] at ho5
  have hn5 := own64_len ho5
  have hl5 : (l ++ List.replicate 24 (-1)).length = n + 24 := by simp [hl.out]
  obtain ⟨g5, e5⟩ : ∃ g5, A5 = some ⟨g5, 0, none⟩ := by
    rcases ho5.2 with ⟨h1, h2⟩ | ⟨g5, cap, cur, hv, _⟩
    · simp at h2
    · injection hv with h1; exact ⟨g5, h1⟩
  subst e5
  have Ho5 := Lib.hid ho5
  have hB5 := Lib.hid (hB4.out.trans (hb5.mono (by omega)))
  have hz6 : Hid (W5.heap[w.heap.size]? = some (.cells (List.replicate 24 (Value.int .i64 0)).toArray 113 (0, 0))) := (hb5.block _ (by omega)).trans hz5.out
  have h24 : 24 ≤ n5 := by omega
  have hrunA := run_arrayAt (P := Try.prog) (w := W5) 113 2 24 (some ⟨g5, 0, none⟩) n5 c5 Try.underlying113 h24
  have hc : W5.rangeAt g5 0 ((M.arr l).map (Value.int .i64)) := fun j v hv => by
    rw [List.getElem?_map] at hv
    cases hj : (M.arr l)[j]? with
    | none => rw [hj] at hv; cases hv
    | some y =>
      rw [hj] at hv
      injection hv with hv
      subst hv
      rw [Nat.zero_add]
      have hj24 : j < 24 := by have := (List.getElem?_eq_some_iff.1 hj).1; rw [M.arr_len] at this; exact this
      refine (own64_cell Ho5.out hn5.symm (k := j) (x := y) ?_).1
      rw [M.arr, List.getElem?_take_of_lt hj24] at hj
      exact hj
  have hi : (Try.prog.info? 113).map (·.size) = some ((M.arr l).map (Value.int .i64)).length := by rw [List.length_map, M.arr_len]; kernel_rfl
  have hi2 : (Try.prog.info? 113).map (·.size) = some ((M.arr l).map (Value.int .i64)).toArray.size := by rw [List.size_toArray]; exact hi
  have hth : W5.there w.heap.size 0 ((M.arr l).map (Value.int .i64)).toArray.size := fun j hj => by
    rw [List.size_toArray, List.length_map, M.arr_len] at hj
    simp [World.cell?, World.frozen?, hz6.out, hj]
  have h1 : ((M.arr l).map (Value.int .i64)).toArray.all (·.oneCell') = true := all_oneCell_toArray (fun v hv => by obtain ⟨x, _, rfl⟩ := List.mem_map.1 hv; rfl)
  have Hc := Lib.hid hc
  have Hth := Lib.hid hth
  have H1 := Lib.hid h1
  have Hi := Lib.hid hi
  have Hi2 := Lib.hid hi2
  clear hc hth h1 hi hi2 ho5 hb5 hn5 hl5 HC hW3
  go_wp2_with (first | (refine wpList_load_mid rfl 113 (.tmp 8) rfl g5 0 rfl _ _ Hc.out Try.underlying113 rfl Hi.out ?_) | (refine wpList_store_mid rfl 113 (.tmp 2) (.tmp 9) rfl w.heap.size 0 _ rfl rfl Hth.out Hi2.out H1.out ?_))
  have hlr := run_loadVar_mid (P := Try.prog) (W5.setCells w.heap.size 0 ((M.arr l).map (Value.int .i64))) w.heap.size 0 113 ((M.arr l).map (Value.int .i64)) _ (World.rangeAt_setCells_same _ _ _ _ (by simpa using Hth.out)) Try.underlying113 rfl Hi.out
  refine bodyPost_ret (v := .agg ((M.arr l).map (Value.int .i64)).toArray) (by simp [results, Try.results107, Act.put, asAddr, hlr]) rfl ?_
  exact ⟨rfl, hB5.out.trans (below_cells' (Nat.le_refl _) _ _ (Below.refl _ _))⟩
end Go.Proofs.Ytkcldfliiagloaa

/- Two arrangements compared: the model's inequality of arrays of 24 numbers. -/
namespace Go.Proofs.Ytkcldfliiagloaa
open Go.RowKit

theorem run_part64 (xs : List Int) (i : Nat) (x : Int) (hx : xs[i]? = some x) (w : World) : (part 2 (xs.map (Value.int .i64)).toArray (i * 1)).run Try.prog w = .ok (.int .i64 x) w := by
  have hag : (isAgg 2).run Try.prog w = .ok false w := Try.isAgg2 w
  have h : (xs.map (Value.int .i64)).toArray[i * 1]? = some (.int .i64 x) := by simp [hx]
  simp only [part, Sem.run_bind, hag, Result.andThen_ok, Bool.false_eq_true, if_false, h]
  rfl

theorem run_arr_loop (d : Nat) (xs ys : List Int) (hx : xs.length = 24) (hy : ys.length = 24) (w : World) :
    (Op.equalIn (d + 2) 113 (.agg (xs.map (Value.int .i64)).toArray) (.agg (ys.map (Value.int .i64)).toArray)).run Try.prog w = .ok (decide (xs = ys)) w := by
  have ht := Try.underlying113
  have he := Try.underlying2
  have hsz : (sizeOf 2).run Try.prog w = .ok 1 w := Try.sizeOf2 w
  rw [Op.equalIn]
  simp only [Sem.run_bind, run_underlying ht, Result.andThen_ok, hsz]
  rw [Std.Legacy.Range.forIn_eq_forIn_range']
  have key : ∀ m s, s + m = 24 → Sem.run Try.prog
            (forIn (List.range' s m 1) (none, ()) fun i (__s : Option Bool × Unit) => do
              let __do_lift ← part 2 (List.map (Value.int IntKind.i64) xs).toArray (i * 1)
              let __do_lift_1 ← part 2 (List.map (Value.int IntKind.i64) ys).toArray (i * 1)
              let __do_lift ← Op.equalIn (d + 1) 2 __do_lift __do_lift_1
              if (!__do_lift) = true then pure (ForInStep.done (some false, ())) else pure (ForInStep.yield (none, ())))
            w = .ok (if xs.drop s = ys.drop s then (none, ()) else (some false, ())) w := by
    intro m
    induction m with
    | zero =>
      intro s hs
      rw [List.drop_of_length_le (by omega), List.drop_of_length_le (by omega)]
      simp
    | succ m ih =>
      intro s hs
      have h1 : xs[s]? = some xs[s] := List.getElem?_eq_getElem (by omega)
      have h2 : ys[s]? = some ys[s] := List.getElem?_eq_getElem (by omega)
      rw [List.range'_succ]
      simp only [List.forIn_cons, Sem.run_bind, run_part64 xs s _ h1, run_part64 ys s _ h2, Result.andThen_ok, run_equalIn_int w d _ _ _ _ _ he]
      rw [List.drop_eq_getElem_cons (i := s) (by omega), List.drop_eq_getElem_cons (i := s) (by omega)]
      by_cases h : xs[s] = ys[s]
      · rw [h]
        simp only [beq_self_eq_true, Bool.not_true, Bool.false_eq_true, if_false, Sem.run_pure, Result.andThen_ok, List.cons.injEq, true_and]
        exact ih (s + 1) (by omega)
      · have hb : (xs[s] == ys[s]) = false := beq_eq_false_iff_ne.2 h
        simp only [hb, Bool.not_false, if_true, Sem.run_pure, Result.andThen_ok, List.cons.injEq, h, false_and, if_false]
  have := key 24 0 rfl
  simp only [List.drop_zero] at this
  have e24 : (List.range' ([:24] : Std.Legacy.Range).start ([:24] : Std.Legacy.Range).size ([:24] : Std.Legacy.Range).step) = List.range' 0 24 1 := by decide
  rw [e24, this]
  by_cases h : xs = ys
  · simp [h]
  · simp [h]

theorem arr_eql (l k : List Int) (w : World) :
    Sem.run Try.prog (Op.equalIn 10000 113 (.agg ((M.arr l).map (Value.int .i64)).toArray) (.agg ((M.arr k).map (Value.int .i64)).toArray)) w = .ok (decide (M.arr l = M.arr k)) w :=
  run_arr_loop 9998 (M.arr l) (M.arr k) (M.arr_len l) (M.arr_len k) w

theorem arr_guard : Try.prog.eqGuardType Try.prog.depth 113 = false := by kernel_rfl
end Go.Proofs.Ytkcldfliiagloaa

/- The contract of slices.Sort at int64, laid at this program. No conditions but those that it states. -/
namespace Go.Proofs
open Go.Shelf
def Try.laysSlM5_f193_ren : Go.Shelf.Ren := ⟨fun | 5 => 193 | 8 => 233 | 7 => 235 | 19 => 261 | 20 => 262 | 10 => 264 | 11 => 265 | 12 => 266 | 13 => 267 | 14 => 268 | 15 => 269 | 16 => 270 | 17 => 271 | 18 => 272 | 30 => 281 | 31 => 277 | 32 => 278 | 33 => 282 | 34 => 283 | 35 => 263 | 40 => 285 | n => n, fun | 23 => 22 | 25 => 2 | 3 => 3 | 32 => 224 | 22 => 22 | 0 => 0 | 44 => 256 | 46 => 232 | 4 => 4 | 36 => 269 | 35 => 268 | 41 => 273 | 5 => 5 | 9 => 9 | 53 => 285 | 57 => 289 | 63 => 293 | 64 => 294 | n => n, fun | n => n⟩
theorem Try.laysSlM5_f193 : Go.Proofs.SlLaysM.n5 Try.prog Try.laysSlM5_f193_ren := {
  mixed := by kernel_rfl
  f5 := ⟨Try.f193.name, by decide, Try.func193.trans (congrArg some (by kernel_rfl))⟩
  f7 := ⟨Try.f235.name, by decide, Try.func235.trans (congrArg some (by kernel_rfl))⟩
  f8 := Try.func233.trans (congrArg some (by kernel_rfl))
  f10 := ⟨Try.f264.name, by decide, Try.func264.trans (congrArg some (by kernel_rfl))⟩
  f11 := ⟨Try.f265.name, by decide, Try.func265.trans (congrArg some (by kernel_rfl))⟩
  f12 := ⟨Try.f266.name, by decide, Try.func266.trans (congrArg some (by kernel_rfl))⟩
  f13 := ⟨Try.f267.name, by decide, Try.func267.trans (congrArg some (by kernel_rfl))⟩
  f14 := ⟨Try.f268.name, by decide, Try.func268.trans (congrArg some (by kernel_rfl))⟩
  f15 := ⟨Try.f269.name, by decide, Try.func269.trans (congrArg some (by kernel_rfl))⟩
  f16 := ⟨Try.f270.name, by decide, Try.func270.trans (congrArg some (by kernel_rfl))⟩
  f17 := ⟨Try.f271.name, by decide, Try.func271.trans (congrArg some (by kernel_rfl))⟩
  f18 := ⟨Try.f272.name, by decide, Try.func272.trans (congrArg some (by kernel_rfl))⟩
  f19 := Try.func261.trans (congrArg some (by kernel_rfl))
  f20 := Try.func262.trans (congrArg some (by kernel_rfl))
  f30 := ⟨Try.f281.name, by decide, Try.func281.trans (congrArg some (by kernel_rfl))⟩
  f31 := Try.func277.trans (congrArg some (by kernel_rfl))
  f32 := Try.func278.trans (congrArg some (by kernel_rfl))
  f33 := ⟨Try.f282.name, by decide, Try.func282.trans (congrArg some (by kernel_rfl))⟩
  f34 := ⟨Try.f283.name, by decide, Try.func283.trans (congrArg some (by kernel_rfl))⟩
  f35 := ⟨Try.f263.name, by decide, Try.func263.trans (congrArg some (by kernel_rfl))⟩
  f40 := ⟨Try.f285.name, by decide, Try.func285.trans (congrArg some (by kernel_rfl))⟩
  t0 := Try.underlying0
  a0 := Try.isAgg0
  z0 := Try.sizeOf0
  v0 := Try.zeroValue0
  t3 := Try.underlying3
  a3 := Try.isAgg3
  z3 := Try.sizeOf3
  v3 := Try.zeroValue3
  t4 := Try.underlying4
  a4 := Try.isAgg4
  z4 := Try.sizeOf4
  v4 := Try.zeroValue4
  t5 := Try.underlying5
  a5 := Try.isAgg5
  z5 := Try.sizeOf5
  v5 := Try.zeroValue5
  t9 := Try.underlying9
  a9 := Try.isAgg9
  z9 := Try.sizeOf9
  v9 := Try.zeroValue9
  t22 := Try.underlying22
  a22 := Try.isAgg22
  z22 := Try.sizeOf22
  v22 := Try.zeroValue22
  t23 := Try.underlying22
  a23 := Try.isAgg22
  z23 := Try.sizeOf22
  v23 := Try.zeroValue22
  t25 := Try.underlying2
  a25 := Try.isAgg2
  z25 := Try.sizeOf2
  v25 := Try.zeroValue2
  t32 := Try.underlying224
  a32 := Try.isAgg224
  z32 := Try.sizeOf224
  v32 := Try.zeroValue224
  t35 := Try.underlying268
  a35 := Try.isAgg268
  z35 := Try.sizeOf268
  v35 := Try.zeroValue268
  t36 := Try.underlying269
  a36 := Try.isAgg269
  z36 := Try.sizeOf269
  v36 := Try.zeroValue269
  t41 := Try.underlying273
  a41 := Try.isAgg273
  z41 := Try.sizeOf273
  v41 := Try.zeroValue273
  t44 := Try.underlying256
  a44 := Try.isAgg256
  z44 := Try.sizeOf256
  v44 := Try.zeroValue256
  t46 := Try.underlying232
  a46 := Try.isAgg232
  z46 := Try.sizeOf232
  v46 := Try.zeroValue232
  t53 := Try.underlying285
  a53 := Try.isAgg285
  z53 := Try.sizeOf285
  v53 := Try.zeroValue285
  t57 := Try.underlying289
  a57 := Try.isAgg289
  z57 := Try.sizeOf289
  v57 := Try.zeroValue289
  t63 := Try.underlying293
  a63 := Try.isAgg293
  z63 := Try.sizeOf293
  v63 := Try.zeroValue293
  t64 := Try.underlying294
  a64 := Try.isAgg294
  z64 := Try.sizeOf294
  v64 := Try.zeroValue294 }
open Go.Sort Go.RowKit in
theorem Try.sort64 (blk off cap : Nat) (zs : List Int) (w : World) (hH : Holds (Value.int .i64) w blk off zs.toArray) (hblk : blk < w.heap.size) (hsz : zs.length < 4611686018427387904) :
    Calls Try.prog 193 #[.slice (some ⟨blk, off, none⟩) zs.length cap] w fun e w' =>
      e = .returned (.tuple #[]) ∧ ∃ n os, w' = grow (putRow (Value.int .i64) (Sort.ahead w n) blk off (zs.mergeSort fun x y => decide (x ≤ y)).toArray) os := AnyM.slices_Sort_int Try.laysSlM5_f193 blk off cap zs w hH hblk hsz
end Go.Proofs

/- slices.Sorted of slices.Values: a list in ascending order, in a row of its own. -/
namespace Go.Proofs.Ytkcldfliiagloaa
open Go.RowKit Go.Shelf
attribute [local go_sem] Oper.semAt_some

/-- the numbers that have come behind k rounds -/
def atOr (zs : List Int) (k : Nat) : Int := zs[k]?.getD 0
theorem range_at (zs : List Int) : (List.range zs.length).map (atOr zs) = zs := by
  refine List.ext_getElem? fun i => ?_
  rcases Nat.lt_or_ge i zs.length with h | h
  · simp [atOr, h]
  · rw [List.getElem?_eq_none (by simp; exact h), List.getElem?_eq_none h]

set_option maxRecDepth 100000 in
set_option maxHeartbeats 2000000 in
theorem values1 (n : Nat) (hn : 1 ≤ n) (l Bd n₀ : Nat) (A : Option Addr) (zs : List Int) (c m : Nat) (hm : Hid (zs.length = m)) (hx : m ≤ 24) (J Jx : List Int → World → Prop)
    (hY : ∀ pre x W, J pre W → pre.length < m → YieldAt Fence.wide (n - 1) Try.prog l #[.int .i64 x] W fun e W' =>
      (e = .returned (.bool true) ∧ J (pre ++ [x]) W' ∧ KeepK n₀ Bd W W') ∨ (e = .returned (.bool false) ∧ Jx (pre ++ [x]) W'))
    (W : World) (hBd : Boxed W Bd 22 (.slice A m c)) (hI : Ints W n₀ A zs) (_hn0 : n₀ ≤ W.heap.size) (h0 : J [] W) :
    CallsIn Fence.wide n Try.prog 252 #[.func (.yield l) #[] #[], .pointer (some ⟨Bd, 0, none⟩)] W fun e W' => (∃ u, e = .returned u) ∧
      ((∃ ys, ys = (List.range m).map (atOr zs) ∧ J ys W') ∨ (∃ pre, (∃ k, k ≤ m ∧ pre = (List.range k).map (atOr zs)) ∧ Jx pre W')) := by
  have hcd := hBd.cell
  have HI := Lib.hid hI
  clear hI hBd
  refine callsIn_of_wp Try.func252 rfl trivial ?_ rfl
  simp only [Try.ntmps252, List.size_toArray, List.length_cons, List.length_nil, Nat.reduceAdd, Nat.reduceSub, Array.replicate_succ, Array.replicate_zero, List.push_toArray, List.append_toArray, List.nil_append, List.cons_append]
  gi_wp2
  gi_loopw [4, 7] (fun _ i wr => ∃ k : Nat, k ≤ m ∧ i = .int .i64 (k : Int) ∧ J ((List.range k).map (atOr zs)) wr ∧ Hid (KeepK n₀ Bd W wr))
    (fun _ i _ => m - (intOf i).toNat)
  case atStart => exact ⟨0, Nat.zero_le _, rfl, h0, ⟨Below.refl _ _, rfl⟩⟩
  case round =>
    obtain ⟨k, hk, rfl, hJs, hnx⟩ := hrel
    clear hcd
    by_cases hlt : k < m
    · have hYk := hY _ (atOr zs k) wr hJs (by simpa using hlt)
      obtain ⟨fn, tmps, assign, body, hy, hR⟩ := hYk
      obtain ⟨b, off, x, rfl, hbB, g1, hX⟩ := (HI.out.below hnx.out.1 (Nat.le_refl _)).at_ (k := k) (by rw [hm.out]; exact hlt)
      have hax : atOr zs k = x := by rw [atOr, hX.out]; rfl
      rw [hax] at hR hy
      have hki : (k : Int) < (m : Int) := by omega
      have hk0 : (0 : Int) ≤ (k : Int) := by omega
      have Hax := Lib.hid hax
      clear hX hax
      gi_wp2
      refine hR.mono ?_
      rintro e W3 (⟨rfl, hJ3, hk3⟩ | ⟨rfl, hJx3⟩)
      · have hk4 : Hid (KeepK n₀ Bd W W3) := hnx.out.t hk3
        clear hk3
        gi_wp2
        go_roundw
        case rel => exact ⟨k + 1, by omega, by go_num, by rw [List.range_succ, List.map_append]; show J (_ ++ [atOr zs k]) _; rw [Hax.out]; exact hJ3, hk4⟩
        case measure => simp [intOf]; omega
      · gi_wp2
        refine bodyPost_ret (results_none rfl _ _ _) rfl ?_
        exact ⟨⟨_, rfl⟩, .inr ⟨_, ⟨k + 1, by omega, by rw [List.range_succ, List.map_append]; show _ = _ ++ [atOr zs k]; rw [Hax.out]⟩, hJx3⟩⟩
    · obtain rfl : k = m := by omega
      gi_wp2
      go_end0
      exact ⟨⟨_, rfl⟩, .inl ⟨_, rfl, hJs⟩⟩

theorem values_stops (n : Nat) (hn : 1 ≤ n) (Bd n₀ : Nat) (A : Option Addr) (zs : List Int) (c m : Nat) (hm : Hid (zs.length = m)) (hx : m ≤ 24)
    (w : World) (hBd : Boxed w Bd 22 (.slice A m c)) (hI : Ints w n₀ A zs) (hn0 : n₀ ≤ w.heap.size) :
    SeqStopsK Fence.wide n Try.prog 252 #[.pointer (some ⟨Bd, 0, none⟩)] (fun x : Int => #[Value.int .i64 x]) (KeepK n₀ Bd)
      (fun ys => ys = (List.range m).map (atOr zs)) (fun pre => ∃ k, k ≤ m ∧ pre = (List.range k).map (atOr zs)) m w := fun l J Jx W hW _ _ hY h0 =>
  values1 n hn l Bd n₀ A zs c m hm hx J Jx hY W ((hW.block Bd hBd.lt).trans hBd) (hI.below hW hn0) (Nat.le_trans hn0 hW.size) h0

set_option maxRecDepth 100000 in
set_option maxHeartbeats 2000000 in
theorem appendSeq_in (Bd : Nat) (A : Option Addr) (zs : List Int) (c m : Nat) (w : World) (hm : Hid (zs.length = m)) (hx : m ≤ 24) (hBd : Boxed w Bd 22 (.slice A m c)) (hI : Ints w w.heap.size A zs) :
    CallsIn Fence.wide 5 Try.prog 275 #[.slice none 0 0, .func (.func 252) #[] #[.pointer (some ⟨Bd, 0, none⟩)]] w fun e w' => ∃ u, e = .returned u ∧ w'.ownsRow w.heap.size 2 1 u zs.length (zs.map (Value.int .i64)) ∧ Below w.heap.size w w' := by
  obtain ⟨i0, hi0, hz0, hz1, hz2⟩ := info_parts info64
  have hlB := hBd.lt
  refine callsIn_of_wp_marks Try.func275 rfl trivial ?_ rfl
  simp only [Try.ntmps275, List.size_toArray, List.length_cons, List.length_nil, Nat.reduceAdd, Nat.reduceSub, Array.replicate_succ, Array.replicate_zero, List.push_toArray, List.append_toArray, List.nil_append, List.cons_append]
  gi_wp2
  have bO := Boxed.new w 22 (.slice none 0 0)
  have bD := hBd.alloc (.cells #[.slice none 0 0] 22)
  have hB0 := bal (b0 w) (.cells #[.slice none 0 0] 22)
  have hKb := KeepK.b (n₀ := w.heap.size) (Bd := Bd) (w := (w.alloc (.cells #[.slice none 0 0] 22))) (by simp) (by simp; omega)
  have h15 : 1 ≤ 5 := by omega
  refine wpIn_rangeFunc_ownG (α := Int) rfl h15 (gf := 252) (lb := #[.pointer (some ⟨Bd, 0, none⟩)]) rfl trivial (enters_of Try.func252 (by kernel_rfl) rfl)
    (values_stops 4 (by omega) Bd w.heap.size A zs c m hm hx _ bD (hI.below hB0 (Nat.le_refl _)) (by simp)) (fun h k => h.t k) hKb (Below.refl _ _) (fun _ => rfl)
    (fun pre W => (∃ u, Boxed W w.heap.size 22 u ∧ W.ownsRow w.heap.size 2 1 u pre.length (pre.map (Value.int .i64)) ∧ True) ∧ Boxed W Bd 22 (.slice A m c) ∧ Below w.heap.size w W)
    (fun _ _ _ => False)
    (OwnFrom.and (Own.from (holdsRow_own w.heap.size w.heap.size 22 2 1 (fun pre : List Int => pre.length) (fun pre => pre.map (Value.int .i64)) (fun _ _ => True)) _) (OwnFrom.and (Own.from (boxed_own Bd 22 (fun _ => .slice A m c)) _) (ownFrom_below (Nat.le_refl _) (by simp))))
    (fun _ _ _ _ _ hs _ _ => hs)
    ⟨⟨_, bO, World.ownsRow_nil _ _ _ _, trivial⟩, bD, hB0⟩
    (fun x => { tmps := #[.slice none 0 0, .func (.func 252) #[] #[.pointer (some ⟨Bd, 0, none⟩)], .pointer (some ⟨w.heap.size, 0, none⟩), undef, .slice none 0 0, .int .i64 x, .func (.func 252) #[] #[.pointer (some ⟨Bd, 0, none⟩)], .int .i64 x, undef, undef, undef, undef, undef], defers := [] }) ?assign ?body ?done ?stop
  case assign =>
    intro l x W K hK
    gi_wp2
    exact hK
  case body =>
    rintro l pre x W ⟨⟨u, hu, hrow, _⟩, hbd, hB⟩ hlt
    have hc := hu.cell
    have hpl2 : pre.length ≤ 24 := by omega
    gi_wp2_with (gi_at_builtin; refine wpListIn_append_own _ rfl _ _ 22 rfl w.heap.size 2 i0 (.int .i64 0) 1 8 Try.underlying22 hi0 hz0 hz1 hz2 rfl (by decide) _ _ _ rfl (hrow.alloc _) ⟨W.heap.size, 0, none⟩ 1 1 [.int .i64 x] rfl rfl (cell_one_new _ _ _) (by simp [Value.oneCell']) (by unfold maxLen; omega) (by omega) (by have := hB.size; simp; omega) ?_; intro v' w1 hown' hgrow _; obtain ⟨g', cap', rfl⟩ := ownsRow_succ hown'; obtain ⟨hv1, hv2, hr2, hk2, hb2⟩ := hu.appended (by decide) hrow hB.size (Nat.le_refl _) hown' hgrow; have hc1 := hv1.cell; have hf1 := hv1.frozen)
    have hkk := keepK_appended hb2 hgrow hrow hbd (by omega)
    exact ⟨hk2.from _, hkk, ⟨_, hv2, by simpa using hr2, trivial⟩, hkk.2.trans hbd, hB.trans hb2⟩
  case done =>
    rintro D ys W hD rfl ⟨⟨u, hu, hrow, _⟩, hbd, hB⟩ hK
    have hc := hu.cell
    rw [← hm.out, range_at] at hrow
    gi_wp2
    refine ⟨by simp, .inl ⟨_, _, rfl, run_takeDeferred hK, ?_⟩⟩
    exact ⟨_, results_tmp rfl _ _ _, u, rfl, ownsRow_putObj hrow _ hK rfl, hB.trans (belowK_b (w := w) (Nat.le_refl _) W D _ _ (by simp at hD; omega) hK rfl rfl)⟩
  case stop =>
    rintro D c pre W _ _ h _
    exact h.elim

set_option maxHeartbeats 1000000 in
theorem valuesOf (A : Option Addr) (m c : Nat) (w : World) :
    Calls Try.prog 222 #[.slice A m c] w fun e w' => e = .returned (.func (.func 252) #[] #[.pointer (some ⟨w.heap.size, 0, none⟩)]) ∧ w' = w.alloc (.cells #[.slice A m c] 22) := by
  go_enter Try.func222, Try.ntmps222
  go_wp2
  go_ret
  exact ⟨rfl, rfl⟩

set_option maxHeartbeats 1000000 in
theorem collectOf (Bd : Nat) (A : Option Addr) (zs : List Int) (c m : Nat) (w : World) (hm : Hid (zs.length = m)) (hx : m ≤ 24) (hBd : Boxed w Bd 22 (.slice A m c)) (hI : Ints w w.heap.size A zs) :
    Calls Try.prog 251 #[.func (.func 252) #[] #[.pointer (some ⟨Bd, 0, none⟩)]] w fun e w' => ∃ A' c', e = .returned (.slice A' m c') ∧ Own64 w' w.heap.size (.slice A' m c') zs ∧ Below w.heap.size w w' := by
  have HA := Lib.hid ((callsIn_wide (n := 5)).1 (appendSeq_in Bd A zs c m w hm hx hBd hI))
  go_enter Try.func251, Try.ntmps251
  go_wp2_with fail
  refine HA.out.mono ?_
  rintro e w1 ⟨u, rfl, ho, hb⟩
  obtain ⟨A', c', rfl⟩ := own_shape ho
  rw [hm.out] at ho ⊢
  have Ho : Hid (Own64 w1 w.heap.size (.slice A' m c') zs) := by show Own64 _ _ _ _; unfold Own64; rw [hm.out]; exact ho
  clear ho
  go_wp2
  go_ret
  exact ⟨A', c', rfl, Ho.out, hb⟩

set_option maxHeartbeats 1000000 in
theorem sortedOf (Bd : Nat) (A : Option Addr) (zs : List Int) (c m : Nat) (w : World) (hm : Hid (zs.length = m)) (hx : m ≤ 24) (h1 : 1 ≤ m) (hBd : Boxed w Bd 22 (.slice A m c)) (hI : Ints w w.heap.size A zs) :
    Calls Try.prog 221 #[.func (.func 252) #[] #[.pointer (some ⟨Bd, 0, none⟩)]] w fun e w' => ∃ g c', e = .returned (.slice (some ⟨g, 0, none⟩) m c') ∧ Own64 w' w.heap.size (.slice (some ⟨g, 0, none⟩) m c') (M.sorted zs) ∧ Below w.heap.size w w' := by
  have HA := Lib.hid (collectOf Bd A zs c m w hm hx hBd hI)
  go_enter Try.func221, Try.ntmps221
  go_wp2_with fail
  refine HA.out.mono ?_
  rintro e w1 ⟨A', c', rfl, ho, hb⟩
  have hS : Hid (∃ g, A' = some ⟨g, 0, none⟩ ∧ Calls Try.prog 193 #[.slice A' m c'] w1 fun e w' => e = .returned (.tuple #[]) ∧ Own64 w' w.heap.size (.slice A' m c') (M.sorted zs) ∧ Below w.heap.size w w') := by
    rcases ho.2 with ⟨h2, h3⟩ | ⟨g, cap, cur, hv, hg, hh, k1, k2, k3, k4⟩
    · exfalso; rw [hm.out] at h3; omega
    · injection hv with e1 e2 e3
      subst e1
      subst e3
      have hlt := (Array.getElem?_eq_some_iff.1 hh).1
      refine ⟨g, rfl, ?_⟩
      have hc := Try.sort64 g 0 c' zs w1 (holds_of_blockI hh (by rw [Nat.mul_one] at k4; exact k4)) hlt (by rw [hm.out]; omega)
      rw [hm.out] at hc
      refine hc.mono ?_
      rintro e w2 ⟨rfl, n, os, rfl⟩
      refine ⟨rfl, ?_, hb.grown (grownBy_sortedI _) hb.size (fun k hk => by cases hk; exact hg)⟩
      have hr := ownsRow_sortedI (n := n) (os := os) (ss := zs) (ts := M.sorted zs) (M.sorted_len zs) hg hh k1 k2 k3
      unfold Own64
      rw [M.sorted_len]
      rw [hm.out] at hr ⊢
      exact hr
  obtain ⟨g, rfl, hS⟩ := hS.out
  have HS := Lib.hid hS
  clear hS ho
  go_wp2_with fail
  refine HS.out.mono ?_
  rintro e w2 ⟨rfl, ho2, hb2⟩
  have Ho2 := Lib.hid ho2
  clear ho2
  go_wp2
  go_ret
  exact ⟨g, c', rfl, Ho2.out, hb2⟩
end Go.Proofs.Ytkcldfliiagloaa

/- listCode: whether a list has all nodes, each once. -/
namespace Go.Proofs.Ytkcldfliiagloaa
open Go.RowKit
attribute [local go_sem] arr_eql

theorem cellOf_be {w w' : World} {g k : Nat} {v : Value} (h : w.cell? ⟨g, k, none⟩ = some v) (hb : Below w.heap.size w w') : w'.cell? ⟨g, k, none⟩ = some v :=
  (hb.cell (p := ⟨g, k, none⟩) (World.block_lt_of_cell? _ _ h)).trans h
theorem cellOf_al {w : World} {g k : Nat} {v : Value} (h : w.cell? ⟨g, k, none⟩ = some v) (o : Obj) : (w.alloc o).cell? ⟨g, k, none⟩ = some v :=
  (World.cell?_alloc_lt w o ⟨g, k, none⟩ (World.block_lt_of_cell? _ _ h)).trans h
theorem order_cells (w : World) (u v : Value) (t : TypeId) : (w.alloc (.cells #[u, v] t)).cell? ⟨w.heap.size, 0, none⟩ = some u ∧ (w.alloc (.cells #[u, v] t)).cell? ⟨w.heap.size, 1, none⟩ = some v :=
  ⟨by have := World.cell?_alloc_new w #[u, v] t 0; rw [this]; rfl, by have := World.cell?_alloc_new w #[u, v] t 1; rw [this]; rfl⟩

set_option maxHeartbeats 4000000 in
set_option maxRecDepth 100000 in
theorem listCode (A A2 : Option Addr) (l : List Int) (c c2 n : Nat) (w : World) (h1 : 1 ≤ n) (h24 : n ≤ 24) (h2 : Ints w w.heap.size A2 l) (r : Int) (hr : Hid ((if M.isOrd n l then 0 else 2) = r)) :
    Calls Try.prog 167 #[.agg #[.slice A n c, .slice A2 l.length c2]] w fun e w' => e = .returned (.int .i64 r) ∧ Below w.heap.size w w' := by
  obtain ⟨d0, d1⟩ := order_cells w (.slice A n c) (.slice A2 l.length c2) 96
  have hB0 := Lib.hid (bal (b0 w) (.cells #[.slice A n c, .slice A2 l.length c2] 96))
  by_cases hln : l.length = n
  · have H2 := Lib.hid (h2.al (.cells #[.slice A n c, .slice A2 l.length c2] 96))
    have Hl := Lib.hid hln
    have hne : ((l.length : Int) != (n : Int)) = false := by rw [hln]; simp
    have hs : Hid ((if M.sorted l = M.iota n then 0 else 2) = r) := by
      show _ = _
      rw [← hr.out]
      by_cases e : M.isOrd n l = true
      · rw [if_pos ((M.sorted_iff hln).2 e), if_pos e]
      · rw [if_neg (fun h => e ((M.sorted_iff hln).1 h)), if_neg e]
    have hae : Hid (decide (M.arr (M.sorted l) = M.arr (M.iota n)) = decide (M.sorted l = M.iota n)) := by
      have := M.arr_inj (l := M.sorted l) (k := M.iota n) (by rw [M.sorted_len, M.iota_len, hln]) (by rw [M.sorted_len]; omega)
      show decide _ = decide _
      simp [this]
    rw [hln] at d0 d1 hB0 H2 hne ⊢
    clear hln hr h2
    obtain ⟨W, hW⟩ : ∃ W, W = w.alloc (.cells #[.slice A n c, .slice A2 n c2] 96) := ⟨_, rfl⟩
    go_enter Try.func167, Try.ntmps167
    go_wp2_with fail
    rw [← hW] at d0 d1 hB0 H2 ⊢
    clear hW
    refine (valuesOf A2 n c2 _).mono ?_
    rintro e w1 ⟨rfl, rfl⟩
    have bV := Boxed.new W 22 (.slice A2 n c2)
    have HS := Lib.hid (sortedOf W.heap.size A2 l c2 n (W.alloc (.cells #[.slice A2 n c2] 22)) Hl h24 h1 bV (H2.out.al _))
    have hB1 := Lib.hid (bal hB0.out (.cells #[.slice A2 n c2] 22))
    have d0' := cellOf_al d0 (.cells #[.slice A2 n c2] 22)
    have d1' := cellOf_al d1 (.cells #[.slice A2 n c2] 22)
    clear d0 d1 hB0 bV
    go_wp2_with fail
    refine HS.out.mono ?_
    rintro e w3 ⟨g, c', rfl, ho, hb⟩
    have d0 := cellOf_be d0' hb
    have d1 := cellOf_be d1' hb
    have hB3 := Lib.hid (btr hB1.out hb)
    have Ho := Lib.hid ho
    have hsl : Hid ((M.sorted l).length = n) := by show _ = _; rw [M.sorted_len, Hl.out]
    clear d0' d1' hB1 HS hb ho H2
    go_wp2
    have hA1 : ∀ X, Hid (Below w3.heap.size w3 X) → Calls Try.prog 107 #[.slice (some ⟨g, 0, none⟩) n c'] X fun e w' => e = .returned (.agg ((M.arr (M.sorted l)).map (Value.int .i64)).toArray) ∧ Hid (Below w3.heap.size w3 w') := fun X hX =>
      (arrangementOf (some ⟨g, 0, none⟩) (M.sorted l) n c' X h24 hsl (Lib.hid (fun e => by cases e)) ((ints_of_own64 Ho.out).be hX.out)).mono fun e w' ⟨he, hb⟩ => ⟨he, btr hX.out hb⟩
    have hN : ∀ X, Hid (Below w3.heap.size w3 X) → Calls Try.prog 223 #[.agg #[.slice A n c]] X fun e w' => ∃ A', e = .returned (.slice A' n n) ∧ Hid (Own64 w' X.heap.size (.slice A' n n) (M.iota n)) ∧ Hid (Below w3.heap.size w3 w') := fun X hX =>
      (nodesOf A n c X h24).mono fun e w' ⟨A', he, ho, hb⟩ => ⟨A', he, ho, btr hX.out hb⟩
    have hA2 : ∀ A' B X, Hid (Below w3.heap.size w3 X) → Hid (Own64 X B (.slice A' n n) (M.iota n)) → Calls Try.prog 107 #[.slice A' n n] X fun e w' => e = .returned (.agg ((M.arr (M.iota n)).map (Value.int .i64)).toArray) ∧ Hid (Below w3.heap.size w3 w') := fun A' B X hX ho =>
      (arrangementOf A' (M.iota n) n n X h24 (M.iota_len n) (Lib.hid (fun e => by
        subst e
        rcases ho.out.2 with ⟨h1, h2⟩ | ⟨g, cap, cur, hv, _⟩
        · rw [M.iota_len] at h2; omega
        · cases hv)) (ints_of_own64 ho.out)).mono fun e w' ⟨he, hb⟩ => ⟨he, btr hX.out hb⟩
    have HA1 := Lib.hid hA1
    have HN := Lib.hid hN
    have HA2 := Lib.hid hA2
    clear hA1 hN hA2 Ho hsl
    have K0 : Hid (Below w3.heap.size w3 w3.drew) := (Below.refl _ _).drew
    have e0 : w3.drew.cell? ⟨w.heap.size, 0, none⟩ = some (.slice A n c) := d0
    have e1 : w3.drew.cell? ⟨w.heap.size, 1, none⟩ = some (.slice A2 n c2) := d1
    have hg83 := arr_guard
    go_region_held3 (fun w' => w'.cell? ⟨w.heap.size, 0, none⟩ = some (.slice A n c) ∧ Hid (Below w3.heap.size w3 w')) (first | exact ⟨e0, K0⟩ | exact ⟨cellOf_be d0 (Hid.out (by assumption)), by assumption⟩) (first | (go_at_call 223; refine (HN.out _ (by assumption)).mono ?_; rintro e w4 ⟨A4, rfl, ho4, hb4⟩) | (go_at_call_of 107 (c'); refine (HA1.out _ (by assumption)).mono ?_; rintro e w5 ⟨rfl, hb5⟩) | (go_at_call 107; refine (HA2.out _ _ _ (by assumption) (by assumption)).mono ?_; rintro e w6 ⟨rfl, hb6⟩))
    have hb := Lib.hid (btr hB3.out hb6.out)
    rw [hae.out]
    clear HA1 HN HA2 K0 e0 e1 hg83 hb4 hb5 ho4 d0 d1 hae
    by_cases hS : M.sorted l = M.iota n
    · have hR : r = 0 := by rw [← hs.out, if_pos hS]
      rw [decide_eq_true hS]
      subst hR
      clear hS hs
      go_wp2
      go_ret
      exact ⟨rfl, hb.out⟩
    · have hR : r = 2 := by rw [← hs.out, if_neg hS]
      rw [decide_eq_false hS]
      subst hR
      clear hS hs
      go_wp2
      go_ret
      exact ⟨rfl, hb.out⟩
  · have hne : ((l.length : Int) != (n : Int)) = true := by simp; omega
    have hR : r = 2 := by rw [← hr.out, M.isOrd_len hln]; rfl
    subst hR
    clear hr h2
    go_enter Try.func167, Try.ntmps167
    go_wp2
    go_ret
    exact ⟨rfl, hB0.out⟩
end Go.Proofs.Ytkcldfliiagloaa

/- stateCode: whether each node comes behind its parent. -/
namespace Go.Proofs.Ytkcldfliiagloaa
open Go.RowKit

namespace M
theorem parents_of {xs ps : List Int} (ht : isTree xs = true) (hp : ParsOK xs ps) : Parents xs.length ps := by
  refine ⟨hp.1, ?_, fun v h1 h2 => ?_⟩
  · rw [parOf, show (0 : Int).toNat = 0 from rfl, hp.2.1]; decide
  · obtain ⟨p, hk⟩ := kid_has ht (c := v) (by omega) h2
    have hb := kid_bounds ht hk
    rw [parOf, Int.toNat_natCast, hp.2.2 p v hk]
    simp only [Option.getD_some]
    omega
theorem labOK_start (n : Nat) (ps l : List Int) : LabOK n ps l 1 := fun v h1 h2 _ => by omega
theorem labOK_step {n : Nat} {ps l : List Int} {k : Nat} (h : LabOK n ps l k) (hk : l.idxOf (parOf ps (k : Int)) ≤ l.idxOf (k : Int)) : LabOK n ps l (k + 1) := fun v h1 h2 h3 => by
  rcases Nat.lt_or_ge v k with h4 | h4
  · exact h v h1 h4 h3
  · obtain rfl : v = k := by omega
    exact hk
theorem par_at {n : Nat} {ps : List Int} (h : Parents n ps) {v : Nat} (hv : v < n) : ps[v]? = some (parOf ps (v : Int)) := by
  have h1 : v < ps.length := by rw [h.1]; exact hv
  rw [parOf, Int.toNat_natCast, List.getElem?_eq_getElem h1]; rfl
end M

set_option maxHeartbeats 4000000 in
set_option maxRecDepth 100000 in
theorem stateCode (A A2 : Option Addr) (xs l : List Int) (c c2 n : Nat) (w : World) (hn : Hid (xs.length = n)) (hc1 : n ≤ c) (hc2 : c ≤ 1000000000000) (ht : Hid (M.isTree xs = true)) (ho : Hid (M.isOrd n l = true)) (h : Ints w w.heap.size A xs) (h2 : Ints w w.heap.size A2 l) (r : Int) (hr : Hid ((if M.grows (M.parents xs) l then 0 else 5) = r)) :
    Calls Try.prog 168 #[.agg #[.slice A n c, .slice A2 n c2]] w fun e w' => e = .returned (.int .i64 r) ∧ Below w.heap.size w w' := by
  have hxl := M.tree_len ht.out
  rw [hn.out] at hxl
  have h24 := hxl.2
  have h1 := hxl.1
  have Hl := Lib.hid (M.isOrd_iff.1 ho.out).1
  obtain ⟨d0, d1⟩ := order_cells w (.slice A n c) (.slice A2 n c2) 96
  have hB0 := Lib.hid (bal (b0 w) (.cells #[.slice A n c, .slice A2 n c2] 96))
  obtain ⟨W, hW⟩ : ∃ W, W = w.alloc (.cells #[.slice A n c, .slice A2 n c2] 96) := ⟨_, rfl⟩
  have H1 := Lib.hid (h.al (.cells #[.slice A n c, .slice A2 n c2] 96))
  have H2 := Lib.hid (h2.al (.cells #[.slice A n c, .slice A2 n c2] 96))
  rw [← hW] at d0 d1 hB0 H1 H2
  have hL : ∀ X, Hid (Below W.heap.size W X) → Calls Try.prog 105 #[.slice A2 n c2] X fun e w' => ∃ g, e = .returned (.slice (some ⟨g, 0, none⟩) n n) ∧ Hid (Own64 w' W.heap.size (.slice (some ⟨g, 0, none⟩) n n) (M.labs n l)) ∧ Hid (Below W.heap.size W w') := fun X hX =>
    (labelsIn A2 l n c2 X h24 ho Hl (H2.out.be hX.out)).mono fun e w' ⟨he, ho, hb⟩ => ⟨_, he, own_mono ho hX.out.size, btr hX.out hb⟩
  have hP : ∀ X, Hid (Below W.heap.size W X) → Calls Try.prog 106 #[.slice A n c] X fun e w' => ∃ A' c' ps, e = .returned (.slice A' n c') ∧ Hid (M.ParsOK xs ps) ∧ Hid (Own64 w' W.heap.size (.slice A' n c') ps) ∧ Hid (Below X.heap.size X w') ∧ Hid (Below W.heap.size W w') := fun X hX => by
    have := (callsIn_wide (n := 5)).1 (parentsIn_in A xs c X (by rw [hn.out]; exact hc1) hc2 ht (H1.out.be hX.out))
    rw [hn.out] at this
    exact this.mono fun e w' ⟨A', c', ps, he, hk, ho, hb⟩ => ⟨A', c', ps, he, hk, own_mono ho hX.out.size, hb, btr hX.out hb⟩
  have HL := Lib.hid hL
  have HP := Lib.hid hP
  clear hL hP h h2 hxl
  go_enter Try.func168, Try.ntmps168
  go_wp2_with fail
  rw [← hW]
  clear hW
  have K0 : Hid (Below W.heap.size W W.drew) := (Below.refl _ _).drew
  have e0 : W.drew.cell? ⟨w.heap.size, 0, none⟩ = some (.slice A n c) := d0
  have e1 : W.drew.cell? ⟨w.heap.size, 1, none⟩ = some (.slice A2 n c2) := d1
  go_region_held3 (fun w' => w'.cell? ⟨w.heap.size, 0, none⟩ = some (.slice A n c) ∧ w'.cell? ⟨w.heap.size, 1, none⟩ = some (.slice A2 n c2) ∧ Hid (Below W.heap.size W w')) (first | exact ⟨e0, e1, K0⟩ | exact ⟨cellOf_be d0 (Hid.out (by assumption)), cellOf_be d1 (Hid.out (by assumption)), by assumption⟩) (first | (go_at_call 105; refine (HL.out _ (by assumption)).mono ?_; rintro e w4 ⟨g4, rfl, ho4, hb4⟩) | (go_at_call 106; refine (HP.out _ (by assumption)).mono ?_; rintro e w5 ⟨A5, c5, ps, rfl, hok, ho5, hbX, hb5⟩))
  have hpar := Lib.hid (M.parents_of ht.out hok.out)
  rw [hn.out] at hpar
  have hps := Lib.hid (M.parents_eq ht.out hok.out)
  have Hg := Lib.hid (own_be ho4.out hbX.out)
  have Hp := Lib.hid (ints_of_own64 ho5.out)
  have hpl : Hid (ps.length = n) := by show _ = _; rw [hok.out.1, hn.out]
  have hB := Lib.hid (btr hB0.out hb5.out)
  have hst := Lib.hid (M.labOK_start n ps l)
  rw [hps.out] at hr
  clear HL HP K0 e0 e1 hb4 hb5 hbX ho4 ho5 d0 d1 H1 H2 hB0 hok hps
  go_wp2
  go_loopw [5] (fun i wr => ∃ (k : Nat), 1 ≤ k ∧ k ≤ n ∧ i = .int .i64 (k : Int) ∧ Hid (M.LabOK n ps l k) ∧ Hid (Below w5.heap.size w5 wr)) (fun i _ => n - (intOf i).toNat)
  case atStart => exact ⟨1, Nat.le_refl _, h1, rfl, hst, Below.refl _ _⟩
  case round =>
    obtain ⟨k, hk1, hk, rfl, hlab, hbr⟩ := hrel
    clear hst
    by_cases hlt : k < n
    · obtain ⟨pb, po, p, e5, hpb, g1, hX⟩ := (Hp.out.be hbr.out).at_ (k := k) (by rw [hpl.out]; exact hlt)
      subst e5
      have hpp : p = M.parOf ps (k : Int) := by have := M.par_at hpar.out hlt; rw [hX.out] at this; injection this
      obtain ⟨q1, q2⟩ := hpar.out.2.2 k hk1 hlt
      rw [← hpp] at q1 q2
      obtain ⟨u, rfl⟩ := Int.eq_ofNat_of_zero_le q1
      have hun : u < n := by omega
      have ck := (own64_cell (own_be Hg.out hbr.out) (by rw [M.labs, M.labTo_len]) (M.labs_at ho.out hlt)).1
      have cu := (own64_cell (own_be Hg.out hbr.out) (by rw [M.labs, M.labTo_len]) (M.labs_at ho.out hun)).1
      have Hpp := Lib.hid hpp
      have hki : (k : Int) < (n : Int) := by omega
      have hk0 : (0 : Int) ≤ (k : Int) := by omega
      have hui : (u : Int) < (n : Int) := by omega
      have hu0 : (0 : Int) ≤ (u : Int) := by omega
      have hbd := Lib.hid hbr.out.drew
      obtain ⟨a, ha⟩ : ∃ a, Hid (l.idxOf (k : Int) = a) := ⟨_, rfl⟩
      obtain ⟨b, hb⟩ : ∃ b, Hid (l.idxOf (u : Int) = b) := ⟨_, rfl⟩
      rw [ha.out] at ck
      rw [hb.out] at cu
      clear hX hpp q1 q2
      by_cases hab : a < b
      · have hR : r = 5 := by
          rw [← hr.out, if_neg]
          intro hg
          have := (M.grows_lab ho.out hpar.out.2.2 hpar.out.2.1).1 hg k hk1 hlt hlt
          rw [← Hpp.out, ha.out, hb.out] at this
          omega
        have hab' : (a : Int) < (b : Int) := by omega
        subst hR
        go_wp2
        go_region
        all_goals
          go_wp2
          go_ret
          exact ⟨rfl, btr hB.out hbd.out⟩
      · have hs := Lib.hid (M.labOK_step hlab.out (by rw [← Hpp.out, ha.out, hb.out]; omega))
        have hab' : ¬ (a : Int) < (b : Int) := by omega
        go_wp2
        go_region
        all_goals
          go_wp2
          go_roundw
          case rel => exact ⟨k + 1, by omega, by omega, by go_num, hs, hbd⟩
          case measure => simp [intOf]; omega
    · obtain rfl : k = n := by omega
      have hR : r = 0 := by
        rw [← hr.out, if_pos ((M.grows_lab ho.out hpar.out.2.2 hpar.out.2.1).2 hlab.out)]
      subst hR
      have hge : ¬ (k : Int) < (k : Int) := by omega
      go_wp2
      go_ret
      exact ⟨rfl, btr hB.out hbr.out⟩
end Go.Proofs.Ytkcldfliiagloaa

/- Numbers of growing orders by sizes: the product of the sizes of the nodes that are to come divides the product of 1 to their number. Mathematics, no conditions. -/
namespace Go.Proofs.Ytkcldfliiagloaa
namespace M
def sumF (f : Nat → Nat) : Nat → Nat
  | 0 => 0
  | k + 1 => sumF f k + f k
theorem sumF_congr {f g : Nat → Nat} : ∀ {k : Nat}, (∀ u, u < k → f u = g u) → sumF f k = sumF g k := by
  intro k
  induction k with
  | zero => intro _; rfl
  | succ k ih => intro h; rw [sumF, sumF, ih (fun u hu => h u (by omega)), h k (by omega)]
theorem sumF_add (f g : Nat → Nat) : ∀ k, sumF (fun u => f u + g u) k = sumF f k + sumF g k := by
  intro k
  induction k with
  | zero => rfl
  | succ k ih => simp only [sumF]; rw [ih]; omega
theorem sumF_one {f : Nat → Nat} {v : Nat} (h : ∀ u, u ≠ v → f u = 0) : ∀ k, sumF f k = if v < k then f v else 0 := by
  intro k
  induction k with
  | zero => rfl
  | succ k ih =>
    rw [sumF, ih]
    by_cases h1 : v < k
    · rw [if_pos h1, if_pos (by omega), h k (by omega)]; omega
    · rw [if_neg h1]
      by_cases h2 : v = k
      · subst h2; rw [if_pos (by omega)]; omega
      · rw [if_neg (by omega), h k (by omega)]
/-- the size of a node's subtree -/
def sz (xs : List Int) (v : Nat) : Nat := span 1 (xs.drop v)
/-- the sizes of the first i children add up -/
theorem kids_sum {xs : List Int} (ht : isTree xs = true) {v d : Nat} (hd : xs[v]? = some (d : Int)) : ∀ i, i ≤ d → sumF (fun u => if ∃ j, j < i ∧ kidAt xs v j = u then sz xs u else 0) xs.length + (v + 1) = kidAt xs v i := by
  intro i
  induction i with
  | zero =>
    intro _
    rw [sumF_congr (g := fun _ => 0) (fun u _ => if_neg (fun ⟨j, h, _⟩ => by omega)), sumF_one (v := 0) (f := fun _ => 0) (fun _ _ => rfl)]
    simp [kidAt]
  | succ i ih =>
    intro hi
    have h1 := ih (by omega)
    have hk := kid_lt ht hd (i := i) (by omega)
    have hs : sumF (fun u => if ∃ j, j < i + 1 ∧ kidAt xs v j = u then sz xs u else 0) xs.length = sumF (fun u => (if ∃ j, j < i ∧ kidAt xs v j = u then sz xs u else 0) + (if u = kidAt xs v i then sz xs u else 0)) xs.length := by
      refine sumF_congr fun u _ => ?_
      by_cases e : u = kidAt xs v i
      · rw [if_pos ⟨i, by omega, e.symm⟩, if_pos e, if_neg]
        · omega
        · rintro ⟨j, hj, h2⟩
          have h3 := kid_le (xs := xs) (v := v) (i := j + 1) (j := i) hj
          have h4 := kid_lt ht hd (i := j) (by omega)
          have h5 := span_pos h4
          simp only [kidAt] at h3
          omega
      · rw [if_neg e]
        by_cases h2 : ∃ j, j < i ∧ kidAt xs v j = u
        · obtain ⟨j, hj, h3⟩ := h2
          rw [if_pos ⟨j, by omega, h3⟩, if_pos ⟨j, hj, h3⟩]; omega
        · rw [if_neg h2, if_neg]
          rintro ⟨j, hj, h3⟩
          rcases Nat.lt_or_ge j i with h4 | h4
          · exact h2 ⟨j, h4, h3⟩
          · obtain rfl : j = i := by omega
            exact e h3.symm
    rw [hs, sumF_add, sumF_one (v := kidAt xs v i) (f := fun u => if u = kidAt xs v i then sz xs u else 0) (fun u hu => if_neg hu), if_pos hk, if_pos rfl]
    simp only [kidAt, sz] at *
    omega
theorem kids_all {xs ps : List Int} (ht : isTree xs = true) (hp : ParsOK xs ps) {v : Nat} (hv : v < xs.length) : sumF (fun u => if parOf ps (u : Int) = (v : Int) then sz xs u else 0) xs.length + 1 = sz xs v := by
  obtain ⟨d, hd, _⟩ := tree_degN ht hv
  have h1 := kids_sum ht hd d (Nat.le_refl _)
  have h2 := kid_end ht hd
  have h3 : sumF (fun u => if parOf ps (u : Int) = (v : Int) then sz xs u else 0) xs.length = sumF (fun u => if ∃ j, j < d ∧ kidAt xs v j = u then sz xs u else 0) xs.length := by
    refine sumF_congr fun u hu => ?_
    have hiff : parOf ps (u : Int) = (v : Int) ↔ ∃ j, j < d ∧ kidAt xs v j = u := by
      constructor
      · intro h
        rcases Nat.eq_zero_or_pos u with e | e
        · subst e
          have := (parents_of ht hp).2.1
          have h0 : parOf ps ((0 : Nat) : Int) = parOf ps 0 := rfl
          omega
        · obtain ⟨q, hq⟩ := kid_has ht e hu
          have h4 := hp.2.2 q u hq
          rw [parOf, Int.toNat_natCast, h4] at h
          simp only [Option.getD_some] at h
          obtain rfl : q = v := by omega
          obtain ⟨d', i, hd', hi, hk⟩ := hq
          rw [hd] at hd'
          injection hd' with hd'
          exact ⟨i, by omega, hk⟩
      · rintro ⟨j, hj, h⟩
        rw [parOf, Int.toNat_natCast, hp.2.2 v u ⟨d, j, hd, hj, h⟩]
        rfl
    by_cases hq : parOf ps (u : Int) = (v : Int)
    · rw [if_pos hq, if_pos (hiff.1 hq)]
    · rw [if_neg hq, if_neg (fun h => hq (hiff.2 h))]
  rw [h3]
  simp only [sz] at *
  omega

/-- the sizes of those that can come next -/
def rdySum (xs ps b : List Int) (k : Nat) : Nat := sumF (fun u => if rdyB ps b u then sz xs u else 0) k
theorem rdySum_step {xs ps b : List Int} (ht : isTree xs = true) (hp : ParsOK xs ps) (hb : Bgn xs.length ps b) {v : Nat} (hv : v < xs.length) (hr : rdyB ps b v = true) : rdySum xs ps (b ++ [(v : Int)]) xs.length + 1 = rdySum xs ps b xs.length := by
  have hpar := parents_of ht hp
  obtain ⟨r1, r2⟩ := of_decide_eq_true hr
  have hk := kids_all ht hp hv
  have key : sumF (fun u => (if rdyB ps (b ++ [(v : Int)]) u then sz xs u else 0) + (if u = v then sz xs u else 0)) xs.length = sumF (fun u => (if rdyB ps b u then sz xs u else 0) + (if parOf ps (u : Int) = (v : Int) then sz xs u else 0)) xs.length := by
    refine sumF_congr fun u hu => ?_
    by_cases e : u = v
    · subst e
      have h1 : rdyB ps (b ++ [(u : Int)]) u = false := decide_eq_false fun h => h.1 (by simp)
      have h2 : ¬ parOf ps (u : Int) = (u : Int) := fun h => by
        rcases Nat.eq_zero_or_pos u with e | e
        · subst e; have := hpar.2.1; have h0 : parOf ps ((0 : Nat) : Int) = parOf ps 0 := rfl; omega
        · have := hpar.2.2 u e hu; omega
      rw [h1, hr, if_pos rfl, if_neg h2]; simp
    · rw [if_neg e]
      have hue : ¬ (u : Int) = (v : Int) := by omega
      by_cases hub : (u : Int) ∈ b
      · have h1 : rdyB ps (b ++ [(v : Int)]) u = false := decide_eq_false fun h => h.1 (by simp [hub])
        have h2 : rdyB ps b u = false := decide_eq_false fun h => h.1 hub
        have h3 : ¬ parOf ps (u : Int) = (v : Int) := fun h => by
          obtain ⟨i, hi⟩ := List.mem_iff_getElem?.1 hub
          rcases hb.2.2 i _ (List.getElem?_eq_some_iff.1 hi).1 hi with h4 | h4
          · omega
          · rw [h] at h4; exact r1 (List.mem_of_mem_take h4)
        rw [h1, h2, if_neg h3]
      · by_cases hq : parOf ps (u : Int) = (v : Int)
        · have h1 : rdyB ps (b ++ [(v : Int)]) u = true := decide_eq_true ⟨by simp [hub, hue], .inr (by rw [hq]; simp)⟩
          have h2 : rdyB ps b u = false := decide_eq_false fun h => by
            rcases h.2 with h4 | h4
            · subst h4; have := hpar.2.1; have h0 : parOf ps ((0 : Nat) : Int) = parOf ps 0 := rfl; omega
            · rw [hq] at h4; exact r1 h4
          rw [h1, h2, if_pos hq]; simp
        · have h1 : rdyB ps (b ++ [(v : Int)]) u = rdyB ps b u := by
            unfold rdyB
            simp only [List.mem_append, List.mem_singleton, hue, hq, or_false]
          rw [h1, if_neg hq]
  rw [sumF_add, sumF_add, sumF_one (v := v) (f := fun u => if u = v then sz xs u else 0) (fun u hu => if_neg hu), if_pos hv, if_pos rfl] at key
  simp only [rdySum]
  omega
theorem rdySum_all {xs ps : List Int} (ht : isTree xs = true) (hp : ParsOK xs ps) : ∀ (m : Nat) (b : List Int), b.length = m → Bgn xs.length ps b → rdySum xs ps b xs.length + b.length = xs.length := by
  have hpar := parents_of ht hp
  have hl := tree_len ht
  intro m
  induction m with
  | zero =>
    intro b hb _
    obtain rfl := List.length_eq_zero_iff.1 hb
    have h1 : rdySum xs ps [] xs.length = sumF (fun u => if u = 0 then sz xs u else 0) xs.length := by
      refine sumF_congr fun u _ => ?_
      have : rdyB ps [] u = decide (u = 0) := by unfold rdyB; simp
      rw [this]
      by_cases e : u = 0
      · simp [e]
      · simp [e]
    rw [h1, sumF_one (v := 0) (f := fun u => if u = 0 then sz xs u else 0) (fun u hu => if_neg hu), if_pos (by omega), if_pos rfl]
    have := fin_root ht
    simp only [fin] at this
    simp only [sz, List.length_nil]
    omega
  | succ m ih =>
    intro b hb hbg
    have hne : b ≠ [] := fun e => by rw [e] at hb; simp at hb
    have hsp := List.dropLast_concat_getLast hne
    generalize b.dropLast = b' at hsp
    generalize b.getLast hne = x at hsp
    subst hsp
    have hb' : b'.length = m := by simpa using hb
    have hbg' : Bgn xs.length ps b' := by have := bgn_take hbg b'.length; rwa [List.take_left'] at this; rfl
    have hx := hbg.2.1 x (by simp)
    obtain ⟨v, rfl⟩ := Int.eq_ofNat_of_zero_le hx.1
    have hv : v < xs.length := by omega
    have hnd := List.nodup_append.1 hbg.1
    have hvb : (v : Int) ∉ b' := fun h => hnd.2.2 _ h _ (by simp) rfl
    have hgr := hbg.2.2 b'.length (v : Int) (by simp) (by simp)
    have hr : rdyB ps b' v = true := by
      refine decide_eq_true ⟨hvb, ?_⟩
      rcases hgr with h | h
      · rcases Nat.eq_zero_or_pos v with e | e
        · exact .inl e
        · have := hpar.2.2 v e hv; omega
      · rw [List.take_left' rfl] at h; exact .inr h
    have h1 := rdySum_step ht hp hbg' hv hr
    have h2 := ih b' hb' hbg'
    rw [List.length_append, List.length_singleton]
    omega

/-- the product of the sizes of the nodes below k that are to come -/
def prodTo (xs b : List Int) : Nat → Nat
  | 0 => 1
  | k + 1 => if (k : Int) ∈ b then prodTo xs b k else prodTo xs b k * sz xs k
theorem prodTo_out {xs b : List Int} {v : Nat} (hvb : (v : Int) ∉ b) : ∀ k, prodTo xs b k = prodTo xs (b ++ [(v : Int)]) k * (if v < k then sz xs v else 1) := by
  intro k
  induction k with
  | zero => rfl
  | succ k ih =>
    rw [prodTo, prodTo, ih]
    by_cases e : k = v
    · subst e
      simp [hvb]
    · have hkv : ¬ (k : Int) = (v : Int) := by omega
      have hm : ((k : Int) ∈ b ++ [(v : Int)]) ↔ (k : Int) ∈ b := by simp [hkv]
      by_cases h : (k : Int) ∈ b
      · rw [if_pos h, if_pos (hm.2 h)]
        by_cases h2 : v < k
        · rw [if_pos h2, if_pos (by omega)]
        · rw [if_neg h2, if_neg (by omega)]
      · rw [if_neg h, if_neg (fun h2 => h (hm.1 h2))]
        by_cases h2 : v < k
        · rw [if_pos h2, if_pos (by omega), Nat.mul_assoc, Nat.mul_comm (sz xs v), Nat.mul_assoc]
        · rw [if_neg h2, if_neg (by omega), Nat.mul_one, Nat.mul_one]
theorem prodTo_done {xs b : List Int} : ∀ k, (∀ v : Nat, v < k → (v : Int) ∈ b) → prodTo xs b k = 1 := by
  intro k
  induction k with
  | zero => intro _; rfl
  | succ k ih => intro h; rw [prodTo, if_pos (h k (by omega)), ih fun v hv => h v (by omega)]
def facN : Nat → Nat
  | 0 => 1
  | k + 1 => (k + 1) * facN k
theorem dvd_rdySum {xs ps b : List Int} {D q m : Nat} (h : ∀ v : Nat, v < q → rdyB ps b v = true → D ∣ sz xs v * facN m) : ∀ k, k ≤ q → D ∣ rdySum xs ps b k * facN m := by
  intro k
  induction k with
  | zero => intro _; simp [rdySum, sumF]
  | succ k ih =>
    intro hk
    have h1 := ih (by omega)
    simp only [rdySum, sumF] at *
    rw [Nat.add_mul]
    refine Nat.dvd_add h1 ?_
    cases hb : rdyB ps b k
    · simp
    · simpa using h k (by omega) hb
/-- the numbers of orders are whole -/
theorem hook_dvd {xs ps : List Int} (ht : isTree xs = true) (hp : ParsOK xs ps) : ∀ (m : Nat) (b : List Int), Bgn xs.length ps b → b.length + m = xs.length → prodTo xs b xs.length ∣ facN m := by
  intro m
  induction m with
  | zero =>
    intro b hb hl
    have hord := bgn_ord hb (by omega)
    rw [prodTo_done _ fun v hv => ord_has hord hv]
    exact Nat.one_dvd _
  | succ m ih =>
    intro b hb hl
    have hs := rdySum_all ht hp b.length b rfl hb
    have h1 : rdySum xs ps b xs.length = m + 1 := by omega
    have h2 := dvd_rdySum (xs := xs) (ps := ps) (b := b) (D := prodTo xs b xs.length) (q := xs.length) (m := m) (fun v hv hr => by
      have hvb := (of_decide_eq_true hr).1
      rw [prodTo_out hvb xs.length, if_pos hv, Nat.mul_comm]
      refine Nat.mul_dvd_mul_left _ (ih (b ++ [(v : Int)]) (bgn_step (parents_of ht hp) hb (mem_rdyTo.2 ⟨v, rfl, hv, hr⟩)) ?_)
      simp only [List.length_append, List.length_singleton]; omega) xs.length (Nat.le_refl _)
    rw [h1] at h2
    exact h2
end M
end Go.Proofs.Ytkcldfliiagloaa

/- slices.Index: the first place of a number. -/
namespace Go.Proofs.Ytkcldfliiagloaa
open Go.RowKit

namespace M
theorem nextOf_mem (l : List Int) (x : Int) : ∀ (m k : Nat), k + m = l.length → decide (0 ≤ nextOf l x k m) = decide (x ∈ l.drop k) := by
  intro m
  induction m with
  | zero => intro k h; rw [List.drop_of_length_le (by omega)]; simp [nextOf]
  | succ m ih =>
    intro k h
    obtain ⟨y, hy⟩ : ∃ y, l[k]? = some y := ⟨_, List.getElem?_eq_getElem (by omega)⟩
    by_cases hyx : y = x
    · subst hyx
      rw [nextOf_hit hy, drop_at hy, decide_eq_true (by omega), decide_eq_true List.mem_cons_self]
    · rw [nextOf_miss hy hyx, ih (k + 1) (by omega), drop_at hy]
      have e : (x ∈ y :: l.drop (k + 1)) = (x ∈ l.drop (k + 1)) := by
        rw [List.mem_cons]
        exact propext ⟨fun h => h.resolve_left (fun e => hyx e.symm), .inr⟩
      simp only [e]
theorem idxOf_mem (l : List Int) (x : Int) : decide (0 ≤ idxOf l x) = decide (x ∈ l) := by
  have := nextOf_mem l x l.length 0 (by omega)
  rw [List.drop_zero] at this
  exact this
end M

set_option maxHeartbeats 1000000 in
theorem indexFirst (A : Option Addr) (gs : List Int) (g c : Nat) (s : Int) (w : World) (hg : Hid (gs.length = g)) (hg' : g ≤ 1048576) (h : Hid (Ints w w.heap.size A gs)) (r : Int) (hr : Hid (M.idxOf gs s = r)) :
    Calls Try.prog 217 #[.slice A g c, .int .i64 s] w fun e w' => e = .returned (.int .i64 r) ∧ w = w' := by
  have h0 : Hid (M.nextOf gs s 0 (g - 0) = r) := by show _ = _; rw [← hr.out, M.idxOf, hg.out]; rfl
  clear hr
  go_enter Try.func217, Try.ntmps217
  go_wp2
  go_loopw [8] (fun i wr => ∃ k : Nat, k ≤ g ∧ i = .int .i64 (k : Int) ∧ w = wr ∧ Hid (M.nextOf gs s k (g - k) = r)) (fun i _ => g - (intOf i).toNat)
  case atStart => exact ⟨0, Nat.zero_le _, rfl, rfl, h0⟩
  case round =>
    obtain ⟨k, hk, rfl, rfl, hn⟩ := hrel
    clear h0
    by_cases hlt : k < g
    · have hki : (k : Int) < (g : Int) := by omega
      have hk0 : (0 : Int) ≤ (k : Int) := by omega
      obtain ⟨b, off, x, rfl, hbB, hc, hX⟩ := h.out.at_ (k := k) (by rw [hg.out]; exact hlt)
      have hm : g - k = g - (k + 1) + 1 := by omega
      by_cases hxs : s = x
      · subst hxs
        have hin : Hid ((k : Int) = r) := by show _ = _; rw [← hn.out, hm, M.nextOf_hit hX.out]
        clear hn hX hm
        go_wp2
        go_ret
        exact ⟨by rw [← hin.out]; rfl, rfl⟩
      · have hb : (s == x) = false := by simpa using hxs
        have hn2 : Hid (M.nextOf gs s (k + 1) (g - (k + 1)) = r) := by show _ = _; rw [← hn.out, hm, M.nextOf_miss hX.out (fun e => hxs e.symm)]
        clear hxs hn hX hm
        go_wp2
        go_roundw
        case rel => exact ⟨k + 1, by omega, by go_num, trivial, hn2⟩
        case measure => simp [intOf]; omega
    · obtain rfl : k = g := by omega
      have hge : ¬ (k : Int) < (k : Int) := by omega
      have hout : Hid (-1 = r) := by show _ = _; rw [← hn.out, Nat.sub_self]; rfl
      clear hn
      go_wp2
      go_ret
      exact ⟨by rw [← hout.out]; rfl, rfl⟩

theorem containsIs (A : Option Addr) (gs : List Int) (g c : Nat) (s : Int) (w : World) (hg : Hid (gs.length = g)) (hg' : g ≤ 1048576) (h : Hid (Ints w w.heap.size A gs)) (b : Bool) (hb : Hid (decide (s ∈ gs) = b)) :
    Calls Try.prog 153 #[.slice A g c, .int .i64 s] w fun e w' => e = .returned (.bool b) ∧ w = w' := by
  obtain ⟨r, hr⟩ : ∃ r, Hid (M.idxOf gs s = r) := ⟨_, rfl⟩
  have hd : decide ((0 : Int) ≤ r) = b := by rw [← hr.out, M.idxOf_mem, hb.out]
  go_enter Try.func153, Try.ntmps153
  go_wp2_with fail
  refine (indexFirst A gs g c s w hg hg' h r hr).mono ?_
  rintro e w' ⟨rfl, rfl⟩
  clear hr hb
  cases b
  · go_wp2
    go_ret
    exact ⟨rfl, rfl⟩
  · go_wp2
    go_ret
    exact ⟨rfl, rfl⟩
end Go.Proofs.Ytkcldfliiagloaa

/- ways: the number of growing orders with a beginning, as the program counts it; factorial. -/
namespace Go.Proofs.Ytkcldfliiagloaa
open Go.RowKit

namespace M
theorem facN_pos : ∀ k, 1 ≤ facN k := by
  intro k
  induction k with
  | zero => exact Nat.le_refl _
  | succ k ih => rw [facN]; exact Nat.le_trans ih (Nat.le_mul_of_pos_left _ (by omega))
theorem facN_mono {a b : Nat} (h : a ≤ b) : facN a ≤ facN b := by
  induction b with
  | zero => obtain rfl : a = 0 := by omega
            exact Nat.le_refl _
  | succ b ih =>
    rcases Nat.lt_or_ge a (b + 1) with h1 | h1
    · rw [facN]; exact Nat.le_trans (ih (by omega)) (Nat.le_mul_of_pos_left _ (by omega))
    · obtain rfl : a = b + 1 := by omega
      exact Nat.le_refl _
theorem facN_20 {k : Nat} (h : k ≤ 20) : facN k ≤ 2432902008176640000 := Nat.le_trans (facN_mono h) (by decide)
theorem prodTo_pos {xs : List Int} (b : List Int) : ∀ k, k ≤ xs.length → 1 ≤ prodTo xs b k := by
  intro k
  induction k with
  | zero => intro _; exact Nat.le_refl _
  | succ k ih =>
    intro hk
    rw [prodTo]
    split
    · exact ih (by omega)
    · exact Nat.mul_pos (ih (by omega)) (span_pos (by omega))
theorem prodTo_mono {xs : List Int} (b : List Int) {k : Nat} : ∀ m, k ≤ m → m ≤ xs.length → prodTo xs b k ≤ prodTo xs b m := by
  intro m
  induction m with
  | zero => intro h _; obtain rfl : k = 0 := by omega
            exact Nat.le_refl _
  | succ m ih =>
    intro h hm
    rcases Nat.lt_or_ge k (m + 1) with h1 | h1
    · refine Nat.le_trans (ih (by omega) (by omega)) ?_
      rw [prodTo]
      split
      · exact Nat.le_refl _
      · exact Nat.le_mul_of_pos_right _ (span_pos (by omega))
    · obtain rfl : k = m + 1 := by omega
      exact Nat.le_refl _
theorem prodTo_le {xs ps b : List Int} (ht : isTree xs = true) (hp : ParsOK xs ps) (hb : Bgn xs.length ps b) (h20 : xs.length ≤ 20) {k : Nat} (hk : k ≤ xs.length) : prodTo xs b k ≤ 2432902008176640000 := by
  have hl := bgn_len hb
  have h1 := Nat.le_of_dvd (facN_pos _) (hook_dvd ht hp (xs.length - b.length) b hb (by omega))
  exact Nat.le_trans (prodTo_mono b xs.length hk (Nat.le_refl _)) (Nat.le_trans h1 (facN_20 (by omega)))
/-- the number of growing orders with a beginning -/
def waysN (xs b : List Int) : Nat := facN (xs.length - b.length) / prodTo xs b xs.length
end M

set_option maxHeartbeats 1000000 in
theorem factorial9 (n : Nat) (w : World) (hn : n ≤ 20) : Calls Try.prog 170 #[.int .i64 (n : Int)] w fun e w' => e = .returned (.int .i64 (M.facN n : Int)) ∧ w = w' := by
  go_enter Try.func170, Try.ntmps170
  go_wp2
  go_loop [3, 4] (fun q i => ∃ (k p : Nat), 1 ≤ k ∧ (k ≤ n ∨ k = 1) ∧ i = .int .i64 ((k : Int) + 1) ∧ q = .int .i64 (p : Int) ∧ Hid (M.facN k = p)) (fun _ i => 40 - (intOf i).toNat)
  case atStart => exact ⟨1, 1, Nat.le_refl _, .inr rfl, rfl, rfl, rfl⟩
  case round =>
    obtain ⟨k, p, hk1, hk, rfl, rfl, hp⟩ := hrel
    by_cases hlt : k < n
    · have hlt2 : (k : Int) + 1 ≤ (n : Int) := by omega
      have hs := M.facN_20 (k := k + 1) (by omega)
      obtain ⟨q, hq⟩ : ∃ q, Hid (M.facN (k + 1) = q) := ⟨_, rfl⟩
      have hqe : (p : Int) * ((k : Int) + 1) = (q : Int) := by rw [← hq.out, M.facN, hp.out, Int.natCast_mul, Int.mul_comm]; rfl
      rw [hq.out] at hs
      go_wp2
      go_round
      case rel => exact ⟨k + 1, q, by omega, .inl (by omega), by go_num, rfl, hq⟩
      case measure => simp [intOf]; omega
    · have hge : ¬ (k : Int) + 1 ≤ (n : Int) := by omega
      have he : Hid (M.facN n = p) := by
        show _ = _
        rw [← hp.out]
        rcases Nat.lt_or_ge n 1 with h1 | h1
        · obtain rfl : n = 0 := by omega
          obtain rfl : k = 1 := by omega
          rfl
        · obtain rfl : k = n := by omega
          rfl
      go_wp2
      go_ret
      exact ⟨by rw [he.out]; rfl, rfl⟩

theorem order_cells9 (w : World) (u v : Value) (t : TypeId) : (w.alloc (.cells #[u, v] t)).cell? ⟨w.heap.size, 0, none⟩ = some u ∧ (w.alloc (.cells #[u, v] t)).cell? ⟨w.heap.size, 1, none⟩ = some v :=
  ⟨by have := World.cell?_alloc_new w #[u, v] t 0; rw [this]; rfl, by have := World.cell?_alloc_new w #[u, v] t 1; rw [this]; rfl⟩

set_option maxHeartbeats 4000000 in
set_option maxRecDepth 100000 in
theorem ways9 (A A2 : Option Addr) (xs b : List Int) (n c L c2 : Nat) (w : World) (hn : Hid (xs.length = n)) (h20 : n ≤ 20) (hc1 : n ≤ c) (hc2 : c ≤ 1000000000000) (ht : Hid (M.isTree xs = true)) (hbg : Hid (M.Bgn n (M.parents xs) b)) (hL : Hid (b.length = L)) (hex : Hid (M.ParsOK xs (M.parents xs))) (h : Hid (Ints w w.heap.size A xs)) (h2 : Hid (Ints w w.heap.size A2 b)) :
    Calls Try.prog 94 #[.agg #[.slice A n c, .slice A2 L c2]] w fun e w' => e = .returned (.int .i64 (M.waysN xs b : Int)) ∧ Below w.heap.size w w' := by
  have hbg' : M.Bgn xs.length (M.parents xs) b := by rw [hn.out]; exact hbg.out
  have hLn : L ≤ n := by rw [← hL.out]; exact M.bgn_len hbg.out
  have hle := Lib.hid (fun k (hk : k ≤ xs.length) => M.prodTo_le ht.out hex.out hbg' (by rw [hn.out]; exact h20) hk)
  obtain ⟨d0, d1⟩ := order_cells9 w (.slice A n c) (.slice A2 L c2) 96
  have hB0 := Lib.hid (bal (b0 w) (.cells #[.slice A n c, .slice A2 L c2] 96))
  have H1 := Lib.hid (h.out.al (.cells #[.slice A n c, .slice A2 L c2] 96))
  have H2 := Lib.hid (h2.out.al (.cells #[.slice A n c, .slice A2 L c2] 96))
  obtain ⟨W, hW⟩ : ∃ W, W = w.alloc (.cells #[.slice A n c, .slice A2 L c2] 96) := ⟨_, rfl⟩
  rw [← hW] at d0 d1 hB0 H1 H2
  have hst : Hid (M.prodTo xs b 0 = 1) := rfl
  have hsz : Hid (∀ (v S : Nat), v < n → M.sz xs v = S → Calls Try.prog 159 #[.slice A n c, .int .i64 (v : Int)] W fun e w' => e = .returned (.int .i64 (S : Int)) ∧ W = w') := fun v S hv hS => by
    have := sizeAt A xs c v S W hS (by rw [hn.out]; omega) (by rw [hn.out]; exact hc1) (by omega) (M.tree_ok ht.out (by rw [hn.out]; exact hv)) H1.out
    rw [hn.out] at this
    exact this.mono fun e w' ⟨he, hw⟩ => ⟨he, hw⟩
  clear h h2 hbg'
  go_enter Try.func94, Try.ntmps94
  go_wp2
  rw [← hW]
  clear hW
  go_loop [4, 5, 11] (fun q _ i => ∃ (k p : Nat), k ≤ n ∧ i = .int .i64 (k : Int) ∧ q = .int .i64 (p : Int) ∧ Hid (M.prodTo xs b k = p)) (fun _ _ i => n - (intOf i).toNat)
  case atStart => exact ⟨0, 1, Nat.zero_le _, rfl, rfl, hst⟩
  case round =>
    obtain ⟨k, p, hk, rfl, rfl, hp⟩ := hrel
    clear hst
    by_cases hlt : k < n
    · have hki : (k : Int) < (n : Int) := by omega
      obtain ⟨q, hq⟩ : ∃ q, Hid (decide ((k : Int) ∈ b) = q) := ⟨_, rfl⟩
      have HC := Lib.hid (containsIs A2 b L c2 (k : Int) W hL (by omega) H2 q hq)
      cases q
      · obtain ⟨S, hS⟩ : ∃ S, Hid (M.sz xs k = S) := ⟨_, rfl⟩
        have hs : Hid (M.prodTo xs b (k + 1) = p * S) := by show _ = _; rw [M.prodTo, if_neg (of_decide_eq_false hq.out), hp.out, hS.out]
        have hbd := hle.out (k + 1) (by rw [hn.out]; omega)
        rw [hs.out] at hbd
        obtain ⟨r, hr⟩ : ∃ r, Hid (p * S = r) := ⟨_, rfl⟩
        rw [hr.out] at hbd hs
        have hmul : (p : Int) * (S : Int) = (r : Int) := by rw [← hr.out, Int.natCast_mul]
        have HS := Lib.hid (hsz.out k S hlt hS.out)
        go_wp2_with fail
        refine HC.out.mono ?_
        rintro e w' ⟨rfl, rfl⟩
        go_wp2_with fail
        refine HS.out.mono ?_
        rintro e w' ⟨rfl, rfl⟩
        go_wp2
        go_round
        case rel => exact ⟨k + 1, r, by omega, by go_num, rfl, hs⟩
        case measure => simp [intOf]; omega
      · have hs : Hid (M.prodTo xs b (k + 1) = p) := by show _ = _; rw [M.prodTo, if_pos (of_decide_eq_true hq.out), hp.out]
        go_wp2_with fail
        refine HC.out.mono ?_
        rintro e w' ⟨rfl, rfl⟩
        go_wp2
        go_round
        case rel => exact ⟨k + 1, p, by omega, by go_num, rfl, hs⟩
        case measure => simp [intOf]; omega
    · obtain rfl : k = n := by omega
      have hge : ¬ (k : Int) < (k : Int) := by omega
      have hwr : IntKind.i64.wrap ((k : Int) - (L : Int)) = ((k - L : Nat) : Int) := by rw [show (k : Int) - (L : Int) = ((k - L : Nat) : Int) by omega]; exact IntWalk.i64_in _ (by omega)
      have HF := Lib.hid (factorial9 (k - L) W (by omega))
      obtain ⟨f, hf⟩ : ∃ f, Hid (M.facN (k - L) = f) := ⟨_, rfl⟩
      rw [hf.out] at HF
      have hf20 : f ≤ 2432902008176640000 := by rw [← hf.out]; exact M.facN_20 (by omega)
      have hp1 : 1 ≤ p := by rw [← hp.out]; exact M.prodTo_pos b k (by rw [hn.out]; exact Nat.le_refl _)
      have hp0 : ¬ (p : Int) = 0 := by omega
      obtain ⟨u, hu⟩ : ∃ u, Hid (f / p = u) := ⟨_, rfl⟩
      have hR : Hid (M.waysN xs b = u) := by show _ = _; rw [M.waysN, hn.out, hL.out, hf.out, hp.out, hu.out]
      have hdl : u ≤ f := by rw [← hu.out]; exact Nat.div_le_self _ _
      have hq : IntKind.i64.wrap ((f : Int).tdiv (p : Int)) = (u : Int) := by
        rw [show (f : Int).tdiv (p : Int) = (u : Int) by rw [← Int.ofNat_tdiv, hu.out]]
        exact IntWalk.i64_in _ (by omega)
      have h9 : (f : Int) / (p : Int) = (u : Int) := by rw [← hu.out]; exact (Int.natCast_ediv f p).symm
      have hq9 : Hid (wrap64 ((f : Int) / (p : Int)) = (u : Int)) := by show _ = _; rw [h9]; exact IntWalk.wrap64_in _ ⟨by omega, by omega⟩
      clear h9 hq
      go_wp2_with fail
      refine HF.out.mono ?_
      rintro e w' ⟨rfl, rfl⟩
      go_wp2
      go_ret
      exact ⟨by rw [hR.out, ← hq9.out]; rfl, hB0.out⟩
end Go.Proofs.Ytkcldfliiagloaa

/- Ranks of growing orders: the numbers of orders that go on with each node add up; what comes ahead of an order; the order with a rank. Mathematics, no conditions. -/
namespace Go.Proofs.Ytkcldfliiagloaa
namespace M
theorem waysN_eq (xs b : List Int) : waysN xs b = facN (xs.length - b.length) / prodTo xs b xs.length := rfl
/-- numbers added up over a row -/
def sumL (f : Int → Nat) : List Int → Nat
  | [] => 0
  | x :: r => f x + sumL f r
theorem sumL_append (f : Int → Nat) (a b : List Int) : sumL f (a ++ b) = sumL f a + sumL f b := by
  induction a with
  | nil => simp [sumL]
  | cons x r ih => simp only [List.cons_append, sumL, ih]; omega
theorem sumL_take {f : Int → Nat} {r : List Int} {j : Nat} {x : Int} (h : r[j]? = some x) : sumL f (r.take (j + 1)) = sumL f (r.take j) + f x := by
  rw [List.take_add_one, h, sumL_append]; rfl
theorem sumL_drop {f : Int → Nat} {r : List Int} {j : Nat} {x : Int} (h : r[j]? = some x) : sumL f (r.drop j) = f x + sumL f (r.drop (j + 1)) := by
  obtain ⟨hlt, e⟩ := List.getElem?_eq_some_iff.1 h
  rw [List.drop_eq_getElem_cons hlt, e]; rfl
theorem sumL_split (f : Int → Nat) (r : List Int) (j : Nat) : sumL f r = sumL f (r.take j) + sumL f (r.drop j) := by
  rw [← sumL_append, List.take_append_drop]
theorem sumL_le {f g : Int → Nat} {r : List Int} (h : ∀ x ∈ r, f x ≤ g x) : sumL f r ≤ sumL g r := by
  induction r with
  | nil => exact Nat.le_refl _
  | cons x r ih =>
    have h1 := h x List.mem_cons_self
    have h2 := ih fun y hy => h y (List.mem_cons_of_mem _ hy)
    simp only [sumL]; omega
theorem sumL_zero {f : Int → Nat} {r : List Int} (h : ∀ x ∈ r, f x = 0) : sumL f r = 0 := by
  induction r with
  | nil => rfl
  | cons x r ih =>
    have h1 := h x List.mem_cons_self
    have h2 := ih fun y hy => h y (List.mem_cons_of_mem _ hy)
    simp only [sumL]; omega
theorem sumL_rdy (f : Int → Nat) (ps b : List Int) (k : Nat) : sumL f (rdyTo ps b k) = sumF (fun u => if rdyB ps b u then f (u : Int) else 0) k := by
  induction k with
  | zero => rfl
  | succ k ih =>
    rw [sumF, ← ih]
    cases h : rdyB ps b k
    · rw [rdyTo_miss h]; simp
    · rw [rdyTo_hit h, sumL_append]; simp [sumL]
/-- the numbers of orders that go on with each node that can come next add up -/
theorem ways_sum {xs ps b : List Int} (ht : isTree xs = true) (hp : ParsOK xs ps) (hb : Bgn xs.length ps b) (hl : b.length < xs.length) : sumL (fun x => waysN xs (b ++ [x])) (rdyTo ps b xs.length) = waysN xs b := by
  obtain ⟨m, hm⟩ : ∃ m, b.length + (m + 1) = xs.length := ⟨xs.length - b.length - 1, by omega⟩
  have hP := prodTo_pos (xs := xs) b xs.length (Nat.le_refl _)
  have hs := rdySum_all ht hp b.length b rfl hb
  have h1 : rdySum xs ps b xs.length = m + 1 := by omega
  have hd := hook_dvd ht hp (m + 1) b hb hm
  have key : ∀ k, k ≤ xs.length → sumF (fun u => if rdyB ps b u then waysN xs (b ++ [(u : Int)]) else 0) k * prodTo xs b xs.length = rdySum xs ps b k * facN m := by
    intro k
    induction k with
    | zero => intro _; simp [sumF, rdySum]
    | succ k ih =>
      intro hk
      have h2 := ih (by omega)
      simp only [rdySum, sumF] at *
      rw [Nat.add_mul, Nat.add_mul, h2]
      congr 1
      cases hr : rdyB ps b k
      · simp
      · have hkb := (of_decide_eq_true hr).1
        have hb2 := bgn_step (parents_of ht hp) hb (mem_rdyTo.2 ⟨k, rfl, by omega, hr⟩)
        have hd2 := hook_dvd ht hp m (b ++ [(k : Int)]) hb2 (by simp only [List.length_append, List.length_singleton]; omega)
        have ho := prodTo_out (xs := xs) hkb xs.length
        rw [if_pos (by omega : k < xs.length)] at ho
        have hlen : xs.length - (b ++ [(k : Int)]).length = m := by simp only [List.length_append, List.length_singleton]; omega
        simp only [if_true]
        rw [waysN_eq, hlen, ho, ← Nat.mul_assoc, Nat.div_mul_cancel hd2, Nat.mul_comm]
  have h3 := key xs.length (Nat.le_refl _)
  rw [h1] at h3
  rw [sumL_rdy]
  have h4 : waysN xs b * prodTo xs b xs.length = (m + 1) * facN m := by
    rw [waysN_eq, show xs.length - b.length = m + 1 by omega, Nat.div_mul_cancel hd]; rfl
  exact Nat.eq_of_mul_eq_mul_right hP (by rw [h3, h4])
theorem ways_le {xs b : List Int} (h20 : xs.length ≤ 20) : waysN xs b ≤ 2432902008176640000 := by
  rw [waysN_eq]
  exact Nat.le_trans (Nat.div_le_self _ _) (facN_20 (by omega))
/-- what a node adds to the rank -/
def gR (xs b : List Int) (v x : Int) : Nat := if x < v then waysN xs (b ++ [x]) else 0
theorem gR_hit {xs b : List Int} {v x : Int} (h : x < v) : gR xs b v x = waysN xs (b ++ [x]) := if_pos h
theorem gR_miss {xs b : List Int} {v x : Int} (h : ¬ x < v) : gR xs b v x = 0 := if_neg h
theorem asc_at9 {r : List Int} (h : r.Pairwise (· < ·)) {i j : Nat} {x y : Int} (hij : i < j) (hx : r[i]? = some x) (hy : r[j]? = some y) : x < y := by
  obtain ⟨h1, h2⟩ := List.getElem?_eq_some_iff.1 hx
  obtain ⟨h3, h4⟩ := List.getElem?_eq_some_iff.1 hy
  have := List.pairwise_iff_getElem.1 h i j h1 h3 hij
  rw [h2, h4] at this
  exact this
theorem gR_stop {xs b r : List Int} {v : Int} {p : Nat} (ha : r.Pairwise (· < ·)) (hv : r[p]? = some v) : sumL (gR xs b v) r = sumL (gR xs b v) (r.take p) := by
  rw [sumL_split _ r p, sumL_zero (r := r.drop p) fun x hx => ?_, Nat.add_zero]
  obtain ⟨i, hi⟩ := List.mem_iff_getElem?.1 hx
  rw [List.getElem?_drop] at hi
  refine gR_miss ?_
  rcases Nat.eq_zero_or_pos i with e | e
  · subst e; rw [Nat.add_zero, hv] at hi; injection hi with hi; omega
  · have := asc_at9 ha (by omega : p < p + i) hv hi; omega
theorem gR_bound {xs b r : List Int} {v : Int} {p : Nat} (ha : r.Pairwise (· < ·)) (hv : r[p]? = some v) : sumL (gR xs b v) r + waysN xs (b ++ [v]) ≤ sumL (fun x => waysN xs (b ++ [x])) r := by
  rw [gR_stop ha hv, sumL_split (fun x => waysN xs (b ++ [x])) r p, sumL_drop hv]
  have : sumL (gR xs b v) (r.take p) ≤ sumL (fun x => waysN xs (b ++ [x])) (r.take p) := sumL_le fun x _ => by
    by_cases h : x < v
    · rw [gR_hit h]; exact Nat.le_refl _
    · rw [gR_miss h]; exact Nat.zero_le _
  omega
/-- the rank, as far as the places below k tell -/
def rkTo (xs ps l : List Int) : Nat → Nat
  | 0 => 0
  | k + 1 => rkTo xs ps l k + sumL (gR xs (l.take k) (l[k]?.getD 0)) (rdyTo ps (l.take k) xs.length)
theorem rkTo_step {xs ps l : List Int} {k : Nat} {v : Int} (hv : l[k]? = some v) : rkTo xs ps l (k + 1) = rkTo xs ps l k + sumL (gR xs (l.take k) v) (rdyTo ps (l.take k) xs.length) := by rw [rkTo, hv, Option.getD_some]
/-- the node at a place of an order can come next there -/
theorem at_rdy {n : Nat} {ps l : List Int} (hp : Parents n ps) (hb : Bgn n ps l) {k : Nat} {v : Int} (hv : l[k]? = some v) : v ∈ rdyTo ps (l.take k) n := by
  have hx := hb.2.1 v (List.mem_of_getElem? hv)
  obtain ⟨u, rfl⟩ := Int.eq_ofNat_of_zero_le hx.1
  refine mem_rdyTo.2 ⟨u, rfl, by omega, decide_eq_true ⟨?_, ?_⟩⟩
  · intro hm
    obtain ⟨i, hi⟩ := List.mem_iff_getElem?.1 hm
    rw [List.getElem?_take] at hi
    split at hi
    · rename_i hik
      have h1 := (List.getElem?_eq_some_iff.1 hi)
      have h2 := (List.getElem?_eq_some_iff.1 hv)
      obtain ⟨a1, a2⟩ := h1
      obtain ⟨b1, b2⟩ := h2
      have := (List.nodup_iff_pairwise_ne.1 hb.1)
      have := List.pairwise_iff_getElem.1 this i k a1 b1 hik
      exact this (a2.trans b2.symm)
    · cases hi
  · have hlt := (List.getElem?_eq_some_iff.1 hv).1
    rcases hb.2.2 k (u : Int) hlt hv with h | h
    · rcases Nat.eq_zero_or_pos u with e | e
      · exact .inl e
      · have := hp.2.2 u e (by omega); omega
    · exact .inr h
theorem rk_bound {xs ps l : List Int} (ht : isTree xs = true) (hp : ParsOK xs ps) (hb : Bgn xs.length ps l) (hl : l.length = xs.length) : ∀ k, k ≤ xs.length → rkTo xs ps l k + waysN xs (l.take k) ≤ waysN xs [] := by
  intro k
  induction k with
  | zero => intro _; simp [rkTo]
  | succ k ih =>
    intro hk
    obtain ⟨v, hv⟩ : ∃ v, l[k]? = some v := ⟨_, List.getElem?_eq_getElem (by omega)⟩
    have h1 := ih (by omega)
    have hm := at_rdy (parents_of ht hp) hb hv
    obtain ⟨p, hpv⟩ := List.mem_iff_getElem?.1 hm
    have h2 := gR_bound (xs := xs) (b := l.take k) (rdyTo_asc ps (l.take k) xs.length) hpv
    rw [ways_sum ht hp (bgn_take hb k) (by rw [List.length_take]; omega)] at h2
    rw [rkTo_step hv, List.take_add_one, hv]
    simp only [Option.toList_some]
    omega
theorem rk_mid {xs ps l : List Int} (ht : isTree xs = true) (hp : ParsOK xs ps) (hb : Bgn xs.length ps l) (hl : l.length = xs.length) {k : Nat} {v : Int} (hv : l[k]? = some v) (j : Nat) : rkTo xs ps l k + sumL (gR xs (l.take k) v) ((rdyTo ps (l.take k) xs.length).take j) ≤ waysN xs [] := by
  have hk : k < xs.length := by have := (List.getElem?_eq_some_iff.1 hv).1; omega
  have h1 := rk_bound ht hp hb hl (k + 1) hk
  rw [rkTo_step hv, sumL_split _ _ j] at h1
  omega
/-- the node with which the order of a rank goes on, and what is left of the rank -/
def pickR (xs b : List Int) : List Int → Nat → Int × Nat
  | [], k => (0, k)
  | x :: r, k => if k < waysN xs (b ++ [x]) then (x, k) else pickR xs b r (k - waysN xs (b ++ [x]))
theorem pickR_hit {xs b r : List Int} {j k : Nat} {x : Int} (h : r[j]? = some x) (hk : k < waysN xs (b ++ [x])) : pickR xs b (r.drop j) k = (x, k) := by
  obtain ⟨hlt, e⟩ := List.getElem?_eq_some_iff.1 h
  rw [List.drop_eq_getElem_cons hlt, e, pickR, if_pos hk]
theorem pickR_miss {xs b r : List Int} {j k : Nat} {x : Int} (h : r[j]? = some x) (hk : ¬ k < waysN xs (b ++ [x])) : pickR xs b (r.drop j) k = pickR xs b (r.drop (j + 1)) (k - waysN xs (b ++ [x])) := by
  obtain ⟨hlt, e⟩ := List.getElem?_eq_some_iff.1 h
  rw [List.drop_eq_getElem_cons hlt, e, pickR, if_neg hk]
/-- the order with a rank -/
def unR (xs ps : List Int) : Nat → List Int → Nat → List Int
  | 0, b, _ => b
  | f + 1, b, k => unR xs ps f (b ++ [(pickR xs b (rdyTo ps b xs.length) k).1]) (pickR xs b (rdyTo ps b xs.length) k).2
theorem unR_len (xs ps : List Int) : ∀ (f : Nat) (b : List Int) (k : Nat), (unR xs ps f b k).length = b.length + f := by
  intro f
  induction f with
  | zero => intro b k; rfl
  | succ f ih => intro b k; rw [unR, ih]; simp only [List.length_append, List.length_singleton]; omega
theorem unR_go {xs ps b : List Int} {k : Nat} {x : Int} {k' : Nat} (hl : b.length < xs.length) (h : pickR xs b (rdyTo ps b xs.length) k = (x, k')) : unR xs ps (xs.length - b.length) b k = unR xs ps (xs.length - (b ++ [x]).length) (b ++ [x]) k' := by
  rw [show xs.length - b.length = (xs.length - (b ++ [x]).length) + 1 by simp only [List.length_append, List.length_singleton]; omega, unR, h]
theorem unR_done {xs ps b : List Int} {k : Nat} (hl : b.length = xs.length) : unR xs ps (xs.length - b.length) b k = b := by rw [hl, Nat.sub_self]; rfl
end M
end Go.Proofs.Ytkcldfliiagloaa

/- Rows of bools: which nodes are there; what one operation of a drawn region held by a fact does. -/
namespace Go.Proofs.Ytkcldfliiagloaa
open Go.RowKit

/-- the slice value v owns a row of bools -/
abbrev OwnB (w : World) (B : Nat) (v : Value) (U : List Bool) : Prop := w.ownsRow B 4 1 v U.length (U.map Value.bool)
theorem infoB : (Try.prog.info? 4).map (fun i => (i.zero, i.size, i.bytes)) = some (some (.bool false), 1, 1) := by kernel_rfl
theorem ownB_set {w : World} {B g n c : Nat} {U : List Bool} (h : OwnB w B (.slice (some ⟨g, 0, none⟩) n c) U) (hn : U.length = n) (k : Nat) (x : Bool) :
    OwnB (w.setCell ⟨g, k, none⟩ (.bool x)) B (.slice (some ⟨g, 0, none⟩) n c) (U.set k x) := by
  subst hn
  have := (World.ownsRow.stored h k (.bool x)).1
  simpa [OwnB, List.map_set] using this
theorem ownB_cell {w : World} {B g n c : Nat} {U : List Bool} (h : OwnB w B (.slice (some ⟨g, 0, none⟩) n c) U) (hn : U.length = n) {k : Nat} {x : Bool} (hx : U[k]? = some x) :
    w.cell? ⟨g, k, none⟩ = some (.bool x) ∧ w.frozen? ⟨g, k, none⟩ = false ∧ B ≤ g ∧ g < w.heap.size := by
  subst hn
  have hk : k < U.length := (List.getElem?_eq_some_iff.1 hx).1
  have hl := World.ownsRow.lt h g rfl
  exact ⟨(World.ownsRow.cellAt h k (by omega)).trans (by simp [hx]), World.ownsRow.frozenAt h k, hl.1, hl.2⟩
theorem ownB_made {w : World} {B n : Nat} (hB : B ≤ w.heap.size) (hn : n ≤ maxLen) :
    OwnB (w.alloc (.cells (madeCells #[.bool false] n) 4)) B (.slice (some ⟨w.heap.size, 0, none⟩) n n) (List.replicate n false) := by
  have h := World.ownsRow_lit (e := 4) (size := 1) w (madeCells #[.bool false] n) n hB hn (by simp [size_madeCells])
  rw [toList_madeCells_one] at h
  simpa [OwnB] using h

namespace M
/-- which nodes are among the first k ones -/
def metRow (n : Nat) (l : List Int) (k : Nat) : List Bool := (List.range n).map fun v : Nat => decide ((v : Int) ∈ l.take k)
theorem metRow_len (n : Nat) (l : List Int) (k : Nat) : (metRow n l k).length = n := by simp [metRow]
theorem metRow_zero (n : Nat) (l : List Int) : metRow n l 0 = List.replicate n false := by simp [metRow, List.map_const']
theorem metRow_at {n : Nat} {l : List Int} {k v : Nat} (h : v < n) : (metRow n l k)[v]? = some (decide ((v : Int) ∈ l.take k)) := by simp [metRow, h]
theorem metRow_step {n : Nat} {l : List Int} {k v : Nat} (hx : l[k]? = some (v : Int)) : (metRow n l k).set v true = metRow n l (k + 1) := by
  refine List.ext_getElem? fun i => ?_
  rcases Nat.lt_or_ge i n with hi | hi
  · rw [List.getElem?_set, metRow_len, metRow_at hi, metRow_at hi, take_add_one hx]
    by_cases e : v = i
    · subst e
      rw [if_pos rfl, if_pos hi]
      simp
    · rw [if_neg e]
      have : (i : Int) ≠ (v : Int) := by omega
      simp [this]
  · rw [List.getElem?_eq_none (by simp [metRow]; omega), List.getElem?_eq_none (by rw [metRow_len]; omega)]
end M

theorem anyTake {P : Program} {ops : Array Oper} {Q : Exit → Act → World → Prop} {md : Region.Mode} {S : World → Prop} {oi : Oper} {fuel : Nat} {listed : Array Bool} {a : Act} {w : World} (i : Nat) (d : Option Tmp) (v : Value) (hi : ops[i]? = some oi) (hd : oi.dst = d)
    (hs : Region.noSelect ops = true) (hf : Region.free md ops listed i = true) (hr : (Region.ready md ops listed).contains i = true)
    (hQ : ∀ c a w, Q (.panic c) (a.put d v) w → Q (.panic c) a w) (hw : Region.wanted oi (yielded ops a.tmps) = true) (hy : ∀ w, S w → (execOp a.eval oi).run P w = .ok (.value v) w) (hS : S w)
    (h : wpAnyH P md ops Q S fuel (listed.setIfInBounds i true) (a.put d v) w) : wpAnyH P md ops Q S (fuel + 1) listed a w := by
  subst hd; exact wpAnyH_take hi hs hf hr hQ (.inl ⟨hw, hy⟩) hS h

theorem anySkip {P : Program} {ops : Array Oper} {Q : Exit → Act → World → Prop} {md : Region.Mode} {S : World → Prop} {oi : Oper} {fuel : Nat} {listed : Array Bool} {a : Act} {w : World} (i : Nat) (d : Option Tmp) (hi : ops[i]? = some oi) (hd : oi.dst = d)
    (hs : Region.noSelect ops = true) (hf : Region.free md ops listed i = true) (hr : (Region.ready md ops listed).contains i = true)
    (hQ : ∀ c a w, Q (.panic c) (a.put d undef) w → Q (.panic c) a w) (hw : Region.wanted oi (yielded ops a.tmps) = false) (hS : S w)
    (h : wpAnyH P md ops Q S fuel (listed.setIfInBounds i true) (a.put d undef) w) : wpAnyH P md ops Q S (fuel + 1) listed a w := by
  subst hd; exact wpAnyH_take hi hs hf hr hQ (.inr ⟨hw, rfl⟩) hS h
end Go.Proofs.Ytkcldfliiagloaa

/- with: a beginning with a node at the next place, as a new list. Written by genw9.py. -/
namespace Go.Proofs.Ytkcldfliiagloaa
open Go.RowKit

namespace M
def pair2 (b : List Int) (v : Int) (j : Nat) : List Int := if j = 0 then b else [v]
theorem catTo_pair2 (b : List Int) (v : Int) : catTo (pair2 b v) 2 = b ++ [v] := by simp [catTo, pair2]
end M

theorem own64_one' {w : World} {B : Nat} (hB : B ≤ w.heap.size) (x : Int) : Own64 (w.alloc (.cells #[.int .i64 x] 2)) B (.slice (some ⟨w.heap.size, 0, none⟩) 1 1) [x] := by
  exact ⟨by simp, .inr ⟨w.heap.size, 1, #[.int .i64 x], rfl, hB, World.alloc_heap_new w _, by simp, by simp [maxLen], by simp, by simp⟩⟩

set_option maxHeartbeats 4000000 in
set_option maxRecDepth 100000 in
theorem withNode (A A2 : Option Addr) (b : List Int) (n c L c2 : Nat) (v : Int) (w : World) (hL : Hid (b.length = L)) (h24 : L ≤ 24) (hz2 : Hid (A2 = none → c2 = 0)) (h2 : Hid (Ints w w.heap.size A2 b)) :
    Calls Try.prog 93 #[.agg #[.slice A n c, .slice A2 L c2], .int .i64 v] w fun e w' => ∃ g c', e = .returned (.agg #[.slice A n c, .slice (some ⟨g, 0, none⟩) (L + 1) c']) ∧ Own64 w' w.heap.size (.slice (some ⟨g, 0, none⟩) (L + 1) c') (b ++ [v]) ∧ Below w.heap.size w w' := by
  obtain ⟨d0, d1⟩ := order_cells w (.slice A n c) (.slice A2 L c2) 96
  have hB0 := Lib.hid (bal (bal (b0 w) (.cells #[.slice A n c, .slice A2 L c2] 96)) (.cells #[.slice none 0 0, .slice none 0 0] 96))
  have d0' := cellOf_al d0 (.cells #[.slice none 0 0, .slice none 0 0] 96)
  have d1' := cellOf_al d1 (.cells #[.slice none 0 0, .slice none 0 0] 96)
  obtain ⟨z0, z1⟩ := order_cells (w.alloc (.cells #[.slice A n c, .slice A2 L c2] 96)) (.slice none 0 0) (.slice none 0 0) 96
  rw [World.size_alloc] at z0 z1
  have H2 := Lib.hid ((h2.out.al (.cells #[.slice A n c, .slice A2 L c2] 96)).al (.cells #[.slice none 0 0, .slice none 0 0] 96))
  obtain ⟨W, hW⟩ : ∃ W, W = (w.alloc (.cells #[.slice A n c, .slice A2 L c2] 96)).alloc (.cells #[.slice none 0 0, .slice none 0 0] 96) := ⟨_, rfl⟩
  have hzW : Hid (W.heap.size = w.heap.size + 1 + 1) := by show _ = _; rw [hW]; simp
  have zh : Hid (W.heap[w.heap.size + 1]? = some (.cells #[.slice none 0 0, .slice none 0 0] 96 (0, 0))) := by
    have := World.alloc_heap_new (w.alloc (.cells #[.slice A n c, .slice A2 L c2] 96)) (.cells #[.slice none 0 0, .slice none 0 0] 96)
    rw [World.size_alloc] at this
    rw [hW]; exact this
  rw [← hW] at d0' d1' z0 z1 H2 hB0
  clear d0 d1 h2
  go_enter Try.func93, Try.ntmps93
  go_wp2_with fail
  rw [← hW]
  clear hW
  have K0 : Hid (Below W.heap.size W W.drew) := (Below.refl _ _).drew
  have e0 : W.drew.cell? ⟨w.heap.size, 0, none⟩ = some (.slice A n c) := d0'
  have e1 : W.drew.cell? ⟨w.heap.size, 1, none⟩ = some (.slice A2 L c2) := d1'
  refine wp_region_held_drew (S := (fun w' => w'.cell? ⟨w.heap.size, 0, none⟩ = some (.slice A n c) ∧ w'.cell? ⟨w.heap.size, 1, none⟩ = some (.slice A2 L c2))) (by kernel_rfl) (by exact ⟨e0, e1⟩) (fun hHeld0 => ?_)
  refine anyTake 0 (some 5) (.pointer (some ⟨w.heap.size, 0, none⟩)) rfl rfl (by kernel_rfl) (by kernel_rfl) (by kernel_rfl) (fun _ _ _ h => h) (by rfl) (by intro w hSw; (try dsimp only at hSw); go_simp) (by assumption) ?_
  try simp only [Act.put, List.setIfInBounds_toArray, List.set_cons_zero, List.set_cons_succ]
  refine anyTake 1 (some 6) (.agg #[.slice A n c]) rfl rfl (by kernel_rfl) (by kernel_rfl) (by kernel_rfl) (fun _ _ _ h => h) (by rfl) (by intro w hSw; (try dsimp only at hSw); go_simp) (by assumption) ?_
  try simp only [Act.put, List.setIfInBounds_toArray, List.set_cons_zero, List.set_cons_succ]
  refine anyTake 2 (some 7) (.pointer (some ⟨w.heap.size, 1, none⟩)) rfl rfl (by kernel_rfl) (by kernel_rfl) (by kernel_rfl) (fun _ _ _ h => h) (by rfl) (by intro w hSw; (try dsimp only at hSw); go_simp) (by assumption) ?_
  try simp only [Act.put, List.setIfInBounds_toArray, List.set_cons_zero, List.set_cons_succ]
  refine anyTake 3 (some 8) (.slice A2 L c2) rfl rfl (by kernel_rfl) (by kernel_rfl) (by kernel_rfl) (fun _ _ _ h => h) (by rfl) (by intro w hSw; (try dsimp only at hSw); go_simp) (by assumption) ?_
  try simp only [Act.put, List.setIfInBounds_toArray, List.set_cons_zero, List.set_cons_succ]
  refine anyTake 4 (some 9) (.int .i64 v) rfl rfl (by kernel_rfl) (by kernel_rfl) (by kernel_rfl) (fun _ _ _ h => h) (by rfl) (by intro w hSw; (try dsimp only at hSw); go_simp) (by assumption) ?_
  try simp only [Act.put, List.setIfInBounds_toArray, List.set_cons_zero, List.set_cons_succ]
  refine wpAnyH_ready (rs := [5]) (by kernel_rfl) (by simp) ?_
  refine AllReadyH.cons rfl (fun K hK => ?_) AllReadyH.nil
  go_simp
  have B1 : Hid (Below W.heap.size W (W.alloc (.cells #[.int .i64 v] 2)).drew) := (bal (b0 W) _).drew
  refine hK.out _ _ (by exact ⟨cellOf_be d0' (Hid.out B1), cellOf_be d1' (Hid.out B1)⟩) (fun hHeld => ?_)
  clear hK K
  try simp only [Act.put, List.setIfInBounds_toArray, List.set_cons_zero, List.set_cons_succ]
  clear hHeld0
  have hHeld0 := hHeld
  clear hHeld
  refine wpAnyH_ready (rs := [6]) (by kernel_rfl) (by simp) ?_
  refine AllReadyH.cons rfl (fun K hK => ?_) AllReadyH.nil
  go_simp
  have B2 : Hid (Below W.heap.size W ((W.alloc (.cells #[.int .i64 v] 2)).alloc (.cells #[.slice A2 L c2, .slice (some ⟨W.heap.size, 0, none⟩) 1 1] 22)).drew) := (bal (bal (b0 W) _) _).drew
  refine hK.out _ _ (by exact ⟨cellOf_be d0' (Hid.out B2), cellOf_be d1' (Hid.out B2)⟩) (fun hHeld => ?_)
  clear hK K
  try simp only [Act.put, List.setIfInBounds_toArray, List.set_cons_zero, List.set_cons_succ]
  clear hHeld0
  have hHeld0 := hHeld
  clear hHeld
  have hz2' : ((W.alloc (.cells #[.int .i64 v] 2)).alloc (.cells #[.slice A2 L c2, .slice (some ⟨W.heap.size, 0, none⟩) 1 1] 22)).heap.size = W.heap.size + 1 + 1 := by simp
  have HP : Hid (Parts ((W.alloc (.cells #[.int .i64 v] 2)).alloc (.cells #[.slice A2 L c2, .slice (some ⟨W.heap.size, 0, none⟩) 1 1] 22)).drew (W.heap.size + 1) 2 (M.pair2 b v)) := fun j hj => by
    have hq0 := World.cell?_alloc_new (W.alloc (.cells #[.int .i64 v] 2)) #[.slice A2 L c2, .slice (some ⟨W.heap.size, 0, none⟩) 1 1] 22 0
    have hq1 := World.cell?_alloc_new (W.alloc (.cells #[.int .i64 v] 2)) #[.slice A2 L c2, .slice (some ⟨W.heap.size, 0, none⟩) 1 1] 22 1
    rw [World.size_alloc] at hq0 hq1
    match j, hj with
    | 0, _ => exact ⟨A2, c2, by show ((W.alloc (.cells #[.int .i64 v] 2)).alloc (.cells #[.slice A2 L c2, .slice (some ⟨W.heap.size, 0, none⟩) 1 1] 22)).cell? _ = _; rw [hq0]; simp [M.pair2, hL.out], by have := (H2.out.al (.cells #[.int .i64 v] 2)).al (.cells #[.slice A2 L c2, .slice (some ⟨W.heap.size, 0, none⟩) 1 1] 22); have h9 : Ints ((W.alloc (.cells #[.int .i64 v] 2)).alloc (.cells #[.slice A2 L c2, .slice (some ⟨W.heap.size, 0, none⟩) 1 1] 22)).drew ((W.alloc (.cells #[.int .i64 v] 2)).alloc (.cells #[.slice A2 L c2, .slice (some ⟨W.heap.size, 0, none⟩) 1 1] 22)).drew.heap.size A2 b := this; simpa [M.pair2] using h9, by simpa using hz2.out⟩
    | 1, _ => exact ⟨some ⟨W.heap.size, 0, none⟩, 1, by show ((W.alloc (.cells #[.int .i64 v] 2)).alloc (.cells #[.slice A2 L c2, .slice (some ⟨W.heap.size, 0, none⟩) 1 1] 22)).cell? _ = _; rw [hq1]; simp [M.pair2], by
        have := ((ints_of_own64 (own64_one' (w := W) (B := 0) (Nat.zero_le _) v)).al (.cells #[.slice A2 L c2, .slice (some ⟨W.heap.size, 0, none⟩) 1 1] 22)); have h9 : Ints ((W.alloc (.cells #[.int .i64 v] 2)).alloc (.cells #[.slice A2 L c2, .slice (some ⟨W.heap.size, 0, none⟩) 1 1] 22)).drew ((W.alloc (.cells #[.int .i64 v] 2)).alloc (.cells #[.slice A2 L c2, .slice (some ⟨W.heap.size, 0, none⟩) 1 1] 22)).drew.heap.size (some ⟨W.heap.size, 0, none⟩) [v] := this; simpa [M.pair2] using h9, fun e => by cases e⟩
  have HLen : Hid (∀ j, j < 2 → (M.pair2 b v j).length ≤ 24) := fun j hj => by
    match j, hj with
    | 0, _ => simp only [M.pair2]; have := hL.out; simp; omega
    | 1, _ => simp [M.pair2]
  have HC := Lib.hid (concat (W.heap.size + 1) 2 (M.pair2 b v) ((W.alloc (.cells #[.int .i64 v] 2)).alloc (.cells #[.slice A2 L c2, .slice (some ⟨W.heap.size, 0, none⟩) 1 1] 22)).drew (by omega) HLen (by show _ < ((W.alloc (.cells #[.int .i64 v] 2)).alloc (.cells #[.slice A2 L c2, .slice (some ⟨W.heap.size, 0, none⟩) 1 1] 22)).heap.size; omega) HP)
  clear HP HLen
  refine wpAnyH_ready (rs := [7]) (by kernel_rfl) (by simp) ?_
  refine AllReadyH.cons rfl (fun K hK => ?_) AllReadyH.nil
  go_simp
  go_at_call 169
  refine HC.out.mono ?_
  rintro e w5 ⟨A5, c5, n5, rfl, ho5, hb5⟩
  go_wp2_with fail
  rw [M.catTo_pair2] at ho5
  have hn5 : n5 = L + 1 := by have := own64_len ho5; rw [List.length_append, hL.out] at this; exact this
  subst hn5
  obtain ⟨g5, rfl⟩ : ∃ g5, A5 = some ⟨g5, 0, none⟩ := by
    rcases ho5.2 with ⟨q1, q2⟩ | ⟨g5, cap, cur, hv, _⟩
    · simp at q2
    · injection hv with q1; exact ⟨g5, q1⟩
  have B3 : Hid (Below W.heap.size W w5) := btr B2.out hb5
  have Ho5 : Hid (Own64 w5 W.heap.size (.slice (some ⟨g5, 0, none⟩) (L + 1) c5) (b ++ [v])) := own_mono ho5 (by show _ ≤ ((W.alloc (.cells #[.int .i64 v] 2)).alloc (.cells #[.slice A2 L c2, .slice (some ⟨W.heap.size, 0, none⟩) 1 1] 22)).heap.size; omega)
  clear ho5 hb5 HC
  refine hK.out _ _ (by exact ⟨cellOf_be d0' (Hid.out B3), cellOf_be d1' (Hid.out B3)⟩) (fun hHeld => ?_)
  clear hK K
  try simp only [Act.put, List.setIfInBounds_toArray, List.set_cons_zero, List.set_cons_succ]
  clear hHeld0
  have hHeld0 := hHeld
  clear hHeld
  refine anyTake 8 (some 13) (.agg #[.slice A n c, .slice (some ⟨g5, 0, none⟩) (L + 1) c5]) rfl rfl (by kernel_rfl) (by kernel_rfl) (by kernel_rfl) (fun _ _ _ h => h) (by rfl) (by intro w hSw; (try dsimp only at hSw); go_simp) (by assumption) ?_
  try simp only [Act.put, List.setIfInBounds_toArray, List.set_cons_zero, List.set_cons_succ]
  have y0 := cellOf_be z0 B3.out
  have y1 := cellOf_be z1 B3.out
  have zh5 : w5.heap[w.heap.size + 1]? = some (.cells #[.slice none 0 0, .slice none 0 0] 96 (0, 0)) := (B3.out.block _ (by have := hzW.out; omega)).trans zh.out
  have q0 : w5.frozen? ⟨w.heap.size + 1, 0, none⟩ = false := by simp [World.frozen?, zh5]
  have q1 : w5.frozen? ⟨w.heap.size + 1, 1, none⟩ = false := by simp [World.frozen?, zh5]
  have q2 : (w5.setCell ⟨w.heap.size + 1, 0, none⟩ (.slice A n c)).frozen? ⟨w.heap.size + 1, 1, none⟩ = false := by rw [World.frozen?_setCell]; exact q1
  have e5 := cellOf_be d0' B3.out
  have e6 := cellOf_be d1' B3.out
  have hzz := hzW.out
  have hgb := (World.ownsRow.lt Ho5.out g5 rfl).1
  have hB5 := Lib.hid (btr hB0.out B3.out)
  have hF5 : Hid (Below w.heap.size w ((w5.setCell ⟨w.heap.size + 1, 0, none⟩ (.slice A n c)).setCell ⟨w.heap.size + 1, 1, none⟩ (.slice (some ⟨g5, 0, none⟩) (L + 1) c5))) := below_setCell (below_setCell hB5.out (by omega) _) (by omega) _
  have hO5 : Hid (Own64 ((w5.setCell ⟨w.heap.size + 1, 0, none⟩ (.slice A n c)).setCell ⟨w.heap.size + 1, 1, none⟩ (.slice (some ⟨g5, 0, none⟩) (L + 1) c5)) W.heap.size (.slice (some ⟨g5, 0, none⟩) (L + 1) c5) (b ++ [v])) := own_far (own_far Ho5.out (by omega) _) (by omega) _
  have p0 : ((w5.setCell ⟨w.heap.size + 1, 0, none⟩ (.slice A n c)).setCell ⟨w.heap.size + 1, 1, none⟩ (.slice (some ⟨g5, 0, none⟩) (L + 1) c5)).cell? ⟨w.heap.size + 1, 0, none⟩ = some (.slice A n c) := (World.cell?_setCell_other _ _ _ _ (by intro e; injection e with e1 e2; omega)).trans (World.cell?_setCell_same _ _ _ y0)
  have p1 : ((w5.setCell ⟨w.heap.size + 1, 0, none⟩ (.slice A n c)).setCell ⟨w.heap.size + 1, 1, none⟩ (.slice (some ⟨g5, 0, none⟩) (L + 1) c5)).cell? ⟨w.heap.size + 1, 1, none⟩ = some (.slice (some ⟨g5, 0, none⟩) (L + 1) c5) := World.cell?_setCell_same _ _ _ ((World.cell?_setCell_other _ _ _ _ (by intro e; injection e with e1 e2; omega)).trans y1)
  have s0 : ((w5.setCell ⟨w.heap.size + 1, 0, none⟩ (.slice A n c)).setCell ⟨w.heap.size + 1, 1, none⟩ (.slice (some ⟨g5, 0, none⟩) (L + 1) c5)).cell? ⟨w.heap.size, 0, none⟩ = some (.slice A n c) := (World.cell?_setCell_other _ _ _ _ (by intro e; injection e with e1; omega)).trans ((World.cell?_setCell_other _ _ _ _ (by intro e; injection e with e1; omega)).trans e5)
  have s1 : ((w5.setCell ⟨w.heap.size + 1, 0, none⟩ (.slice A n c)).setCell ⟨w.heap.size + 1, 1, none⟩ (.slice (some ⟨g5, 0, none⟩) (L + 1) c5)).cell? ⟨w.heap.size, 1, none⟩ = some (.slice A2 L c2) := (World.cell?_setCell_other _ _ _ _ (by intro e; injection e with e1; omega)).trans ((World.cell?_setCell_other _ _ _ _ (by intro e; injection e with e1; omega)).trans e6)
  have HF5 := hF5
  clear hzz
  refine wpAnyH_ready (rs := [9]) (by kernel_rfl) (by simp) ?_
  refine AllReadyH.cons rfl (fun K hK => ?_) AllReadyH.nil
  go_simp
  refine hK.out _ _ ⟨s0, s1⟩ (fun hHeld => ?_)
  clear hK K hHeld
  refine wpAnyH_done (by kernel_rfl) ?_ _
  clear y0 y1 q0 q1 q2 s0 s1 e5 e6 hHeld0 z0 z1 zh5
  go_wp2_with fail
  refine bodyPost_ret (v := .agg #[.slice A n c, .slice (some ⟨g5, 0, none⟩) (L + 1) c5]) (by simp [results, Try.results93, go_sem, p0, p1]) rfl ?_
  exact ⟨g5, c5, rfl, own_mono hO5.out (by have := hzW.out; omega), hF5.out⟩
end Go.Proofs.Ytkcldfliiagloaa

/- ready: the nodes that can come next, as the program finds them; slices.Max and slices.Min of an ascending list. -/
namespace Go.Proofs.Ytkcldfliiagloaa
open Go.RowKit

namespace M
theorem rdy_nil {n : Nat} {ps : List Int} (h : 1 ≤ n) : rdyTo ps [] n = [0] := by
  have h1 : ∀ m, rdyTo ps [] (1 + m) = [0] := by
    intro m
    induction m with
    | zero => exact rdyTo_hit (ps := ps) (b := []) (k := 0) (decide_eq_true ⟨by simp, .inl rfl⟩)
    | succ m ih =>
      have : rdyB ps [] (1 + m) = false := decide_eq_false fun h => by
        rcases h.2 with e | e
        · omega
        · simp at e
      rw [show 1 + (m + 1) = (1 + m) + 1 by omega, rdyTo_miss this, ih]
  have := h1 (n - 1)
  rwa [show 1 + (n - 1) = n by omega] at this
theorem rdyB_code {n : Nat} {ps b : List Int} (hp : Parents n ps) (hb : Bgn n ps b) (hne : b ≠ []) {v : Nat} (hv : v < n) : rdyB ps b v = (decide (parOf ps (v : Int) ∈ b) && !decide ((v : Int) ∈ b)) := by
  have h0 := bgn_root hp hb hne
  rcases Nat.eq_zero_or_pos v with e | e
  · subst e
    have h1 : ¬ parOf ps ((0 : Nat) : Int) ∈ b := fun h => by
      have := (hb.2.1 _ h).1
      have h2 := hp.2.1
      have h3 : parOf ps ((0 : Nat) : Int) = parOf ps 0 := rfl
      omega
    rw [decide_eq_false h1, Bool.false_and]
    exact decide_eq_false fun h => h.1 h0
  · by_cases h1 : parOf ps (v : Int) ∈ b
    · rw [decide_eq_true h1, Bool.true_and]
      by_cases h2 : (v : Int) ∈ b
      · rw [decide_eq_true h2]; exact decide_eq_false fun h => h.1 h2
      · rw [decide_eq_false h2]; exact decide_eq_true ⟨h2, .inr h1⟩
    · rw [decide_eq_false h1, Bool.false_and]
      exact decide_eq_false fun h => by
        rcases h.2 with e2 | e2
        · omega
        · exact h1 e2
theorem asc_at {r : List Int} (h : r.Pairwise (· < ·)) {i j : Nat} {x y : Int} (hij : i < j) (hx : r[i]? = some x) (hy : r[j]? = some y) : x < y := by
  obtain ⟨h1, h2⟩ := List.getElem?_eq_some_iff.1 hx
  obtain ⟨h3, h4⟩ := List.getElem?_eq_some_iff.1 hy
  have := List.pairwise_iff_getElem.1 h i j h1 h3 hij
  rw [h2, h4] at this
  exact this
end M

set_option maxHeartbeats 2000000 in
theorem pickMax (A : Option Addr) (xs : List Int) (n c : Nat) (w : World) (hn : Hid (xs.length = n)) (hx : n ≤ 1000000) (hpos : 0 < n) (hasc : Hid (xs.Pairwise (· < ·))) (h : Hid (Ints w w.heap.size A xs)) :
    Calls Try.prog 145 #[.slice A n c] w fun e w' => e = .returned (.int .i64 (M.pick false xs)) ∧ w = w' := by
  obtain ⟨x0, hx0⟩ : ∃ x, Hid (xs[0]? = some x) := ⟨_, Lib.hid (List.getElem?_eq_getElem (by rw [hn.out]; exact hpos))⟩
  obtain ⟨b, off, rfl, hbB, hcells⟩ := h.out (by rw [hn.out]; exact hpos)
  have c0 : w.cell? ⟨b, off, none⟩ = some (.int .i64 x0) := by simpa using hcells 0 _ hx0.out
  have Hcells := Lib.hid hcells
  have hl1 : 1 ≤ n := hpos
  have hd1 : ¬ (n : Int) < 1 := by omega
  clear hcells
  go_enter Try.func145, Try.ntmps145
  go_wp2
  go_loop [3, 4] (fun m i => ∃ (k : Nat) (y : Int), 1 ≤ k ∧ k ≤ n ∧ i = .int .i64 k ∧ m = .int .i64 y ∧ Hid (xs[k - 1]? = some y)) (fun _ i => n - (intOf i).toNat)
  case atStart => exact ⟨1, x0, Nat.le_refl _, hl1, rfl, rfl, hx0⟩
  case round =>
    obtain ⟨k, y, hk1, hk, rfl, rfl, hy⟩ := hrel
    clear c0
    by_cases hlt : k < n
    · obtain ⟨x, hX⟩ : ∃ x, Hid (xs[k]? = some x) := ⟨_, List.getElem?_eq_getElem (by rw [hn.out]; exact hlt)⟩
      have g := Hcells.out k _ hX.out
      have hyx : y < x := M.asc_at hasc.out (by omega) hy.out hX.out
      go_wp2
      all_goals
        go_round
        case rel => exact ⟨k + 1, x, by omega, by omega, by go_num, by (first | rfl | (congr 1; omega)), hX⟩
        case measure => simp [intOf]; omega
    · obtain rfl : k = n := by omega
      have he : Hid (M.pick false xs = y) := by show _ = _; simp only [M.pick, Bool.false_eq_true, if_false]; rw [hn.out, hy.out]; rfl
      go_wp2
      go_ret
      exact ⟨by rw [he.out]; rfl, rfl⟩

set_option maxHeartbeats 2000000 in
theorem pickMin (A : Option Addr) (xs : List Int) (n c : Nat) (w : World) (hn : Hid (xs.length = n)) (hx : n ≤ 1000000) (hpos : 0 < n) (hasc : Hid (xs.Pairwise (· < ·))) (h : Hid (Ints w w.heap.size A xs)) :
    Calls Try.prog 191 #[.slice A n c] w fun e w' => e = .returned (.int .i64 (M.pick true xs)) ∧ w = w' := by
  obtain ⟨x0, hx0⟩ : ∃ x, Hid (xs[0]? = some x) := ⟨_, Lib.hid (List.getElem?_eq_getElem (by rw [hn.out]; exact hpos))⟩
  obtain ⟨b, off, rfl, hbB, hcells⟩ := h.out (by rw [hn.out]; exact hpos)
  have c0 : w.cell? ⟨b, off, none⟩ = some (.int .i64 x0) := by simpa using hcells 0 _ hx0.out
  have Hcells := Lib.hid hcells
  have hl1 : 1 ≤ n := hpos
  have hd1 : ¬ (n : Int) < 1 := by omega
  have he : Hid (M.pick true xs = x0) := by show _ = _; simp [M.pick, hx0.out]
  clear hcells
  go_enter Try.func191, Try.ntmps191
  go_wp2
  go_loop [3, 4] (fun m i => ∃ (k : Nat), 1 ≤ k ∧ k ≤ n ∧ i = .int .i64 k ∧ m = .int .i64 x0) (fun _ i => n - (intOf i).toNat)
  case atStart => exact ⟨1, Nat.le_refl _, hl1, rfl, rfl⟩
  case round =>
    obtain ⟨k, hk1, hk, rfl, rfl⟩ := hrel
    clear c0
    by_cases hlt : k < n
    · obtain ⟨x, hX⟩ : ∃ x, Hid (xs[k]? = some x) := ⟨_, List.getElem?_eq_getElem (by rw [hn.out]; exact hlt)⟩
      have g := Hcells.out k _ hX.out
      have hyx : x0 < x := M.asc_at hasc.out (by omega) hx0.out hX.out
      go_wp2
      all_goals
        go_round
        case rel => exact ⟨k + 1, by omega, by omega, by go_num, by (first | rfl | (congr 1; omega))⟩
        case measure => simp [intOf]; omega
    · obtain rfl : k = n := by omega
      go_wp2
      go_ret
      exact ⟨by rw [he.out]; rfl, rfl⟩

set_option maxHeartbeats 4000000 in
set_option maxRecDepth 100000 in
theorem ready (A A2 : Option Addr) (xs b : List Int) (n c L c2 : Nat) (w : World) (hn : Hid (xs.length = n)) (hc1 : n ≤ c) (hc2 : c ≤ 1000000000000) (ht : Hid (M.isTree xs = true)) (hpar : Hid (M.Parents n (M.parents xs))) (hbg : Hid (M.Bgn n (M.parents xs) b)) (hL : Hid (b.length = L)) (h : Hid (Ints w w.heap.size A xs)) (h2 : Hid (Ints w w.heap.size A2 b)) :
    Calls Try.prog 92 #[.agg #[.slice A n c, .slice A2 L c2]] w fun e w' => ∃ A' m c', e = .returned (.slice A' m c') ∧ Own64 w' w.heap.size (.slice A' m c') (M.rdyTo (M.parents xs) b n) ∧ Below w.heap.size w w' := by
  have hxl := M.tree_len ht.out
  rw [hn.out] at hxl
  have h24 := hxl.2
  have h1 := hxl.1
  have hLn : L ≤ n := by rw [← hL.out]; exact M.bgn_len hbg.out
  obtain ⟨d0, d1⟩ := order_cells w (.slice A n c) (.slice A2 L c2) 96
  have hB0 := Lib.hid (bal (b0 w) (.cells #[.slice A n c, .slice A2 L c2] 96))
  have H1 := Lib.hid (h.out.al (.cells #[.slice A n c, .slice A2 L c2] 96))
  have H2 := Lib.hid (h2.out.al (.cells #[.slice A n c, .slice A2 L c2] 96))
  have hzW : w.heap.size < (w.alloc (.cells #[.slice A n c, .slice A2 L c2] 96)).heap.size := by simp
  obtain ⟨W, hW⟩ : ∃ W, W = w.alloc (.cells #[.slice A n c, .slice A2 L c2] 96) := ⟨_, rfl⟩
  by_cases hL0 : L = 0
  · have hb0 : b = [] := List.length_eq_zero_iff.1 (by rw [hL.out]; exact hL0)
    have hR : M.rdyTo (M.parents xs) b n = [0] := by rw [hb0]; exact M.rdy_nil h1
    subst hL0
    rw [hR]
    have ho : Hid (Own64 (W.alloc (.cells #[.int .i64 0] 2)) w.heap.size (.slice (some ⟨W.heap.size, 0, none⟩) 1 1) [0]) := own64_one' (by rw [hW]; omega) 0
    have hB1 : Hid (Below w.heap.size w (W.alloc (.cells #[.int .i64 0] 2))) := by rw [hW]; exact bal hB0.out _
    have HW := Lib.hid hW
    clear hR hb0 hbg hW h h2 H1 H2
    go_enter Try.func92, Try.ntmps92
    go_wp2
    go_ret
    rw [HW.out] at ho hB1
    simp only [World.size_alloc] at ho
    exact ⟨some ⟨w.heap.size + 1, 0, none⟩, 1, 1, rfl, ho.out, hB1.out⟩
  · have hne : b ≠ [] := fun e => hL0 (by rw [← hL.out, e]; rfl)
    have hLe : ((L : Int) == 0) = false := by simp; omega
    rw [← hW] at d0 d1 hB0 H1 H2 hzW
    have hcode := Lib.hid (fun v (hv : v < n) => M.rdyB_code hpar.out hbg.out hne hv)
    have HP := Lib.hid ((callsIn_wide (n := 5)).1 (parentsIn_in A xs c W (by rw [hn.out]; exact hc1) hc2 ht H1.out))
    rw [hn.out] at HP
    clear h h2 H1 hbg hne
    go_enter Try.func92, Try.ntmps92
    go_wp2_with fail
    rw [← hW]
    clear hW
    refine HP.out.mono ?_
    rintro e w3 ⟨A3, c3, ps, rfl, hok, ho, hb⟩
    have hps := Lib.hid (M.parents_eq ht.out hok.out)
    rw [hps.out] at hcode hpar
    have hpl : Hid (ps.length = n) := by show _ = _; rw [hok.out.1, hn.out]
    have Hp := Lib.hid (ints_of_own64 ho)
    have hB3 := Lib.hid (btr hB0.out hb)
    have hbW3 := Lib.hid hb
    have hz3 : w.heap.size ≤ w3.heap.size := hB3.out.size
    have hst : Hid (Own64 w3 w3.heap.size (.slice none 0 0) (M.rdyTo ps b 0)) := own64_nil _ _
    clear ho hb HP hok hB0
    go_wp2
    go_loopw [3, 4, 5, 16] (fun q _ _ i wr => ∃ (k m : Nat) (A' : Option Addr) (c' : Nat), k ≤ n ∧ i = .int .i64 (k : Int) ∧ q = .slice A' m c' ∧ Hid (Own64 wr w3.heap.size (.slice A' m c') (M.rdyTo ps b k)) ∧ Hid (Below w3.heap.size w3 wr)) (fun _ _ _ i _ => n - (intOf i).toNat)
    case atStart => exact ⟨0, 0, none, 0, Nat.zero_le _, rfl, rfl, hst, Below.refl _ _⟩
    case round =>
      obtain ⟨k, m, A', c', hk, rfl, rfl, hr, hbr⟩ := hrel
      clear hst
      have hml := own64_len hr.out
      have hrl := M.rdyTo_len ps b k
      have hm1 : m ≤ 1000000 := by omega
      have hbW := Lib.hid (btr hbW3.out hbr.out)
      have f0 := cellOf_be d0 hbW.out
      have f1 := cellOf_be d1 hbW.out
      have hI2 := Lib.hid (H2.out.be hbW.out)
      have hzr : w3.heap.size ≤ wr.heap.size := hbr.out.size
      clear hml hrl
      by_cases hkn : k < n
      · obtain ⟨pb, po, p, rfl, hpb, g1, hX⟩ := (Hp.out.be hbr.out).at_ (k := k) (by rw [hpl.out]; exact hkn)
        have hpp : Hid (M.parOf ps (k : Int) = p) := by have := M.par_at hpar.out hkn; rw [hX.out] at this; injection this with this; exact this.symm
        have hck := hcode.out k hkn
        rw [hpp.out] at hck
        obtain ⟨q1, hq1⟩ : ∃ q, Hid (decide (p ∈ b) = q) := ⟨_, rfl⟩
        obtain ⟨q2, hq2⟩ : ∃ q, Hid (decide ((k : Int) ∈ b) = q) := ⟨_, rfl⟩
        rw [hq1.out, hq2.out] at hck
        have Hck := Lib.hid hck
        have hki : (k : Int) < (n : Int) := by omega
        have hk0 : (0 : Int) ≤ (k : Int) := by omega
        have HC1 := Lib.hid (containsIs A2 b L c2 p wr hL (by omega) hI2 q1 hq1)
        have HC2 := Lib.hid (containsIs A2 b L c2 (k : Int) wr hL (by omega) hI2 q2 hq2)
        clear hX hpp hck
        cases q1
        · have hs := M.rdyTo_miss Hck.out
          rw [← hs] at hr
          clear hs
          go_wp2_with fail
          refine HC1.out.mono ?_
          rintro e w' ⟨rfl, rfl⟩
          go_wp2
          go_roundw
          case rel => exact ⟨k + 1, m, A', c', by omega, by go_num, rfl, hr, hbr⟩
          case measure => simp [intOf]; omega
        · cases q2
          · have hs := Lib.hid (M.rdyTo_hit Hck.out)
            go_wp2_with fail
            refine HC1.out.mono ?_
            rintro e w' ⟨rfl, rfl⟩
            go_wp2_with fail
            refine HC2.out.mono ?_
            rintro e w' ⟨rfl, rfl⟩
            go_wp2_with (at_builtin; refine push64 rfl (.tmp 32) (.tmp 34) rfl wr w3.heap.size A' m c' (M.rdyTo ps b k) (k : Int) rfl rfl hr hzr hm1 ?_; intro A9 c9 w9 ho9 hb9)
            rw [← hs.out] at ho9
            have hb10 := Lib.hid (hbr.out.trans hb9.out)
            go_roundw
            case rel => exact ⟨k + 1, m + 1, A9, c9, by omega, by go_num, rfl, ho9, hb10⟩
            case measure => simp [intOf]; omega
          · have hs := M.rdyTo_miss Hck.out
            rw [← hs] at hr
            clear hs
            go_wp2_with fail
            refine HC1.out.mono ?_
            rintro e w' ⟨rfl, rfl⟩
            go_wp2_with fail
            refine HC2.out.mono ?_
            rintro e w' ⟨rfl, rfl⟩
            go_wp2
            go_roundw
            case rel => exact ⟨k + 1, m, A', c', by omega, by go_num, rfl, hr, hbr⟩
            case measure => simp [intOf]; omega
      · obtain rfl : k = n := by omega
        have hge : ¬ (k : Int) < (k : Int) := by omega
        have ho6 := Lib.hid (own_mono hr.out hz3)
        have hB6 := Lib.hid (btr hB3.out hbr.out)
        clear f0 f1
        go_wp2
        go_ret
        exact ⟨A', m, c', rfl, by rw [hps.out]; exact ho6.out, hB6.out⟩
end Go.Proofs.Ytkcldfliiagloaa

/- What completedBy's walks share. Written by genc9.py. -/
namespace Go.Proofs.Ytkcldfliiagloaa
open Go.RowKit

namespace M
/-- what is to come out, told from what is there -/
theorem fill_on {least : Bool} {n : Nat} {ps b R : List Int} (hp : Parents n ps) (hb : Bgn n ps b) (h : fill least n ps (n - b.length) b = R) (hl : b.length < n) :
    0 < (rdyTo ps b n).length ∧ Bgn n ps (b ++ [pick least (rdyTo ps b n)]) ∧ fill least n ps (n - (b ++ [pick least (rdyTo ps b n)]).length) (b ++ [pick least (rdyTo ps b n)]) = R := by
  have hne := rdy_some hp hl
  exact ⟨List.length_pos_iff.2 hne, bgn_step hp hb (pick_mem hne), by rw [← h, fill_step hl]⟩
end M

theorem frozen_be {w w' : World} {g k : Nat} (h : w.frozen? ⟨g, k, none⟩ = false) (hg : g < w.heap.size) (hb : Below w.heap.size w w') : w'.frozen? ⟨g, k, none⟩ = false := by
  have := hb.block g hg
  simp only [World.frozen?, this] at h ⊢
  exact h
/-- how many nodes are there, as the box tells -/
def roomIn (n g : Nat) (w : World) : Nat := match w.cell? ⟨g, 1, none⟩ with | some (.slice _ m _) => n - m | _ => 0
theorem roomIn_at {n g m c : Nat} {A : Option Addr} {w : World} (h : w.cell? ⟨g, 1, none⟩ = some (.slice A m c)) : roomIn n g w = n - m := by rw [roomIn, h]

end Go.Proofs.Ytkcldfliiagloaa

/- completedTo: the growing order with a rank, as the program finds it. -/
namespace Go.Proofs.Ytkcldfliiagloaa
open Go.RowKit

set_option maxHeartbeats 8000000 in
set_option maxRecDepth 100000 in
theorem completedTo (A : Option Addr) (xs : List Int) (n c k0 : Nat) (w : World) (hn : Hid (xs.length = n)) (h20 : n ≤ 20) (hc1 : n ≤ c) (hc2 : c ≤ 1000000000000) (ht : Hid (M.isTree xs = true)) (hex : Hid (M.ParsOK xs (M.parents xs))) (hk0 : Hid (k0 < M.waysN xs [])) (h : Hid (Ints w w.heap.size A xs)) :
    Calls Try.prog 98 #[.agg #[.slice A n c, .slice none 0 0], .int .i64 (k0 : Int)] w fun e w' => ∃ A' c', e = .returned (.slice A' n c') ∧ Own64 w' w.heap.size (.slice A' n c') (M.unR xs (M.parents xs) n [] k0) ∧ Below w.heap.size w w' := by
  have hxl := M.tree_len ht.out
  rw [hn.out] at hxl
  have hpar : Hid (M.Parents n (M.parents xs)) := by show M.Parents _ _; rw [← hn.out]; exact M.parents_of ht.out hex.out
  have hwl := Lib.hid (fun b => M.ways_le (xs := xs) (b := b) (by rw [hn.out]; exact h20))
  obtain ⟨d0, d1⟩ := order_cells w (.slice A n c) (.slice none 0 0) 96
  have zh : Hid ((w.alloc (.cells #[.slice A n c, .slice none 0 0] 96)).heap[w.heap.size]? = some (.cells #[.slice A n c, .slice none 0 0] 96 (0, 0))) := World.alloc_heap_new w _
  have q0 : Hid ((w.alloc (.cells #[.slice A n c, .slice none 0 0] 96)).frozen? ⟨w.heap.size, 0, none⟩ = false) := by show _ = _; simp only [World.frozen?, zh.out]; simp
  have q1 : Hid ((w.alloc (.cells #[.slice A n c, .slice none 0 0] 96)).frozen? ⟨w.heap.size, 1, none⟩ = false) := by show _ = _; simp only [World.frozen?, zh.out]; simp
  have hB0 := Lib.hid (bal (b0 w) (.cells #[.slice A n c, .slice none 0 0] 96))
  have HI00 := Lib.hid h.out
  have HI0 : Hid (Ints (w.alloc (.cells #[.slice A n c, .slice none 0 0] 96)) w.heap.size A xs) := h.out.alloc (Nat.le_refl _) _
  obtain ⟨R, hR⟩ : ∃ R, Hid (M.unR xs (M.parents xs) n [] k0 = R) := ⟨_, rfl⟩
  rw [hR.out]
  have hR0 : Hid (M.unR xs (M.parents xs) (n - ([] : List Int).length) [] k0 = R) := hR
  have hbg0 : Hid (M.Bgn n (M.parents xs) []) := M.bgn_nil _ _
  obtain ⟨W, hW⟩ : ∃ W, W = w.alloc (.cells #[.slice A n c, .slice none 0 0] 96) := ⟨_, rfl⟩
  have Ho : Hid (Own64 W w.heap.size (.slice none 0 0) []) := own64_nil _ _
  rw [← hW] at d0 d1 q0 q1 hB0 HI0
  have hne00 : Hid (∀ k, (Value.slice none 0 0).ownBlock = some k → k ≠ w.heap.size) := fun k hk => by cases hk
  have D0 := Lib.hid d0
  have D1 := Lib.hid d1
  clear h zh d0 d1 hR
  go_enter Try.func98, Try.ntmps98
  go_wp2
  rw [← hW]
  clear hW
  go_loopw [1] (fun qr wr => ∃ (bb : List Int) (A' : Option Addr) (m c' kk : Nat), m ≤ n ∧ qr = .int .i64 (kk : Int) ∧ Hid (bb.length = m) ∧ Hid (M.Bgn n (M.parents xs) bb) ∧ Hid (M.unR xs (M.parents xs) (n - bb.length) bb kk = R) ∧ Hid (kk < M.waysN xs bb) ∧ Hid (Own64 wr w.heap.size (.slice A' m c') bb) ∧ Hid (∀ k, (Value.slice A' m c').ownBlock = some k → k ≠ w.heap.size) ∧
      Hid (wr.cell? ⟨w.heap.size, 0, none⟩ = some (.slice A n c)) ∧ Hid (wr.cell? ⟨w.heap.size, 1, none⟩ = some (.slice A' m c')) ∧ Hid (wr.frozen? ⟨w.heap.size, 0, none⟩ = false) ∧ Hid (wr.frozen? ⟨w.heap.size, 1, none⟩ = false) ∧ Hid (Ints wr w.heap.size A xs) ∧ Hid (Below w.heap.size w wr)) (fun _ wr => roomIn n w.heap.size wr)
  case atStart => exact ⟨[], none, 0, 0, k0, Nat.zero_le _, rfl, rfl, hbg0, hR0, hk0, Ho, hne00, D0, D1, q0, q1, HI0, hB0⟩
  case round =>
    obtain ⟨bb, A', m, c', kk, hm, rfl, hbl, hbb, hun, hkw, ho, hne, hc0, hc1', hq0, hq1, hI, hbr⟩ := hrel
    clear Ho D0 D1 q0 q1 hB0 hk0 hR0 hbg0 hne00
    rename World => V
    have cc0 := hc0.out
    have cc1 := hc1'.out
    have hzr : w.heap.size < V.heap.size := World.block_lt_of_cell? _ _ cc0
    have hkb : kk ≤ 2432902008176640000 := by have := hwl.out bb; have := hkw.out; omega
    by_cases hlt : m < n
    · have hmi : (m : Int) < (n : Int) := by omega
      have hsum := M.ways_sum ht.out hex.out (b := bb) (by rw [hn.out]; exact hbb.out) (by rw [hbl.out, hn.out]; exact hlt)
      rw [hn.out] at hsum
      have hrl := M.rdyTo_len (M.parents xs) bb n
      have HRd := Lib.hid (ready A A' xs bb n c m c' V hn hc1 hc2 ht hpar hbb hbl (Lib.hid (hI.out.more (Nat.le_of_lt hzr))) (Lib.hid (ints_of_own64 ho.out)))
      obtain ⟨rr, hrr⟩ : ∃ rr, Hid (M.rdyTo (M.parents xs) bb n = rr) := ⟨_, rfl⟩
      have hmemr : Hid (∀ x, x ∈ rr → x ∈ M.rdyTo (M.parents xs) bb n) := fun x hx => by rw [hrr.out]; exact hx
      have hungo : Hid (∀ x kq, M.pickR xs bb rr kk = (x, kq) → M.unR xs (M.parents xs) (n - (bb ++ [x]).length) (bb ++ [x]) kq = R) := fun x kq hp => by
        rw [← hun.out]
        have := M.unR_go (xs := xs) (ps := M.parents xs) (b := bb) (k := kk) (x := x) (k' := kq) (by rw [hbl.out, hn.out]; exact hlt) (by rw [hn.out, hrr.out]; exact hp)
        rw [hn.out] at this
        exact this.symm
      rw [hrr.out] at HRd hrl hsum
      have hst : Hid (M.pickR xs bb (rr.drop 0) kk = M.pickR xs bb rr kk) := rfl
      have hst2 : Hid (kk < M.sumL (fun x => M.waysN xs (bb ++ [x])) (rr.drop 0)) := by show _ < _; rw [List.drop_zero, hsum]; exact hkw.out
      have hz2 : Hid (A' = none → c' = 0) := fun e => by
        subst e
        rcases ho.out.2 with ⟨h1, _⟩ | ⟨g, cap, cur, hv, _⟩
        · injection h1
        · cases hv
      have hm24 : m ≤ 24 := by omega
      clear hsum hun
      go_wp2_with fail
      refine HRd.out.mono ?_
      rintro e w4 ⟨A4, m4, c4, rfl, ho4, hb4⟩
      have hm4 := Lib.hid (own64_len ho4)
      have Ho4 := Lib.hid ho4
      have Hb4 := Lib.hid hb4
      have hm4b : m4 ≤ 24 := by have := hm4.out; omega
      clear ho4 hb4 HRd hrl cc0 cc1
      go_wp2
      go_loopw [1, 20] (fun qr i ws => ∃ j kj : Nat, j ≤ m4 ∧ i = .int .i64 (j : Int) ∧ qr = .int .i64 (kj : Int) ∧ Hid (M.pickR xs bb (rr.drop j) kj = M.pickR xs bb rr kk) ∧ Hid (kj < M.sumL (fun x => M.waysN xs (bb ++ [x])) (rr.drop j)) ∧ kj ≤ 2432902008176640000 ∧ Hid (Below w4.heap.size w4 ws)) (fun _ i _ => m4 - (intOf i).toNat)
      case atStart => exact ⟨0, kk, Nat.zero_le _, rfl, rfl, hst, hst2, hkb, b0 w4⟩
      case round =>
        clear hst hst2
        obtain ⟨j, kj, hj, rfl, rfl, hpk, hks, hkjb, hbs⟩ := hrel
        by_cases hjm : j < m4
        · obtain ⟨x, hx⟩ : ∃ x, rr[j]? = some x := ⟨_, List.getElem?_eq_getElem (by rw [← hm4.out]; exact hjm)⟩
          obtain ⟨g4, hA4⟩ : ∃ g, A4 = some ⟨g, 0, none⟩ := by
            rcases Ho4.out.2 with ⟨h0, _⟩ | ⟨g, cap, cur, hvv, _⟩
            · injection h0 with _ e _; omega
            · injection hvv with e1; exact ⟨g, e1⟩
          subst hA4
          obtain ⟨p1, p2, p3, p4⟩ := own64_cell (own_be Ho4.out hbs.out) hm4.out.symm hx
          have hji : (j : Int) < (m4 : Int) := by omega
          have hj0 : (0 : Int) ≤ (j : Int) := by omega
          have hmem := hmemr.out x (List.mem_of_getElem? hx)
          have hbg2 : Hid (M.Bgn n (M.parents xs) (bb ++ [x])) := Lib.hid (M.bgn_step hpar.out hbb.out hmem)
          have hkl2 : Hid ((bb ++ [x]).length = m + 1) := by show _ = _; rw [List.length_append, hbl.out]; rfl
          obtain ⟨W9, hW9⟩ : ∃ W9, Hid (M.waysN xs (bb ++ [x]) = W9) := ⟨_, rfl⟩
          have hW9b : W9 ≤ 2432902008176640000 := by rw [← hW9.out]; exact hwl.out _
          have hbVw : Hid (Below V.heap.size V wr) := btr Hb4.out hbs.out
          have k0 := cellOf_be hc0.out hbVw.out
          have k1 := cellOf_be hc1'.out hbVw.out
          have hWi := Lib.hid (withNode A A' bb n c m c' x wr hbl hm24 hz2 (Lib.hid (ints_of_own64 (own_be ho.out hbVw.out))))
          have hWy : Hid (∀ g c9 X9, Below V.heap.size V X9 → Hid (Ints X9 X9.heap.size (some ⟨g, 0, none⟩) (bb ++ [x])) → Calls Try.prog 94 #[.agg #[.slice A n c, .slice (some ⟨g, 0, none⟩) (m + 1) c9]] X9 fun e w' => e = .returned (.int .i64 (W9 : Int)) ∧ Below X9.heap.size X9 w') := fun g c9 X9 hX9 hI9 => by
            have := ways9 A (some ⟨g, 0, none⟩) xs (bb ++ [x]) n c (m + 1) c9 X9 hn h20 hc1 hc2 ht hbg2 hkl2 hex (Lib.hid ((hI.out.more (Nat.le_of_lt hzr)).be hX9)) hI9
            rwa [hW9.out] at this
          have hpkx := Lib.hid hx
          clear hx hmem
          go_wp2_with fail
          refine hWi.out.mono ?_
          rintro e w10 ⟨g10, c10, rfl, ho10, hb10⟩
          obtain ⟨z0, z1⟩ := order_cells w10 (.slice A n c) (.slice (some ⟨g10, 0, none⟩) (m + 1) c10) 96
          have hbV10 := Lib.hid (btr hbVw.out hb10)
          have hbZ := Lib.hid (bal hbV10.out (.cells #[.slice A n c, .slice (some ⟨g10, 0, none⟩) (m + 1) c10] 96))
          have hoZ := Lib.hid (own_be ho10 (bal (b0 w10) (.cells #[.slice A n c, .slice (some ⟨g10, 0, none⟩) (m + 1) c10] 96)))
          have hg10 := World.ownsRow.lt ho10 g10 rfl
          have hzw10 := hbs.out.size
          have hz4 := Hb4.out.size
          have hg10V : V.heap.size ≤ g10 := by omega
          have hbs10 := Lib.hid (bal (btr hbs.out hb10) (.cells #[.slice A n c, .slice (some ⟨g10, 0, none⟩) (m + 1) c10] 96))
          have hIZ := Lib.hid (ints_of_own64 hoZ.out)
          clear ho10 hb10 k0 k1 p1
          go_wp2_with fail
          refine (hWy.out _ _ _ hbZ.out hIZ).mono ?_
          rintro e w11 ⟨rfl, hb11⟩
          have y0 := cellOf_be z0 hb11
          have y1 := cellOf_be z1 hb11
          have hbV11 := Lib.hid (btr hbZ.out hb11)
          have ho11 := Lib.hid (own_be hoZ.out hb11)
          have hbs11 := Lib.hid (btr hbs10.out hb11)
          clear hb11 z0 z1
          by_cases hkw9 : kj < W9
          · have hkwi : (kj : Int) < (W9 : Int) := by omega
            have k0 := cellOf_be hc0.out hbV11.out
            have k1 := cellOf_be hc1'.out hbV11.out
            have f0 := frozen_be hq0.out hzr hbV11.out
            have f1 := frozen_be hq1.out hzr hbV11.out
            have f2 : (w11.setCell ⟨w.heap.size, 0, none⟩ (.slice A n c)).frozen? ⟨w.heap.size, 1, none⟩ = false := by rw [World.frozen?_setCell]; exact f1
            have hun2 : Hid (M.unR xs (M.parents xs) (n - (bb ++ [x]).length) (bb ++ [x]) kj = R) := hungo.out x kj (by
              rw [← hpk.out]
              exact M.pickR_hit hpkx.out (by rw [hW9.out]; exact hkw9))
            have hkw2 : Hid (kj < M.waysN xs (bb ++ [x])) := by show _ < _; rw [hW9.out]; exact hkw9
            have hne9 : Hid (∀ k, (Value.slice (some ⟨g10, 0, none⟩) (m + 1) c10).ownBlock = some k → k ≠ w.heap.size) := fun k hk => by have e9 : some g10 = some k := hk; injection e9 with e9; omega
            have hF9 : Hid (Below w.heap.size w ((w11.setCell ⟨w.heap.size, 0, none⟩ (.slice A n c)).setCell ⟨w.heap.size, 1, none⟩ (.slice (some ⟨g10, 0, none⟩) (m + 1) c10))) := below_setCell (below_setCell (btr hbr.out hbV11.out) (Nat.le_refl _) _) (Nat.le_refl _) _
            have ho9 : Hid (Own64 ((w11.setCell ⟨w.heap.size, 0, none⟩ (.slice A n c)).setCell ⟨w.heap.size, 1, none⟩ (.slice (some ⟨g10, 0, none⟩) (m + 1) c10)) w.heap.size (.slice (some ⟨g10, 0, none⟩) (m + 1) c10) (bb ++ [x])) := own_mono (own_far (own_far ho11.out (by omega) _) (by omega) _) (by omega)
            have p0 : ((w11.setCell ⟨w.heap.size, 0, none⟩ (.slice A n c)).setCell ⟨w.heap.size, 1, none⟩ (.slice (some ⟨g10, 0, none⟩) (m + 1) c10)).cell? ⟨w.heap.size, 0, none⟩ = some (.slice A n c) := (World.cell?_setCell_other _ _ _ _ (by intro e; injection e with e1 e2; omega)).trans (World.cell?_setCell_same _ _ _ k0)
            have p1 : ((w11.setCell ⟨w.heap.size, 0, none⟩ (.slice A n c)).setCell ⟨w.heap.size, 1, none⟩ (.slice (some ⟨g10, 0, none⟩) (m + 1) c10)).cell? ⟨w.heap.size, 1, none⟩ = some (.slice (some ⟨g10, 0, none⟩) (m + 1) c10) := World.cell?_setCell_same _ _ _ ((World.cell?_setCell_other _ _ _ _ (by intro e; injection e with e1 e2; omega)).trans k1)
            have qf0 : ((w11.setCell ⟨w.heap.size, 0, none⟩ (.slice A n c)).setCell ⟨w.heap.size, 1, none⟩ (.slice (some ⟨g10, 0, none⟩) (m + 1) c10)).frozen? ⟨w.heap.size, 0, none⟩ = false := by rw [World.frozen?_setCell, World.frozen?_setCell]; exact f0
            have qf1 : ((w11.setCell ⟨w.heap.size, 0, none⟩ (.slice A n c)).setCell ⟨w.heap.size, 1, none⟩ (.slice (some ⟨g10, 0, none⟩) (m + 1) c10)).frozen? ⟨w.heap.size, 1, none⟩ = false := by rw [World.frozen?_setCell, World.frozen?_setCell]; exact f1
            have hI9 : Hid (Ints ((w11.setCell ⟨w.heap.size, 0, none⟩ (.slice A n c)).setCell ⟨w.heap.size, 1, none⟩ (.slice (some ⟨g10, 0, none⟩) (m + 1) c10)) w.heap.size A xs) := HI00.out.keep fun p hp => hF9.out.cell hp
            have P0 := Lib.hid p0
            have P1 := Lib.hid p1
            have cc1 := Lib.hid hc1'.out
            clear p0 p1
            go_wp2
            go_roundw
            case rel => exact ⟨bb ++ [x], some ⟨g10, 0, none⟩, m + 1, c10, kj, by omega, rfl, hkl2, hbg2, hun2, hkw2, ho9, hne9, P0, P1, Lib.hid qf0, Lib.hid qf1, hI9, hF9⟩
            case measure => rw [roomIn_at P1.out, roomIn_at cc1.out]; omega
          · have hkwi : ¬ (kj : Int) < (W9 : Int) := by omega
            have hpk2 : Hid (M.pickR xs bb (rr.drop (j + 1)) (kj - W9) = M.pickR xs bb rr kk) := by
              show _ = _
              rw [← hpk.out, M.pickR_miss hpkx.out (by rw [hW9.out]; exact hkw9), hW9.out]
            have hks2 : Hid (kj - W9 < M.sumL (fun x => M.waysN xs (bb ++ [x])) (rr.drop (j + 1))) := by
              show _ < _
              have := hks.out
              rw [M.sumL_drop hpkx.out, hW9.out] at this
              omega
            have hsub : (kj : Int) - (W9 : Int) = ((kj - W9 : Nat) : Int) := by omega
            go_wp2
            go_roundw
            case rel => exact ⟨j + 1, kj - W9, by omega, by go_num, rfl, hpk2, hks2, by omega, hbs11⟩
            case measure => simp [intOf]; omega
        · obtain rfl : j = m4 := by omega
          exfalso
          have := hks.out
          rw [hm4.out, List.drop_length] at this
          exact absurd this (Nat.not_lt_zero _)
    · obtain rfl : m = n := by omega
      have hge : ¬ (m : Int) < (m : Int) := by omega
      have hE : Hid (bb = R) := by
        show _ = _
        rw [← hun.out]
        have := M.unR_done (xs := xs) (ps := M.parents xs) (b := bb) (k := kk) (by rw [hbl.out, hn.out])
        rw [hn.out] at this
        exact this.symm
      have ho6 : Hid (Own64 V w.heap.size (.slice A' m c') R) := by rw [← hE.out]; exact ho.out
      clear hE ho hun
      go_wp2
      go_ret
      exact ⟨A', c', rfl, ho6.out, hbr.out⟩
end Go.Proofs.Ytkcldfliiagloaa
