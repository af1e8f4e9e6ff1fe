/- Nodes beside each other and the even drawing: their mathematics. No program is named here. -/
import Derived.Test.YtbdmmeoelagdcaaHeavy
namespace Go.Proofs.Ytbdmmeoelagdcaa
namespace M
/-- the first place from k on, of m more places, that holds x; -1 if there is none -/
def nextOf (ds : List Int) (x : Int) : Nat → Nat → Int
  | _, 0 => -1
  | k, m + 1 => if ds[k]? = some x then (k : Int) else nextOf ds x (k + 1) m
theorem nextOf_hit {ds : List Int} {x : Int} {k m : Nat} (h : ds[k]? = some x) : nextOf ds x k (m + 1) = (k : Int) := by rw [nextOf, if_pos h]
theorem nextOf_miss {ds : List Int} {x y : Int} {k m : Nat} (h : ds[k]? = some y) (hne : y ≠ x) : nextOf ds x k (m + 1) = nextOf ds x (k + 1) m := by
  rw [nextOf, if_neg (by rw [h]; intro e; injection e with e; exact hne e)]
theorem nextOf_none {ds : List Int} {x : Int} : ∀ (m k : Nat), (∀ j y, k ≤ j → j < k + m → ds[j]? = some y → y ≠ x) → nextOf ds x k m = -1 := by
  intro m
  induction m with
  | zero => intro k _; rfl
  | succ m ih =>
    intro k h
    rw [nextOf, if_neg (fun e => h k x (Nat.le_refl _) (by omega) e rfl)]
    exact ih (k + 1) fun j y h1 h2 h3 => h j y (by omega) (by omega) h3
theorem nextOf_first {ds : List Int} {x : Int} : ∀ (m k j : Nat), k ≤ j → j < k + m → ds[j]? = some x → (∀ i y, k ≤ i → i < j → ds[i]? = some y → y ≠ x) → nextOf ds x k m = (j : Int) := by
  intro m
  induction m with
  | zero => intro k j h1 h2; omega
  | succ m ih =>
    intro k j h1 h2 h3 h4
    rcases Nat.lt_or_ge k j with hk | hk
    · rw [nextOf, if_neg (fun e => h4 k x (Nat.le_refl _) hk e rfl)]
      exact ih (k + 1) j (by omega) (by omega) h3 fun i y h5 h6 h7 => h4 i y (by omega) h6 h7
    · obtain rfl : k = j := by omega
      exact nextOf_hit h3
/-- the node beside v -/
def besideAt (ds : List Int) (v : Nat) : Int := nextOf ds (ds[v]?.getD 0) (v + 1) (ds.length - (v + 1))
theorem besideAt_eq {ds : List Int} {v n : Nat} {x : Int} (h : ds[v]? = some x) (hn : ds.length = n) : besideAt ds v = nextOf ds x (v + 1) (n - (v + 1)) := by simp [besideAt, h, hn]
/-- the model's loop, from the back: the next node found among those from k on -/
def BesTo (ds : List Int) (x : Int) (k : Nat) (r : Int) : Prop := r = nextOf ds x k (ds.length - k)
theorem besTo_end {ds : List Int} {x : Int} {n : Nat} (hn : ds.length = n) : BesTo ds x n (-1) := by subst hn; simp [BesTo, nextOf]
theorem besTo_hit {ds : List Int} {x : Int} {k : Nat} (h : ds[k]? = some x) : BesTo ds x k (k : Int) := by
  have hk := (List.getElem?_eq_some_iff.1 h).1
  obtain ⟨m, hm⟩ : ∃ m, ds.length - k = m + 1 := ⟨ds.length - k - 1, by omega⟩
  rw [BesTo, hm, nextOf_hit h]
theorem besTo_miss {ds : List Int} {x y r : Int} {k : Nat} (h : ds[k]? = some y) (hne : y ≠ x) (hr : BesTo ds x (k + 1) r) : BesTo ds x k r := by
  have hk := (List.getElem?_eq_some_iff.1 h).1
  obtain ⟨m, hm⟩ : ∃ m, ds.length - k = m + 1 := ⟨ds.length - k - 1, by omega⟩
  rw [BesTo] at hr ⊢
  rw [hm, nextOf_miss h hne, hr]
  congr 1; omega
/-- beside each other: all nodes -/
def besides (ds : List Int) : List Int := rowOf ds.length (besideAt ds)
theorem besides_len (ds : List Int) : (besides ds).length = ds.length := rowOf_len _ _

/-- the program's row of the nodes beside the first k nodes, 0 elsewhere -/
def besRow (ds : List Int) (k : Nat) : List Int := rowOf ds.length fun i => if i < k then besideAt ds i else 0
theorem besRow_len (ds : List Int) (k : Nat) : (besRow ds k).length = ds.length := rowOf_len _ _
theorem besRow_zero (ds : List Int) : besRow ds 0 = List.replicate ds.length 0 := by
  rw [← rowOf_zero]
  exact rowOf_congr fun i _ => if_neg (by omega)
theorem besRow_set {ds : List Int} {k : Nat} {y : Int} (hy : besideAt ds k = y) : (besRow ds k).set k y = besRow ds (k + 1) := by
  rw [besRow, rowOf_set]
  refine rowOf_congr fun i _ => ?_
  by_cases e : i = k
  · subst e; rw [if_pos rfl, if_pos (by omega), hy]
  · rw [if_neg e]
    by_cases h : i < k
    · rw [if_pos h, if_pos (by omega)]
    · rw [if_neg h, if_neg (by omega)]
theorem besRow_end (ds : List Int) : besRow ds ds.length = besides ds := rowOf_congr fun _ h => if_pos h
theorem besRow_at {ds : List Int} (k : Nat) {i : Nat} (h : i < ds.length) : ∃ y, (besRow ds k)[i]? = some y := ⟨_, rowOf_at _ h⟩
/-- the model's row -/
def besL (ds : List Int) (k : Nat) : List Int := rowOf k (besideAt ds)
theorem besL_succ {ds : List Int} {k : Nat} {y : Int} (hy : besideAt ds k = y) : besL ds (k + 1) = besL ds k ++ [y] := by rw [besL, rowOf_succ, hy]; rfl
theorem besL_len (ds : List Int) (k : Nat) : (besL ds k).length = k := rowOf_len _ _
theorem besL_end (ds : List Int) : besL ds ds.length = besides ds := rfl
/-- the place of the first x in a list, -1 if there is none -/
def idxOf (l : List Int) (x : Int) : Int := nextOf l x 0 l.length
theorem nextOf_range (ds : List Int) (x : Int) : ∀ (m k : Nat), nextOf ds x k m = -1 ∨ ((k : Int) ≤ nextOf ds x k m ∧ nextOf ds x k m < (k : Int) + m) := by
  intro m
  induction m with
  | zero => intro k; exact .inl rfl
  | succ m ih =>
    intro k
    rw [nextOf]
    split
    · right; omega
    · rcases ih (k + 1) with h | h
      · exact .inl h
      · right; omega
theorem nextOf_drop (ds : List Int) (x : Int) (b : Nat) : ∀ (m k : Nat), nextOf ds x (b + k) m = (if nextOf (ds.drop b) x k m = -1 then -1 else (b : Int) + nextOf (ds.drop b) x k m) := by
  intro m
  induction m with
  | zero => intro k; rfl
  | succ m ih =>
    intro k
    rw [nextOf, nextOf, List.getElem?_drop]
    split
    · rw [if_neg (by omega)]; omega
    · exact ih (k + 1)
theorem beside_idx {ds : List Int} {v n : Nat} {x : Int} (h : ds[v]? = some x) (hn : ds.length = n) : besideAt ds v = (if 0 ≤ idxOf (ds.drop (v + 1)) x then (v : Int) + 1 + idxOf (ds.drop (v + 1)) x else -1) := by
  have e := nextOf_drop ds x (v + 1) (n - (v + 1)) 0
  rw [Nat.add_zero] at e
  rw [besideAt_eq h hn, e]
  have e2 : idxOf (ds.drop (v + 1)) x = nextOf (ds.drop (v + 1)) x 0 (n - (v + 1)) := by rw [idxOf, List.length_drop, hn]
  rw [e2]
  rcases nextOf_range (ds.drop (v + 1)) x (n - (v + 1)) 0 with h1 | h1
  · rw [h1]; rfl
  · rw [if_neg (by omega), if_pos (by omega)]; omega
theorem idxOf_range (l : List Int) (x : Int) : -1 ≤ idxOf l x ∧ idxOf l x < (l.length : Int) + 1 := by
  rcases nextOf_range l x l.length 0 with h | h
  · rw [idxOf, h]; omega
  · rw [idxOf]; omega

/-- half of a number, downwards -/
def half (n : Int) : Int := n / 2
theorem half_neg {n : Int} (_ : n < 0) : -((1 - n) / 2) = half n := by simp only [half]; omega
theorem half_pos {n : Int} (_ : 0 ≤ n) : n / 2 = half n := rfl
theorem half_shift (n : Int) : n.shiftRight 1 = half n := by
  rw [half]
  exact Int.shiftRight_eq_div_pow n 1
theorem half_bounds {n a b : Int} (h1 : 2 * a ≤ n) (h2 : n ≤ 2 * b) : a ≤ half n ∧ half n ≤ b := by simp only [half]; omega

/-- the columns of the leaves among the first k nodes, 0 elsewhere, and the next column -/
def evL (xs : List Int) : Nat → Int
  | 0 => 0
  | k + 1 => evL xs k + (if xs[k]? = some 0 then 2 else 0)
def evLeafRow (xs : List Int) (k : Nat) : List Int := rowOf xs.length fun i => if i < k ∧ xs[i]? = some 0 then evL xs i else 0
theorem evL_bounds (xs : List Int) : ∀ k, 0 ≤ evL xs k ∧ evL xs k ≤ 2 * k := by
  intro k
  induction k with
  | zero => simp [evL]
  | succ k ih => rw [evL]; split <;> omega
theorem evLeaf_zero (xs : List Int) : evLeafRow xs 0 = List.replicate xs.length 0 := by
  rw [← rowOf_zero]
  exact rowOf_congr fun i _ => if_neg (by omega)
theorem evLeaf_len (xs : List Int) (k : Nat) : (evLeafRow xs k).length = xs.length := rowOf_len _ _
theorem evLeaf_hit {xs : List Int} {k : Nat} {y : Int} (h : xs[k]? = some 0) (hy : evL xs k = y) : (evLeafRow xs k).set k y = evLeafRow xs (k + 1) ∧ evL xs (k + 1) = y + 2 := by
  refine ⟨?_, by rw [evL, if_pos h, hy]⟩
  rw [evLeafRow, rowOf_set]
  refine rowOf_congr fun i hi => ?_
  by_cases e : i = k
  · subst e; rw [if_pos rfl, if_pos ⟨by omega, h⟩, hy]
  · rw [if_neg e]
    by_cases hk : i < k ∧ xs[i]? = some 0
    · rw [if_pos hk, if_pos ⟨by omega, hk.2⟩]
    · rw [if_neg hk, if_neg (fun h' => hk ⟨by omega, h'.2⟩)]
theorem evLeaf_miss {xs : List Int} {k : Nat} {x : Int} (h : xs[k]? = some x) (hx : x ≠ 0) : evLeafRow xs k = evLeafRow xs (k + 1) ∧ evL xs (k + 1) = evL xs k := by
  have hne : ¬ xs[k]? = some 0 := by rw [h]; intro e; injection e with e; exact hx e
  refine ⟨rowOf_congr fun i hi => ?_, by rw [evL, if_neg hne]; omega⟩
  by_cases hk : i < k ∧ xs[i]? = some 0
  · rw [if_pos hk, if_pos ⟨by omega, hk.2⟩]
  · rw [if_neg hk, if_neg]
    rintro ⟨h1, h2⟩
    have e : i ≠ k := fun e => by subst e; exact hne h2
    exact hk ⟨by omega, h2⟩
/-- the even drawing, from the last node back to the node k -/
def evRow (xs : List Int) : Nat → List Int
  | 0 => evLeafRow xs xs.length
  | m + 1 => let r := evRow xs m; let v := xs.length - (m + 1)
             match (xs[v]?.getD 0).toNat with
             | 0 => r
             | d + 1 => r.set v (half (r[kidAt xs v 0]?.getD 0 + r[kidAt xs v d]?.getD 0))
theorem evRow_len (xs : List Int) : ∀ m, (evRow xs m).length = xs.length := by
  intro m
  induction m with
  | zero => exact evLeaf_len _ _
  | succ m ih => simp only [evRow]; split <;> simp [ih]
theorem evRow_leaf {xs : List Int} {m v : Nat} (hv : xs.length = v + (m + 1)) (hd : xs[v]? = some 0) : evRow xs (m + 1) = evRow xs m := by
  have e : xs.length - (m + 1) = v := by omega
  simp [evRow, e, hd]
theorem evRow_node {xs : List Int} {m v d : Nat} {x y : Int} (hv : xs.length = v + (m + 1)) (hd : xs[v]? = some ((d + 1 : Nat) : Int)) (hx : (evRow xs m)[kidAt xs v 0]? = some x) (hy : (evRow xs m)[kidAt xs v d]? = some y) :
    evRow xs (m + 1) = (evRow xs m).set v (half (x + y)) := by
  have e : xs.length - (m + 1) = v := by omega
  simp only [evRow, e, hd, Option.getD_some, Int.toNat_natCast, hx, hy]
theorem evRow_bounds {xs : List Int} (hx : xs.length ≤ 24) : ∀ m, ∀ z ∈ evRow xs m, 0 ≤ z ∧ z ≤ 48 := by
  intro m
  induction m with
  | zero =>
    intro z hz
    simp only [evRow, evLeafRow, rowOf, List.mem_map, List.mem_range] at hz
    obtain ⟨i, hi, h⟩ := hz
    have := evL_bounds xs i
    split at h <;> omega
  | succ m ih =>
    intro z hz
    simp only [evRow] at hz
    split at hz
    · exact ih z hz
    · rename_i d _
      rcases List.mem_or_eq_of_mem_set hz with h | h
      · exact ih z h
      · have hg : ∀ j : Nat, 0 ≤ (evRow xs m)[j]?.getD 0 ∧ (evRow xs m)[j]?.getD 0 ≤ 48 := fun j => by
          cases e : (evRow xs m)[j]? with
          | none => simp
          | some y => exact ih y (List.mem_of_getElem? e)
        have h1 := hg (kidAt xs (xs.length - (m + 1)) 0)
        have h2 := hg (kidAt xs (xs.length - (m + 1)) d)
        subst h
        exact half_bounds (by omega) (by omega)
def evens (xs : List Int) : List Int := evRow xs xs.length
theorem evens_len (xs : List Int) : (evens xs).length = xs.length := evRow_len _ _
end M
end Go.Proofs.Ytbdmmeoelagdcaa
