/- Growing orders as mathematics: lists of all nodes, each once; orders in which parents come first; labels. No conditions. -/
import Derived.Test.YtbdmmeoelagdcaaPar
namespace Go.Proofs.Ytbdmmeoelagdcaa.M

/-- the numbers below n, each once -/
def isOrd (n : Nat) (l : List Int) : Bool := decide (l.length = n ∧ l.Nodup ∧ ∀ x ∈ l, 0 ≤ x ∧ x < (n : Int))
theorem isOrd_iff {n : Nat} {l : List Int} : isOrd n l = true ↔ l.length = n ∧ l.Nodup ∧ ∀ x ∈ l, 0 ≤ x ∧ x < (n : Int) := by simp [isOrd]
/-- what the first k ones are, if nothing was wrong -/
def OrdTo (n : Nat) (l : List Int) (k : Nat) : Prop := (l.take k).Nodup ∧ ∀ x ∈ l.take k, 0 ≤ x ∧ x < (n : Int)
theorem ordTo_zero (n : Nat) (l : List Int) : OrdTo n l 0 := by simp [OrdTo]
theorem take_add_one {l : List Int} {k : Nat} {x : Int} (hx : l[k]? = some x) : l.take (k + 1) = l.take k ++ [x] := by
  rw [List.take_add_one, hx]; rfl
theorem ordTo_step {n : Nat} {l : List Int} {k : Nat} {x : Int} (h : OrdTo n l k) (hx : l[k]? = some x) (h0 : 0 ≤ x) (h1 : x < (n : Int)) (hm : x ∉ l.take k) : OrdTo n l (k + 1) := by
  obtain ⟨a, b⟩ := h
  rw [OrdTo, take_add_one hx]
  refine ⟨List.nodup_append.2 ⟨a, by simp, ?_⟩, ?_⟩
  · intro y hy z hz
    simp only [List.mem_singleton] at hz
    subst hz
    exact fun e => hm (e ▸ hy)
  · intro y hy
    rcases List.mem_append.1 hy with h | h
    · exact b y h
    · simp only [List.mem_singleton] at h
      subst h
      exact ⟨h0, h1⟩
theorem isOrd_end {n : Nat} {l : List Int} (h : OrdTo n l l.length) : isOrd n l = decide (l.length = n) := by
  rw [OrdTo, List.take_length] at h
  by_cases e : l.length = n
  · rw [decide_eq_true e]; exact isOrd_iff.2 ⟨e, h⟩
  · rw [decide_eq_false e]; exact Bool.eq_false_iff.2 fun h' => e (isOrd_iff.1 h').1
theorem isOrd_out {n : Nat} {l : List Int} {k : Nat} {x : Int} (hx : l[k]? = some x) (h : ¬ (0 ≤ x ∧ x < (n : Int))) : isOrd n l = false :=
  Bool.eq_false_iff.2 fun h' => h ((isOrd_iff.1 h').2.2 x (List.mem_of_getElem? hx))
theorem isOrd_twice {n : Nat} {l : List Int} {k : Nat} {x : Int} (hx : l[k]? = some x) (h : x ∈ l.take k) : isOrd n l = false :=
  Bool.eq_false_iff.2 fun h' => by
    have hn := (isOrd_iff.1 h').2.1
    have e : l = l.take k ++ l.drop k := (List.take_append_drop k l).symm
    rw [e] at hn
    have hk : k < l.length := (List.getElem?_eq_some_iff.1 hx).1
    refine (List.nodup_append.1 hn).2.2 x h x ?_ rfl
    exact List.mem_of_getElem? (i := 0) (by rw [List.getElem?_drop]; simpa using hx)
theorem isOrd_len {n : Nat} {l : List Int} (h : l.length ≠ n) : isOrd n l = false := Bool.eq_false_iff.2 fun h' => h (isOrd_iff.1 h').1

/-- the numbers from 0 on -/
def iota (n : Nat) : List Int := (List.range n).map fun v : Nat => (v : Int)
theorem iota_len (n : Nat) : (iota n).length = n := by simp [iota]
theorem iota_at {n i : Nat} (h : i < n) : (iota n)[i]? = some (i : Int) := by simp [iota, h]
theorem mem_iota {n : Nat} {x : Int} : x ∈ iota n ↔ 0 ≤ x ∧ x < (n : Int) := by
  simp only [iota, List.mem_map, List.mem_range]
  constructor
  · rintro ⟨a, h, rfl⟩; omega
  · rintro ⟨h0, h1⟩; exact ⟨x.toNat, by omega, by omega⟩
theorem iota_nodup (n : Nat) : (iota n).Nodup := by
  refine List.pairwise_map.2 ?_
  refine (List.nodup_range (n := n)).imp ?_
  intro a b h e
  exact h (by omega)
/-- an ascending list of n different numbers below n is the list of all of them -/
theorem asc_low : ∀ (l : List Int) (a : Int), l.Pairwise (· < ·) → (∀ x ∈ l, a ≤ x) → ∀ (i : Nat) x, l[i]? = some x → a + (i : Int) ≤ x := by
  intro l
  induction l with
  | nil => intro a _ _ i x h; simp at h
  | cons y r ih =>
    intro a hp ha i x hx
    obtain ⟨h1, h2⟩ := List.pairwise_cons.1 hp
    cases i with
    | zero =>
      simp only [List.getElem?_cons_zero] at hx
      injection hx with hx
      subst hx
      have := ha y (by simp)
      omega
    | succ i =>
      simp only [List.getElem?_cons_succ] at hx
      have := ih (a + 1) h2 (fun z hz => by have := h1 z hz; have := ha y (by simp); omega) i x hx
      omega
theorem asc_up : ∀ (l : List Int) (b : Int), l.Pairwise (· < ·) → (∀ x ∈ l, x < b) → ∀ (i : Nat) x, l[i]? = some x → x + (l.length : Int) ≤ b + (i : Int) := by
  intro l
  induction l with
  | nil => intro a _ _ i x h; simp at h
  | cons y r ih =>
    intro b hp hb i x hx
    obtain ⟨h1, h2⟩ := List.pairwise_cons.1 hp
    have hy := hb y (by simp)
    cases i with
    | zero =>
      simp only [List.getElem?_cons_zero] at hx
      injection hx with hx
      subst hx
      cases hr : r with
      | nil => simp; omega
      | cons z r' =>
        have h3 := ih b h2 (fun z hz => hb z (by simp [hz])) 0 z (by rw [hr]; rfl)
        have h4 := h1 z (by rw [hr]; simp)
        rw [hr] at h3
        simp only [List.length_cons] at h3 ⊢
        omega
    | succ i =>
      simp only [List.getElem?_cons_succ] at hx
      have := ih b h2 (fun z hz => hb z (by simp [hz])) i x hx
      simp only [List.length_cons]
      omega
theorem asc_iota {l : List Int} {n : Nat} (hl : l.length = n) (hp : l.Pairwise (· < ·)) (hr : ∀ x ∈ l, 0 ≤ x ∧ x < (n : Int)) : l = iota n := by
  refine List.ext_getElem? fun i => ?_
  rcases Nat.lt_or_ge i n with hi | hi
  · have hx : l[i]? = some l[i] := List.getElem?_eq_getElem (by omega)
    have h1 := asc_low l 0 hp (fun x hx => (hr x hx).1) i _ hx
    have h2 := asc_up l n hp (fun x hx => (hr x hx).2) i _ hx
    rw [iota_at hi, hx]
    congr 1
    omega
  · rw [List.getElem?_eq_none (by omega), List.getElem?_eq_none (by rw [iota_len]; omega)]
/-- the list in ascending order -/
def sorted (l : List Int) : List Int := l.mergeSort (fun x y => decide (x ≤ y))
theorem sorted_len (l : List Int) : (sorted l).length = l.length := List.length_mergeSort _
theorem sorted_perm (l : List Int) : (sorted l).Perm l := List.mergeSort_perm _ _
theorem sorted_iff {n : Nat} {l : List Int} (hl : l.length = n) : sorted l = iota n ↔ isOrd n l = true := by
  have hp := sorted_perm l
  constructor
  · intro h
    rw [h] at hp
    refine isOrd_iff.2 ⟨hl, hp.nodup (iota_nodup n), fun x hx => mem_iota.1 (hp.mem_iff.2 hx)⟩
  · intro h
    obtain ⟨_, h1, h2⟩ := isOrd_iff.1 h
    have hs : (sorted l).Pairwise (fun a b => decide (a ≤ b) = true) := List.pairwise_mergeSort (le := fun x y => decide (x ≤ y)) (fun a b c h1 h2 => by simp at *; omega) (fun a b => by simp; omega) l
    have hn : (sorted l).Nodup := hp.symm.nodup h1
    refine asc_iota (by rw [sorted_len, hl]) ?_ fun x hx => h2 x (hp.mem_iff.1 hx)
    have := hs.and hn
    exact this.imp fun {a b} h => by have h3 := of_decide_eq_true h.1; have h4 := h.2; omega

/-- the parent of a node, as the row of parents tells it -/
def parOf (ps : List Int) (v : Int) : Int := ps[v.toNat]?.getD (-1)
/-- each of the first k nodes comes behind its parent -/
def GrowTo (ps l : List Int) (k : Nat) : Prop := ∀ (i : Nat) x, i < k → l[i]? = some x → parOf ps x < 0 ∨ parOf ps x ∈ l.take i
open Classical in
noncomputable def grows (ps l : List Int) : Bool := decide (GrowTo ps l l.length)
theorem grows_iff {ps l : List Int} : grows ps l = true ↔ GrowTo ps l l.length := by simp [grows]
theorem growTo_zero (ps l : List Int) : GrowTo ps l 0 := fun i x h => by omega
theorem growTo_step {ps l : List Int} {k : Nat} {x : Int} (h : GrowTo ps l k) (hx : l[k]? = some x) (hm : parOf ps x < 0 ∨ parOf ps x ∈ l.take k) : GrowTo ps l (k + 1) := fun i y hi hy => by
  rcases Nat.lt_or_ge i k with h1 | h1
  · exact h i y h1 hy
  · obtain rfl : i = k := by omega
    rw [hx] at hy
    injection hy with hy
    subst hy
    exact hm
theorem grows_not {ps l : List Int} {k : Nat} {x : Int} (hx : l[k]? = some x) (h0 : 0 ≤ parOf ps x) (hm : parOf ps x ∉ l.take k) : grows ps l = false :=
  Bool.eq_false_iff.2 fun h => by
    rcases grows_iff.1 h k x (List.getElem?_eq_some_iff.1 hx).1 hx with h1 | h1
    · omega
    · exact hm h1

/-- the labels that the first k places give; 0 where there is none -/
def labTo (n : Nat) (l : List Int) (k : Nat) : List Int := (List.range n).map fun v : Nat => if (v : Int) ∈ l.take k then (l.idxOf (v : Int) : Int) else 0
theorem labTo_len (n : Nat) (l : List Int) (k : Nat) : (labTo n l k).length = n := by simp [labTo]
theorem labTo_zero (n : Nat) (l : List Int) : labTo n l 0 = List.replicate n 0 := by simp [labTo, List.map_const']
theorem idxOf_at {l : List Int} (hn : l.Nodup) {k : Nat} {x : Int} (hx : l[k]? = some x) : l.idxOf x = k := by
  obtain ⟨h1, h2⟩ := List.getElem?_eq_some_iff.1 hx
  have hm : x ∈ l := List.mem_of_getElem? hx
  have h3 : l.idxOf x < l.length := List.idxOf_lt_length_of_mem hm
  have h4 : l[l.idxOf x] = x := List.getElem_idxOf h3
  exact (List.getElem_inj (h₀ := h3) (h₁ := h1) hn).1 (by rw [h4, h2])
theorem labTo_step {n : Nat} {l : List Int} (h : isOrd n l = true) {k v : Nat} (hx : l[k]? = some (v : Int)) : (labTo n l k).set v (k : Int) = labTo n l (k + 1) := by
  obtain ⟨hl, hn, hr⟩ := isOrd_iff.1 h
  have hv := (hr _ (List.mem_of_getElem? hx)).2
  refine List.ext_getElem? fun i => ?_
  rcases Nat.lt_or_ge i n with hi | hi
  · rw [List.getElem?_set]
    simp only [labTo, List.length_map, List.length_range, List.getElem?_map, List.getElem?_range hi, Option.map_some]
    rw [take_add_one hx]
    by_cases hvi : v = i
    · subst hvi
      rw [if_pos rfl, if_pos hi, if_pos (by simp), idxOf_at hn hx]
    · rw [if_neg hvi]
      congr 1
      have : (i : Int) ≠ (v : Int) := by omega
      simp [this]
  · rw [List.getElem?_eq_none (by simp [labTo]; omega), List.getElem?_eq_none (by rw [labTo_len]; omega)]
def labs (n : Nat) (l : List Int) : List Int := labTo n l l.length
/-- a list of all numbers below n has each of them -/
theorem ord_has {n : Nat} {l : List Int} (h : isOrd n l = true) {v : Nat} (hv : v < n) : (v : Int) ∈ l := by
  have := (sorted_iff (isOrd_iff.1 h).1).2 h
  have hm : (v : Int) ∈ sorted l := by rw [this]; exact mem_iota.2 (by omega)
  exact (sorted_perm l).mem_iff.1 hm
theorem labs_at {n : Nat} {l : List Int} (h : isOrd n l = true) {v : Nat} (hv : v < n) : (labs n l)[v]? = some (l.idxOf (v : Int) : Int) := by
  have hm := ord_has h hv
  simp [labs, labTo, hv, hm]
/-- parents and labels: the order grows if no label of a node is less than its parent's -/
def LabOK (n : Nat) (ps l : List Int) (k : Nat) : Prop := ∀ v, 1 ≤ v → v < k → v < n → l.idxOf (parOf ps (v : Int)) ≤ l.idxOf (v : Int)
theorem idxOf_le {x : Int} : ∀ {l : List Int} {i : Nat}, l[i]? = some x → l.idxOf x ≤ i := by
  intro l
  induction l with
  | nil => intro i h; simp at h
  | cons y r ih =>
    intro i h
    rw [List.idxOf_cons]
    cases i with
    | zero =>
      simp only [List.getElem?_cons_zero] at h
      injection h with h
      subst h
      simp
    | succ i =>
      simp only [List.getElem?_cons_succ] at h
      have := ih h
      cases hb : y == x
      · simp; omega
      · simp
theorem mem_take_idx {l : List Int} {x : Int} {k : Nat} (hx : x ∈ l) : x ∈ l.take k ↔ l.idxOf x < k := by
  have h3 : l.idxOf x < l.length := List.idxOf_lt_length_of_mem hx
  have h4 : l[l.idxOf x]? = some x := by rw [List.getElem?_eq_getElem h3, List.getElem_idxOf h3]
  constructor
  · intro h
    rcases Nat.lt_or_ge (l.idxOf x) k with h5 | h5
    · exact h5
    · exfalso
      obtain ⟨i, hi⟩ := List.mem_iff_getElem?.1 h
      have hik : i < k := by
        have := (List.getElem?_eq_some_iff.1 hi).1
        rw [List.length_take] at this
        omega
      rw [List.getElem?_take_of_lt hik] at hi
      have := idxOf_le hi
      omega
  · intro h
    exact List.mem_of_getElem? (by rw [List.getElem?_take_of_lt h]; exact h4)
theorem grows_lab {n : Nat} {ps l : List Int} (h : isOrd n l = true) (hr : ∀ v : Nat, 1 ≤ v → v < n → 0 ≤ parOf ps (v : Int) ∧ parOf ps (v : Int) < (v : Int)) (h0 : parOf ps 0 < 0) : grows ps l = true ↔ LabOK n ps l n := by
  obtain ⟨hl, hn, hm⟩ := isOrd_iff.1 h
  rw [grows_iff]
  constructor
  · intro hg v hv _ hvn
    have hmv := ord_has h hvn
    have h3 : l.idxOf (v : Int) < l.length := List.idxOf_lt_length_of_mem hmv
    have h4 : l[l.idxOf (v : Int)]? = some (v : Int) := by rw [List.getElem?_eq_getElem h3, List.getElem_idxOf h3]
    obtain ⟨a, b⟩ := hr v hv hvn
    have hmp : parOf ps (v : Int) ∈ l := by
      have := ord_has h (v := (parOf ps (v : Int)).toNat) (by omega)
      rwa [Int.toNat_of_nonneg a] at this
    rcases hg _ _ h3 h4 with h5 | h5
    · omega
    · exact Nat.le_of_lt ((mem_take_idx hmp).1 h5)
  · intro hL i x hi hx
    obtain ⟨a, b⟩ := hm x (List.mem_of_getElem? hx)
    obtain ⟨v, rfl⟩ := Int.eq_ofNat_of_zero_le a
    rcases Nat.eq_zero_or_pos v with e | e
    · subst e; exact .inl h0
    · obtain ⟨c, d⟩ := hr v e (by omega)
      have hmp : parOf ps (v : Int) ∈ l := by
        have := ord_has h (v := (parOf ps (v : Int)).toNat) (by omega)
        rwa [Int.toNat_of_nonneg c] at this
      refine .inr ((mem_take_idx hmp).2 ?_)
      have h6 := hL v e (by omega) (by omega)
      have h7 := idxOf_at hn hx
      rcases Nat.lt_or_ge (l.idxOf (parOf ps (v : Int))) i with h8 | h8
      · exact h8
      · exfalso
        have h9 : l.idxOf (parOf ps (v : Int)) = i := by omega
        have h10 : l[i]? = some (parOf ps (v : Int)) := by rw [← h9, List.getElem?_eq_getElem (List.idxOf_lt_length_of_mem hmp), List.getElem_idxOf]
        rw [hx] at h10
        injection h10 with h10
        omega
end Go.Proofs.Ytbdmmeoelagdcaa.M
