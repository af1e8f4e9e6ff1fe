/- What can come next behind the first nodes of a growing order, and orders that are gone on with: mathematics. No conditions. -/
import Derived.Test.YtbdmmeoelagdcaaGrow
namespace Go.Proofs.Ytbdmmeoelagdcaa.M

/-- the nodes that can come next, ascending -/
def rdyB (ps b : List Int) (v : Nat) : Bool := decide ((v : Int) ∉ b ∧ (v = 0 ∨ parOf ps (v : Int) ∈ b))
def rdyTo (ps b : List Int) (k : Nat) : List Int := ((List.range k).filter (rdyB ps b)).map fun v : Nat => (v : Int)
theorem rdyTo_zero (ps b : List Int) : rdyTo ps b 0 = [] := rfl
theorem rdyTo_hit {ps b : List Int} {k : Nat} (h : rdyB ps b k = true) : rdyTo ps b (k + 1) = rdyTo ps b k ++ [(k : Int)] := by simp [rdyTo, List.range_succ, h]
theorem rdyTo_miss {ps b : List Int} {k : Nat} (h : rdyB ps b k = false) : rdyTo ps b (k + 1) = rdyTo ps b k := by simp [rdyTo, List.range_succ, h]
theorem rdyTo_len (ps b : List Int) (k : Nat) : (rdyTo ps b k).length ≤ k := by
  rw [rdyTo, List.length_map]
  exact Nat.le_trans (List.length_filter_le _ _) (by simp)
theorem mem_rdyTo {ps b : List Int} {k : Nat} {x : Int} : x ∈ rdyTo ps b k ↔ ∃ v : Nat, x = (v : Int) ∧ v < k ∧ rdyB ps b v = true := by
  simp only [rdyTo, List.mem_map, List.mem_filter, List.mem_range]
  constructor
  · rintro ⟨a, ⟨h1, h2⟩, rfl⟩; exact ⟨a, rfl, h1, h2⟩
  · rintro ⟨a, rfl, h1, h2⟩; exact ⟨a, ⟨h1, h2⟩, rfl⟩
theorem rdyTo_asc (ps b : List Int) (k : Nat) : (rdyTo ps b k).Pairwise (· < ·) := by
  refine List.pairwise_map.2 ?_
  refine ((List.pairwise_lt_range (n := k)).filter _).imp ?_
  intro a b h
  omega

/-- the rows of parents that trees have -/
def Parents (n : Nat) (ps : List Int) : Prop := ps.length = n ∧ parOf ps 0 < 0 ∧ ∀ v : Nat, 1 ≤ v → v < n → 0 ≤ parOf ps (v : Int) ∧ parOf ps (v : Int) < (v : Int)
/-- the beginning of a growing order -/
def Bgn (n : Nat) (ps b : List Int) : Prop := b.Nodup ∧ (∀ x ∈ b, 0 ≤ x ∧ x < (n : Int)) ∧ GrowTo ps b b.length
theorem bgn_nil (n : Nat) (ps : List Int) : Bgn n ps [] := ⟨by simp, by simp, growTo_zero _ _⟩
theorem bgn_root {n : Nat} {ps b : List Int} (hp : Parents n ps) (h : Bgn n ps b) (hb : b ≠ []) : (0 : Int) ∈ b := by
  obtain ⟨_, h2, h3⟩ := h
  obtain ⟨y, r, rfl⟩ := List.exists_cons_of_ne_nil hb
  rcases h3 0 y (by simp) rfl with h4 | h4
  · have hy := h2 y (by simp)
    obtain ⟨v, rfl⟩ := Int.eq_ofNat_of_zero_le hy.1
    rcases Nat.eq_zero_or_pos v with e | e
    · subst e; simp
    · have := hp.2.2 v e (by omega); omega
  · simp at h4
theorem bgn_step {n : Nat} {ps b : List Int} (hp : Parents n ps) (h : Bgn n ps b) {x : Int} (hx : x ∈ rdyTo ps b n) : Bgn n ps (b ++ [x]) := by
  obtain ⟨v, rfl, hv, hr⟩ := mem_rdyTo.1 hx
  obtain ⟨h1, h2, h3⟩ := h
  obtain ⟨r1, r2⟩ := of_decide_eq_true hr
  refine ⟨List.nodup_append.2 ⟨h1, by simp, fun y hy z hz e => ?_⟩, fun y hy => ?_, fun i y hi hy => ?_⟩
  · simp only [List.mem_singleton] at hz
    subst hz; subst e; exact r1 hy
  · rcases List.mem_append.1 hy with h | h
    · exact h2 y h
    · simp only [List.mem_singleton] at h; subst h; omega
  · rcases Nat.lt_or_ge i b.length with h5 | h5
    · rw [List.getElem?_append_left h5] at hy
      rw [List.take_append_of_le_length (by omega)]
      exact h3 i y h5 hy
    · simp only [List.length_append, List.length_singleton] at hi
      obtain rfl : i = b.length := by omega
      rw [List.getElem?_append_right (Nat.le_refl _)] at hy
      simp only [Nat.sub_self, List.getElem?_cons_zero] at hy
      injection hy with hy
      subst hy
      rw [List.take_append_of_le_length (Nat.le_refl _), List.take_length]
      rcases r2 with e | e
      · subst e; exact .inl hp.2.1
      · exact .inr e
theorem bgn_take {n : Nat} {ps l : List Int} (h : Bgn n ps l) (k : Nat) : Bgn n ps (l.take k) := by
  obtain ⟨h1, h2, h3⟩ := h
  refine ⟨h1.sublist (List.take_sublist _ _), fun x hx => h2 x (List.mem_of_mem_take hx), fun i y hi hy => ?_⟩
  rw [List.length_take] at hi
  rw [List.getElem?_take_of_lt (by omega)] at hy
  rw [List.take_take, Nat.min_eq_left (by omega)]
  exact h3 i y (by omega) hy
theorem nodup_len {n : Nat} {b : List Int} (h1 : b.Nodup) (h2 : ∀ x ∈ b, 0 ≤ x ∧ x < (n : Int)) : b.length ≤ n := by
  rcases Nat.lt_or_ge n b.length with h3 | h3
  · exfalso
    have hp := sorted_perm b
    have hs : (sorted b).Pairwise (fun a b => decide (a ≤ b) = true) := List.pairwise_mergeSort (le := fun x y => decide (x ≤ y)) (fun a b c h1 h2 => by simp at *; omega) (fun a b => by simp; omega) b
    have hn : (sorted b).Nodup := hp.symm.nodup h1
    have hq : (sorted b).Pairwise (· < ·) := by
      have := hs.and hn
      exact this.imp fun {a b} h => by have h3 := of_decide_eq_true h.1; have h4 := h.2; omega
    have hl := sorted_len b
    obtain ⟨x, hx⟩ : ∃ x, (sorted b)[0]? = some x := ⟨_, List.getElem?_eq_getElem (by omega)⟩
    have h4 := asc_up (sorted b) n hq (fun x hx => (h2 x (hp.mem_iff.1 hx)).2) 0 x hx
    have h5 := (h2 x (hp.mem_iff.1 (List.mem_of_getElem? hx))).1
    omega
  · exact h3
theorem bgn_len {n : Nat} {ps b : List Int} (h : Bgn n ps b) : b.length ≤ n := nodup_len h.1 h.2.1
theorem all_len : ∀ (n : Nat) (b : List Int), (∀ v : Nat, v < n → (v : Int) ∈ b) → n ≤ b.length := by
  intro n
  induction n with
  | zero => intro b _; omega
  | succ n ih =>
    intro b h
    have h1 := h n (by omega)
    have h2 := ih (b.erase (n : Int)) fun v hv => (List.mem_erase_of_ne (by omega)).2 (h v (by omega))
    rw [List.length_erase_of_mem h1] at h2
    have := List.length_pos_of_mem h1
    omega
theorem bgn_ord {n : Nat} {ps b : List Int} (h : Bgn n ps b) (hl : b.length = n) : isOrd n b = true := isOrd_iff.2 ⟨hl, h.1, h.2.1⟩
theorem ord_bgn {n : Nat} {ps l : List Int} (h : isOrd n l = true) (hg : grows ps l = true) : Bgn n ps l := ⟨(isOrd_iff.1 h).2.1, (isOrd_iff.1 h).2.2, grows_iff.1 hg⟩
/-- there is a node to come if not all are there -/
theorem rdy_least {n : Nat} {ps b : List Int} (hp : Parents n ps) : ∀ k, k ≤ n → (∀ v : Nat, v < k → (v : Int) ∈ b) ∨ rdyTo ps b k ≠ [] := by
  intro k
  induction k with
  | zero => intro _; exact .inl fun v h => by omega
  | succ k ih =>
    intro hk
    rcases ih (by omega) with h | h
    · by_cases hb : (k : Int) ∈ b
      · refine .inl fun v hv => ?_
        rcases Nat.lt_or_ge v k with h1 | h1
        · exact h v h1
        · obtain rfl : v = k := by omega
          exact hb
      · refine .inr ?_
        have : rdyB ps b k = true := by
          refine decide_eq_true ⟨hb, ?_⟩
          rcases Nat.eq_zero_or_pos k with e | e
          · exact .inl e
          · obtain ⟨a, c⟩ := hp.2.2 k e (by omega)
            have := h (parOf ps (k : Int)).toNat (by omega)
            rw [Int.toNat_of_nonneg a] at this
            exact .inr this
        rw [rdyTo_hit this]
        simp
    · refine .inr ?_
      cases hb : rdyB ps b k
      · rw [rdyTo_miss hb]; exact h
      · rw [rdyTo_hit hb]; simp
theorem rdy_some {n : Nat} {ps b : List Int} (hp : Parents n ps) (hl : b.length < n) : rdyTo ps b n ≠ [] := by
  rcases rdy_least (b := b) hp n (Nat.le_refl _) with h | h
  · exfalso
    have := all_len n b h
    omega
  · exact h

/-- the first nodes gone on with, m more ones: by the least or by the greatest of those that can come next -/
def pick (least : Bool) (r : List Int) : Int := if least then r[0]?.getD 0 else r[r.length - 1]?.getD 0
def fill (least : Bool) (n : Nat) (ps : List Int) : Nat → List Int → List Int
  | 0, b => b
  | m + 1, b => fill least n ps m (b ++ [pick least (rdyTo ps b n)])
theorem pick_at {least : Bool} {r : List Int} (h : r ≠ []) : ∃ j, j < r.length ∧ r[j]? = some (pick least r) ∧ j = if least then 0 else r.length - 1 := by
  have hl : 0 < r.length := List.length_pos_iff.2 h
  cases least
  · refine ⟨r.length - 1, by omega, ?_, rfl⟩
    simp only [pick]
    rw [List.getElem?_eq_getElem (by omega)]
    simp
  · refine ⟨0, hl, ?_, rfl⟩
    simp only [pick]
    rw [List.getElem?_eq_getElem hl]
    simp
theorem pick_mem {least : Bool} {r : List Int} (h : r ≠ []) : pick least r ∈ r := by
  obtain ⟨j, _, h2, _⟩ := pick_at (least := least) h
  exact List.mem_of_getElem? h2
theorem fill_step {least : Bool} {n : Nat} {ps b : List Int} (h : b.length < n) : fill least n ps (n - b.length) b = fill least n ps (n - (b ++ [pick least (rdyTo ps b n)]).length) (b ++ [pick least (rdyTo ps b n)]) := by
  rw [show n - b.length = (n - (b ++ [pick least (rdyTo ps b n)]).length) + 1 by simp only [List.length_append, List.length_singleton]; omega]
  rfl
theorem fill_done {least : Bool} {n : Nat} {ps b : List Int} (h : b.length = n) : fill least n ps (n - b.length) b = b := by rw [h, Nat.sub_self]; rfl
theorem fill_len {least : Bool} {n : Nat} {ps : List Int} : ∀ m (b : List Int), (fill least n ps m b).length = b.length + m := by
  intro m
  induction m with
  | zero => intro b; rfl
  | succ m ih => intro b; rw [fill, ih]; simp only [List.length_append, List.length_singleton]; omega
/-- the least ones from the beginning on are all nodes in their order -/
theorem iota_succ (k : Nat) : iota (k + 1) = iota k ++ [(k : Int)] := by simp [iota, List.range_succ]
theorem rdy_iota {n k : Nat} {ps : List Int} (hp : Parents n ps) (h : k < n) : pick true (rdyTo ps (iota k) n) = (k : Int) := by
  have h0 : ∀ j, j ≤ k → rdyTo ps (iota k) j = [] := by
    intro j
    induction j with
    | zero => intro _; rfl
    | succ j ih =>
      intro hj
      have : rdyB ps (iota k) j = false := decide_eq_false fun h => h.1 (mem_iota.2 (by omega))
      rw [rdyTo_miss this, ih (by omega)]
  have h1 : rdyB ps (iota k) k = true := by
    refine decide_eq_true ⟨fun h => by have := mem_iota.1 h; omega, ?_⟩
    rcases Nat.eq_zero_or_pos k with e | e
    · exact .inl e
    · have := hp.2.2 k e h
      exact .inr (mem_iota.2 this)
  have h2 : ∀ m, ∃ r, rdyTo ps (iota k) (k + 1 + m) = (k : Int) :: r := by
    intro m
    induction m with
    | zero => exact ⟨[], by rw [Nat.add_zero, rdyTo_hit h1, h0 k (Nat.le_refl _)]; rfl⟩
    | succ m ih =>
      obtain ⟨r, hr⟩ := ih
      rw [show k + 1 + (m + 1) = k + 1 + m + 1 by omega]
      cases hb : rdyB ps (iota k) (k + 1 + m)
      · exact ⟨r, by rw [rdyTo_miss hb, hr]⟩
      · exact ⟨r ++ [((k + 1 + m : Nat) : Int)], by rw [rdyTo_hit hb, hr]; rfl⟩
  obtain ⟨r, hr⟩ := h2 (n - (k + 1))
  rw [show k + 1 + (n - (k + 1)) = n by omega] at hr
  rw [hr]
  simp [pick]
theorem fill_iota {n : Nat} {ps : List Int} (hp : Parents n ps) : ∀ m k, k + m = n → fill true n ps m (iota k) = iota n := by
  intro m
  induction m with
  | zero => intro k h; obtain rfl : k = n := by omega
            rfl
  | succ m ih =>
    intro k h
    rw [fill, rdy_iota hp (by omega), ← iota_succ]
    exact ih (k + 1) (by omega)
end Go.Proofs.Ytbdmmeoelagdcaa.M
