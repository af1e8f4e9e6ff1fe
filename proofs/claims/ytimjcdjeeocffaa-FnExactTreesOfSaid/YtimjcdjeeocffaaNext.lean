/- Next trees, their mathematics: the last node that can take one child more takes it; the rank goes up by one. No program is named here. -/
import Derived.Test.YtimjcdjeeocffaaRank
import Derived.Test.YtimjcdjeeocffaaUnrank
import Derived.Test.YtimjcdjeeocffaaFirst
namespace Go.Proofs.Ytimjcdjeeocffaa.M
/-- the rank of a list of o trees -/
def rk : Nat → List Int → Nat
  | _, [] => 0
  | o, d :: r => sumTo (fun x => L r.length (o - 1 + x)) d.toNat + rk (o - 1 + d.toNat) r
theorem go_long {o : Nat} {ds : List Int} (h : isGo (o : Int) ds = true) : o ≤ ds.length := by
  rcases Nat.lt_or_ge ds.length o with h1 | h1
  · rw [isGo_big ds o (by omega)] at h; cases h
  · exact h1
theorem go_cons {o : Nat} {d : Int} {r : List Int} (h : isGo (o : Int) (d :: r) = true) : ∃ (p e : Nat), o = p + 1 ∧ d = (e : Int) ∧ e ≤ 24 ∧ isGo ((p + e : Nat) : Int) r = true ∧ p + e ≤ r.length := by
  simp only [isGo] at h
  split at h
  · cases h
  · rename_i hc
    simp at hc
    have e1 : (o : Int) - 1 + d = ((o - 1 + d.toNat : Nat) : Int) := by omega
    rw [e1] at h
    exact ⟨o - 1, d.toNat, by omega, by omega, by omega, h, go_long h⟩
theorem rk_cons (p e : Nat) (r : List Int) : rk (p + 1) ((e : Int) :: r) = sumTo (fun x => L r.length (p + x)) e + rk (p + e) r := by simp [rk]
theorem rk_lt : ∀ (ds : List Int) (o : Nat), isGo (o : Int) ds = true → rk o ds < L ds.length o := by
  intro ds
  induction ds with
  | nil => intro o h; have := go_long h; obtain rfl : o = 0 := by simpa using this
           simp [rk, L]
  | cons d r ih =>
    intro o h
    obtain ⟨p, e, rfl, rfl, _, h2, h3⟩ := go_cons h
    have h4 := ih _ h2
    have h5 := sumTo_le (f := fun x => L r.length (p + x)) (j := e + 1) (k := r.length - p + 1) (by omega)
    rw [rk_cons, List.length_cons, dig_total (by omega)]
    simp only [sumTo] at h5 ⊢
    omega
theorem dig_at {l p d R R' : Nat} (hd : d ≤ 24) (hR : sumTo (fun x => L l (p + x)) d + R' = R) (hR' : R' < L l (p + d)) : digGo l p 30 R 0 = (d, R') := by
  have h : ∀ j, j ≤ d → ∃ r, DigAt l p R j r := by
    intro j
    induction j with
    | zero => intro _; exact ⟨R, dig_start l p R⟩
    | succ j ih =>
      intro hj
      obtain ⟨r, hr⟩ := ih (by omega)
      have h1 := sumTo_le (f := fun x => L l (p + x)) (j := j + 1) (k := d) (by omega)
      have h2 := hr.2
      refine ⟨_, dig_step (by omega) hr ?_⟩
      simp only [sumTo] at h1
      omega
  obtain ⟨r, hr⟩ := h d (Nat.le_refl _)
  obtain rfl : r = R' := by have := hr.2; omega
  exact dig_stop (by omega) hr hR'
theorem unrank_rk : ∀ (ds : List Int) (o : Nat), isGo (o : Int) ds = true → unrank ds.length o (rk o ds) = ds := by
  intro ds
  induction ds with
  | nil => intro o _; rfl
  | cons d r ih =>
    intro o h
    obtain ⟨p, e, rfl, rfl, h1, h2, _⟩ := go_cons h
    rw [List.length_cons, unrank, Nat.add_sub_cancel, dig_at (d := e) (R' := rk (p + e) r) h1 (rk_cons p e r).symm (rk_lt r _ h2), ih _ h2]
theorem firstL_zero {m t : Nat} (h : 2 ≤ t) : firstL (m + 1) t = 0 :: firstL m (t - 1) := by
  apply List.ext_getElem?
  intro j
  cases j with
  | zero => simp [firstL, firstTo]; omega
  | succ j =>
    rw [List.getElem?_cons_succ]
    simp only [firstL, firstTo, List.getElem?_map]
    by_cases hj : j < m
    · rw [List.getElem?_range hj, List.getElem?_range (by omega)]
      simp only [Option.map_some]
      congr 1
      by_cases h3 : t ≤ j + 1 + 1 ∧ j + 1 < m + 1 - 1
      · rw [if_pos h3, if_pos (by omega)]
      · rw [if_neg h3, if_neg (by omega)]
    · rw [List.getElem?_eq_none (by simp; omega), List.getElem?_eq_none (by simp; omega)]
      rfl
theorem firstL_path {m : Nat} (h : 1 ≤ m) : firstL (m + 1) 1 = 1 :: firstL m 1 := by
  apply List.ext_getElem?
  intro j
  cases j with
  | zero => simp [firstL, firstTo]; omega
  | succ j =>
    rw [List.getElem?_cons_succ]
    simp only [firstL, firstTo, List.getElem?_map]
    by_cases hj : j < m
    · rw [List.getElem?_range hj, List.getElem?_range (by omega)]
      simp only [Option.map_some]
      congr 1
      by_cases h3 : 1 ≤ j + 1 + 1 ∧ j + 1 < m + 1 - 1
      · rw [if_pos h3, if_pos (by omega)]
      · rw [if_neg h3, if_neg (by omega)]
    · rw [List.getElem?_eq_none (by simp; omega), List.getElem?_eq_none (by simp; omega)]
      rfl
theorem firstL_last : firstL 1 1 = [0] := by decide
theorem firstL_go : ∀ (m t : Nat), 1 ≤ t → t ≤ m → isGo (t : Int) (firstL m t) = true ∧ rk t (firstL m t) = 0 := by
  intro m
  induction m with
  | zero => intro t h1 h2; omega
  | succ m ih =>
    intro t h1 h2
    rcases Nat.lt_or_ge t 2 with h3 | h3
    · obtain rfl : t = 1 := by omega
      rcases Nat.eq_zero_or_pos m with h4 | h4
      · subst h4; rw [firstL_last]; decide
      · obtain ⟨i1, i2⟩ := ih 1 (by omega) (by omega)
        rw [firstL_path h4]
        refine ⟨?_, ?_⟩
        · rw [isGo, if_neg (by decide)]; exact i1
        · have := rk_cons 0 1 (firstL m 1)
          simp only [Nat.zero_add] at this
          rw [show (1 : Int) = ((1 : Nat) : Int) from rfl, this, i2, firstL_len]
          simp only [sumTo]
          rw [L_base (.inr (by omega)), if_neg (by omega)]
    · obtain ⟨i1, i2⟩ := ih (t - 1) (by omega) (by omega)
      rw [firstL_zero h3]
      refine ⟨?_, ?_⟩
      · rw [isGo, if_neg (by simp; omega), show (t : Int) - 1 + 0 = ((t - 1 : Nat) : Int) by omega]; exact i1
      · have := rk_cons (t - 1) 0 (firstL m (t - 1))
        rw [show t - 1 + 1 = t by omega] at this
        rw [show (0 : Int) = ((0 : Nat) : Int) from rfl, this, Nat.add_zero, i2]
        simp [sumTo]
/-- the next list of o trees -/
def nextF : Nat → List Int → Option (List Int)
  | _, [] => none
  | o, d :: r => match nextF (o - 1 + d.toNat) r with
    | some r' => some (d :: r')
    | none => if o - 1 + d.toNat < r.length then some ((d + 1) :: firstL r.length (o - 1 + d.toNat + 1)) else none
theorem next_rk : ∀ (ds : List Int) (o : Nat), ds.length ≤ 24 → isGo (o : Int) ds = true →
    match nextF o ds with
    | some ys => isGo (o : Int) ys = true ∧ ys.length = ds.length ∧ rk o ys = rk o ds + 1
    | none => rk o ds + 1 = L ds.length o := by
  intro ds
  induction ds with
  | nil => intro o _ h; have := go_long h; obtain rfl : o = 0 := by simpa using this
           simp [nextF, rk, L]
  | cons d r ih =>
    intro o hl h
    obtain ⟨p, e, rfl, rfl, h1, h2, h3⟩ := go_cons h
    have hi := ih _ (by simp only [List.length_cons] at hl; omega) h2
    have hcl : (r.length : Int) + 1 ≤ 24 := by simp only [List.length_cons] at hl; omega
    simp only [nextF, Int.toNat_natCast, Nat.add_sub_cancel]
    cases hn : nextF (p + e) r with
    | some r' =>
      rw [hn] at hi
      obtain ⟨i1, i2, i3⟩ := hi
      refine ⟨?_, by simp [i2], ?_⟩
      · rw [isGo, if_neg (by simp; omega), show ((p + 1 : Nat) : Int) - 1 + (e : Int) = ((p + e : Nat) : Int) by omega]; exact i1
      · rw [rk_cons, rk_cons, i2, i3]; omega
    | none =>
      rw [hn] at hi
      simp only at hi ⊢
      by_cases hlt : p + e < r.length
      · rw [if_pos hlt]
        obtain ⟨f1, f2⟩ := firstL_go r.length (p + e + 1) (by omega) (by omega)
        refine ⟨?_, by simp [firstL_len], ?_⟩
        · rw [isGo, if_neg (by simp; omega), show ((p + 1 : Nat) : Int) - 1 + ((e : Int) + 1) = ((p + e + 1 : Nat) : Int) by omega]; exact f1
        · rw [show (e : Int) + 1 = ((e + 1 : Nat) : Int) by omega, rk_cons, rk_cons, firstL_len, show p + (e + 1) = p + e + 1 by omega, f2]
          simp only [sumTo]
          omega
      · rw [if_neg hlt]
        show _ = L (r.length + 1) (p + 1)
        rw [dig_total (by omega), rk_cons, show r.length - p + 1 = e + 1 by omega]
        simp only [sumTo]
        omega
theorem rankTo_rk {xs : List Int} (ht : isTree xs = true) : ∀ v, v ≤ xs.length → rankTo xs v + rk (dueN xs v) (xs.drop v) = rk 1 xs := by
  intro v
  induction v with
  | zero => intro _; simp [rankTo, dueN_zero]
  | succ v ih =>
    intro hv
    obtain ⟨d, hd, _⟩ := tree_degN ht (v := v) (by omega)
    have h1 := ih (by omega)
    have h2 := dueN_pos ht (v := v) (by omega)
    rw [drop_at hd, show dueN xs v = (dueN xs v - 1) + 1 by omega, rk_cons] at h1
    rw [rankTo_at hd, dueN_succ ht hd]
    have e1 : (xs.drop (v + 1)).length = xs.length - v - 1 := by simp; omega
    rw [e1] at h1
    simp only [inR]
    omega
theorem rank_rk {xs : List Int} (ht : isTree xs = true) : rankTo xs xs.length = rk 1 xs := by
  have := rankTo_rk ht xs.length (Nat.le_refl _)
  rw [List.drop_length] at this
  simpa [rk] using this
/-- the next tree, or nothing -/
theorem next_un {xs : List Int} (ht : isTree xs = true) : unTree xs.length (rankTo xs xs.length + 1) = (nextF 1 xs).getD [] ∧ decide (rankTo xs xs.length + 1 < L xs.length 1) = (nextF 1 xs).isSome := by
  have h := next_rk xs 1 (tree_len ht).2 (tree_go ht)
  rw [rank_rk ht, unTree]
  cases hn : nextF 1 xs with
  | some ys =>
    rw [hn] at h
    obtain ⟨h1, h2, h3⟩ := h
    have h4 := rk_lt ys 1 h1
    have h5 := unrank_rk ys 1 h1
    rw [h2] at h4 h5
    rw [← h3, if_pos h4]
    exact ⟨h5, by simpa using h4⟩
  | none =>
    rw [hn] at h
    simp only at h
    rw [if_neg (by omega)]
    exact ⟨rfl, by simp; omega⟩
theorem next_tree {xs ys : List Int} (ht : isTree xs = true) (h : nextF 1 xs = some ys) : isTree ys = true ∧ ys.length = xs.length := by
  have h1 := next_rk xs 1 (tree_len ht).2 (tree_go ht)
  rw [h] at h1
  have h2 := tree_len ht
  refine ⟨?_, h1.2.1⟩
  rw [isTree_is (by omega) (by omega)]
  exact h1.1
/-- the way back over the nodes: those from v on can't take one child more -/
theorem next_end {xs : List Int} : nextF (dueN xs xs.length) (xs.drop xs.length) = none := by rw [List.drop_length]; rfl
theorem next_miss {xs : List Int} (ht : isTree xs = true) {v d : Nat} (hd : xs[v]? = some (d : Int)) (h : nextF (dueN xs (v + 1)) (xs.drop (v + 1)) = none) (hm : ¬ dueN xs (v + 1) < xs.length - 1 - v) : nextF (dueN xs v) (xs.drop v) = none := by
  rw [dueN_succ ht hd] at h hm
  rw [drop_at hd, nextF, Int.toNat_natCast, h]
  simp only
  rw [if_neg (by simp; omega)]
theorem next_pre {xs : List Int} (ht : isTree xs = true) : ∀ (v : Nat) (ys : List Int), v ≤ xs.length → nextF (dueN xs v) (xs.drop v) = some ys → nextF 1 xs = some (xs.take v ++ ys) := by
  intro v
  induction v with
  | zero => intro ys _ h; rw [dueN_zero] at h; simpa using h
  | succ v ih =>
    intro ys hv h
    obtain ⟨d, hd, _⟩ := tree_degN ht (v := v) (by omega)
    rw [dueN_succ ht hd] at h
    have h1 := ih ((d : Int) :: ys) (by omega) (by rw [drop_at hd, nextF, Int.toNat_natCast, h])
    rw [h1, List.take_add_one, hd]
    simp
theorem next_hit {xs : List Int} (ht : isTree xs = true) {v d : Nat} (hd : xs[v]? = some (d : Int)) (h : nextF (dueN xs (v + 1)) (xs.drop (v + 1)) = none) (hm : dueN xs (v + 1) < xs.length - 1 - v) : nextF 1 xs = some (xs.take v ++ [((d : Int) + 1)] ++ firstL (xs.length - 1 - v) (dueN xs (v + 1) + 1)) := by
  have hv := (List.getElem?_eq_some_iff.1 hd).1
  rw [List.append_assoc]
  refine next_pre ht v _ (by omega) ?_
  rw [dueN_succ ht hd] at h hm ⊢
  rw [drop_at hd, nextF, Int.toNat_natCast, h]
  simp only
  have e1 : (xs.drop (v + 1)).length = xs.length - 1 - v := by simp; omega
  rw [e1, if_pos hm]
  rfl
theorem due_end_N {xs : List Int} (ht : isTree xs = true) : dueN xs xs.length = 0 := by simp [dueN, due_end ht]
end Go.Proofs.Ytimjcdjeeocffaa.M
