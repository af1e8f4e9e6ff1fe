/- Layers: what the loops hold, round by round: the mathematics. No program is named here. -/
import Derived.Test.YtcipafjibkclcaaLayVal
namespace Go.Proofs.Ytcipafjibkclcaa
namespace M
def toI (l : List Nat) : List Int := l.map fun u : Nat => (u : Int)
theorem toI_snoc (l : List Nat) (u : Nat) : toI (l ++ [u]) = toI l ++ [(u : Int)] := by simp [toI]
theorem toI_len (l : List Nat) : (toI l).length = l.length := by simp [toI]
theorem toI_at {l : List Nat} {i u : Nat} (h : l[i]? = some u) : (toI l)[i]? = some (u : Int) := by simp [toI, h]
/-- the numbers of neighbours of the first v nodes -/
def leftF (ar : Nat → List Nat) (v : Nat) : Nat → Int := fun i => if i < v then ((ar i).length : Int) else 0
theorem leftF_set {n : Nat} (ar : Nat → List Nat) (v : Nat) : (rowOf n (leftF ar v)).set v ((ar v).length : Int) = rowOf n (leftF ar (v + 1)) := by
  rw [rowOf_set]
  refine rowOf_congr fun i _ => ?_
  simp only [leftF]
  by_cases h : i = v
  · rw [if_pos h, if_pos (by omega), h]
  · rw [if_neg h]
    by_cases h2 : i < v
    · rw [if_pos h2, if_pos (by omega)]
    · rw [if_neg h2, if_neg (by omega)]
/-- the first v nodes with a property -/
def takeN (p : Nat → Bool) (v : Nat) : List Nat := (List.range v).filter p
theorem takeN_yes {p : Nat → Bool} {v : Nat} (h : p v = true) : takeN p (v + 1) = takeN p v ++ [v] := by simp [takeN, List.range_succ, h]
theorem takeN_no {p : Nat → Bool} {v : Nat} (h : p v = false) : takeN p (v + 1) = takeN p v := by simp [takeN, List.range_succ, h]
theorem takeN_mem {p : Nat → Bool} {v x : Nat} : x ∈ takeN p v ↔ x < v ∧ p x = true := by simp [takeN]
theorem takeN_nodup (p : Nat → Bool) (v : Nat) : (takeN p v).Nodup := List.Pairwise.filter _ List.nodup_range
theorem takeN_le (p : Nat → Bool) (v : Nat) : (takeN p v).length ≤ v := by have := List.length_filter_le p (List.range v); simpa [takeN] using this
/-- those with one neighbour left at most -/
def fewB (ar : Nat → List Nat) (R : Nat → Bool) : Nat → Bool := fun x => R x && decide (cnt ar R x ≤ 1)
theorem lft_zero (n : Nat) (ar : Nat → List Nat) : lft n ar 0 = fun _ => true := rfl
theorem start_round (n : Nat) (ar : Nat → List Nat) : Round n ar (lft n ar 0) (leftF ar n) (takeN (fun v => decide ((ar v).length ≤ 1)) n) := by
  rw [lft_zero]
  refine round_start (fun u hu => by simp [leftF, hu]) (takeN_nodup _ _) (fun v => ?_)
  rw [takeN_mem, decide_eq_true_eq]
  refine and_congr_right fun hv => ?_
  simp only [leftF, if_pos hv]
  omega
theorem cnt_mono {ar : Nat → List Nat} {R R' : Nat → Bool} (h : ∀ x, R' x = true → R x = true) (u : Nat) : cnt ar R' u ≤ cnt ar R u := List.countP_mono_left fun x _ hx => h x hx
theorem gone_few (n : Nat) (ar : Nat → List Nat) : ∀ k u, u < n → lft n ar k u = false → cnt ar (lft n ar k) u ≤ 1 := by
  intro k
  induction k with
  | zero => intro u _ h; cases h
  | succ k ih =>
    intro u hu h
    have hm : cnt ar (lft n ar (k + 1)) u ≤ cnt ar (lft n ar k) u := cnt_mono (fun x hx => by
      cases hk : lft n ar k x with
      | true => rfl
      | false => rw [lft_down hk] at hx; cases hx) u
    cases hk : lft n ar k u with
    | false => have := ih u hu hk; omega
    | true =>
      have h2 : (lft n ar k u && !(decide (u < n) && decide (cnt ar (lft n ar k) u ≤ 1))) = false := h
      rw [hk] at h2
      simp only [Bool.true_and, Bool.not_eq_false', Bool.and_eq_true, decide_eq_true_eq] at h2
      omega
/-- the model's round -/
theorem spec_round (n : Nat) (ar : Nat → List Nat) (k : Nat) : Round n ar (lft n ar k) (fun u => (cnt ar (lft n ar k) u : Int)) (takeN (fewB ar (lft n ar k)) n) := by
  refine ⟨fun u _ => rfl, takeN_nodup _ _, fun v => ?_, gone_few n ar k⟩
  rw [takeN_mem, fewB, Bool.and_eq_true, decide_eq_true_eq]
/-- the layers while the nodes of a list are being put -/
def layP (n : Nat) (ar : Nat → List Nat) (e : Int) (k : Nat) (out : List Nat) (p : Nat) : Nat → Int := fun x => if x ∈ out.take p then (k : Int) else layV n ar e k x
theorem layP_zero (n : Nat) (ar : Nat → List Nat) (e : Int) (k : Nat) (out : List Nat) : layP n ar e k out 0 = layV n ar e k := by funext x; simp [layP]
theorem layP_set {n : Nat} {ar : Nat → List Nat} {e : Int} {k : Nat} {out : List Nat} {p v : Nat} (h : out[p]? = some v) : (rowOf n (layP n ar e k out p)).set v (k : Int) = rowOf n (layP n ar e k out (p + 1)) := by
  rw [rowOf_set]
  refine rowOf_congr fun i _ => ?_
  simp only [layP]
  rw [List.take_add_one, h]
  by_cases hv : i = v
  · subst hv; simp
  · rw [if_neg hv]
    by_cases hm : i ∈ out.take p
    · rw [if_pos hm, if_pos (List.mem_append_left _ hm)]
    · rw [if_neg hm, if_neg (by simp [hm, hv])]
theorem layP_end {n : Nat} {ar : Nat → List Nat} {e : Int} {k : Nat} {l : Nat → Int} {out : List Nat} (h : Round n ar (lft n ar k) l out) : rowOf n (layP n ar e k out out.length) = rowOf n (layV n ar e (k + 1)) := by
  refine rowOf_congr fun i _ => ?_
  simp only [layP, List.take_length]
  have hm := lft_mem h i
  by_cases hi : i ∈ out
  · rw [if_pos hi, layV_hit (hm.1 hi)]
  · rw [if_neg hi, layV_miss (fun hh => hi (hm.2 hh))]
theorem out_le {n : Nat} {ar : Nat → List Nat} {R : Nat → Bool} {l : Nat → Int} {out : List Nat} (h : Round n ar R l out) : out.length ≤ n := by
  have h2 := count_in h.nodup (fun v hv => ((h.mem v).1 hv).1)
  have h3 := List.countP_le_length (p := fun x => decide (x ∈ out)) (l := List.range n)
  rw [List.length_range] at h3
  omega
theorem arN_le {xs : List Int} (ht : isTree xs = true) (v : Nat) : (arN xs v).length ≤ 25 := by
  rw [arN, List.length_append, List.length_map, List.length_range]
  have h1 : (if v = 0 then [] else [((parents xs)[v]?.getD 0).toNat]).length ≤ 1 := by split <;> simp
  have h2 : (xs[v]?.getD 0).toNat ≤ 24 := by
    cases hd : xs[v]? with
    | none => simp
    | some x =>
      obtain ⟨d, hd', hd2⟩ := tree_degN ht (List.getElem?_eq_some_iff.1 hd).1
      rw [hd] at hd'
      injection hd' with hd'
      subst hd'
      simp only [Option.getD_some, Int.toNat_natCast]
      omega
  omega
theorem events_le {ar : Nat → List Nat} (h : ∀ v, (ar v).length ≤ 25) : ∀ out : List Nat, (out.flatMap ar).length ≤ 25 * out.length := by
  intro out
  induction out with
  | nil => simp
  | cons v out ih =>
    rw [List.flatMap_cons, List.length_append, List.length_cons]
    have := h v
    omega
theorem cnt_few {ar : Nat → List Nat} (h : ∀ v, (ar v).length ≤ 25) (R : Nat → Bool) (u : Nat) : cnt ar R u ≤ 25 := Nat.le_trans List.countP_le_length (h u)
/-- what is left is small -/
theorem left_small {n : Nat} {ar : Nat → List Nat} (har : ∀ v, (ar v).length ≤ 25) {R : Nat → Bool} {l l' : Nat → Int} {out inn P : List Nat} (hR : Round n ar R l out) (hE : EvInv l P l' inn) (hP : P.length ≤ 1000) {u : Nat} (hu : u < n) : -1000 ≤ l' u ∧ l' u ≤ 25 := by
  have h1 := hE.left u
  have h2 := hR.left u hu
  have h3 := cnt_few har R u
  have h4 := List.count_le_length (a := u) (l := P)
  omega
theorem rest_dec {xs ps : List Int} (ht : isTree xs = true) (hp : ParsOK xs ps) {k : Nat} {l : Nat → Int} {out : List Nat} (h : Round xs.length (arN xs) (lft xs.length (arN xs) k) l out) : (out = [] → rest xs.length (arN xs) k = 0) ∧ (out ≠ [] → rest xs.length (arN xs) (k + 1) + 1 ≤ rest xs.length (arN xs) k) := by
  refine ⟨fun e => ?_, fun hne => ?_⟩
  · rcases Nat.eq_zero_or_pos (rest xs.length (arN xs) k) with h0 | h0
    · exact h0
    · exact absurd e (round_takes ht hp h (rest_some h0))
  · have := rest_step h
    have h2 : 0 < out.length := List.length_pos_iff.2 hne
    omega
end M
end Go.Proofs.Ytcipafjibkclcaa
