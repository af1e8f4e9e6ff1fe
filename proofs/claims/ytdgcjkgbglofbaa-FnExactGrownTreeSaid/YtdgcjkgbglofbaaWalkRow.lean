/- What a list grows, by rounds of the model's loop. Mathematics. -/
import Derived.Test.YtdgcjkgbglofbaaWalkPut
namespace Go.Proofs.Ytdgcjkgbglofbaa
namespace M
def kidsTo (l : List Int) (j i : Nat) : List Nat := (List.range i).filterMap fun i => if l[i]? = some (j : Int) then some (i + 1) else none
theorem kidsTo_end (l : List Int) (j : Nat) : kidsTo l j l.length = kidsOf l j := rfl
theorem kidsTo_hit {l : List Int} {j i : Nat} (h : l[i]? = some (j : Int)) : kidsTo l j (i + 1) = kidsTo l j i ++ [i + 1] := by
  rw [kidsTo, List.range_succ, List.filterMap_append]
  simp [h, kidsTo]
theorem kidsTo_miss {l : List Int} {j i : Nat} (h : l[i]? ≠ some (j : Int)) : kidsTo l j (i + 1) = kidsTo l j i := by
  rw [kidsTo, List.range_succ, List.filterMap_append]
  simp [h, kidsTo]
def WD (l : List Int) (j i : Nat) : List Int := ((kidsTo l j i).length : Int) :: (kidsTo l j i).flatMap fun i => (W l i).1
def WL (l : List Int) (j i : Nat) : List Int := (j : Int) :: (kidsTo l j i).flatMap fun i => (W l i).2
theorem WD_zero (l : List Int) (j : Nat) : WD l j 0 = [0] := rfl
theorem WL_zero (l : List Int) (j : Nat) : WL l j 0 = [(j : Int)] := rfl
theorem WD_miss {l : List Int} {j i : Nat} (h : l[i]? ≠ some (j : Int)) : WD l j (i + 1) = WD l j i := by rw [WD, kidsTo_miss h]; rfl
theorem WL_miss {l : List Int} {j i : Nat} (h : l[i]? ≠ some (j : Int)) : WL l j (i + 1) = WL l j i := by rw [WL, kidsTo_miss h]; rfl
theorem WD_head (l : List Int) (j i : Nat) : (WD l j i)[0]? = some ((kidsTo l j i).length : Int) := rfl
theorem WD_hit {l : List Int} {j i : Nat} (h : l[i]? = some (j : Int)) : WD l j (i + 1) = (WD l j i).set 0 (((kidsTo l j i).length : Int) + 1) ++ (W l (i + 1)).1 := by
  rw [WD, kidsTo_hit h, List.length_append, List.length_singleton, List.flatMap_append, List.flatMap_singleton]
  show _ = ((((kidsTo l j i).length : Int) :: _).set 0 _) ++ _
  rw [List.set_cons_zero, List.cons_append]
  congr 1
theorem WL_hit {l : List Int} {j i : Nat} (h : l[i]? = some (j : Int)) : WL l j (i + 1) = WL l j i ++ (W l (i + 1)).2 := by
  rw [WL, kidsTo_hit h, List.flatMap_append, List.flatMap_singleton]; rfl
theorem WD_end {l : List Int} (h : Grows l) {j : Nat} (hj : j ≤ l.length) : WD l j l.length = (W l j).1 := by rw [W_eq h hj]; rfl
theorem WL_end {l : List Int} (h : Grows l) {j : Nat} (hj : j ≤ l.length) : WL l j l.length = (W l j).2 := by rw [W_eq h hj]; rfl
theorem nodup_few : ∀ (n : Nat) (zs : List Int), zs.Nodup → (∀ x ∈ zs, 0 ≤ x ∧ x < (n : Int)) → zs.length ≤ n := by
  intro n
  induction n with
  | zero =>
    intro zs _ h
    cases zs with
    | nil => exact Nat.le_refl _
    | cons a zs => have := h a (List.mem_cons_self ..); omega
  | succ n ih =>
    intro zs hd h
    by_cases hm : (n : Int) ∈ zs
    · have h1 := List.length_erase_of_mem hm
      have h2 := ih (zs.erase n) (hd.erase _) (fun x hx => by
        rw [hd.mem_erase_iff] at hx
        have := h x hx.2
        omega)
      have := List.length_pos_of_mem hm
      omega
    · have := ih zs hd fun x hx => by
        have h1 := h x hx
        have h2 : x ≠ (n : Int) := fun e => hm (e ▸ hx)
        omega
      omega
theorem W_few {l : List Int} (h : Grows l) {j : Nat} (hj : j ≤ l.length) : (W l j).2.length ≤ l.length + 1 ∧ (W l j).1.length ≤ l.length + 1 := by
  have h1 := nodup_few (l.length + 1) _ (W_nodup h j hj) fun x hx => by
    have := W_ge h j hj x hx
    omega
  exact ⟨h1, by rw [W_len h j hj]; exact h1⟩
theorem kidsTo_pre {l : List Int} {j i k : Nat} (h : i ≤ k) : ∃ r, kidsTo l j k = kidsTo l j i ++ r := by
  refine ⟨((List.range' i (k - i)).filterMap fun i => if l[i]? = some (j : Int) then some (i + 1) else none), ?_⟩
  have e : List.range k = List.range i ++ List.range' i (k - i) := by
    rw [List.range_eq_range', List.range_eq_range']
    have := List.range'_append_1 (s := 0) (m := i) (n := k - i)
    rw [Nat.zero_add, show i + (k - i) = k by omega] at this
    exact this.symm
  rw [kidsTo, e, List.filterMap_append]; rfl
theorem WD_few {l : List Int} (h : Grows l) {j i : Nat} (hj : j ≤ l.length) (hi : i ≤ l.length) : (WD l j i).length ≤ l.length + 1 ∧ (WL l j i).length ≤ l.length + 1 ∧ (kidsTo l j i).length ≤ l.length := by
  obtain ⟨r, hr⟩ := kidsTo_pre (l := l) (j := j) hi
  have h1 := W_few h hj
  rw [← WD_end h hj, ← WL_end h hj, WD, WL, hr, List.flatMap_append, List.flatMap_append] at h1
  simp only [List.length_cons, List.length_append] at h1
  have h2 := kids_few l j
  rw [← kidsTo_end, hr, List.length_append] at h2
  simp only [WD, WL, List.length_cons]
  omega
end M
end Go.Proofs.Ytdgcjkgbglofbaa
