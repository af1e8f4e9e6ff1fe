/- What a list grows is a tree, and what grows from a label is the part below its node. Mathematics. -/
import Derived.Test.YtdgcjkgbglofbaaWalkMath
namespace Go.Proofs.Ytdgcjkgbglofbaa
namespace M
theorem go_app : ∀ (t : List Int) (o o' : Int) (r : List Int), 0 ≤ o → 0 ≤ o' → isGo o t = true → isGo (o + o') (t ++ r) = isGo o' r := by
  intro t
  induction t with
  | nil =>
    intro o o' r _ _ h
    simp [isGo] at h
    subst h
    rw [Int.zero_add]; rfl
  | cons d t ih =>
    intro o o' r ho ho' h
    have hp := isGo_pos _ _ h ho (by simp)
    simp only [isGo] at h
    split at h
    · cases h
    · rename_i hc
      simp at hc
      rw [List.cons_append, isGo, if_neg (by simp [hc.2.1, hc.2.2]; omega), show o + o' - 1 + d = (o - 1 + d) + o' by omega]
      exact ih _ _ _ (by omega) ho' h
theorem go_flat {f : Nat → List Int} : ∀ {ks : List Nat}, (∀ i ∈ ks, isGo 1 (f i) = true) → isGo (ks.length : Int) (ks.flatMap f) = true
  | [], _ => rfl
  | a :: ks, h => by
    rw [List.flatMap_cons, List.length_cons, show ((ks.length + 1 : Nat) : Int) = 1 + (ks.length : Int) by omega, go_app _ 1 _ _ (by omega) (by omega) (h a (List.mem_cons_self ..))]
    exact go_flat fun i hi => h i (List.mem_cons_of_mem _ hi)
theorem span_app : ∀ (t : List Int) (o : Int) (d : List Int), 0 ≤ o → isGo o t = true → span o (t ++ d) = t.length := by
  intro t
  induction t with
  | nil =>
    intro o d _ h
    simp [isGo] at h
    subst h
    exact span_stop (Int.le_refl _) _
  | cons x t ih =>
    intro o d ho h
    have hp := isGo_pos _ _ h ho (by simp)
    simp only [isGo] at h
    split at h
    · cases h
    · rename_i hc
      simp at hc
      rw [List.cons_append, span, if_neg (by omega), ih _ _ (by omega) h]; rfl
theorem kids_few (l : List Int) (j : Nat) : (kidsOf l j).length ≤ l.length := by
  rw [kidsOf]
  have := List.length_filterMap_le (fun i => if l[i]? = some (j : Int) then some (i + 1) else none) (List.range l.length)
  simpa using this
theorem W_go {l : List Int} (h : Grows l) (hl : l.length ≤ 24) : ∀ j, j ≤ l.length → isGo 1 (W l j).1 = true := by
  refine W_induct fun j hj ih => ?_
  rw [W_eq h hj]
  have := kids_few l j
  show isGo 1 (((kidsOf l j).length : Int) :: _) = true
  rw [isGo, if_neg (by simp; omega), show (1 : Int) - 1 + ((kidsOf l j).length : Int) = ((kidsOf l j).length : Int) by omega]
  exact go_flat fun i hi => ih i (kids_above h hi).1 (kids_above h hi).2
theorem perm_len : ∀ (n : Nat) (zs : List Int), zs.Nodup → (∀ x : Int, x ∈ zs ↔ 0 ≤ x ∧ x < (n : Int)) → zs.length = n := by
  intro n
  induction n with
  | zero =>
    intro zs _ h
    cases zs with
    | nil => rfl
    | cons a zs => have := (h a).1 (List.mem_cons_self ..); omega
  | succ n ih =>
    intro zs hd h
    have hm : (n : Int) ∈ zs := (h n).2 ⟨by omega, by omega⟩
    have h1 := List.length_erase_of_mem hm
    have h2 := ih (zs.erase n) (hd.erase _) (fun x => by
      rw [hd.mem_erase_iff, h x]
      constructor
      · rintro ⟨a, b⟩; omega
      · rintro ⟨a, b⟩; exact ⟨by omega, by omega⟩)
    have := List.length_pos_of_mem hm
    omega
theorem W_count {l : List Int} (h : Grows l) : (W l 0).2.length = l.length + 1 :=
  perm_len _ _ (W_nodup h 0 (Nat.zero_le _)) fun x => by
    constructor
    · intro hx
      have := W_ge h 0 (Nat.zero_le _) x hx
      omega
    · rintro ⟨h0, h1⟩
      obtain ⟨q, rfl⟩ := Int.eq_ofNat_of_zero_le h0
      exact W_all h q (by omega)
theorem W_tree {l : List Int} (h : Grows l) (hl : l.length ≤ 23) : isTree (W l 0).1 = true := by
  have h1 := W_len h 0 (Nat.zero_le _)
  have h2 := W_count h
  simp only [isTree, Bool.and_eq_true, decide_eq_true_eq]
  exact ⟨⟨by omega, by omega⟩, W_go h (by omega) 0 (Nat.zero_le _)⟩
theorem grows_take {l : List Int} (h : Grows l) (k : Nat) : Grows (l.take k) := fun i x hx => by
  refine h i x ?_
  have hl := (List.getElem?_eq_some_iff.1 hx).1
  rw [List.length_take] at hl
  rwa [List.getElem?_take_of_lt (by omega)] at hx
/-- where a label stands -/
def pos (l : List Int) (j : Nat) : Nat := (W l 0).2.idxOf (j : Int)
theorem pos_lt {l : List Int} (h : Grows l) {j : Nat} (hj : j ≤ l.length) : pos l j < l.length + 1 := by
  rw [← W_count h]; exact List.idxOf_lt_length_of_mem (W_all h j hj)
/-- one number more, told by degrees and places -/
theorem W_put {l : List Int} (h : Grows l) (hl : l.length ≤ 23) {p : Nat} (hp : p ≤ l.length) :
    ∃ c x r d : List Int, ∃ t : Int, (W l 0).1 = c ++ (t :: r) ++ d ∧ c.length = pos l p ∧ span 1 ((W l 0).1.drop (pos l p)) = r.length + 1 ∧ (W l 0).1[pos l p]? = some t ∧
      (W (l ++ [(p : Int)]) 0).1 = c ++ ((t + 1) :: r) ++ [0] ++ d ∧ x = [] ∧
      pos (l ++ [(p : Int)]) (l.length + 1) = pos l p + (r.length + 1) ∧
      (∀ j, j ≤ l.length → pos (l ++ [(p : Int)]) j = if pos l p + (r.length + 1) ≤ pos l j then pos l j + 1 else pos l j) := by
  obtain ⟨a, b, c, d, h1, h2, h3, h4, h5⟩ := (W_step h hp 0 (Nat.zero_le _)).2 (W_all h p hp)
  have hn := W_nodup h 0 (Nat.zero_le _)
  have hgo := W_go h (by omega) p hp
  have hlen := W_len h p hp
  have hself : ∃ s, (W l p).2 = (p : Int) :: s := ⟨_, by rw [W_eq h hp]⟩
  obtain ⟨s, hs⟩ := hself
  obtain ⟨t, r, htr⟩ : ∃ t r, (W l p).1 = t :: r := ⟨_, _, by rw [W_eq h hp]⟩
  have hpos : pos l p = a.length := by
    rw [pos, h1, hs, List.append_assoc, List.idxOf_append, if_neg, List.cons_append, List.idxOf_cons_self, Nat.zero_add]
    intro hm
    rw [h1, hs, List.append_assoc, List.nodup_append] at hn
    exact hn.2.2 _ hm _ (by simp) rfl
  have hbump : bump (W l p).1 = (t + 1) :: r := by rw [htr]; rfl
  have hsl : (W l p).2.length = r.length + 1 := by rw [← hlen, htr]; rfl
  rw [htr] at h2 h5 hgo
  refine ⟨c, [], r, d, t, h2, by rw [hpos, h3], ?_, ?_, ?_, rfl, ?_, ?_⟩
  · rw [hpos, ← h3, h2, List.append_assoc, List.drop_left, span_app _ _ _ (by omega) hgo]; rfl
  · rw [hpos, ← h3, h2, List.append_assoc, List.getElem?_append_right (Nat.le_refl _), Nat.sub_self]; rfl
  · rw [h5]; rfl
  · rw [pos, h4, List.append_assoc, List.idxOf_append, if_neg, List.singleton_append, List.idxOf_cons_self, Nat.zero_add, List.length_append, hsl, hpos]
    intro hm
    have hm' : ((l.length + 1 : Nat) : Int) ∈ (W l 0).2 := by rw [h1]; exact List.mem_append_left _ hm
    have := W_ge h 0 (Nat.zero_le _) _ hm'
    omega
  · intro j hj
    have := idx_ins (u := a ++ (W l p).2) (v := b) (x := (j : Int)) (z := ((l.length + 1 : Nat) : Int)) (by omega)
    rw [pos, h4, this, List.length_append, hsl, ← h1, hpos]
    rfl
end M
end Go.Proofs.Ytdgcjkgbglofbaa
