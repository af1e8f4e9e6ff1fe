/- What a list grows, by the model's walk: degrees and labels in preorder. Mathematics. -/
import Derived.Test.YtdgcjkgbglofbaaMath
namespace Go.Proofs.Ytdgcjkgbglofbaa
namespace M
theorem flat_congr {α β : Type} {f g : α → List β} : ∀ {l : List α}, (∀ i ∈ l, f i = g i) → l.flatMap f = l.flatMap g
  | [], _ => rfl
  | a :: l, h => by rw [List.flatMap_cons, List.flatMap_cons, h a (List.mem_cons_self ..), flat_congr fun i hi => h i (List.mem_cons_of_mem _ hi)]
theorem filter_congr9 {α β : Type} {f g : α → Option β} : ∀ {l : List α}, (∀ i ∈ l, f i = g i) → l.filterMap f = l.filterMap g
  | [], _ => rfl
  | a :: l, h => by rw [List.filterMap_cons, List.filterMap_cons, h a (List.mem_cons_self ..), filter_congr9 fun i hi => h i (List.mem_cons_of_mem _ hi)]
/-- the labels that a list puts right below label j -/
def kidsOf (l : List Int) (j : Nat) : List Nat := (List.range l.length).filterMap fun i => if l[i]? = some (j : Int) then some (i + 1) else none
/-- degrees and labels of what a list grows from label j on -/
def walkF (l : List Int) : Nat → Nat → List Int × List Int
  | 0, j => ([0], [(j : Int)])
  | f + 1, j => (((kidsOf l j).length : Int) :: (kidsOf l j).flatMap fun i => (walkF l f i).1, (j : Int) :: (kidsOf l j).flatMap fun i => (walkF l f i).2)
theorem mem_kids {l : List Int} {j i : Nat} : i ∈ kidsOf l j ↔ ∃ k, i = k + 1 ∧ l[k]? = some (j : Int) := by
  rw [kidsOf, List.mem_filterMap]
  constructor
  · rintro ⟨k, _, h⟩
    split at h
    · injection h with h; exact ⟨k, h.symm, by assumption⟩
    · cases h
  · rintro ⟨k, rfl, h⟩
    exact ⟨k, List.mem_range.2 (List.getElem?_eq_some_iff.1 h).1, by rw [if_pos h]⟩
/-- a list that grows a tree: each number is at most its place -/
def Grows (l : List Int) : Prop := ∀ (k : Nat) (x : Int), l[k]? = some x → 0 ≤ x ∧ x ≤ (k : Int)
theorem kids_above {l : List Int} (h : Grows l) {j i : Nat} (hi : i ∈ kidsOf l j) : j < i ∧ i ≤ l.length := by
  obtain ⟨k, rfl, hk⟩ := mem_kids.1 hi
  have := (h k _ hk).2
  have := (List.getElem?_eq_some_iff.1 hk).1
  omega
theorem kids_snoc (l : List Int) (x : Int) (j : Nat) : kidsOf (l ++ [x]) j = kidsOf l j ++ (if x = (j : Int) then [l.length + 1] else []) := by
  rw [kidsOf, List.length_append, List.length_singleton, List.range_succ, List.filterMap_append]
  congr 1
  · rw [kidsOf]
    refine filter_congr9 fun i hi => ?_
    rw [List.getElem?_append_left (List.mem_range.1 hi)]
  · rw [List.filterMap_cons, List.getElem?_append_right (Nat.le_refl _), Nat.sub_self]
    by_cases hx : x = (j : Int)
    · simp [hx]
    · simp [hx]
theorem kids_end {l : List Int} (h : Grows l) : kidsOf l l.length = [] :=
  List.eq_nil_iff_forall_not_mem.2 fun i hi => by have := kids_above h hi; omega
theorem walk_fuel {l : List Int} (h : Grows l) : ∀ (f g j : Nat), j ≤ l.length → l.length ≤ j + f → l.length ≤ j + g → walkF l f j = walkF l g j := by
  intro f
  induction f with
  | zero =>
    intro g j hj h1 _
    obtain rfl : j = l.length := by omega
    cases g with
    | zero => rfl
    | succ g => rw [walkF, walkF, kids_end h]; rfl
  | succ f ih =>
    intro g j hj h1 h2
    cases g with
    | zero =>
      obtain rfl : j = l.length := by omega
      rw [walkF, walkF, kids_end h]; rfl
    | succ g =>
      have he : ∀ i ∈ kidsOf l j, walkF l f i = walkF l g i := fun i hi => by
        have := kids_above h hi
        exact ih g i this.2 (by omega) (by omega)
      rw [walkF, walkF]
      congr 1
      · exact congrArg _ (flat_congr fun i hi => by rw [he i hi])
      · exact congrArg _ (flat_congr fun i hi => by rw [he i hi])
/-- what a list grows from label j on -/
def W (l : List Int) (j : Nat) : List Int × List Int := walkF l (l.length - j) j
theorem W_eq {l : List Int} (h : Grows l) {j : Nat} (hj : j ≤ l.length) : W l j = (((kidsOf l j).length : Int) :: (kidsOf l j).flatMap fun i => (W l i).1, (j : Int) :: (kidsOf l j).flatMap fun i => (W l i).2) := by
  by_cases e : j = l.length
  · subst e
    rw [W, Nat.sub_self, walkF, kids_end h]; rfl
  · obtain ⟨f, hf⟩ : ∃ f, l.length - j = f + 1 := ⟨l.length - j - 1, by omega⟩
    have he : ∀ i ∈ kidsOf l j, walkF l f i = W l i := fun i hi => by
      have := kids_above h hi
      exact walk_fuel h f (l.length - i) i this.2 (by omega) (by omega)
    rw [W, hf, walkF]
    congr 1
    · exact congrArg _ (flat_congr fun i hi => by rw [he i hi])
    · exact congrArg _ (flat_congr fun i hi => by rw [he i hi])
theorem W_induct {P : Nat → Prop} {n : Nat} (h : ∀ j, j ≤ n → (∀ i, j < i → i ≤ n → P i) → P j) : ∀ j, j ≤ n → P j := by
  have : ∀ d j, j ≤ n → n ≤ j + d → P j := by
    intro d
    induction d with
    | zero => intro j hj hd; exact h j hj fun i h1 h2 => by omega
    | succ d ih => intro j hj hd; exact h j hj fun i h1 h2 => ih i h2 (by omega)
  exact fun j hj => this n j hj (by omega)
theorem mem_W {l : List Int} (h : Grows l) {j : Nat} (hj : j ≤ l.length) {q : Int} : q ∈ (W l j).2 ↔ q = j ∨ ∃ i ∈ kidsOf l j, q ∈ (W l i).2 := by
  rw [W_eq h hj, List.mem_cons, List.mem_flatMap]
/-- labels are at least the root's -/
theorem W_ge {l : List Int} (h : Grows l) : ∀ j, j ≤ l.length → ∀ q ∈ (W l j).2, (j : Int) ≤ q ∧ q ≤ l.length := by
  refine W_induct fun j hj ih q hq => ?_
  rcases (mem_W h hj).1 hq with rfl | ⟨i, hi, hq⟩
  · omega
  · have := kids_above h hi
    have := ih i this.1 this.2 q hq
    omega
/-- what is below one is below what is above it -/
theorem W_up {l : List Int} (h : Grows l) : ∀ j, j ≤ l.length → ∀ q : Nat, (q : Int) ∈ (W l j).2 → q = j ∨ ∃ m : Nat, q ∈ kidsOf l m ∧ (m : Int) ∈ (W l j).2 := by
  refine W_induct fun j hj ih q hq => ?_
  rcases (mem_W h hj).1 hq with e | ⟨i, hi, hq⟩
  · exact .inl (by omega)
  · have hk := kids_above h hi
    rcases ih i hk.1 hk.2 q hq with e | ⟨m, h1, h2⟩
    · subst e
      exact .inr ⟨j, hi, (mem_W h hj).2 (.inl rfl)⟩
    · exact .inr ⟨m, h1, (mem_W h hj).2 (.inr ⟨i, hi, h2⟩)⟩
theorem kids_one {l : List Int} {m m' q : Nat} (h : q ∈ kidsOf l m) (h' : q ∈ kidsOf l m') : m = m' := by
  obtain ⟨k, rfl, hk⟩ := mem_kids.1 h
  obtain ⟨k', e, hk'⟩ := mem_kids.1 h'
  obtain rfl : k = k' := by omega
  rw [hk] at hk'
  injection hk' with hk'
  omega
/-- the children's labels are apart -/
theorem W_apart {l : List Int} (h : Grows l) {j i i' : Nat} (hi : i ∈ kidsOf l j) (hi' : i' ∈ kidsOf l j) : ∀ q : Nat, (q : Int) ∈ (W l i).2 → (q : Int) ∈ (W l i').2 → i = i' := by
  intro q
  induction q using Nat.strongRecOn with
  | _ q ih =>
    intro h1 h2
    have k1 := kids_above h hi
    have k2 := kids_above h hi'
    rcases W_up h i k1.2 q h1 with e | ⟨m, a1, a2⟩
    · rcases W_up h i' k2.2 q h2 with e' | ⟨m, b1, b2⟩
      · omega
      · subst e
        obtain rfl := kids_one hi b1
        have := (W_ge h i' k2.2 _ b2).1
        omega
    · rcases W_up h i' k2.2 q h2 with e' | ⟨m', b1, b2⟩
      · subst e'
        obtain rfl := kids_one hi' a1
        have := (W_ge h i k1.2 _ a2).1
        omega
      · obtain rfl := kids_one a1 b1
        exact ih m (kids_above h a1).1 a2 b2
theorem kids_lt (l : List Int) (j : Nat) : (kidsOf l j).Pairwise (· < ·) := by
  rw [kidsOf, List.pairwise_filterMap]
  refine List.pairwise_lt_range.imp fun {a a'} h b hb b' hb' => ?_
  split at hb
  · split at hb'
    · injection hb with hb
      injection hb' with hb'
      omega
    · cases hb'
  · cases hb
theorem grows_snoc {l : List Int} (h : Grows l) {p : Nat} (hp : p ≤ l.length) : Grows (l ++ [(p : Int)]) := fun k x hx => by
  rcases Nat.lt_or_ge k l.length with hk | hk
  · rw [List.getElem?_append_left hk] at hx; exact h k x hx
  · rw [List.getElem?_append_right hk] at hx
    have := (List.getElem?_eq_some_iff.1 hx).1
    simp at this
    rw [show k - l.length = 0 by omega] at hx
    injection hx with hx
    omega
theorem flat_lenW {α : Type} {f g : α → List Int} : ∀ {l : List α}, (∀ i ∈ l, (f i).length = (g i).length) → (l.flatMap f).length = (l.flatMap g).length
  | [], _ => rfl
  | a :: l, h => by rw [List.flatMap_cons, List.flatMap_cons, List.length_append, List.length_append, h a (List.mem_cons_self ..), flat_lenW fun i hi => h i (List.mem_cons_of_mem _ hi)]
theorem W_len {l : List Int} (h : Grows l) : ∀ j, j ≤ l.length → (W l j).1.length = (W l j).2.length := by
  refine W_induct fun j hj ih => ?_
  rw [W_eq h hj]
  show _ + 1 = _ + 1
  rw [flat_lenW fun i hi => ih i (kids_above h hi).1 (kids_above h hi).2]
def bump : List Int → List Int
  | [] => []
  | d :: r => (d + 1) :: r
theorem bump_app {x : List Int} (h : x ≠ []) (y : List Int) : bump (x ++ y) = bump x ++ y := by
  cases x with
  | nil => exact absurd rfl h
  | cons a x => rfl
theorem W_new {l : List Int} (h : Grows l) {p : Nat} (hp : p ≤ l.length) : W (l ++ [(p : Int)]) (l.length + 1) = ([0], [((l.length + 1 : Nat) : Int)]) := by
  have hl : (l ++ [(p : Int)]).length = l.length + 1 := by simp
  have h' := grows_snoc h hp
  have := kids_end h'
  rw [hl] at this
  rw [W_eq h' (by rw [hl]; exact Nat.le_refl _), this]; rfl
/-- one number more: one child more, the last one, below the label that is told -/
theorem W_step {l : List Int} (h : Grows l) {p : Nat} (hp : p ≤ l.length) : ∀ j, j ≤ l.length →
    ((p : Int) ∉ (W l j).2 → W (l ++ [(p : Int)]) j = W l j) ∧
    ((p : Int) ∈ (W l j).2 → ∃ a b c d, (W l j).2 = a ++ (W l p).2 ++ b ∧ (W l j).1 = c ++ (W l p).1 ++ d ∧ c.length = a.length ∧
      (W (l ++ [(p : Int)]) j).2 = a ++ (W l p).2 ++ [((l.length + 1 : Nat) : Int)] ++ b ∧ (W (l ++ [(p : Int)]) j).1 = c ++ bump (W l p).1 ++ [0] ++ d) := by
  have h' := grows_snoc h hp
  have hl : (l ++ [(p : Int)]).length = l.length + 1 := by simp
  refine W_induct fun j hj ih => ?_
  have e' := W_eq h' (j := j) (by rw [hl]; omega)
  have e := W_eq h hj
  rw [kids_snoc] at e'
  by_cases hpj : p = j
  · subst hpj
    refine ⟨fun hn => absurd ((mem_W h hj).2 (.inl rfl)) hn, fun _ => ⟨[], [], [], [], by simp, by simp, rfl, ?_, ?_⟩⟩
    all_goals
      have hs : ∀ i ∈ kidsOf l p, W (l ++ [(p : Int)]) i = W l i := fun i hi => by
        have hk := kids_above h hi
        refine (ih i hk.1 hk.2).1 fun hm => ?_
        have := (W_ge h i hk.2 _ hm).1
        omega
      rw [e', e, if_pos rfl, List.flatMap_append, List.flatMap_append]
      simp only [List.flatMap_singleton, W_new h hp]
    · rw [flat_congr fun i hi => by rw [hs i hi]]; simp
    · rw [flat_congr fun i hi => by rw [hs i hi]]; simp [bump]
  · rw [if_neg (fun e => hpj (by omega)), List.append_nil] at e'
    constructor
    · intro hn
      have hs : ∀ i ∈ kidsOf l j, W (l ++ [(p : Int)]) i = W l i := fun i hi => by
        have hk := kids_above h hi
        exact (ih i hk.1 hk.2).1 fun hm => hn ((mem_W h hj).2 (.inr ⟨i, hi, hm⟩))
      rw [e', e, flat_congr fun i hi => by rw [hs i hi], flat_congr (f := fun i => (W (l ++ [(p : Int)]) i).2) fun i hi => by rw [hs i hi]]
    · intro hm
      rcases (mem_W h hj).1 hm with e0 | ⟨i, hi, hmi⟩
      · exact absurd (by omega) hpj
      · have hk := kids_above h hi
        obtain ⟨a, b, c, d, h1, h2, h3, h4, h5⟩ := (ih i hk.1 hk.2).2 hmi
        obtain ⟨s, t, hst⟩ := List.append_of_mem hi
        have hlt := kids_lt l j
        rw [hst] at hlt
        have hne : ∀ i' ∈ s ++ t, i' ≠ i := fun i' hi' => by
          rw [List.pairwise_append] at hlt
          obtain ⟨_, h2, h3⟩ := hlt
          rw [List.pairwise_cons] at h2
          rcases List.mem_append.1 hi' with hs | ht
          · have := h3 i' hs i (List.mem_cons_self ..); omega
          · have := h2.1 i' ht; omega
        have hs : ∀ i' ∈ s ++ t, W (l ++ [(p : Int)]) i' = W l i' := fun i' hi' => by
          have hin : i' ∈ kidsOf l j := by
            rw [hst]
            rcases List.mem_append.1 hi' with hs | ht
            · exact List.mem_append_left _ hs
            · exact List.mem_append_right _ (List.mem_cons_of_mem _ ht)
          have hk' := kids_above h hin
          exact (ih i' hk'.1 hk'.2).1 fun hm' => hne i' hi' (W_apart h hin hi p hm' hmi)
        have hs1 : ∀ f : List Int × List Int → List Int, (s.flatMap fun i => f (W (l ++ [(p : Int)]) i)) = s.flatMap fun i => f (W l i) := fun f => flat_congr fun i hi => by rw [hs i (List.mem_append_left _ hi)]
        have hs2 : ∀ f : List Int × List Int → List Int, (t.flatMap fun i => f (W (l ++ [(p : Int)]) i)) = t.flatMap fun i => f (W l i) := fun f => flat_congr fun i hi => by rw [hs i (List.mem_append_right _ hi)]
        refine ⟨(j : Int) :: (s.flatMap fun i => (W l i).2) ++ a, b ++ (t.flatMap fun i => (W l i).2), ((kidsOf l j).length : Int) :: (s.flatMap fun i => (W l i).1) ++ c, d ++ (t.flatMap fun i => (W l i).1), ?_, ?_, ?_, ?_, ?_⟩
        · rw [e]
          show (j : Int) :: ((kidsOf l j).flatMap fun i => (W l i).2) = _
          rw [hst, List.flatMap_append, List.flatMap_cons, h1]; simp
        · rw [e]
          show ((kidsOf l j).length : Int) :: ((kidsOf l j).flatMap fun i => (W l i).1) = _
          rw [hst, List.flatMap_append, List.flatMap_cons, h2]; simp
        · have : (s.flatMap fun i => (W l i).1).length = (s.flatMap fun i => (W l i).2).length := flat_lenW fun i' hi' => by
            have hk' := kids_above h (show i' ∈ kidsOf l j by rw [hst]; exact List.mem_append_left _ hi')
            exact W_len h i' hk'.2
          simp only [List.cons_append, List.length_cons, List.length_append, this, h3]
        · rw [e']
          show (j : Int) :: ((kidsOf l j).flatMap fun i => (W (l ++ [(p : Int)]) i).2) = _
          rw [hst, List.flatMap_append, List.flatMap_cons, h4, hs1 (·.2), hs2 (·.2)]; simp
        · rw [e']
          show ((kidsOf l j).length : Int) :: ((kidsOf l j).flatMap fun i => (W (l ++ [(p : Int)]) i).1) = _
          rw [hst, List.flatMap_append, List.flatMap_cons, h5, hs1 (·.1), hs2 (·.1)]; simp
theorem W_self {l : List Int} (h : Grows l) {j : Nat} (hj : j ≤ l.length) : (j : Int) ∈ (W l j).2 := (mem_W h hj).2 (.inl rfl)
theorem W_down {l : List Int} (h : Grows l) {m q : Nat} (hq : q ∈ kidsOf l m) : ∀ j, j ≤ l.length → (m : Int) ∈ (W l j).2 → (q : Int) ∈ (W l j).2 := by
  refine W_induct fun j hj ih hm => ?_
  rcases (mem_W h hj).1 hm with e | ⟨i, hi, hm⟩
  · obtain rfl : m = j := by omega
    exact (mem_W h hj).2 (.inr ⟨q, hq, W_self h (kids_above h hq).2⟩)
  · have hk := kids_above h hi
    exact (mem_W h hj).2 (.inr ⟨i, hi, ih i hk.1 hk.2 hm⟩)
/-- all labels come -/
theorem W_all {l : List Int} (h : Grows l) (q : Nat) : q ≤ l.length → (q : Int) ∈ (W l 0).2 := by
  induction q using Nat.strongRecOn with
  | _ q ih =>
    intro hq
    cases q with
    | zero => exact W_self h (Nat.zero_le _)
    | succ k =>
      have hx := List.getElem?_eq_getElem (l := l) (show k < l.length by omega)
      have hg := h k _ hx
      obtain ⟨m, hm⟩ := Int.eq_ofNat_of_zero_le hg.1
      rw [hm] at hx hg
      exact W_down h (mem_kids.2 ⟨k, rfl, hx⟩) 0 (Nat.zero_le _) (ih m (by omega) (by omega))
/-- each label comes once -/
theorem W_nodup {l : List Int} (h : Grows l) : ∀ j, j ≤ l.length → (W l j).2.Nodup := by
  refine W_induct fun j hj ih => ?_
  rw [W_eq h hj]
  show ((j : Int) :: _).Nodup
  rw [List.nodup_cons]
  constructor
  · intro hm
    obtain ⟨i, hi, hm⟩ := List.mem_flatMap.1 hm
    have hk := kids_above h hi
    have := (W_ge h i hk.2 _ hm).1
    omega
  · refine List.pairwise_flatMap.2 ⟨fun i hi => ih i (kids_above h hi).1 (kids_above h hi).2, ?_⟩
    refine (List.Pairwise.and_mem.1 (kids_lt l j)).imp fun {a b} ⟨ha, hb, hab⟩ x hx y hy e => ?_
    subst e
    have hka := kids_above h ha
    obtain ⟨q, rfl⟩ := Int.eq_ofNat_of_zero_le (show 0 ≤ x by have := (W_ge h a hka.2 _ hx).1; omega)
    have := W_apart h ha hb q hx hy
    omega
/-- where an element stands behind one that is put in -/
theorem idx_ins {u v : List Int} {x z : Int} (hz : x ≠ z) : (u ++ [z] ++ v).idxOf x = if u.length ≤ (u ++ v).idxOf x then (u ++ v).idxOf x + 1 else (u ++ v).idxOf x := by
  have e1 : (u ++ v).idxOf x = if x ∈ u then u.idxOf x else v.idxOf x + u.length := List.idxOf_append
  have e2 : (u ++ ([z] ++ v)).idxOf x = if x ∈ u then u.idxOf x else ([z] ++ v).idxOf x + u.length := List.idxOf_append
  rw [List.append_assoc, e1, e2]
  by_cases h : x ∈ u
  · have := List.idxOf_lt_length_of_mem h
    rw [if_pos h, if_pos h, if_neg (by omega)]
  · have hzx : (z == x) = false := beq_eq_false_iff_ne.2 (Ne.symm hz)
    rw [if_neg h, if_neg h, if_pos (by omega), List.singleton_append, List.idxOf_cons, hzx]
    simp only [cond_false]
    omega
end M
end Go.Proofs.Ytdgcjkgbglofbaa
