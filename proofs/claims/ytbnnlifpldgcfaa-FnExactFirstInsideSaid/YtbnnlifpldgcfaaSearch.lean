/- A search for lists of ascending numbers, pruned, with a way back; and the same lists by a filter. The mathematics. -/
import Derived.Test.YtbnnlifpldgcfaaInside
namespace Go.Proofs.Ytbnnlifpldgcfaa
namespace M
/-- all lists that go on with m more numbers, each greater than the one ahead of it, from 'a' on and below U -/
def lists (U : Nat) : Nat → List Nat → Nat → List (List Nat)
  | 0, vs, _ => [vs]
  | m + 1, vs, a => (List.range' a (U - a)).flatMap fun v => lists U m (vs ++ [v]) (v + 1)
/-- those of them in which each number can follow what stands ahead of it -/
def found (U : Nat) (fol : List Nat → Nat → Bool) : Nat → List Nat → Nat → List (List Nat)
  | 0, vs, _ => [vs]
  | m + 1, vs, a => (List.range' a (U - a)).flatMap fun v => if fol vs v = true then found U fol m (vs ++ [v]) (v + 1) else []
def allFol (fol : List Nat → Nat → Bool) (l : List Nat) : Prop := ∀ k x, l[k]? = some x → fol (l.take k) x = true
theorem allFol_nil {fol : List Nat → Nat → Bool} : allFol fol [] := fun k x h => by simp at h
theorem allFol_snoc {fol : List Nat → Nat → Bool} {vs : List Nat} {v : Nat} : allFol fol (vs ++ [v]) ↔ allFol fol vs ∧ fol vs v = true := by
  constructor
  · intro h
    refine ⟨fun k x hk => ?_, ?_⟩
    · have hlt : k < vs.length := (List.getElem?_eq_some_iff.1 hk).1
      have := h k x (by rw [List.getElem?_append_left hlt]; exact hk)
      rwa [List.take_append_of_le_length (by omega)] at this
    · have := h vs.length v (by simp)
      rwa [List.take_left'] at this
      rfl
  · rintro ⟨h1, h2⟩ k x hk
    by_cases e : k < vs.length
    · rw [List.getElem?_append_left e] at hk
      rw [List.take_append_of_le_length (by omega)]
      exact h1 k x hk
    · by_cases e2 : k = vs.length
      · subst e2
        rw [List.getElem?_append_right (Nat.le_refl _)] at hk
        simp at hk
        subst hk
        rw [List.take_left' rfl]
        exact h2
      · rw [List.getElem?_eq_none (by simp; omega)] at hk
        cases hk
/-- every list that goes on from vs begins with vs -/
theorem lists_pre {U : Nat} : ∀ {m : Nat} {vs l : List Nat} {a : Nat}, l ∈ lists U m vs a → vs <+: l ∧ l.length = vs.length + m := by
  intro m
  induction m with
  | zero => intro vs l a h; rw [lists, List.mem_singleton] at h; subst h; exact ⟨List.prefix_refl _, rfl⟩
  | succ m ih =>
    intro vs l a h
    rw [lists, List.mem_flatMap] at h
    obtain ⟨v, _, h⟩ := h
    obtain ⟨h1, h2⟩ := ih h
    exact ⟨(List.prefix_append vs [v]).trans h1, by simp at h2; omega⟩
theorem allFol_pre {fol : List Nat → Nat → Bool} {vs l : List Nat} (hp : vs <+: l) (h : allFol fol l) : allFol fol vs := by
  obtain ⟨r, rfl⟩ := hp
  intro k x hk
  have hlt : k < vs.length := (List.getElem?_eq_some_iff.1 hk).1
  have := h k x (by rw [List.getElem?_append_left hlt]; exact hk)
  rwa [List.take_append_of_le_length (by omega)] at this
theorem flatMap_mem {α β : Type} {f g : α → List β} : ∀ {l : List α}, (∀ x, x ∈ l → f x = g x) → l.flatMap f = l.flatMap g
  | [], _ => rfl
  | a :: l, h => by rw [List.flatMap_cons, List.flatMap_cons, h a (List.mem_cons_self ..), flatMap_mem fun x hx => h x (List.mem_cons_of_mem _ hx)]
/-- the pruned search finds what the filter leaves -/
theorem found_filter {U : Nat} {fol : List Nat → Nat → Bool} (ok : List Nat → Bool) : ∀ {m : Nat} {vs : List Nat} {a : Nat}, (∀ l, l ∈ lists U m vs a → (ok l = true ↔ allFol fol l)) → allFol fol vs →
    found U fol m vs a = (lists U m vs a).filter ok := by
  intro m
  induction m with
  | zero =>
    intro vs a h hv
    rw [found, lists, List.filter_cons, if_pos ((h vs (by rw [lists]; exact List.mem_singleton.2 rfl)).2 hv)]
    rfl
  | succ m ih =>
    intro vs a h hv
    rw [found, lists, List.filter_flatMap]
    refine flatMap_mem fun v hm => ?_
    have hsub : ∀ l, l ∈ lists U m (vs ++ [v]) (v + 1) → l ∈ lists U (m + 1) vs a := fun l hl => by
      rw [lists, List.mem_flatMap]; exact ⟨v, hm, hl⟩
    by_cases hf : fol vs v = true
    · rw [if_pos hf]
      exact ih (fun l hl => h l (hsub l hl)) (allFol_snoc.2 ⟨hv, hf⟩)
    · rw [if_neg hf]
      symm
      rw [List.filter_eq_nil_iff]
      intro l hl hok
      exact hf (allFol_snoc.1 (allFol_pre (lists_pre hl).1 ((h l (hsub l hl)).1 hok))).2
/-! the search as steps: what is still to be found from a list and a next number on -/
def cont (U : Nat) (fol : List Nat → Nat → Bool) (n : Nat) (vs : List Nat) (a : Nat) : List (List Nat) := if vs.length < n then found U fol (n - vs.length) vs a else []
/-- what is to be found once the last number has to give way: the list's numbers from the last one on -/
def backR (U : Nat) (fol : List Nat → Nat → Bool) (n : Nat) : List Nat → List (List Nat)
  | [] => []
  | x :: r => cont U fol n r.reverse (x + 1) ++ backR U fol n r
def back (U : Nat) (fol : List Nat → Nat → Bool) (n : Nat) (vs : List Nat) : List (List Nat) := backR U fol n vs.reverse
theorem back_nil {U : Nat} {fol : List Nat → Nat → Bool} {n : Nat} : back U fol n [] = [] := rfl
theorem back_snoc {U : Nat} {fol : List Nat → Nat → Bool} {n x : Nat} {vs : List Nat} : back U fol n (vs ++ [x]) = cont U fol n vs (x + 1) ++ back U fol n vs := by
  rw [back, List.reverse_append, List.reverse_singleton, List.singleton_append, backR, List.reverse_reverse]; rfl
theorem found_at {U : Nat} {fol : List Nat → Nat → Bool} {m : Nat} {vs : List Nat} {a : Nat} (h : a < U) : found U fol (m + 1) vs a = (if fol vs a = true then found U fol m (vs ++ [a]) (a + 1) else []) ++ found U fol (m + 1) vs (a + 1) := by
  obtain ⟨d, hd⟩ : ∃ d, U - a = d + 1 := ⟨U - a - 1, by omega⟩
  rw [found, found, hd, List.range'_succ, List.flatMap_cons, show U - (a + 1) = d by omega]
theorem found_end {U : Nat} {fol : List Nat → Nat → Bool} {m : Nat} {vs : List Nat} {a : Nat} (h : U ≤ a) : found U fol (m + 1) vs a = [] := by
  rw [found, show U - a = 0 by omega]; rfl
theorem cont_end {U : Nat} {fol : List Nat → Nat → Bool} {n : Nat} {vs : List Nat} {a : Nat} (h : U ≤ a) : cont U fol n vs a = [] := by
  unfold cont
  split
  · next hl => obtain ⟨m, hm⟩ : ∃ m, n - vs.length = m + 1 := ⟨n - vs.length - 1, by omega⟩
               rw [hm, found_end h]
  · rfl
theorem cont_full {U : Nat} {fol : List Nat → Nat → Bool} {n : Nat} {vs : List Nat} {a : Nat} (h : n ≤ vs.length) : cont U fol n vs a = [] := if_neg (by omega)
theorem cont_skip {U : Nat} {fol : List Nat → Nat → Bool} {n : Nat} {vs : List Nat} {a : Nat} (h : a < U) (hf : vs.length < n → fol vs a = false) : cont U fol n vs a = cont U fol n vs (a + 1) := by
  unfold cont
  split
  · next hl => obtain ⟨m, hm⟩ : ∃ m, n - vs.length = m + 1 := ⟨n - vs.length - 1, by omega⟩
               rw [hm, found_at h, hf hl]; rfl
  · rfl
theorem cont_push {U : Nat} {fol : List Nat → Nat → Bool} {n : Nat} {vs : List Nat} {a : Nat} (h : a < U) (hl : vs.length + 1 < n) (hf : fol vs a = true) :
    cont U fol n vs a ++ back U fol n vs = cont U fol n (vs ++ [a]) (a + 1) ++ back U fol n (vs ++ [a]) := by
  rw [back_snoc, ← List.append_assoc]
  congr 1
  rw [cont, cont, cont, if_pos (by omega), if_pos (by simp; omega), if_pos (by omega)]
  obtain ⟨m, hm⟩ : ∃ m, n - vs.length = m + 1 := ⟨n - vs.length - 1, by omega⟩
  rw [hm, found_at h, hf, if_pos rfl]
  congr 2
  simp
  omega
theorem cont_hit {U : Nat} {fol : List Nat → Nat → Bool} {n : Nat} {vs : List Nat} {a : Nat} (h : a < U) (hl : vs.length + 1 = n) (hf : fol vs a = true) :
    cont U fol n vs a ++ back U fol n vs = (vs ++ [a]) :: (cont U fol n (vs ++ [a]) (a + 1) ++ back U fol n (vs ++ [a])) := by
  rw [cont_full (vs := vs ++ [a]) (by simp; omega), List.nil_append, back_snoc, ← List.cons_append]
  congr 1
  rw [cont, cont, if_pos (by omega), if_pos (by omega), show n - vs.length = 0 + 1 by omega, found_at h, hf, if_pos rfl, found]
  rfl
theorem found_cont {U : Nat} {fol : List Nat → Nat → Bool} {n : Nat} (h : 0 < n) : cont U fol n [] 0 ++ back U fol n [] = found U fol n [] 0 := by
  rw [back_nil, List.append_nil, cont, if_pos (by simpa using h)]; rfl
/-! the steps come to an end -/
def ms (U : Nat) : Nat → List Nat → Nat → Nat
  | k, [], a => (U + 1 - a) * (U + 2) ^ k
  | k, x :: r, a => (U - x) * (U + 2) ^ k + ms U (k - 1) r a
theorem ms_snoc {U : Nat} : ∀ {vs : List Nat} {k x a : Nat}, vs.length < k → ms U k (vs ++ [x]) a = ms U k vs (x + 1) + (U + 1 - a) * (U + 2) ^ (k - vs.length - 1) := by
  intro vs
  induction vs with
  | nil => intro k x a _; rw [List.nil_append, ms, ms, ms, show U + 1 - (x + 1) = U - x by omega]; rfl
  | cons y r ih =>
    intro k x a h
    simp only [List.length_cons] at h
    rw [List.cons_append, ms, ms, ih (by omega), Nat.add_assoc, List.length_cons, show k - 1 - r.length - 1 = k - (r.length + 1) - 1 by omega]
theorem ms_later {U : Nat} : ∀ {vs : List Nat} {k a b : Nat}, vs.length ≤ k → a ≤ b → b ≤ U + 1 → ms U k vs a = ms U k vs b + (b - a) * (U + 2) ^ (k - vs.length) := by
  intro vs
  induction vs with
  | nil => intro k a b _ h1 h2; rw [ms, ms, List.length_nil, Nat.sub_zero, ← Nat.add_mul]; congr 1; omega
  | cons y r ih =>
    intro k a b h h1 h2
    simp only [List.length_cons] at h
    rw [ms, ms, ih (k := k - 1) (a := a) (b := b) (by omega) h1 h2, Nat.add_assoc, List.length_cons, show k - 1 - r.length = k - (r.length + 1) by omega]
theorem ms_pop {U k x a : Nat} {vs : List Nat} (h : vs.length < k) (ha : a ≤ U) : ms U k vs (x + 1) < ms U k (vs ++ [x]) a := by
  rw [ms_snoc h]
  have : 0 < (U + 1 - a) * (U + 2) ^ (k - vs.length - 1) := Nat.mul_pos (by omega) (Nat.pow_pos (by omega))
  omega
theorem ms_push {U k a v : Nat} {vs : List Nat} (h : vs.length < k) (ha : a ≤ v) (hv : v < U) : ms U k (vs ++ [v]) (v + 1) < ms U k vs a := by
  rw [ms_snoc h, ms_later (a := a) (b := v + 1) (by omega) (by omega) (by omega)]
  have e : (U + 2) ^ (k - vs.length) = (U + 2) * (U + 2) ^ (k - vs.length - 1) := by
    obtain ⟨d, hd⟩ : ∃ d, k - vs.length = d + 1 := ⟨k - vs.length - 1, by omega⟩
    rw [hd, Nat.pow_succ, Nat.mul_comm]; rfl
  rw [e]
  have hp : 0 < (U + 2) ^ (k - vs.length - 1) := Nat.pow_pos (by omega)
  generalize (U + 2) ^ (k - vs.length - 1) = B at *
  have h1 : (U + 1 - (v + 1)) * B < (U + 2) * B := Nat.mul_lt_mul_of_pos_right (by omega) hp
  have h2 : (U + 2) * B ≤ (v + 1 - a) * ((U + 2) * B) := Nat.le_mul_of_pos_left _ (by omega)
  omega
end M
end Go.Proofs.Ytbnnlifpldgcfaa
