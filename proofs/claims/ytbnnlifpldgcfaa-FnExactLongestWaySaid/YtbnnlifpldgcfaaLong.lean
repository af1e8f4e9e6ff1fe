/- The least of the longest ways, its mathematics: which way is better, and that the program's and the model's search find the same. No program is named here. -/
import Derived.Test.YtbnnlifpldgcfaaLeast
namespace Go.Proofs.Ytbnnlifpldgcfaa
namespace M
theorem cmpL_trans : ∀ {a b c : List Int}, a.length = b.length → b.length = c.length → cmpL a b < 0 → cmpL b c < 0 → cmpL a c < 0 := by
  intro a
  induction a with
  | nil => intro b c _ _ h _; simp [cmpL] at h
  | cons x r ih =>
    intro b c h1 h2 h3 h4
    cases b with
    | nil => simp at h1
    | cons y s =>
      cases c with
      | nil => simp at h2
      | cons z t =>
        simp only [List.length_cons] at h1 h2
        simp only [cmpL] at h3 h4 ⊢
        by_cases e1 : x < y
        · by_cases e2 : y < z
          · rw [if_pos (by omega)]; omega
          · rw [if_neg e2] at h4
            by_cases e3 : z < y
            · rw [if_pos e3] at h4; omega
            · rw [if_pos (by omega)]; omega
        · rw [if_neg e1] at h3
          by_cases e4 : y < x
          · rw [if_pos e4] at h3; omega
          · rw [if_neg e4] at h3
            by_cases e2 : y < z
            · rw [if_pos (by omega)]; omega
            · rw [if_neg e2] at h4
              by_cases e3 : z < y
              · rw [if_pos e3] at h4; omega
              · rw [if_neg e3] at h4
                rw [if_neg (by omega), if_neg (by omega)]
                exact ih (by omega) (by omega) h3 h4
theorem cmpL_zero : ∀ {a b : List Int}, a.length = b.length → cmpL a b = 0 → a = b := by
  intro a
  induction a with
  | nil => intro b h _; exact (List.eq_nil_of_length_eq_zero (by simpa using h.symm)).symm
  | cons x r ih =>
    intro b h1 h2
    cases b with
    | nil => simp at h1
    | cons y s =>
      simp only [List.length_cons] at h1
      simp only [cmpL] at h2
      by_cases e1 : x < y
      · rw [if_pos e1] at h2; omega
      · rw [if_neg e1] at h2
        by_cases e2 : y < x
        · rw [if_pos e2] at h2; omega
        · rw [if_neg e2] at h2
          rw [ih (by omega) h2, show x = y by omega]
def better (a b : List Int) : Prop := b.length < a.length ∨ (a.length = b.length ∧ cmpL a b < 0)
theorem better_trans {a b c : List Int} (h : better a b) (k : better b c) : better a c := by
  rcases h with h | ⟨h1, h2⟩
  · rcases k with k | ⟨k1, _⟩
    · exact .inl (by omega)
    · exact .inl (by omega)
  · rcases k with k | ⟨k1, k2⟩
    · exact .inl (by omega)
    · exact .inr ⟨by omega, cmpL_trans h1 k1 h2 k2⟩
theorem better_same {a b : List Int} (h : ¬ better a b) (k : ¬ better b a) : a = b := by
  have hl : a.length = b.length := by
    rcases Nat.lt_trichotomy a.length b.length with e | e | e
    · exact absurd (.inl e) k
    · exact e
    · exact absurd (.inl e) h
  have h1 : ¬ cmpL a b < 0 := fun e => h (.inr ⟨hl, e⟩)
  have h2 : ¬ cmpL b a < 0 := fun e => k (.inr ⟨hl.symm, e⟩)
  have h3 := cmpL_swap a b
  exact cmpL_zero hl (by omega)
/-- l is a way, and no way is better -/
def Best (xs l : List Int) : Prop := (∃ v w, v < xs.length ∧ w < xs.length ∧ l = way xs v w) ∧ ∀ v w, v < xs.length → w < xs.length → ¬ better (way xs v w) l
theorem best_unique {xs l r : List Int} (h : Best xs l) (k : Best xs r) : l = r := by
  obtain ⟨⟨v, w, hv, hw, e⟩, h2⟩ := h
  obtain ⟨⟨v', w', hv', hw', e'⟩, k2⟩ := k
  exact better_same (by rw [e]; exact k2 v w hv hw) (by rw [e']; exact h2 v' w' hv' hw')
open Classical in
noncomputable def longest (xs : List Int) : List Int := if h : ∃ l, Best xs l then h.choose else []
theorem longest_eq {xs l : List Int} (h : Best xs l) : longest xs = l := by
  have hx : ∃ l, Best xs l := ⟨l, h⟩
  rw [longest, dif_pos hx]
  exact best_unique hx.choose_spec h
theorem longest_len {xs : List Int} (ht : isTree xs = true) (hE : ∃ ps, ParsOK xs ps) : (longest xs).length ≤ 47 := by
  rw [longest]
  split
  · rename_i h
    obtain ⟨⟨v, w, hv, hw, e⟩, _⟩ := h.choose_spec
    rw [e]
    exact (way_len ht hE hv hw).2
  · simp
/-- the program's search: l is the best among the ways from the nodes below v and from v to the first k -/
def BestTo (xs : List Int) (v k : Nat) (l : List Int) : Prop := (l = [] ∨ ∃ v w, v < xs.length ∧ w < xs.length ∧ l = way xs v w) ∧ ∀ v' w', (v' < v ∨ v' = v ∧ w' < k) → v' < xs.length → w' < xs.length → ¬ better (way xs v' w') l
theorem bestTo_zero (xs : List Int) : BestTo xs 0 0 [] := ⟨.inl rfl, fun v' w' h => by omega⟩
theorem bestTo_take {xs l : List Int} {v k : Nat} (h : BestTo xs v k l) (hv : v < xs.length) (hk : k < xs.length) (hb : better (way xs v k) l) : BestTo xs v (k + 1) (way xs v k) := by
  refine ⟨.inr ⟨v, k, hv, hk, rfl⟩, fun v' w' hvw h1 h2 hn => ?_⟩
  by_cases e : v' < v ∨ v' = v ∧ w' < k
  · exact h.2 v' w' e h1 h2 (better_trans hn hb)
  · obtain ⟨rfl, rfl⟩ : v' = v ∧ w' = k := by omega
    rcases hn with hn | ⟨_, hn⟩
    · omega
    · have := cmpL_swap (way xs v' w') (way xs v' w'); omega
theorem bestTo_keep {xs l : List Int} {v k : Nat} (h : BestTo xs v k l) (hb : ¬ better (way xs v k) l) : BestTo xs v (k + 1) l := by
  refine ⟨h.1, fun v' w' hvw h1 h2 => ?_⟩
  by_cases e : v' < v ∨ v' = v ∧ w' < k
  · exact h.2 v' w' e h1 h2
  · obtain ⟨rfl, rfl⟩ : v' = v ∧ w' = k := by omega
    exact hb
theorem bestTo_next {xs l : List Int} {v : Nat} (h : BestTo xs v xs.length l) : BestTo xs (v + 1) 0 l :=
  ⟨h.1, fun v' w' hvw h1 h2 => h.2 v' w' (by omega) h1 h2⟩
theorem bestTo_end {xs l : List Int} {k : Nat} (ht : isTree xs = true) (hE : ∃ ps, ParsOK xs ps) (h : BestTo xs xs.length k l) : Best xs l := by
  have hl := (tree_len ht).1
  refine ⟨?_, fun v w hv hw => h.2 v w (.inl hv) hv hw⟩
  rcases h.1 with h1 | h1
  · exfalso
    have h2 := h.2 0 0 (.inl (by omega)) (by omega) (by omega)
    have h3 := (way_len ht hE (v := 0) (w := 0) (by omega) (by omega)).1
    exact h2 (.inl (by rw [h1]; simp; omega))
  · exact h1
theorem bestTo_len {xs l : List Int} {v k : Nat} (ht : isTree xs = true) (hE : ∃ ps, ParsOK xs ps) (h : BestTo xs v k l) : l.length ≤ 47 := by
  rcases h.1 with h1 | ⟨v', w', hv, hw, h1⟩
  · rw [h1]; simp
  · rw [h1]; exact (way_len ht hE hv hw).2
/-- a way begins with its first node -/
theorem way_head {xs : List Int} (ht : isTree xs = true) (hE : ∃ ps, ParsOK xs ps) {v w : Nat} (hv : v < xs.length) (hw : w < xs.length) : (way xs v w)[0]? = some (v : Int) := by
  obtain ⟨ps, hp⟩ := hE
  have hm := bel_iff.1 (meet_bel ht hv hw).1
  rw [way, parents_eq ht hp]
  by_cases h : meet xs v w < v
  · obtain ⟨p, h1, _, _⟩ := par_has ht hp (show 0 < v by omega) hv
    rw [upTo_step ht hp h hv h1]; rfl
  · rw [upTo_end ps (by omega), show meet xs v w = v by omega]; rfl
/-- the model's search from one node: l is the least of the ways from v to the first k nodes that are so long -/
def LeastTo (xs : List Int) (v d k : Nat) (l : List Int) : Prop := (l = [] ∨ ∃ w, w < xs.length ∧ dist xs v w = d ∧ l = way xs v w) ∧ ∀ w, w < k → dist xs v w = d → l ≠ [] ∧ ¬ cmpL (way xs v w) l < 0
theorem leastTo_zero (xs : List Int) (v d : Nat) : LeastTo xs v d 0 [] := ⟨.inl rfl, fun w h => by omega⟩
theorem leastTo_skip {xs l : List Int} {v d k : Nat} (h : LeastTo xs v d k l) (hd : dist xs v k ≠ d) : LeastTo xs v d (k + 1) l :=
  ⟨h.1, fun w hw e => h.2 w (by have : w ≠ k := fun e2 => hd (e2 ▸ e); omega) e⟩
theorem leastTo_len {xs l : List Int} {v d k : Nat} (ht : isTree xs = true) (hE : ∃ ps, ParsOK xs ps) (hv : v < xs.length) (h : LeastTo xs v d k l) (hl : l ≠ []) : l.length = d + 1 := by
  rcases h.1 with h1 | ⟨w, hw, hd, h1⟩
  · exact absurd h1 hl
  · have := (way_len ht hE hv hw).1
    rw [dist] at hd
    rw [h1]; omega
theorem leastTo_take {xs l : List Int} {v d k : Nat} (ht : isTree xs = true) (hE : ∃ ps, ParsOK xs ps) (hv : v < xs.length) (hk : k < xs.length) (h : LeastTo xs v d k l) (hd : dist xs v k = d) (hb : l = [] ∨ cmpL (way xs v k) l < 0) : LeastTo xs v d (k + 1) (way xs v k) := by
  have hlen : ∀ w, w < xs.length → dist xs v w = d → (way xs v w).length = d + 1 := fun w hw e => by
    have := (way_len ht hE hv hw).1
    rw [dist] at e; omega
  refine ⟨.inr ⟨k, hk, hd, rfl⟩, fun w hw e => ⟨fun e2 => ?_, fun hc => ?_⟩⟩
  · have := hlen k hk hd; rw [e2] at this; simp at this
  · by_cases hwk : w = k
    · subst hwk; have := cmpL_swap (way xs v w) (way xs v w); omega
    · obtain ⟨h1, h2⟩ := h.2 w (by omega) e
      rcases hb with hb | hb
      · exact h1 hb
      · exact h2 (cmpL_trans (by rw [hlen w (by omega) e, hlen k hk hd]) (by rw [hlen k hk hd, leastTo_len ht hE hv h h1]) hc hb)
theorem leastTo_keep {xs l : List Int} {v d k : Nat} (h : LeastTo xs v d k l) (hl : l ≠ []) (hb : ¬ cmpL (way xs v k) l < 0) : LeastTo xs v d (k + 1) l := by
  refine ⟨h.1, fun w hw e => ?_⟩
  by_cases hwk : w = k
  · subst hwk; exact ⟨hl, hb⟩
  · exact h.2 w (by omega) e
theorem reach_get {xs : List Int} {v w : Nat} (hw : w < xs.length) : (dist xs v w : Int) ≤ reach xs v := maxTo_ge (distRow_at xs v hw) _ hw
theorem maxTo_has {xs : List Int} : ∀ {k : Nat}, k ≤ xs.length → maxTo xs k = 0 ∨ ∃ j, j < k ∧ xs[j]? = some (maxTo xs k) := by
  intro k
  induction k with
  | zero => intro _; exact .inl rfl
  | succ k ih =>
    intro hk
    obtain ⟨x, hx⟩ : ∃ x, xs[k]? = some x := ⟨_, List.getElem?_eq_getElem (by omega)⟩
    rw [maxTo_step hx rfl]
    split
    · exact .inr ⟨k, by omega, hx⟩
    · rcases ih (by omega) with h | ⟨j, h1, h2⟩
      · exact .inl h
      · exact .inr ⟨j, by omega, h2⟩
/-- what the model finds is the best -/
theorem best_of_least {xs l : List Int} {v d : Nat} (ht : isTree xs = true) (hE : ∃ ps, ParsOK xs ps) (hv : v < xs.length) (hd : reach xs v = (d : Int)) (hmax : ∀ v', v' < xs.length → reach xs v' ≤ (d : Int)) (hfirst : ∀ v', v' < v → reach xs v' ≠ (d : Int))
    (h : LeastTo xs v d xs.length l) : Best xs l := by
  obtain ⟨w0, hw0, hd0⟩ : ∃ w, w < xs.length ∧ dist xs v w = d := by
    have hl := distRow_len xs v
    rcases maxTo_has (xs := distRow xs v) (k := xs.length) (by omega) with h0 | ⟨j, h1, h2⟩
    · refine ⟨v, hv, ?_⟩
      have h3 := reach_get (xs := xs) (v := v) (w := v) hv
      have h4 : reach xs v = 0 := h0
      omega
    · rw [distRow_at xs v h1] at h2
      injection h2 with h2
      have h4 : (dist xs v j : Int) = reach xs v := h2
      exact ⟨j, h1, by omega⟩
  have hne := (h.2 w0 hw0 hd0).1
  have hlen := leastTo_len ht hE hv h hne
  refine ⟨?_, fun v' w' hv' hw' hb => ?_⟩
  · rcases h.1 with h1 | ⟨w, hw, _, h1⟩
    · exact absurd h1 hne
    · exact ⟨v, w, hv, hw, h1⟩
  · have h1 := hmax v' hv'
    have h2 := reach_get (xs := xs) (v := v') (w := w') hw'
    have h3 := (way_len ht hE hv' hw').1
    have h4 : dist xs v' w' = (way xs v' w').length - 1 := rfl
    rcases hb with hb | ⟨hb1, hb2⟩
    · omega
    · by_cases hvv : v' = v
      · subst hvv
        exact (h.2 w' hw' (by omega)).2 hb2
      · have hgt : v < v' := by
          rcases Nat.lt_or_ge v' v with h5 | h5
          · exact absurd (show reach xs v' = (d : Int) by omega) (hfirst v' h5)
          · omega
        have e1 := way_head ht hE hv' hw'
        have e2 : l[0]? = some (v : Int) := by
          rcases h.1 with h5 | ⟨w, hw, _, h5⟩
          · exact absurd h5 hne
          · rw [h5]; exact way_head ht hE hv hw
        have := cmpL_gt (xs := way xs v' w') (ys := l) (k := 0) e1 e2 (by omega)
        simp only [List.drop_zero] at this
        omega
end M
end Go.Proofs.Ytbnnlifpldgcfaa
