/- The least steps, found pair by pair. No program is named here. -/
import Derived.Test.YtamnilpmdccgoaaTidy
namespace Go.Proofs.Ytamnilpmdccgoaa
namespace M
/-- the pairs that have been looked at -/
def Seen (a b a' b' : Nat) : Prop := a' < a ∨ (a' = a ∧ b' < b)
/-- what is known when those before (a, b) have been looked at -/
def ByTo (ds : List Int) (p q : Nat) (P own : List Int) (a b : Nat) (f : Bool) (z : Int) : Prop :=
  (f = true ∧ z = 0 ∧ ∀ a' b' x y, Seen a b a' b' → ¬ PairAt ds p q P own a' b' x y) ∨
  (f = false ∧ (∃ a' b' x y, PairAt ds p q P own a' b' x y ∧ z = x + 2 - y) ∧ ∀ a' b' x y, Seen a b a' b' → PairAt ds p q P own a' b' x y → x + 2 - y ≤ z)
section
variable {ds P own : List Int} {p q a b : Nat} {f : Bool} {z : Int}
theorem by_start (ds : List Int) (p q : Nat) (P own : List Int) : ByTo ds p q P own 0 0 true 0 := .inl ⟨rfl, rfl, fun a' b' x y h => by unfold Seen at h; omega⟩
theorem seen_next {a' b' : Nat} (h : Seen a (b + 1) a' b') : Seen a b a' b' ∨ (a' = a ∧ b' = b) := by unfold Seen at *; omega
theorem by_skip {e e' : Int} (h : ByTo ds p q P own a b f z) (h1 : ds[p + a]? = some e) (h2 : ds[q + b]? = some e') (hne : e ≠ e') : ByTo ds p q P own a (b + 1) f z := by
  have hno : ∀ x y, ¬ PairAt ds p q P own a b x y := fun x y ⟨_, _, u, k1, k2⟩ => by
    rw [h1] at k1; rw [h2] at k2
    injection k1 with k1; injection k2 with k2
    exact hne (k1.trans k2.symm)
  rcases h with ⟨h3, h4, h5⟩ | ⟨h3, h4, h5⟩
  · refine .inl ⟨h3, h4, fun a' b' x y hs hp => ?_⟩
    rcases seen_next hs with hs | ⟨rfl, rfl⟩
    · exact h5 _ _ _ _ hs hp
    · exact hno _ _ hp
  · refine .inr ⟨h3, h4, fun a' b' x y hs hp => ?_⟩
    rcases seen_next hs with hs | ⟨rfl, rfl⟩
    · exact h5 _ _ _ _ hs hp
    · exact absurd hp (hno _ _)
theorem pair_same {x y x' y' : Int} (hx : P[a]? = some x) (hy : own[b]? = some y) (h : PairAt ds p q P own a b x' y') : x' = x ∧ y' = y := by
  obtain ⟨k1, k2, _⟩ := h
  rw [hx] at k1; rw [hy] at k2
  injection k1 with k1; injection k2 with k2
  exact ⟨k1.symm, k2.symm⟩
theorem by_new {e x y : Int} (h : ByTo ds p q P own a b f z) (h1 : ds[p + a]? = some e) (h2 : ds[q + b]? = some e) (hx : P[a]? = some x) (hy : own[b]? = some y) (hz : f = true ∨ z < x + 2 - y) : ByTo ds p q P own a (b + 1) false (x + 2 - y) := by
  refine .inr ⟨rfl, ⟨a, b, x, y, ⟨hx, hy, e, h1, h2⟩, rfl⟩, fun a' b' x' y' hs hp => ?_⟩
  rcases seen_next hs with hs | ⟨rfl, rfl⟩
  · rcases h with ⟨h3, h4, h5⟩ | ⟨h3, h4, h5⟩
    · exact absurd hp (h5 _ _ _ _ hs)
    · rcases hz with hz | hz
      · rw [h3] at hz; cases hz
      · have := h5 _ _ _ _ hs hp; omega
  · obtain ⟨rfl, rfl⟩ := pair_same hx hy hp
    omega
theorem by_old {x y : Int} (h : ByTo ds p q P own a b false z) (hx : P[a]? = some x) (hy : own[b]? = some y) (hz : x + 2 - y ≤ z) : ByTo ds p q P own a (b + 1) false z := by
  rcases h with ⟨h3, h4, h5⟩ | ⟨h3, h4, h5⟩
  · cases h3
  · refine .inr ⟨rfl, h4, fun a' b' x' y' hs hp => ?_⟩
    rcases seen_next hs with hs | ⟨rfl, rfl⟩
    · exact h5 _ _ _ _ hs hp
    · obtain ⟨rfl, rfl⟩ := pair_same hx hy hp
      exact hz
theorem by_row (h : ByTo ds p q P own a own.length f z) : ByTo ds p q P own (a + 1) 0 f z := by
  have hs : ∀ a' b' x y, Seen (a + 1) 0 a' b' → PairAt ds p q P own a' b' x y → Seen a own.length a' b' := fun a' b' x y hs hp => by
    have := (List.getElem?_eq_some_iff.1 hp.2.1).1
    unfold Seen at *
    omega
  rcases h with ⟨h3, h4, h5⟩ | ⟨h3, h4, h5⟩
  · exact .inl ⟨h3, h4, fun a' b' x y k hp => h5 _ _ _ _ (hs _ _ _ _ k hp) hp⟩
  · exact .inr ⟨h3, h4, fun a' b' x y k hp => h5 _ _ _ _ (hs _ _ _ _ k hp) hp⟩
theorem by_end (h : ByTo ds p q P own P.length 0 f z) : byOf ds p q P own = z := by
  have hs : ∀ a' b' x y, PairAt ds p q P own a' b' x y → Seen P.length 0 a' b' := fun a' b' x y hp => .inl (List.getElem?_eq_some_iff.1 hp.1).1
  rcases h with ⟨h3, h4, h5⟩ | ⟨h3, ⟨a', b', x, y, hp, hz⟩, h5⟩
  · rw [h4, byOf, dif_neg]
    rintro ⟨r, ⟨a', b', x, y, hp, _⟩, _⟩
    exact h5 _ _ _ _ (hs _ _ _ _ hp) hp
  · exact byOf_eq ⟨⟨a', b', x, y, hp, hz⟩, fun a' b' x y hp => h5 _ _ _ _ (hs _ _ _ _ hp) hp⟩
end
end M
end Go.Proofs.Ytamnilpmdccgoaa
