/- Decreasing binary trees of lists: mathematics; the place of the greatest number. -/
import Derived.Test.YtgnhmhfianmckaaIndex
namespace Go.Proofs.Ytgnhmhfianmckaa
namespace M
/-- the first place of the greatest of the first k numbers -/
def mxTo (l : List Int) : Nat → Nat
  | 0 => 0
  | k + 1 => if l[mxTo l k]?.getD 0 < l[k]?.getD 0 then k else mxTo l k
theorem mxTo_one (l : List Int) : mxTo l 1 = 0 := by simp [mxTo]
theorem mxTo_step {l : List Int} {k : Nat} {x y : Int} (hx : l[mxTo l k]? = some x) (hy : l[k]? = some y) : mxTo l (k + 1) = if x < y then k else mxTo l k := by rw [mxTo, hx, hy]; rfl
theorem mxTo_lt (l : List Int) : ∀ k, 1 ≤ k → mxTo l k < k := by
  intro k
  induction k with
  | zero => intro h; omega
  | succ k ih =>
    intro _
    rw [mxTo]
    split
    · omega
    · rcases Nat.eq_zero_or_pos k with e | e
      · subst e; simp [mxTo]
      · have := ih e; omega
/-- what stands ahead is less, what stands behind is not greater -/
theorem mxTo_spec (l : List Int) : ∀ k, 1 ≤ k → k ≤ l.length → ∃ x, l[mxTo l k]? = some x ∧ (∀ (j : Nat) y, j < mxTo l k → l[j]? = some y → y < x) ∧ (∀ (j : Nat) y, j < k → l[j]? = some y → y ≤ x) := by
  intro k
  induction k with
  | zero => intro h; omega
  | succ k ih =>
    intro _ hk
    obtain ⟨z, hz⟩ : ∃ z, l[k]? = some z := ⟨_, List.getElem?_eq_getElem (by omega)⟩
    rcases Nat.eq_zero_or_pos k with e | e
    · subst e
      refine ⟨z, by rw [mxTo_one]; exact hz, fun j y h => by rw [mxTo_one] at h; omega, fun j y h hy => ?_⟩
      obtain rfl : j = 0 := by omega
      rw [hz] at hy; injection hy with hy; omega
    · obtain ⟨x, h1, h2, h3⟩ := ih e (by omega)
      have hs := mxTo_step h1 hz
      by_cases hxz : x < z
      · rw [if_pos hxz] at hs
        rw [hs]
        refine ⟨z, hz, fun j y hj hy => ?_, fun j y hj hy => ?_⟩
        · have := h3 j y hj hy; omega
        · rcases Nat.lt_or_ge j k with h | h
          · have := h3 j y h hy; omega
          · obtain rfl : j = k := by omega
            rw [hz] at hy; injection hy with hy; omega
      · rw [if_neg hxz] at hs
        rw [hs]
        refine ⟨x, h1, h2, fun j y hj hy => ?_⟩
        rcases Nat.lt_or_ge j k with h | h
        · exact h3 j y h hy
        · obtain rfl : j = k := by omega
          rw [hz] at hy; injection hy with hy; omega
def mx (l : List Int) : Nat := mxTo l l.length
theorem nextOf_firstD {l : List Int} {x : Int} {p : Nat} (hp : l[p]? = some x) (hn : ∀ (j : Nat) y, j < p → l[j]? = some y → y ≠ x) : ∀ (m k : Nat), k + m = l.length → k ≤ p → nextOf l x k m = (p : Int) := by
  intro m
  induction m with
  | zero => intro k h hk; have := (List.getElem?_eq_some_iff.1 hp).1; omega
  | succ m ih =>
    intro k h hk
    obtain ⟨y, hy⟩ : ∃ y, l[k]? = some y := ⟨_, List.getElem?_eq_getElem (by omega)⟩
    rcases Nat.lt_or_ge k p with h1 | h1
    · rw [nextOf_miss hy (hn k y h1 hy)]
      exact ih (k + 1) (by omega) (by omega)
    · obtain rfl : k = p := by omega
      rw [hp] at hy; injection hy with hy
      subst hy
      rw [nextOf_hit hp]
theorem idxOf_mx {l : List Int} {x : Int} (h1 : 1 ≤ l.length) (hx : l[mx l]? = some x) : idxOf l x = (mx l : Int) := by
  obtain ⟨z, hz, h2, _⟩ := mxTo_spec l l.length h1 (Nat.le_refl _)
  have : z = x := by rw [show l[mxTo l l.length]? = some x from hx] at hz; injection hz with hz; exact hz.symm
  subst this
  exact nextOf_firstD hx (fun j y hj hy => by have := h2 j y hj hy; omega) l.length 0 (by omega) (Nat.zero_le _)

/-- the text of the decreasing binary tree -/
def dec : Nat → List Int → ByteArray
  | 0, _ => ⟨#[48]⟩
  | f + 1, l => if l.length = 0 then ⟨#[48]⟩ else ⟨#[49]⟩ ++ dec f (l.take (mx l)) ++ dec f (l.drop (mx l + 1))
theorem dec_nil {f : Nat} {l : List Int} (h : l.length = 0) : dec f l = ⟨#[48]⟩ := by
  cases f with
  | zero => rfl
  | succ f => rw [dec, if_pos h]
theorem dec_cons {f : Nat} {l : List Int} (h : l.length ≠ 0) : dec (f + 1) l = ⟨#[49]⟩ ++ dec f (l.take (mx l)) ++ dec f (l.drop (mx l + 1)) := by rw [dec, if_neg h]
theorem dec_size : ∀ (f : Nat) (l : List Int), l.length ≤ f → (dec f l).size = 2 * l.length + 1 := by
  intro f
  induction f with
  | zero => intro l h; rw [dec_nil (by omega), show l.length = 0 by omega]; rfl
  | succ f ih =>
    intro l h
    by_cases h0 : l.length = 0
    · rw [dec_nil h0, h0]; rfl
    · rw [dec_cons h0]
      have h1 := mxTo_lt l l.length (by omega)
      have hmx : mx l = mxTo l l.length := rfl
      simp only [ByteArray.size_append]
      rw [ih _ (by rw [List.length_take]; omega), ih _ (by rw [List.length_drop]; omega), List.length_take, List.length_drop]
      have : (⟨#[49]⟩ : ByteArray).size = 1 := rfl
      omega
end M
end Go.Proofs.Ytgnhmhfianmckaa
