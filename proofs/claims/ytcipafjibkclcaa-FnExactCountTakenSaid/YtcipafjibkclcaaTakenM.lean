/- Sums over the good states: the mathematics. No program's function is named here. -/
import Derived.Test.YtcipafjibkclcaaAutoM
import Derived.IntWalk
namespace Go.Proofs.Ytcipafjibkclcaa
namespace M
/-- the sum of the numbers at the first k good states, as int64 -/
def gSum (R gs : List Int) : Nat → Int
  | 0 => 0
  | k + 1 => IntKind.i64.wrap (gSum R gs k + (R[(gs[k]?.getD 0).toNat]?.getD 0))
theorem gSum_step {R gs : List Int} {k : Nat} {s : Nat} {x : Int} (hs : gs[k]? = some (s : Int)) (hx : R[s]? = some x) : gSum R gs (k + 1) = IntKind.i64.wrap (gSum R gs k + x) := by
  rw [gSum, hs, Option.getD_some, Int.toNat_natCast, hx]; rfl
/-- the first j good states are those below s -/
def Upto (gs : List Int) (s j : Nat) : Prop := j ≤ gs.length ∧ (∀ i x, i < j → gs[i]? = some x → x < s) ∧ (∀ i x, j ≤ i → gs[i]? = some x → (s : Int) ≤ x)
theorem good_mono {gs : List Int} {m : Nat} (h : goodTo gs m gs.length = true) : ∀ i j : Nat, i < j → ∀ x y : Int, gs[i]? = some x → gs[j]? = some y → x < y := by
  intro i j
  induction j with
  | zero => intro h; omega
  | succ j ih =>
    intro hij x y hx hy
    have hjl := (List.getElem?_eq_some_iff.1 hy).1
    have h1 := goodAt_iff.1 (goodTo_each h (j + 1) hjl)
    obtain ⟨z, hz⟩ : ∃ z, gs[j]? = some z := ⟨_, List.getElem?_eq_getElem (by omega)⟩
    simp only [Nat.add_sub_cancel] at h1
    rw [hy, hz] at h1
    simp only [Option.getD_some] at h1
    rcases Nat.lt_or_ge i j with h4 | h4
    · have := ih h4 x z hx hz; omega
    · have e : i = j := by omega
      subst e
      rw [hx] at hz
      injection hz with hz
      omega
theorem upto_zero {gs : List Int} {m : Nat} (h : goodTo gs m gs.length = true) : Upto gs 0 0 :=
  ⟨Nat.zero_le _, fun i x hi => by omega, fun i x _ hx => by have := (goodTo_range h x (List.mem_of_getElem? hx)).1; omega⟩
theorem upto_in {gs : List Int} {m : Nat} (h : goodTo gs m gs.length = true) {s j : Nat} (hu : Upto gs s j) (hin : (s : Int) ∈ gs) : gs[j]? = some (s : Int) ∧ Upto gs (s + 1) (j + 1) := by
  obtain ⟨i, hi⟩ := List.getElem?_of_mem hin
  have hij : i = j := by
    rcases Nat.lt_trichotomy i j with h1 | h1 | h1
    · have := hu.2.1 i _ h1 hi; omega
    · exact h1
    · obtain ⟨y, hy⟩ : ∃ y, gs[j]? = some y := ⟨_, List.getElem?_eq_getElem (by have := (List.getElem?_eq_some_iff.1 hi).1; omega)⟩
      have h2 := good_mono h j i h1 y _ hy hi
      have h3 := hu.2.2 j y (Nat.le_refl _) hy
      omega
  subst hij
  refine ⟨hi, by have := (List.getElem?_eq_some_iff.1 hi).1; omega, fun k x hk hx => ?_, fun k x hk hx => ?_⟩
  · rcases Nat.lt_or_ge k i with h1 | h1
    · have := hu.2.1 k x h1 hx; omega
    · have e : k = i := by omega
      subst e
      rw [hi] at hx
      injection hx with hx
      omega
  · have := good_mono h i k (by omega) _ x hi hx; omega
theorem upto_out {gs : List Int} {s j : Nat} (hu : Upto gs s j) (hin : (s : Int) ∉ gs) : Upto gs (s + 1) j :=
  ⟨hu.1, fun i x hi hx => by have := hu.2.1 i x hi hx; omega, fun i x hi hx => by
    have := hu.2.2 i x hi hx
    have hne : x ≠ (s : Int) := fun e => hin (by rw [← e]; exact List.mem_of_getElem? hx)
    omega⟩
theorem upto_end {gs : List Int} {m j : Nat} (h : goodTo gs m gs.length = true) (hu : Upto gs m j) : j = gs.length := by
  rcases Nat.lt_or_ge j gs.length with h1 | h1
  · have h2 := hu.2.2 j _ (Nat.le_refl _) (List.getElem?_eq_getElem h1)
    have h3 := (goodTo_range h _ (List.getElem_mem h1)).2
    omega
  · have := hu.1; omega
end M
end Go.Proofs.Ytcipafjibkclcaa
