/- appendFirst: the first list of so many trees, appended; tests of ranges. -/
import Derived.Test.YtamnilpmdccgoaaClone
import Derived.Test.YtamnilpmdccgoaaIs
import Derived.Test.YtamnilpmdccgoaaTwo
import Derived.Test.YtamnilpmdccgoaaGives
import Derived.Outline
namespace Go.Proofs.Ytamnilpmdccgoaa
open Go.RowKit

namespace M
def firstTo (m t i : Nat) : List Int := (List.range m).map fun j => if t ≤ j + 1 ∧ j < i then 1 else 0
/-- so many trees of so many nodes together, the first list: all but the last one are single nodes, and the last one is a path -/
def firstL (m t : Nat) : List Int := firstTo m t (m - 1)
theorem firstTo_len (m t i : Nat) : (firstTo m t i).length = m := by simp [firstTo]
theorem firstL_len (m t : Nat) : (firstL m t).length = m := firstTo_len _ _ _
theorem firstTo_start (m t : Nat) (ht : 1 ≤ t) : firstTo m t (t - 1) = List.replicate m 0 := by
  apply List.ext_getElem?
  intro j
  simp only [firstTo, List.getElem?_map, List.getElem?_replicate]
  by_cases hj : j < m
  · rw [List.getElem?_range hj, if_pos hj]
    simp only [Option.map_some]
    rw [if_neg (by omega)]
  · rw [List.getElem?_eq_none (by simp; omega), if_neg hj]; rfl
theorem firstTo_step (m t i : Nat) (h1 : t ≤ i + 1) : (firstTo m t i).set i 1 = firstTo m t (i + 1) := by
  apply List.ext_getElem?
  intro j
  by_cases hj : j < m
  · by_cases hji : i = j
    · subst hji
      rw [List.getElem?_set_self (by rw [firstTo_len]; exact hj)]
      simp only [firstTo, List.getElem?_map]
      rw [List.getElem?_range hj]
      simp only [Option.map_some]
      rw [if_pos (by omega)]
    · rw [List.getElem?_set_ne hji]
      simp only [firstTo, List.getElem?_map]
      rw [List.getElem?_range hj]
      simp only [Option.map_some]
      congr 1
      by_cases h3 : t ≤ j + 1 ∧ j < i
      · rw [if_pos h3, if_pos (by omega)]
      · rw [if_neg h3, if_neg (by omega)]
  · rw [List.getElem?_eq_none (by simp [firstTo_len]; omega), List.getElem?_eq_none (by rw [firstTo_len]; omega)]
theorem firstTo_end {m t i : Nat} (h1 : t ≤ i + 1) (h2 : m ≤ i + 1) (h3 : i < m ∨ i = t - 1) (ht : 1 ≤ t) : firstTo m t i = firstL m t := by
  rcases Nat.lt_or_ge i m with h4 | h4
  · obtain rfl : i = m - 1 := by omega
    rfl
  · have e : i = t - 1 := by omega
    subst e
    rw [firstTo_start m t ht]
    apply List.ext_getElem?
    intro j
    simp only [firstL, firstTo, List.getElem?_map, List.getElem?_replicate]
    by_cases hj : j < m
    · rw [List.getElem?_range hj, if_pos hj]
      simp only [Option.map_some]
      rw [if_neg (by omega)]
    · rw [List.getElem?_eq_none (by simp; omega), if_neg hj]; rfl
theorem firstTo_at {m t i : Nat} (h : i < m) : ∃ y, (firstTo m t i)[i]? = some y := ⟨_, List.getElem?_eq_getElem (by rw [firstTo_len]; exact h)⟩
end M

theorem withinAny (n lo hi : Int) (w : World) (b : Bool) (hb : Hid ((decide (lo ≤ n) && decide (n ≤ hi)) = b)) :
    Calls Try.prog 83 #[.int .i64 n, .int .i64 lo, .int .i64 hi] w fun e w' => e = .returned (.bool b) ∧ w = w' := by
  by_cases h : lo ≤ n
  · have hb' : b = decide (n ≤ hi) := by rw [← hb.out]; simp [h]
    clear hb
    subst hb'
    go_enter Try.func83, Try.ntmps83
    go_wp2
    go_ret
    exact ⟨rfl, rfl⟩
  · have hb' : b = false := by rw [← hb.out]; simp; intro h'; exact absurd h' h
    have hd : decide (lo ≤ n) = false := decide_eq_false h
    clear hb
    subst hb'
    go_enter Try.func83, Try.ntmps83
    go_wp2
    go_ret
    exact ⟨rfl, rfl⟩

end Go.Proofs.Ytamnilpmdccgoaa
