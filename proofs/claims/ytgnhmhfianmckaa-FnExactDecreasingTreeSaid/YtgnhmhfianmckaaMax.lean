/- slices.Max over numbers of at least 0. -/
import Derived.Test.YtgnhmhfianmckaaBase

namespace Go.Proofs.Ytgnhmhfianmckaa
open Go.RowKit

namespace M
/-- the greatest of the first k numbers, and of 0 -/
def maxTo (xs : List Int) : Nat → Int
  | 0 => 0
  | k + 1 => if maxTo xs k ≤ xs[k]?.getD 0 then xs[k]?.getD 0 else maxTo xs k
theorem maxTo_hit {xs : List Int} {k : Nat} {x : Int} (h : xs[k]? = some x) (hx : maxTo xs k ≤ x) : maxTo xs (k + 1) = x := by simp [maxTo, h, hx]
theorem maxTo_miss {xs : List Int} {k : Nat} {x : Int} (h : xs[k]? = some x) (hx : x < maxTo xs k) : maxTo xs (k + 1) = maxTo xs k := by
  rw [maxTo, h, if_neg (by simp; omega)]
theorem maxTo_step {xs : List Int} {k : Nat} {x y : Int} (h : xs[k]? = some x) (hy : maxTo xs k = y) : maxTo xs (k + 1) = if y < x then x else y := by
  simp only [maxTo, h, Option.getD_some, hy]
  split <;> split <;> omega
theorem maxTo_pos (xs : List Int) : ∀ k, 0 ≤ maxTo xs k := by
  intro k
  induction k with
  | zero => exact Int.le_refl _
  | succ k ih => simp only [maxTo]; split <;> omega
theorem maxTo_le {xs : List Int} {b : Int} (hb : 0 ≤ b) (h : ∀ x ∈ xs, x ≤ b) : ∀ k, maxTo xs k ≤ b := by
  intro k
  induction k with
  | zero => exact hb
  | succ k ih =>
    simp only [maxTo]
    split
    · rcases hx : xs[k]? with _ | x
      · simpa using hb
      · simpa using h x (List.mem_of_getElem? hx)
    · exact ih
theorem maxTo_ge {xs : List Int} {j : Nat} {x : Int} (h : xs[j]? = some x) : ∀ k, j < k → x ≤ maxTo xs k := by
  intro k
  induction k with
  | zero => intro h; omega
  | succ k ih =>
    intro hj
    rcases Nat.lt_or_ge j k with h1 | h1
    · have := ih h1
      simp only [maxTo]
      split <;> omega
    · obtain rfl : j = k := by omega
      simp only [maxTo, h, Option.getD_some]
      split <;> omega
end M

set_option maxHeartbeats 1000000 in
theorem slicesMax (A : Option Addr) (xs : List Int) (c : Nat) (w : World) (hx : xs.length ≤ 1000000) (hpos : 0 < xs.length) (h0 : Hid (∀ x ∈ xs, 0 ≤ x)) (h : Ints w w.heap.size A xs) (r : Int) (hr : Hid (M.maxTo xs xs.length = r)) :
    Calls Try.prog 69 #[.slice A xs.length c] w fun e w' => e = .returned (.int .i64 r) ∧ w = w' := by
  obtain ⟨x0, hx0⟩ : ∃ x, xs[0]? = some x := ⟨_, List.getElem?_eq_getElem hpos⟩
  have hm1 : M.maxTo xs 1 = x0 := M.maxTo_hit hx0 (by simp only [M.maxTo]; exact h0.out x0 (List.mem_of_getElem? hx0))
  have Hm1 := Lib.hid hm1
  obtain ⟨b, off, rfl, hbB, hcells⟩ := h hpos
  have c0 : w.cell? ⟨b, off, none⟩ = some (.int .i64 x0) := by simpa using hcells 0 _ hx0
  have Hcells := Lib.hid hcells
  clear hcells hm1 hx0
  have hl1 : 1 ≤ xs.length := hpos
  have hd1 : ¬ (xs.length : Int) < 1 := by omega
  go_enter Try.func69, Try.ntmps69
  go_wp2
  go_loop [3, 4] (fun m i => ∃ (k : Nat) (y : Int), 1 ≤ k ∧ k ≤ xs.length ∧ i = .int .i64 k ∧ m = .int .i64 y ∧ Hid (M.maxTo xs k = y)) (fun _ i => xs.length - (intOf i).toNat)
  case atStart => exact ⟨1, x0, Nat.le_refl _, hl1, rfl, rfl, Hm1⟩
  case round =>
    obtain ⟨k, y, hk1, hk, rfl, rfl, hy⟩ := hrel
    clear c0
    by_cases hlt : k < xs.length
    · obtain ⟨x, hX⟩ : ∃ x, xs[k]? = some x := ⟨_, List.getElem?_eq_getElem hlt⟩
      have g := Hcells.out k _ hX
      have hs : Hid (M.maxTo xs (k + 1) = if y < x then x else y) := M.maxTo_step hX hy.out
      clear hX
      go_wp2
      all_goals
        go_round
        case rel => exact ⟨k + 1, _, by omega, by omega, by go_num, rfl, hs⟩
        case measure => simp [intOf]; omega
    · obtain rfl : k = xs.length := by omega
      have he : Hid (y = r) := hy.out.symm.trans hr.out
      go_wp2
      go_ret
      exact ⟨by rw [← he.out]; rfl, rfl⟩
end Go.Proofs.Ytgnhmhfianmckaa
