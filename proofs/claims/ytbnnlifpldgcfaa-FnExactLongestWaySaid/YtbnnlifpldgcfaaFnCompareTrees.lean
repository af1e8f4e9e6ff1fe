/- CompareTrees, the program's and the model's: the order of two trees, or a code. -/
import Derived.Test.YtbnnlifpldgcfaaIs
namespace Go.Proofs.Ytbnnlifpldgcfaa
open Go.RowKit

theorem isNaN64 (x : Int) (w : World) : Calls Try.prog 102 #[.int .i64 x] w fun e w' => e = .returned (.bool false) ∧ w = w' := by
  go_enter Try.func102, Try.ntmps102
  go_wp2
  go_ret
  exact ⟨by simp, rfl⟩
set_option maxHeartbeats 1000000 in
theorem cmp64 (x y : Int) (w : World) : Calls Try.prog 94 #[.int .i64 x, .int .i64 y] w fun e w' => e = .returned (.int .i64 (M.cmpI x y)) ∧ w = w' := by
  rcases Int.lt_trichotomy x y with h | h | h
  · rw [M.cmpI_lt h]
    go_enter Try.func94, Try.ntmps94
    go_wp2_with (go_at_call 102; refine (isNaN64 _ _).mono ?_; rintro e w' ⟨rfl, rfl⟩)
    go_ret
    exact ⟨rfl, rfl⟩
  · rw [M.cmpI_eq h]
    subst h
    go_enter Try.func94, Try.ntmps94
    go_wp2_with (go_at_call 102; refine (isNaN64 _ _).mono ?_; rintro e w' ⟨rfl, rfl⟩)
    go_ret
    exact ⟨rfl, rfl⟩
  · rw [M.cmpI_gt h]
    go_enter Try.func94, Try.ntmps94
    go_wp2_with (go_at_call 102; refine (isNaN64 _ _).mono ?_; rintro e w' ⟨rfl, rfl⟩)
    go_ret
    exact ⟨rfl, rfl⟩

set_option maxHeartbeats 1000000 in
theorem slicesCompare (A A' : Option Addr) (xs ys : List Int) (c c' n m : Nat) (w : World) (hx : Hid (xs.length = n)) (hy : Hid (ys.length = m)) (hn : n ≤ 1000000) (hnm : n ≤ m) (hmn : m ≤ n)
    (h : Ints w w.heap.size A xs) (h' : Ints w w.heap.size A' ys) :
    Calls Try.prog 77 #[.slice A n c, .slice A' m c'] w fun e w' => e = .returned (.int .i64 (M.cmpL xs ys)) ∧ w = w' := by
  obtain ⟨r, hr⟩ : ∃ r, Hid (M.cmpL xs ys = r) := ⟨_, rfl⟩
  rw [hr.out]
  go_enter Try.func77, Try.ntmps77
  go_wp2
  go_loop [5, 6, 7, 8, 11] (fun _ _ _ _ i => ∃ k : Nat, k ≤ n ∧ i = .int .i64 k ∧ Hid (M.cmpL (xs.drop k) (ys.drop k) = r)) (fun _ _ _ _ i => n - (intOf i).toNat)
  case atStart => exact ⟨0, Nat.zero_le _, rfl, hr⟩
  case round =>
    obtain ⟨k, hk, rfl, hg⟩ := hrel
    by_cases hlt : k < n
    · obtain ⟨b, off, x, rfl, hbB, g, hX⟩ := h.at_ (k := k) (by rw [hx.out]; exact hlt)
      obtain ⟨b', off', y, rfl, hbB', g', hY⟩ := h'.at_ (k := k) (by rw [hy.out]; omega)
      clear h h'
      rcases Int.lt_trichotomy x y with hc | hc | hc
      · have hs : Hid (r = -1) := hg.out.symm.trans (M.cmpL_lt hX.out hY.out hc)
        have hci := M.cmpI_lt hc
        have C := cmp64 x y w
        rw [hci] at C
        have HC := Lib.hid C
        clear hci C hc
        go_wp2_with (go_at_call 94; refine HC.out.mono ?_; rintro e w' ⟨rfl, rfl⟩)
        go_ret
        exact ⟨by rw [hs.out]; rfl, rfl⟩
      · have hs : Hid (M.cmpL (xs.drop (k + 1)) (ys.drop (k + 1)) = r) := (M.cmpL_eq hX.out hY.out hc).symm.trans hg.out
        subst hc
        have C := cmp64 x x w
        rw [M.cmpI_eq rfl] at C
        have HC := Lib.hid C
        clear C
        go_wp2_with (go_at_call 94; refine HC.out.mono ?_; rintro e w' ⟨rfl, rfl⟩)
        go_round
        case rel => exact ⟨k + 1, by omega, by go_num, hs⟩
        case measure => simp [intOf]; omega
      · have hs : Hid (r = 1) := hg.out.symm.trans (M.cmpL_gt hX.out hY.out hc)
        have hci := M.cmpI_gt hc
        have C := cmp64 x y w
        rw [hci] at C
        have HC := Lib.hid C
        clear hci C hc
        go_wp2_with (go_at_call 94; refine HC.out.mono ?_; rintro e w' ⟨rfl, rfl⟩)
        go_ret
        exact ⟨by rw [hs.out]; rfl, rfl⟩
    · obtain rfl : k = n := by omega
      have hs : Hid (r = 0) := by
        have := hg.out
        rw [← hx.out, M.cmpL_end] at this
        exact this.symm
      clear hg
      go_wp2
      go_ret
      exact ⟨by rw [hs.out]; rfl, rfl⟩

/-- what a function of two trees that hands back a number and a code must do -/
def GivesCmp (f : Nat) : Prop :=
  ∀ (A A2 : Option Addr) (xs ys : List Int) (c c2 : Nat) (w : World), xs.length ≤ 1048576 → ys.length ≤ 1048576 → Ints w w.heap.size A xs → Ints w w.heap.size A2 ys →
    Calls Try.prog f #[.agg #[.slice A xs.length c], .agg #[.slice A2 ys.length c2]] w fun e w' => e = .returned (.tuple #[.int .i64 (M.compareTrees xs ys).1, .int .i64 (M.compareTrees xs ys).2]) ∧ Below w.heap.size w w'

end Go.Proofs.Ytbnnlifpldgcfaa
