/- l02Choose: the model's number of ways to choose. -/
import Derived.Test.YtdaghbfejcjknabNar
import Derived.Test.YtdaghbfejcjknabBase
namespace Go.Proofs.Ytdaghbfejcjknab
open Go.RowKit

set_option maxHeartbeats 1000000 in
theorem l02Choose (n : Nat) (k : Int) (w : World) (hn : n ≤ 29) (hk0 : -1000 ≤ k) (hk1 : k ≤ 1000) (r : Nat) (hr : Hid (M.ch n k = r)) :
    Calls Try.prog 69 #[.int .i64 (n : Int), .int .i64 k] w fun e w' => e = .returned (.int .i64 (r : Int)) ∧ w = w' := by
  by_cases h1 : k < 0
  · have he : Hid (r = 0) := by show _ = _; rw [← hr.out, M.ch, if_pos (.inl h1)]
    go_enter Try.func69, Try.ntmps69
    go_wp2
    go_ret
    exact ⟨by rw [he.out]; rfl, rfl⟩
  by_cases h2 : (n : Int) < k
  · have he : Hid (r = 0) := by show _ = _; rw [← hr.out, M.ch, if_pos (.inr h2)]
    go_enter Try.func69, Try.ntmps69
    go_wp2
    go_ret
    exact ⟨by rw [he.out]; rfl, rfl⟩
  obtain ⟨t, rfl⟩ := Int.eq_ofNat_of_zero_le (show 0 ≤ k by omega)
  have htn : t ≤ n := by omega
  have hr2 : Hid (M.chTo n (min t (n - t)) = r) := by
    show _ = _
    rw [← hr.out, M.ch, if_neg (by omega), Int.toNat_natCast]
  have h3 : ¬ (t : Int) < 0 := by omega
  have h4 : ¬ (n : Int) < (t : Int) := by omega
  clear hr h1 h2
  go_enter Try.func69, Try.ntmps69
  go_wp2
  go_loop [5, 6] (fun q i => ∃ (x a : Nat), x ≤ min t (n - t) ∧ i = .int .i64 ((x : Int) + 1) ∧ q = .int .i64 (a : Int) ∧ Hid (M.chTo n x = a)) (fun _ i => 60 - (intOf i).toNat)
  case atStart => exact ⟨0, 1, Nat.zero_le _, rfl, rfl, rfl⟩
  case round =>
    obtain ⟨x, a, hx, rfl, rfl, ha⟩ := hrel
    have hb := M.ch_small (n := n) (i := x) hn (by omega)
    rw [ha.out] at hb
    by_cases hxl : x < min t (n - t)
    · have hx1 : (x : Int) + 1 ≤ (t : Int) := by omega
      have hx2 : (x : Int) + 1 ≤ (n : Int) - (t : Int) := by omega
      obtain ⟨p, hp⟩ : ∃ p, Hid (a * (n - x) = p) := ⟨_, rfl⟩
      have hpb : p ≤ 3000000000 := by
        rw [← hp.out]
        have := Nat.mul_le_mul hb (show n - x ≤ 30 by omega)
        omega
      have hpe : (a : Int) * ((n : Int) - ((x : Int) + 1) + 1) = (p : Int) := by
        rw [← hp.out, Int.natCast_mul]
        congr 1
        omega
      obtain ⟨q, hq⟩ : ∃ q, Hid (p / (x + 1) = q) := ⟨_, rfl⟩
      have hqb : q ≤ 3000000000 := by rw [← hq.out]; exact Nat.le_trans (Nat.div_le_self _ _) hpb
      have hqe : (p : Int) / ((x : Int) + 1) = (q : Int) := by rw [← hq.out, Int.natCast_ediv]; rfl
      have hs : Hid (M.chTo n (x + 1) = q) := by show _ = _; rw [M.chTo, ha.out, hp.out, hq.out]
      go_wp2
      all_goals
        go_round
        case rel => exact ⟨x + 1, q, by omega, by go_num, rfl, hs⟩
        case measure => simp [intOf]; omega
    · have hxe : x = min t (n - t) := by omega
      have he : Hid (a = r) := by show _ = _; rw [← hr2.out, ← ha.out, hxe]
      clear hxe
      by_cases hm : (n : Int) - (t : Int) < (t : Int)
      · have hge : ¬ (x : Int) + 1 ≤ (n : Int) - (t : Int) := by omega
        go_wp2
        go_ret
        exact ⟨by rw [← he.out]; rfl, rfl⟩
      · have hge : ¬ (x : Int) + 1 ≤ (t : Int) := by omega
        go_wp2
        go_ret
        exact ⟨by rw [← he.out]; rfl, rfl⟩
end Go.Proofs.Ytdaghbfejcjknab
