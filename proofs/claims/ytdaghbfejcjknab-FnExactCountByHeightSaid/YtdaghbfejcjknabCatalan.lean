/- l02Catalan: the model's numbers of trees of 0 to n nodes. -/
import Derived.Test.YtdaghbfejcjknabTab
import Derived.Test.YtdaghbfejcjknabPush
import Derived.Outline
namespace Go.Proofs.Ytdaghbfejcjknab
open Go.RowKit

theorem own64_shape {w : World} {B n c : Nat} {A : Option Addr} {zs : List Int} (h : Own64 w B (.slice A n c) zs) (hn : 0 < n) : ∃ g, A = some ⟨g, 0, none⟩ := by
  rcases h.2 with ⟨h0, _⟩ | ⟨g, cap, cur, hv, _⟩
  · injection h0 with _ e _; omega
  · injection hv with e1; exact ⟨g, e1⟩

set_option maxHeartbeats 2000000 in
set_option maxRecDepth 100000 in
theorem l02Catalan (n : Nat) (w : World) (hn1 : 1 ≤ n) (hn : n ≤ 30) :
    Calls Try.prog 67 #[.int .i64 (n : Int)] w fun e w' => ∃ A' c', e = .returned (.slice A' (n + 1) c') ∧ Own64 w' w.heap.size (.slice A' (n + 1) c') (M.cats n) ∧ Below w.heap.size w w' := by
  have hst : Hid (Own64 (w.alloc (.cells #[.int .i64 0, .int .i64 1] 2)) w.heap.size (.slice (some ⟨w.heap.size, 0, none⟩) 2 2) (M.cats 1)) := by
    have h := World.ownsRow_lit (e := 2) (size := 1) w #[.int .i64 0, .int .i64 1] 2 (base := w.heap.size) (Nat.le_refl _) (by unfold maxLen; omega) (by simp)
    exact h
  have hb0 : Hid (Below w.heap.size w (w.alloc (.cells #[.int .i64 0, .int .i64 1] 2))) := bal (b0 w) _
  go_enter Try.func67, Try.ntmps67
  go_wp2
  go_loopw [3, 4, 5, 6] (fun q i _ _ wr => ∃ (m : Nat) (A' : Option Addr) (c' : Nat), 2 ≤ m ∧ m ≤ n + 1 ∧ i = .int .i64 (m : Int) ∧ q = .slice A' m c' ∧ Hid (Own64 wr w.heap.size (.slice A' m c') (M.cats (m - 1))) ∧ Hid (Below w.heap.size w wr)) (fun _ i _ _ _ => 40 - (intOf i).toNat)
  case atStart => exact ⟨2, _, 2, Nat.le_refl _, by omega, rfl, rfl, hst, hb0⟩
  case round =>
    obtain ⟨m, A', c', hm1, hm, rfl, rfl, ho, hbr⟩ := hrel
    clear hst hb0
    have zr := hbr.out.size
    have hcl : Hid ((M.cats (m - 1)).length = m) := by show _ = _; rw [M.cats_len]; omega
    by_cases hlt : m ≤ n
    · have hlt2 : (m : Int) ≤ (n : Int) := by omega
      obtain ⟨g, rfl⟩ := own64_shape ho.out (by omega)
      have hLe := Lib.hid (M.L_cat (m := m) (by omega) (by omega))
      have hLs := M.L_small (n := m) (t := 1) (by omega)
      have hsm : ∀ k, k ≤ m - 1 → M.sumTo (fun j => M.L (j + 1) 1 * M.L (m - 1 - j) 1) k ≤ 1152921504606846976 := fun k hk => by
        have := M.sumTo_le (f := fun j => M.L (j + 1) 1 * M.L (m - 1 - j) 1) (j := k) (k := m - 1) (by omega)
        have h2 := hLe.out
        omega
      have Hsm := Lib.hid hsm
      clear hLs hsm
      go_wp2
      go_loopw [5, 6] (fun s k wr => ∃ (j y : Nat), 1 ≤ j ∧ j ≤ m ∧ k = .int .i64 (j : Int) ∧ s = .int .i64 (y : Int) ∧ Hid (M.sumTo (fun j => M.L (j + 1) 1 * M.L (m - 1 - j) 1) (j - 1) = y) ∧ Hid (Own64 wr w.heap.size (.slice (some ⟨g, 0, none⟩) m c') (M.cats (m - 1))) ∧ Hid (Below w.heap.size w wr)) (fun _ k _ => 40 - (intOf k).toNat)
      case atStart => exact ⟨1, 0, Nat.le_refl _, by omega, rfl, rfl, rfl, ho, hbr⟩
      case round =>
        obtain ⟨j, y, hj1, hj, rfl, rfl, hy, ho, hbr⟩ := hrel
        by_cases hjm : j < m
        · have hjm2 : (j : Int) < (m : Int) := by omega
          obtain ⟨d, hd⟩ : ∃ d, Hid (m - j = d) := ⟨_, rfl⟩
          have hdo := hd.out
          have c1 := (own64_cell ho.out hcl.out (M.cats_at (n := m - 1) (k := j) (by omega))).1
          have c2 := (own64_cell ho.out hcl.out (M.cats_at (n := m - 1) (k := d) (by omega))).1
          have hy1 := Hsm.out (j - 1) (by omega)
          have hy2 := Hsm.out (j - 1 + 1) (by omega)
          have hs : Hid (M.sumTo (fun j => M.L (j + 1) 1 * M.L (m - 1 - j) 1) (j + 1 - 1) = y + M.L j 1 * M.L d 1) := by
            show _ = _
            have e1 : j + 1 - 1 = (j - 1) + 1 := by omega
            have e2 : j - 1 + 1 = j := by omega
            have e3 : m - 1 - (j - 1) = d := by omega
            rw [e1, M.sumTo, hy.out, e2, e3]
          have e1 : j - 1 + 1 = j + 1 - 1 := by omega
          rw [e1, hs.out] at hy2
          rw [hy.out] at hy1
          generalize M.L j 1 = a at *
          generalize M.L d 1 = b at *
          obtain ⟨ad, had⟩ : ∃ ad, Hid (a * b = ad) := ⟨_, rfl⟩
          rw [had.out] at hs hy2
          have hmul : ((a : Int) * (b : Int)) = (ad : Int) := by rw [← had.out]; exact (Int.natCast_mul a b).symm
          have hw1 : IntKind.i64.wrap ((a : Int) * (b : Int)) = (ad : Int) := by rw [hmul]; exact IntWalk.i64_in _ (by omega)
          have hw2 : IntKind.i64.wrap ((y : Int) + (ad : Int)) = (y : Int) + (ad : Int) := IntWalk.i64_in _ (by omega)
          have hw3 : IntKind.i64.wrap ((m : Int) - (j : Int)) = (d : Int) := by rw [IntWalk.i64_in _ (by omega)]; omega
          have hi1 : (0 : Int) ≤ (d : Int) := by omega
          have hi2 : (d : Int) < (m : Int) := by omega
          have hi3 : (0 : Int) ≤ (j : Int) := by omega
          clear hmul e1 hdo
          go_wp2
          go_quiet (fail)
          go_wp2
          go_roundw
          case rel => exact ⟨j + 1, y + ad, by omega, by omega, by go_num, by go_num, hs, ho, below_drewN hbr.out _⟩
          case measure => simp [intOf]; omega
        · obtain rfl : j = m := by omega
          have hge : ¬ (j : Int) < (j : Int) := by omega
          have hye : Hid (M.L j 1 = y) := hLe.out.trans hy.out
          have hpush : Hid (M.cats (j - 1) ++ [(y : Int)] = M.cats j) := by
            show _ = _
            have e1 : j = (j - 1) + 1 := by omega
            have h2 := M.cats_succ (j - 1)
            rw [← e1, hye.out] at h2
            exact h2.symm
          have zr2 := hbr.out.size
          go_wp2_with (at_builtin; refine push64 rfl (.tmp 31) (.tmp 33) rfl wr w.heap.size (some ⟨g, 0, none⟩) j c' (M.cats (j - 1)) (y : Int) rfl rfl ho zr2 (by omega) ?_; intro A2 c2 w2 ho2 hb2)
          go_roundw
          case rel => exact ⟨j + 1, A2, c2, by omega, by omega, by go_num, rfl, own64_eq ho2.out hpush.out, hbr.out.trans hb2.out⟩
          case measure => simp [intOf]; omega
    · obtain rfl : m = n + 1 := by omega
      have hge : ¬ ((n + 1 : Nat) : Int) ≤ (n : Int) := by omega
      have ho2 : Hid (Own64 wr w.heap.size (.slice A' (n + 1) c') (M.cats n)) := ho.out
      go_wp2
      go_ret
      exact ⟨A', c', rfl, ho2.out, hbr.out⟩
end Go.Proofs.Ytdaghbfejcjknab
