/- CompareTrees, the program's and the model's: the order of two trees, or a code. -/
import Derived.Test.YtemfaginhipihabIs
namespace Go.Proofs.Ytemfaginhipihab
open Go.RowKit

theorem isNaN64 (x : Int) (w : World) : Calls Try.prog 88 #[.int .i64 x] w fun e w' => e = .returned (.bool false) ∧ w = w' := by
  go_enter Try.func88, Try.ntmps88
  go_wp2
  go_ret
  exact ⟨by simp, rfl⟩
theorem isNaNint (x : Int) (w : World) : Calls Try.prog 83 #[.int .i64 x] w fun e w' => e = .returned (.bool false) ∧ w = w' := by
  go_enter Try.func83, Try.ntmps83
  go_wp2
  go_ret
  exact ⟨by simp, rfl⟩

set_option maxHeartbeats 1000000 in
theorem cmp64 (x y : Int) (w : World) : Calls Try.prog 84 #[.int .i64 x, .int .i64 y] w fun e w' => e = .returned (.int .i64 (M.cmpI x y)) ∧ w = w' := by
  rcases Int.lt_trichotomy x y with h | h | h
  · rw [M.cmpI_lt h]
    go_enter Try.func84, Try.ntmps84
    go_wp2_with (go_at_call 88; refine (isNaN64 _ _).mono ?_; rintro e w' ⟨rfl, rfl⟩)
    go_ret
    exact ⟨rfl, rfl⟩
  · rw [M.cmpI_eq h]
    subst h
    go_enter Try.func84, Try.ntmps84
    go_wp2_with (go_at_call 88; refine (isNaN64 _ _).mono ?_; rintro e w' ⟨rfl, rfl⟩)
    go_ret
    exact ⟨rfl, rfl⟩
  · rw [M.cmpI_gt h]
    go_enter Try.func84, Try.ntmps84
    go_wp2_with (go_at_call 88; refine (isNaN64 _ _).mono ?_; rintro e w' ⟨rfl, rfl⟩)
    go_ret
    exact ⟨rfl, rfl⟩

set_option maxHeartbeats 1000000 in
theorem cmpInt (x y : Int) (w : World) : Calls Try.prog 71 #[.int .i64 x, .int .i64 y] w fun e w' => e = .returned (.int .i64 (M.cmpI x y)) ∧ w = w' := by
  rcases Int.lt_trichotomy x y with h | h | h
  · rw [M.cmpI_lt h]
    go_enter Try.func71, Try.ntmps71
    go_wp2_with (go_at_call 83; refine (isNaNint _ _).mono ?_; rintro e w' ⟨rfl, rfl⟩)
    go_ret
    exact ⟨rfl, rfl⟩
  · rw [M.cmpI_eq h]
    subst h
    go_enter Try.func71, Try.ntmps71
    go_wp2_with (go_at_call 83; refine (isNaNint _ _).mono ?_; rintro e w' ⟨rfl, rfl⟩)
    go_ret
    exact ⟨rfl, rfl⟩
  · rw [M.cmpI_gt h]
    go_enter Try.func71, Try.ntmps71
    go_wp2_with (go_at_call 83; refine (isNaNint _ _).mono ?_; rintro e w' ⟨rfl, rfl⟩)
    go_ret
    exact ⟨rfl, rfl⟩

set_option maxHeartbeats 1000000 in
theorem slicesCompare (A A' : Option Addr) (xs ys : List Int) (c c' n m : Nat) (w : World) (hx : Hid (xs.length = n)) (hy : Hid (ys.length = m)) (hn : n ≤ 1000000) (hnm : n ≤ m) (hmn : m ≤ n)
    (h : Ints w w.heap.size A xs) (h' : Ints w w.heap.size A' ys) :
    Calls Try.prog 72 #[.slice A n c, .slice A' m c'] w fun e w' => e = .returned (.int .i64 (M.cmpL xs ys)) ∧ w = w' := by
  obtain ⟨r, hr⟩ : ∃ r, Hid (M.cmpL xs ys = r) := ⟨_, rfl⟩
  rw [hr.out]
  go_enter Try.func72, Try.ntmps72
  go_wp2
  go_loop [5, 6, 7, 8, 11] (fun _ _ _ _ i => ∃ k : Nat, k ≤ n ∧ i = .int .i64 k ∧ Hid (M.cmpL (xs.drop k) (ys.drop k) = r)) (fun _ _ _ _ i => n - (intOf i).toNat)
  case atStart => exact ⟨0, Nat.zero_le _, rfl, hr⟩
  case round =>
    obtain ⟨k, hk, rfl, hg⟩ := hrel
    by_cases hlt : k < n
    · obtain ⟨b, off, x, rfl, hbB, g, hX⟩ := h.at_ (k := k) (by rw [hx.out]; exact hlt)
      obtain ⟨b', off', y, rfl, hbB', g', hY⟩ := h'.at_ (k := k) (by rw [hy.out]; omega)
      clear h h'
      rcases Int.lt_trichotomy x y with hc | hc | hc
      · have hs : Hid (r = -1) := hg.out.symm.trans (M.cmpL_lt hX.out hY.out hc)
        have hci := M.cmpI_lt hc
        have C := cmp64 x y w
        rw [hci] at C
        have HC := Lib.hid C
        clear hci C hc
        go_wp2_with (go_at_call 84; refine HC.out.mono ?_; rintro e w' ⟨rfl, rfl⟩)
        go_ret
        exact ⟨by rw [hs.out]; rfl, rfl⟩
      · have hs : Hid (M.cmpL (xs.drop (k + 1)) (ys.drop (k + 1)) = r) := (M.cmpL_eq hX.out hY.out hc).symm.trans hg.out
        subst hc
        have C := cmp64 x x w
        rw [M.cmpI_eq rfl] at C
        have HC := Lib.hid C
        clear C
        go_wp2_with (go_at_call 84; refine HC.out.mono ?_; rintro e w' ⟨rfl, rfl⟩)
        go_round
        case rel => exact ⟨k + 1, by omega, by go_num, hs⟩
        case measure => simp [intOf]; omega
      · have hs : Hid (r = 1) := hg.out.symm.trans (M.cmpL_gt hX.out hY.out hc)
        have hci := M.cmpI_gt hc
        have C := cmp64 x y w
        rw [hci] at C
        have HC := Lib.hid C
        clear hci C hc
        go_wp2_with (go_at_call 84; refine HC.out.mono ?_; rintro e w' ⟨rfl, rfl⟩)
        go_ret
        exact ⟨by rw [hs.out]; rfl, rfl⟩
    · obtain rfl : k = n := by omega
      have hs : Hid (r = 0) := by
        have := hg.out
        rw [← hx.out, M.cmpL_end] at this
        exact this.symm
      clear hg
      go_wp2
      go_ret
      exact ⟨by rw [hs.out]; rfl, rfl⟩

set_option maxHeartbeats 2000000 in
theorem l01Less (A A' : Option Addr) (xs ys : List Int) (c c' : Nat) (w : World) (hyl : ys.length ≤ 1000000) (h : Ints w w.heap.size A xs) (h' : Ints w w.heap.size A' ys) (b : Bool) (hb : Hid (decide (M.cmpT xs ys = -1) = b)) :
    Calls Try.prog 70 #[.agg #[.slice A xs.length c], .agg #[.slice A' ys.length c']] w fun e w' => e = .returned (.bool b) ∧ Below w.heap.size w w' := by
  have hB0 := Lib.hid (bal (bal (b0 w) (.cells #[.slice A xs.length c] 26)) (.cells #[.slice A' ys.length c'] 26))
  by_cases hl : xs.length = ys.length
  · have hb' : Hid (decide (M.cmpL xs ys = -1) = b) := by show _ = _; rw [← hb.out, M.cmpT, if_pos hl]
    have hn : ((xs.length : Int) != (ys.length : Int)) = false := by simp [hl]
    have hl1 : xs.length ≤ ys.length := by omega
    clear hb hl
    obtain ⟨W, hW⟩ : ∃ W, W = (w.alloc (.cells #[.slice A xs.length c] 26)).alloc (.cells #[.slice A' ys.length c'] 26) := ⟨_, rfl⟩
    have c1 : W.cell? ⟨w.heap.size, 0, none⟩ = some (.slice A xs.length c) := by subst hW; exact cell_al (by simp) _
    have c2 : W.cell? ⟨w.heap.size + 1, 0, none⟩ = some (.slice A' ys.length c') := by subst hW; exact World.cell?_alloc_at _ _ _ _ (by simp)
    have C1 := Lib.hid c1
    have C2 := Lib.hid c2
    have i1 : Hid (Ints W W.heap.size A xs) := by subst hW; exact (h.al _).al _
    have i2 : Hid (Ints W W.heap.size A' ys) := by subst hW; exact (h'.al _).al _
    have hBW : Hid (Below w.heap.size w W) := by subst hW; exact hB0
    have HW := Lib.hid hW
    clear hW hB0 h h' c1 c2
    go_enter Try.func70, Try.ntmps70
    go_wp2_with fail
    rw [← HW.out]
    go_loopw [5] (fun i wr => ∃ k : Nat, k ≤ xs.length ∧ i = .int .i64 k ∧ Hid (M.cmpL (xs.drop k) (ys.drop k) = M.cmpL xs ys) ∧ Hid (Below W.heap.size W wr)) (fun i _ => xs.length - (intOf i).toNat)
    case atStart => exact ⟨0, Nat.zero_le _, rfl, rfl, b0 W⟩
    case round =>
      obtain ⟨k, hk, rfl, hg, hbr⟩ := hrel
      have d1 := cell_be C1.out hbr.out
      have d2 := cell_be C2.out hbr.out
      by_cases hlt : k < xs.length
      · obtain ⟨b1, off, x, rfl, hbB, g, hX⟩ := (i1.out.be hbr.out).at_ hlt
        obtain ⟨b', off', y, rfl, hbB', g', hY⟩ := (i2.out.be hbr.out).at_ (k := k) (by omega)
        rcases Int.lt_trichotomy x y with hc | hc | hc
        · have hs : Hid (b = true) := by show _ = _; rw [← hb'.out, ← hg.out, M.cmpL_lt hX.out hY.out hc]; rfl
          have hq : (x != y) = true := by simp; omega
          go_wp2
          go_quiet (fail)
          go_wp2
          go_quiet (fail)
          go_wp2
          go_ret
          exact ⟨by rw [hs.out]; rfl, btr hBW.out (below_drewN (below_drewN hbr.out _) _)⟩
        · have hs : Hid (M.cmpL (xs.drop (k + 1)) (ys.drop (k + 1)) = M.cmpL xs ys) := (M.cmpL_eq hX.out hY.out hc).symm.trans hg.out
          subst hc
          go_wp2
          go_quiet (fail)
          go_wp2
          go_roundw
          case rel => exact ⟨k + 1, by omega, by go_num, hs, below_drewN hbr.out _⟩
          case measure => simp [intOf]; omega
        · have hs : Hid (b = false) := by show _ = _; rw [← hb'.out, ← hg.out, M.cmpL_gt hX.out hY.out hc]; rfl
          have hq : (x != y) = true := by simp; omega
          have hq2 : decide (x < y) = false := decide_eq_false (by omega)
          go_wp2
          go_quiet (fail)
          go_wp2
          go_quiet (fail)
          go_wp2
          go_ret
          exact ⟨by rw [hs.out]; rfl, btr hBW.out (below_drewN (below_drewN hbr.out _) _)⟩
      · obtain rfl : k = xs.length := by omega
        have hs : Hid (b = false) := by show _ = _; rw [← hb'.out, ← hg.out, M.cmpL_end]; rfl
        go_wp2
        go_ret
        exact ⟨by rw [hs.out]; rfl, btr hBW.out hbr.out⟩
  · have hb' : Hid (decide (xs.length < ys.length) = b) := by
      show _ = _
      rw [← hb.out, M.cmpT, if_neg hl]
      rcases Int.lt_trichotomy (xs.length : Int) ys.length with h1 | h1 | h1
      · rw [M.cmpI_lt h1]; simp; omega
      · omega
      · rw [M.cmpI_gt h1]; simp; omega
    have hn : ((xs.length : Int) != (ys.length : Int)) = true := by simp; omega
    clear hb hl
    go_enter Try.func70, Try.ntmps70
    go_wp2
    go_ret
    exact ⟨by rw [← hb'.out]; rfl, hB0.out⟩

/-- what a function of two trees that hands back a number and a code must do -/
def GivesCmp (f : Nat) : Prop :=
  ∀ (A A2 : Option Addr) (xs ys : List Int) (c c2 : Nat) (w : World), xs.length ≤ 1048576 → ys.length ≤ 1048576 → Ints w w.heap.size A xs → Ints w w.heap.size A2 ys →
    Calls Try.prog f #[.agg #[.slice A xs.length c], .agg #[.slice A2 ys.length c2]] w fun e w' => e = .returned (.tuple #[.int .i64 (M.compareTrees xs ys).1, .int .i64 (M.compareTrees xs ys).2]) ∧ Below w.heap.size w w'

set_option maxHeartbeats 2000000 in
theorem impl_CompareTrees : GivesCmp 43 := by
  intro A A2 xs ys c c2 w hx hy h h2
  obtain ⟨W, hW⟩ : ∃ W, W = (w.alloc (.cells #[.slice A xs.length c] 26)).alloc (.cells #[.slice A2 ys.length c2] 26) := ⟨_, rfl⟩
  have C1 : Hid (W.cell? ⟨w.heap.size, 0, none⟩ = some (.slice A xs.length c)) := by subst hW; exact cell_al (by simp) _
  have C2 : Hid (W.cell? ⟨w.heap.size + 1, 0, none⟩ = some (.slice A2 ys.length c2)) := by subst hW; exact World.cell?_alloc_at _ _ _ _ (by simp)
  have i1 : Hid (Ints W W.heap.size A xs) := by subst hW; exact (h.al _).al _
  have i2 : Hid (Ints W W.heap.size A2 ys) := by subst hW; exact (h2.al _).al _
  have hBW : Hid (Below w.heap.size w W) := by subst hW; exact bal (bal (b0 w) _) _
  have hc := implIsTree A xs c W (by omega) i1.out
  have hc2 := fun w1 (hb : Below W.heap.size W w1) => implIsTree A2 ys c2 w1 (by omega) (i2.out.be hb)
  have HW := Lib.hid hW
  clear hW h h2
  cases ht : M.isTree xs
  · rw [M.compareTrees_no1 ht]
    rw [ht] at hc
    have HC := Lib.hid hc
    clear hc hc2 ht
    go_enter Try.func43, Try.ntmps43
    go_wp2_with fail
    rw [← HW.out]
    refine HC.out.mono ?_
    rintro e w1 ⟨rfl, hb⟩
    have hB := Lib.hid (btr hBW.out hb)
    clear hb
    go_wp2
    go_ret2
    exact ⟨rfl, hB.out⟩
  · rw [ht] at hc
    have HC := Lib.hid hc
    cases ht2 : M.isTree ys
    · rw [M.compareTrees_no2 ht2]
      rw [ht2] at hc2
      have HC2 := Lib.hid hc2
      clear hc hc2 ht ht2
      go_enter Try.func43, Try.ntmps43
      go_wp2_with fail
      rw [← HW.out]
      refine HC.out.mono ?_
      rintro e w1 ⟨rfl, hb⟩
      have hB := Lib.hid (btr hBW.out hb)
      have d2 := cell_be C2.out hb
      have Hb := Lib.hid hb
      clear hb
      go_wp2_with fail
      refine (HC2.out _ Hb.out).mono ?_
      rintro e w2 ⟨rfl, hb⟩
      have hB2 := Lib.hid (btr hB.out hb)
      clear hb
      go_wp2
      go_ret2
      exact ⟨rfl, hB2.out⟩
    · rw [M.compareTrees_yes ht ht2]
      rw [ht2] at hc2
      have HC2 := Lib.hid hc2
      have hl1 := (M.tree_len ht).2
      have hl2 := (M.tree_len ht2).2
      obtain ⟨r, hr⟩ : ∃ r, Hid (M.cmpT xs ys = r) := ⟨_, rfl⟩
      rw [hr.out]
      clear hc hc2 ht ht2
      by_cases hl : xs.length = ys.length
      · have hr2 : Hid (M.cmpL xs ys = r) := by show _ = _; rw [← hr.out, M.cmpT, if_pos hl]
        have hn : ((xs.length : Int) != (ys.length : Int)) = false := by simp [hl]
        have Hl := Lib.hid hl
        clear hl
        go_enter Try.func43, Try.ntmps43
        go_wp2_with fail
        rw [← HW.out]
        refine HC.out.mono ?_
        rintro e w1 ⟨rfl, hb⟩
        have hB := Lib.hid (btr hBW.out hb)
        have hWb := Lib.hid hb
        have d2 := cell_be C2.out hb
        clear hb
        go_wp2_with fail
        refine (HC2.out _ hWb.out).mono ?_
        rintro e w2 ⟨rfl, hb⟩
        have hB2 := Lib.hid (btr hB.out hb)
        have hWb2 := Lib.hid (btr hWb.out hb)
        clear hb d2
        have d1 := cell_be C1.out hWb2.out
        have d2 := cell_be C2.out hWb2.out
        go_wp2
        go_quiet (fail)
        go_wp2_with fail
        refine (slicesCompare A A2 xs ys c c2 xs.length ys.length _ rfl rfl (by omega) (by rw [Hl.out]; omega) (by rw [Hl.out]; omega) (i1.out.be (below_drewN hWb2.out _)) (i2.out.be (below_drewN hWb2.out _))).mono ?_
        rintro e w' ⟨rfl, rfl⟩
        go_wp2
        go_ret2
        exact ⟨by rw [← hr2.out]; rfl, below_drewN hB2.out _⟩
      · have hr2 : Hid (M.cmpI xs.length ys.length = r) := by show _ = _; rw [← hr.out, M.cmpT, if_neg hl]
        have hn : ((xs.length : Int) != (ys.length : Int)) = true := by simp; omega
        have hci := cmpInt xs.length ys.length
        rw [hr2.out] at hci
        have HCI := Lib.hid hci
        clear hl hci
        go_enter Try.func43, Try.ntmps43
        go_wp2_with fail
        rw [← HW.out]
        refine HC.out.mono ?_
        rintro e w1 ⟨rfl, hb⟩
        have hB := Lib.hid (btr hBW.out hb)
        have hWb := Lib.hid hb
        have d2 := cell_be C2.out hb
        clear hb
        go_wp2_with fail
        refine (HC2.out _ hWb.out).mono ?_
        rintro e w2 ⟨rfl, hb⟩
        have hB2 := Lib.hid (btr hB.out hb)
        have hWb2 := Lib.hid (btr hWb.out hb)
        clear hb d2
        have d1 := cell_be C1.out hWb2.out
        have d2 := cell_be C2.out hWb2.out
        go_wp2
        go_quiet (fail)
        go_wp2_with (go_at_call 71; refine (HCI.out _).mono ?_; rintro e w' ⟨rfl, rfl⟩)
        go_ret2
        exact ⟨rfl, below_drewN hB2.out _⟩

set_option maxHeartbeats 2000000 in
theorem spec_CompareTrees : GivesCmp 42 := by
  intro A A2 xs ys c c2 w hx hy h h2
  obtain ⟨W, hW⟩ : ∃ W, W = (w.alloc (.cells #[.slice A xs.length c] 26)).alloc (.cells #[.slice A2 ys.length c2] 26) := ⟨_, rfl⟩
  have C1 : Hid (W.cell? ⟨w.heap.size, 0, none⟩ = some (.slice A xs.length c)) := by subst hW; exact cell_al (by simp) _
  have C2 : Hid (W.cell? ⟨w.heap.size + 1, 0, none⟩ = some (.slice A2 ys.length c2)) := by subst hW; exact World.cell?_alloc_at _ _ _ _ (by simp)
  have i1 : Hid (Ints W W.heap.size A xs) := by subst hW; exact (h.al _).al _
  have i2 : Hid (Ints W W.heap.size A2 ys) := by subst hW; exact (h2.al _).al _
  have hBW : Hid (Below w.heap.size w W) := by subst hW; exact bal (bal (b0 w) _) _
  have hc := specIs A xs c W (by omega) i1.out
  have hc2 := fun w1 (hb : Below W.heap.size W w1) => specIs A2 ys c2 w1 (by omega) (i2.out.be hb)
  have HW := Lib.hid hW
  clear hW h h2
  cases ht : M.isTree xs
  · rw [M.compareTrees_no1 ht]
    rw [ht] at hc
    have HC := Lib.hid hc
    clear hc hc2 ht
    go_enter Try.func42, Try.ntmps42
    go_wp2_with fail
    rw [← HW.out]
    refine HC.out.mono ?_
    rintro e w1 ⟨rfl, hb⟩
    have hB := Lib.hid (btr hBW.out hb)
    clear hb
    go_wp2
    go_ret2
    exact ⟨rfl, hB.out⟩
  · rw [ht] at hc
    have HC := Lib.hid hc
    cases ht2 : M.isTree ys
    · rw [M.compareTrees_no2 ht2]
      rw [ht2] at hc2
      have HC2 := Lib.hid hc2
      clear hc hc2 ht ht2
      go_enter Try.func42, Try.ntmps42
      go_wp2_with fail
      rw [← HW.out]
      refine HC.out.mono ?_
      rintro e w1 ⟨rfl, hb⟩
      have hB := Lib.hid (btr hBW.out hb)
      have d2 := cell_be C2.out hb
      have Hb := Lib.hid hb
      clear hb
      go_wp2_with fail
      refine (HC2.out _ Hb.out).mono ?_
      rintro e w2 ⟨rfl, hb⟩
      have hB2 := Lib.hid (btr hB.out hb)
      clear hb
      go_wp2
      go_ret2
      exact ⟨rfl, hB2.out⟩
    · rw [M.compareTrees_yes ht ht2]
      rw [ht2] at hc2
      have HC2 := Lib.hid hc2
      have hl1 := (M.tree_len ht).2
      have hl2 := (M.tree_len ht2).2
      obtain ⟨r, hr⟩ : ∃ r, Hid (M.cmpT xs ys = r) := ⟨_, rfl⟩
      have hsw := Lib.hid (M.cmpT_swap xs ys)
      have hrg := Lib.hid (M.cmpT_range xs ys)
      rw [hr.out]
      clear hc hc2 ht ht2
      obtain ⟨b1, hb1⟩ : ∃ b, Hid (decide (M.cmpT xs ys = -1) = b) := ⟨_, rfl⟩
      obtain ⟨b2, hb2⟩ : ∃ b, Hid (decide (M.cmpT ys xs = -1) = b) := ⟨_, rfl⟩
      have L1 := fun w1 (hb : Below W.heap.size W w1) => l01Less A A2 xs ys c c2 w1 (by omega) (i1.out.be hb) (i2.out.be hb) b1 hb1
      have L2 := fun w1 (hb : Below W.heap.size W w1) => l01Less A2 A ys xs c2 c w1 (by omega) (i2.out.be hb) (i1.out.be hb) b2 hb2
      have HL1 := Lib.hid L1
      have HL2 := Lib.hid L2
      clear L1 L2
      have fin : Hid (b1 = true → r = -1) := fun e => by
        have h1 := hb1.out
        rw [e, hr.out] at h1
        simpa using h1
      have fin2 : Hid (b1 = false → b2 = true → r = 1) := fun e1 e2 => by
        have h1 := hb2.out
        rw [hsw.out, hr.out, e2] at h1
        simp at h1
        omega
      have fin3 : Hid (b1 = false → b2 = false → r = 0) := fun e1 e2 => by
        have h1 := hb1.out
        have h2 := hb2.out
        have h3 := hrg.out
        rw [hr.out, e1] at h1
        rw [hsw.out, hr.out, e2] at h2
        rw [hr.out] at h3
        simp at h1 h2
        omega
      go_enter Try.func42, Try.ntmps42
      go_wp2_with fail
      rw [← HW.out]
      refine HC.out.mono ?_
      rintro e w1 ⟨rfl, hb⟩
      have hB := Lib.hid (btr hBW.out hb)
      have hWb := Lib.hid hb
      have d2 := cell_be C2.out hb
      clear hb
      go_wp2_with fail
      refine (HC2.out _ hWb.out).mono ?_
      rintro e w2 ⟨rfl, hb⟩
      have hB2 := Lib.hid (btr hB.out hb)
      have hWb2 := Lib.hid (btr hWb.out hb)
      clear hb d2
      have d1 := cell_be C1.out hWb2.out
      have d2 := cell_be C2.out hWb2.out
      go_wp2_with fail
      refine (HL1.out _ hWb2.out).mono ?_
      rintro e w3 ⟨rfl, hb⟩
      have hB3 := Lib.hid (btr hB2.out hb)
      have hWb3 := Lib.hid (btr hWb2.out hb)
      clear hb d1 d2
      have d1 := cell_be C1.out hWb3.out
      have d2 := cell_be C2.out hWb3.out
      cases b1
      · go_wp2_with fail
        refine (HL2.out _ hWb3.out).mono ?_
        rintro e w4 ⟨rfl, hb⟩
        have hB4 := Lib.hid (btr hB3.out hb)
        clear hb d1 d2
        cases b2
        · have e := fin3.out (by first | rfl | trivial) (by first | rfl | trivial)
          subst e
          go_wp2
          go_ret2
          exact ⟨rfl, hB4.out⟩
        · have e := fin2.out (by first | rfl | trivial) (by first | rfl | trivial)
          subst e
          go_wp2
          go_ret2
          exact ⟨rfl, hB4.out⟩
      · have e := fin.out (by first | rfl | trivial)
        subst e
        go_wp2
        go_ret2
        exact ⟨rfl, hB3.out⟩
end Go.Proofs.Ytemfaginhipihab
