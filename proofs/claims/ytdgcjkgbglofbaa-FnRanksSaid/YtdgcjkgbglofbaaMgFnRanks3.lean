/- CompareTrees, the program's and the model's: the order of two trees, or a code. -/
import Derived.Test.YtdgcjkgbglofbaaMgFnRanks2
import Derived.Laws.BitsLemmas
namespace Go.Proofs.Ytdgcjkgbglofbaa
open Go.RowKit

theorem isNaN64 (x : Int) (w : World) : Calls Try.prog 334 #[.int .i64 x] w fun e w' => e = .returned (.bool false) ∧ w = w' := by
  go_enter Try.func334, Try.ntmps334
  go_wp2
  go_ret
  exact ⟨by simp, rfl⟩
theorem isNaNint (x : Int) (w : World) : Calls Try.prog 280 #[.int .i64 x] w fun e w' => e = .returned (.bool false) ∧ w = w' := by
  go_enter Try.func280, Try.ntmps280
  go_wp2
  go_ret
  exact ⟨by simp, rfl⟩

set_option maxHeartbeats 1000000 in
theorem cmp64 (x y : Int) (w : World) : Calls Try.prog 281 #[.int .i64 x, .int .i64 y] w fun e w' => e = .returned (.int .i64 (M.cmpI x y)) ∧ w = w' := by
  rcases Int.lt_trichotomy x y with h | h | h
  · rw [M.cmpI_lt h]
    go_enter Try.func281, Try.ntmps281
    go_wp2_with (go_at_call 334; refine (isNaN64 _ _).mono ?_; rintro e w' ⟨rfl, rfl⟩)
    go_ret
    exact ⟨rfl, rfl⟩
  · rw [M.cmpI_eq h]
    subst h
    go_enter Try.func281, Try.ntmps281
    go_wp2_with (go_at_call 334; refine (isNaN64 _ _).mono ?_; rintro e w' ⟨rfl, rfl⟩)
    go_ret
    exact ⟨rfl, rfl⟩
  · rw [M.cmpI_gt h]
    go_enter Try.func281, Try.ntmps281
    go_wp2_with (go_at_call 334; refine (isNaN64 _ _).mono ?_; rintro e w' ⟨rfl, rfl⟩)
    go_ret
    exact ⟨rfl, rfl⟩

set_option maxHeartbeats 1000000 in
theorem cmpInt (x y : Int) (w : World) : Calls Try.prog 201 #[.int .i64 x, .int .i64 y] w fun e w' => e = .returned (.int .i64 (M.cmpI x y)) ∧ w = w' := by
  rcases Int.lt_trichotomy x y with h | h | h
  · rw [M.cmpI_lt h]
    go_enter Try.func201, Try.ntmps201
    go_wp2_with (go_at_call 280; refine (isNaNint _ _).mono ?_; rintro e w' ⟨rfl, rfl⟩)
    go_ret
    exact ⟨rfl, rfl⟩
  · rw [M.cmpI_eq h]
    subst h
    go_enter Try.func201, Try.ntmps201
    go_wp2_with (go_at_call 280; refine (isNaNint _ _).mono ?_; rintro e w' ⟨rfl, rfl⟩)
    go_ret
    exact ⟨rfl, rfl⟩
  · rw [M.cmpI_gt h]
    go_enter Try.func201, Try.ntmps201
    go_wp2_with (go_at_call 280; refine (isNaNint _ _).mono ?_; rintro e w' ⟨rfl, rfl⟩)
    go_ret
    exact ⟨rfl, rfl⟩

set_option maxHeartbeats 1000000 in
theorem slicesCompare (A A' : Option Addr) (xs ys : List Int) (c c' n m : Nat) (w : World) (hx : Hid (xs.length = n)) (hy : Hid (ys.length = m)) (hn : n ≤ 1000000) (hnm : n ≤ m) (hmn : m ≤ n)
    (h : Ints w w.heap.size A xs) (h' : Ints w w.heap.size A' ys) :
    Calls Try.prog 202 #[.slice A n c, .slice A' m c'] w fun e w' => e = .returned (.int .i64 (M.cmpL xs ys)) ∧ w = w' := by
  obtain ⟨r, hr⟩ : ∃ r, Hid (M.cmpL xs ys = r) := ⟨_, rfl⟩
  rw [hr.out]
  go_enter Try.func202, Try.ntmps202
  go_wp2
  go_loop [5, 6, 7, 8, 11] (fun _ _ _ _ i => ∃ k : Nat, k ≤ n ∧ i = .int .i64 k ∧ Hid (M.cmpL (xs.drop k) (ys.drop k) = r)) (fun _ _ _ _ i => n - (intOf i).toNat)
  case atStart => exact ⟨0, Nat.zero_le _, rfl, hr⟩
  case round =>
    obtain ⟨k, hk, rfl, hg⟩ := hrel
    by_cases hlt : k < n
    · obtain ⟨b, off, x, rfl, hbB, g, hX⟩ := h.at_ (k := k) (by rw [hx.out]; exact hlt)
      obtain ⟨b', off', y, rfl, hbB', g', hY⟩ := h'.at_ (k := k) (by rw [hy.out]; omega)
      clear h h'
      rcases Int.lt_trichotomy x y with hc | hc | hc
      · have hs : Hid (r = -1) := hg.out.symm.trans (M.cmpL_lt hX.out hY.out hc)
        have hci := M.cmpI_lt hc
        have C := cmp64 x y w
        rw [hci] at C
        have HC := Lib.hid C
        clear hci C hc
        go_wp2_with (go_at_call 281; refine HC.out.mono ?_; rintro e w' ⟨rfl, rfl⟩)
        go_ret
        exact ⟨by rw [hs.out]; rfl, rfl⟩
      · have hs : Hid (M.cmpL (xs.drop (k + 1)) (ys.drop (k + 1)) = r) := (M.cmpL_eq hX.out hY.out hc).symm.trans hg.out
        subst hc
        have C := cmp64 x x w
        rw [M.cmpI_eq rfl] at C
        have HC := Lib.hid C
        clear C
        go_wp2_with (go_at_call 281; refine HC.out.mono ?_; rintro e w' ⟨rfl, rfl⟩)
        go_round
        case rel => exact ⟨k + 1, by omega, by go_num, hs⟩
        case measure => simp [intOf]; omega
      · have hs : Hid (r = 1) := hg.out.symm.trans (M.cmpL_gt hX.out hY.out hc)
        have hci := M.cmpI_gt hc
        have C := cmp64 x y w
        rw [hci] at C
        have HC := Lib.hid C
        clear hci C hc
        go_wp2_with (go_at_call 281; refine HC.out.mono ?_; rintro e w' ⟨rfl, rfl⟩)
        go_ret
        exact ⟨by rw [hs.out]; rfl, rfl⟩
    · obtain rfl : k = n := by omega
      have hs : Hid (r = 0) := by
        have := hg.out
        rw [← hx.out, M.cmpL_end] at this
        exact this.symm
      clear hg
      go_wp2
      go_ret
      exact ⟨by rw [hs.out]; rfl, rfl⟩

set_option maxHeartbeats 2000000 in
theorem l01Less (A A' : Option Addr) (xs ys : List Int) (c c' : Nat) (w : World) (hyl : ys.length ≤ 1000000) (h : Ints w w.heap.size A xs) (h' : Ints w w.heap.size A' ys) (b : Bool) (hb : Hid (decide (M.cmpT xs ys = -1) = b)) :
    Calls Try.prog 208 #[.agg #[.slice A xs.length c], .agg #[.slice A' ys.length c']] w fun e w' => e = .returned (.bool b) ∧ Below w.heap.size w w' := by
  have hB0 := Lib.hid (bal (bal (b0 w) (.cells #[.slice A xs.length c] 26)) (.cells #[.slice A' ys.length c'] 26))
  by_cases hl : xs.length = ys.length
  · have hb' : Hid (decide (M.cmpL xs ys = -1) = b) := by show _ = _; rw [← hb.out, M.cmpT, if_pos hl]
    have hn : ((xs.length : Int) != (ys.length : Int)) = false := by simp [hl]
    have hl1 : xs.length ≤ ys.length := by omega
    clear hb hl
    obtain ⟨W, hW⟩ : ∃ W, W = (w.alloc (.cells #[.slice A xs.length c] 26)).alloc (.cells #[.slice A' ys.length c'] 26) := ⟨_, rfl⟩
    have c1 : W.cell? ⟨w.heap.size, 0, none⟩ = some (.slice A xs.length c) := by subst hW; exact cell_al (by simp) _
    have c2 : W.cell? ⟨w.heap.size + 1, 0, none⟩ = some (.slice A' ys.length c') := by subst hW; exact World.cell?_alloc_at _ _ _ _ (by simp)
    have C1 := Lib.hid c1
    have C2 := Lib.hid c2
    have i1 : Hid (Ints W W.heap.size A xs) := by subst hW; exact (h.al _).al _
    have i2 : Hid (Ints W W.heap.size A' ys) := by subst hW; exact (h'.al _).al _
    have hBW : Hid (Below w.heap.size w W) := by subst hW; exact hB0
    have HW := Lib.hid hW
    clear hW hB0 h h' c1 c2
    go_enter Try.func208, Try.ntmps208
    go_wp2_with fail
    rw [← HW.out]
    go_loopw [5] (fun i wr => ∃ k : Nat, k ≤ xs.length ∧ i = .int .i64 k ∧ Hid (M.cmpL (xs.drop k) (ys.drop k) = M.cmpL xs ys) ∧ Hid (Below W.heap.size W wr)) (fun i _ => xs.length - (intOf i).toNat)
    case atStart => exact ⟨0, Nat.zero_le _, rfl, rfl, b0 W⟩
    case round =>
      obtain ⟨k, hk, rfl, hg, hbr⟩ := hrel
      have d1 := cell_be C1.out hbr.out
      have d2 := cell_be C2.out hbr.out
      by_cases hlt : k < xs.length
      · obtain ⟨b1, off, x, rfl, hbB, g, hX⟩ := (i1.out.be hbr.out).at_ hlt
        obtain ⟨b', off', y, rfl, hbB', g', hY⟩ := (i2.out.be hbr.out).at_ (k := k) (by omega)
        rcases Int.lt_trichotomy x y with hc | hc | hc
        · have hs : Hid (b = true) := by show _ = _; rw [← hb'.out, ← hg.out, M.cmpL_lt hX.out hY.out hc]; rfl
          have hq : (x != y) = true := by simp; omega
          go_wp2
          go_quiet (fail)
          go_wp2
          go_quiet (fail)
          go_wp2
          go_ret
          exact ⟨by rw [hs.out]; rfl, btr hBW.out (below_drewN (below_drewN hbr.out _) _)⟩
        · have hs : Hid (M.cmpL (xs.drop (k + 1)) (ys.drop (k + 1)) = M.cmpL xs ys) := (M.cmpL_eq hX.out hY.out hc).symm.trans hg.out
          subst hc
          go_wp2
          go_quiet (fail)
          go_wp2
          go_roundw
          case rel => exact ⟨k + 1, by omega, by go_num, hs, below_drewN hbr.out _⟩
          case measure => simp [intOf]; omega
        · have hs : Hid (b = false) := by show _ = _; rw [← hb'.out, ← hg.out, M.cmpL_gt hX.out hY.out hc]; rfl
          have hq : (x != y) = true := by simp; omega
          have hq2 : decide (x < y) = false := decide_eq_false (by omega)
          go_wp2
          go_quiet (fail)
          go_wp2
          go_quiet (fail)
          go_wp2
          go_ret
          exact ⟨by rw [hs.out]; rfl, btr hBW.out (below_drewN (below_drewN hbr.out _) _)⟩
      · obtain rfl : k = xs.length := by omega
        have hs : Hid (b = false) := by show _ = _; rw [← hb'.out, ← hg.out, M.cmpL_end]; rfl
        go_wp2
        go_ret
        exact ⟨by rw [hs.out]; rfl, btr hBW.out hbr.out⟩
  · have hb' : Hid (decide (xs.length < ys.length) = b) := by
      show _ = _
      rw [← hb.out, M.cmpT, if_neg hl]
      rcases Int.lt_trichotomy (xs.length : Int) ys.length with h1 | h1 | h1
      · rw [M.cmpI_lt h1]; simp; omega
      · omega
      · rw [M.cmpI_gt h1]; simp; omega
    have hn : ((xs.length : Int) != (ys.length : Int)) = true := by simp; omega
    clear hb hl
    go_enter Try.func208, Try.ntmps208
    go_wp2
    go_ret
    exact ⟨by rw [← hb'.out]; rfl, hB0.out⟩

/-- what a function of two trees that hands back a number and a code must do -/
def GivesCmp (f : Nat) : Prop :=
  ∀ (A A2 : Option Addr) (xs ys : List Int) (c c2 : Nat) (w : World), xs.length ≤ 1048576 → ys.length ≤ 1048576 → Ints w w.heap.size A xs → Ints w w.heap.size A2 ys →
    Calls Try.prog f #[.agg #[.slice A xs.length c], .agg #[.slice A2 ys.length c2]] w fun e w' => e = .returned (.tuple #[.int .i64 (M.compareTrees xs ys).1, .int .i64 (M.compareTrees xs ys).2]) ∧ Below w.heap.size w w'

set_option maxHeartbeats 2000000 in
theorem impl_CompareTrees : GivesCmp 56 := by
  intro A A2 xs ys c c2 w hx hy h h2
  obtain ⟨W, hW⟩ : ∃ W, W = (w.alloc (.cells #[.slice A xs.length c] 26)).alloc (.cells #[.slice A2 ys.length c2] 26) := ⟨_, rfl⟩
  have C1 : Hid (W.cell? ⟨w.heap.size, 0, none⟩ = some (.slice A xs.length c)) := by subst hW; exact cell_al (by simp) _
  have C2 : Hid (W.cell? ⟨w.heap.size + 1, 0, none⟩ = some (.slice A2 ys.length c2)) := by subst hW; exact World.cell?_alloc_at _ _ _ _ (by simp)
  have i1 : Hid (Ints W W.heap.size A xs) := by subst hW; exact (h.al _).al _
  have i2 : Hid (Ints W W.heap.size A2 ys) := by subst hW; exact (h2.al _).al _
  have hBW : Hid (Below w.heap.size w W) := by subst hW; exact bal (bal (b0 w) _) _
  have hc := implIsTree A xs c W (by omega) i1.out
  have hc2 := fun w1 (hb : Below W.heap.size W w1) => implIsTree A2 ys c2 w1 (by omega) (i2.out.be hb)
  have HW := Lib.hid hW
  clear hW h h2
  cases ht : M.isTree xs
  · rw [M.compareTrees_no1 ht]
    rw [ht] at hc
    have HC := Lib.hid hc
    clear hc hc2 ht
    go_enter Try.func56, Try.ntmps56
    go_wp2_with fail
    rw [← HW.out]
    refine HC.out.mono ?_
    rintro e w1 ⟨rfl, hb⟩
    have hB := Lib.hid (btr hBW.out hb)
    clear hb
    go_wp2
    go_ret2
    exact ⟨rfl, hB.out⟩
  · rw [ht] at hc
    have HC := Lib.hid hc
    cases ht2 : M.isTree ys
    · rw [M.compareTrees_no2 ht2]
      rw [ht2] at hc2
      have HC2 := Lib.hid hc2
      clear hc hc2 ht ht2
      go_enter Try.func56, Try.ntmps56
      go_wp2_with fail
      rw [← HW.out]
      refine HC.out.mono ?_
      rintro e w1 ⟨rfl, hb⟩
      have hB := Lib.hid (btr hBW.out hb)
      have d2 := cell_be C2.out hb
      have Hb := Lib.hid hb
      clear hb
      go_wp2_with fail
      refine (HC2.out _ Hb.out).mono ?_
      rintro e w2 ⟨rfl, hb⟩
      have hB2 := Lib.hid (btr hB.out hb)
      clear hb
      go_wp2
      go_ret2
      exact ⟨rfl, hB2.out⟩
    · rw [M.compareTrees_yes ht ht2]
      rw [ht2] at hc2
      have HC2 := Lib.hid hc2
      have hl1 := (M.tree_len ht).2
      have hl2 := (M.tree_len ht2).2
      obtain ⟨r, hr⟩ : ∃ r, Hid (M.cmpT xs ys = r) := ⟨_, rfl⟩
      rw [hr.out]
      clear hc hc2 ht ht2
      by_cases hl : xs.length = ys.length
      · have hr2 : Hid (M.cmpL xs ys = r) := by show _ = _; rw [← hr.out, M.cmpT, if_pos hl]
        have hn : ((xs.length : Int) != (ys.length : Int)) = false := by simp [hl]
        have Hl := Lib.hid hl
        clear hl
        go_enter Try.func56, Try.ntmps56
        go_wp2_with fail
        rw [← HW.out]
        refine HC.out.mono ?_
        rintro e w1 ⟨rfl, hb⟩
        have hB := Lib.hid (btr hBW.out hb)
        have hWb := Lib.hid hb
        have d2 := cell_be C2.out hb
        clear hb
        go_wp2_with fail
        refine (HC2.out _ hWb.out).mono ?_
        rintro e w2 ⟨rfl, hb⟩
        have hB2 := Lib.hid (btr hB.out hb)
        have hWb2 := Lib.hid (btr hWb.out hb)
        clear hb d2
        have d1 := cell_be C1.out hWb2.out
        have d2 := cell_be C2.out hWb2.out
        go_wp2
        go_quiet (fail)
        go_wp2_with fail
        refine (slicesCompare A A2 xs ys c c2 xs.length ys.length _ rfl rfl (by omega) (by rw [Hl.out]; omega) (by rw [Hl.out]; omega) (i1.out.be (below_drewN hWb2.out _)) (i2.out.be (below_drewN hWb2.out _))).mono ?_
        rintro e w' ⟨rfl, rfl⟩
        go_wp2
        go_ret2
        exact ⟨by rw [← hr2.out]; rfl, below_drewN hB2.out _⟩
      · have hr2 : Hid (M.cmpI xs.length ys.length = r) := by show _ = _; rw [← hr.out, M.cmpT, if_neg hl]
        have hn : ((xs.length : Int) != (ys.length : Int)) = true := by simp; omega
        have hci := cmpInt xs.length ys.length
        rw [hr2.out] at hci
        have HCI := Lib.hid hci
        clear hl hci
        go_enter Try.func56, Try.ntmps56
        go_wp2_with fail
        rw [← HW.out]
        refine HC.out.mono ?_
        rintro e w1 ⟨rfl, hb⟩
        have hB := Lib.hid (btr hBW.out hb)
        have hWb := Lib.hid hb
        have d2 := cell_be C2.out hb
        clear hb
        go_wp2_with fail
        refine (HC2.out _ hWb.out).mono ?_
        rintro e w2 ⟨rfl, hb⟩
        have hB2 := Lib.hid (btr hB.out hb)
        have hWb2 := Lib.hid (btr hWb.out hb)
        clear hb d2
        have d1 := cell_be C1.out hWb2.out
        have d2 := cell_be C2.out hWb2.out
        go_wp2
        go_quiet (fail)
        go_wp2_with (go_at_call 201; refine (HCI.out _).mono ?_; rintro e w' ⟨rfl, rfl⟩)
        go_ret2
        exact ⟨rfl, below_drewN hB2.out _⟩

set_option maxHeartbeats 2000000 in
theorem spec_CompareTrees : GivesCmp 68 := by
  intro A A2 xs ys c c2 w hx hy h h2
  obtain ⟨W, hW⟩ : ∃ W, W = (w.alloc (.cells #[.slice A xs.length c] 26)).alloc (.cells #[.slice A2 ys.length c2] 26) := ⟨_, rfl⟩
  have C1 : Hid (W.cell? ⟨w.heap.size, 0, none⟩ = some (.slice A xs.length c)) := by subst hW; exact cell_al (by simp) _
  have C2 : Hid (W.cell? ⟨w.heap.size + 1, 0, none⟩ = some (.slice A2 ys.length c2)) := by subst hW; exact World.cell?_alloc_at _ _ _ _ (by simp)
  have i1 : Hid (Ints W W.heap.size A xs) := by subst hW; exact (h.al _).al _
  have i2 : Hid (Ints W W.heap.size A2 ys) := by subst hW; exact (h2.al _).al _
  have hBW : Hid (Below w.heap.size w W) := by subst hW; exact bal (bal (b0 w) _) _
  have hc := specIs A xs c W (by omega) i1.out
  have hc2 := fun w1 (hb : Below W.heap.size W w1) => specIs A2 ys c2 w1 (by omega) (i2.out.be hb)
  have HW := Lib.hid hW
  clear hW h h2
  cases ht : M.isTree xs
  · rw [M.compareTrees_no1 ht]
    rw [ht] at hc
    have HC := Lib.hid hc
    clear hc hc2 ht
    go_enter Try.func68, Try.ntmps68
    go_wp2_with fail
    rw [← HW.out]
    refine HC.out.mono ?_
    rintro e w1 ⟨rfl, hb⟩
    have hB := Lib.hid (btr hBW.out hb)
    clear hb
    go_wp2
    go_ret2
    exact ⟨rfl, hB.out⟩
  · rw [ht] at hc
    have HC := Lib.hid hc
    cases ht2 : M.isTree ys
    · rw [M.compareTrees_no2 ht2]
      rw [ht2] at hc2
      have HC2 := Lib.hid hc2
      clear hc hc2 ht ht2
      go_enter Try.func68, Try.ntmps68
      go_wp2_with fail
      rw [← HW.out]
      refine HC.out.mono ?_
      rintro e w1 ⟨rfl, hb⟩
      have hB := Lib.hid (btr hBW.out hb)
      have d2 := cell_be C2.out hb
      have Hb := Lib.hid hb
      clear hb
      go_wp2_with fail
      refine (HC2.out _ Hb.out).mono ?_
      rintro e w2 ⟨rfl, hb⟩
      have hB2 := Lib.hid (btr hB.out hb)
      clear hb
      go_wp2
      go_ret2
      exact ⟨rfl, hB2.out⟩
    · rw [M.compareTrees_yes ht ht2]
      rw [ht2] at hc2
      have HC2 := Lib.hid hc2
      have hl1 := (M.tree_len ht).2
      have hl2 := (M.tree_len ht2).2
      obtain ⟨r, hr⟩ : ∃ r, Hid (M.cmpT xs ys = r) := ⟨_, rfl⟩
      have hsw := Lib.hid (M.cmpT_swap xs ys)
      have hrg := Lib.hid (M.cmpT_range xs ys)
      rw [hr.out]
      clear hc hc2 ht ht2
      obtain ⟨b1, hb1⟩ : ∃ b, Hid (decide (M.cmpT xs ys = -1) = b) := ⟨_, rfl⟩
      obtain ⟨b2, hb2⟩ : ∃ b, Hid (decide (M.cmpT ys xs = -1) = b) := ⟨_, rfl⟩
      have L1 := fun w1 (hb : Below W.heap.size W w1) => l01Less A A2 xs ys c c2 w1 (by omega) (i1.out.be hb) (i2.out.be hb) b1 hb1
      have L2 := fun w1 (hb : Below W.heap.size W w1) => l01Less A2 A ys xs c2 c w1 (by omega) (i2.out.be hb) (i1.out.be hb) b2 hb2
      have HL1 := Lib.hid L1
      have HL2 := Lib.hid L2
      clear L1 L2
      have fin : Hid (b1 = true → r = -1) := fun e => by
        have h1 := hb1.out
        rw [e, hr.out] at h1
        simpa using h1
      have fin2 : Hid (b1 = false → b2 = true → r = 1) := fun e1 e2 => by
        have h1 := hb2.out
        rw [hsw.out, hr.out, e2] at h1
        simp at h1
        omega
      have fin3 : Hid (b1 = false → b2 = false → r = 0) := fun e1 e2 => by
        have h1 := hb1.out
        have h2 := hb2.out
        have h3 := hrg.out
        rw [hr.out, e1] at h1
        rw [hsw.out, hr.out, e2] at h2
        rw [hr.out] at h3
        simp at h1 h2
        omega
      go_enter Try.func68, Try.ntmps68
      go_wp2_with fail
      rw [← HW.out]
      refine HC.out.mono ?_
      rintro e w1 ⟨rfl, hb⟩
      have hB := Lib.hid (btr hBW.out hb)
      have hWb := Lib.hid hb
      have d2 := cell_be C2.out hb
      clear hb
      go_wp2_with fail
      refine (HC2.out _ hWb.out).mono ?_
      rintro e w2 ⟨rfl, hb⟩
      have hB2 := Lib.hid (btr hB.out hb)
      have hWb2 := Lib.hid (btr hWb.out hb)
      clear hb d2
      have d1 := cell_be C1.out hWb2.out
      have d2 := cell_be C2.out hWb2.out
      go_wp2_with fail
      refine (HL1.out _ hWb2.out).mono ?_
      rintro e w3 ⟨rfl, hb⟩
      have hB3 := Lib.hid (btr hB2.out hb)
      have hWb3 := Lib.hid (btr hWb2.out hb)
      clear hb d1 d2
      have d1 := cell_be C1.out hWb3.out
      have d2 := cell_be C2.out hWb3.out
      cases b1
      · go_wp2_with fail
        refine (HL2.out _ hWb3.out).mono ?_
        rintro e w4 ⟨rfl, hb⟩
        have hB4 := Lib.hid (btr hB3.out hb)
        clear hb d1 d2
        cases b2
        · have e := fin3.out (by first | rfl | trivial) (by first | rfl | trivial)
          subst e
          go_wp2
          go_ret2
          exact ⟨rfl, hB4.out⟩
        · have e := fin2.out (by first | rfl | trivial) (by first | rfl | trivial)
          subst e
          go_wp2
          go_ret2
          exact ⟨rfl, hB4.out⟩
      · have e := fin.out (by first | rfl | trivial)
        subst e
        go_wp2
        go_ret2
        exact ⟨rfl, hB3.out⟩
end Go.Proofs.Ytdgcjkgbglofbaa

/- The source of the model's draws in memory: a box with the code's bytes, a place and a hash; the next number that it hands out. -/
namespace Go.Proofs.Ytdgcjkgbglofbaa
open Go.RowKit

/-- The slice value '.slice A zs.length c' reads as the bytes zs, below block B. -/
def Byts (w : World) (B : Nat) (A : Option Addr) (zs : List Int) : Prop :=
  0 < zs.length → ∃ b off, A = some ⟨b, off, none⟩ ∧ b < B ∧ ∀ j x, zs[j]? = some x → w.cell? ⟨b, off + j, none⟩ = some (.int .u8 x)
theorem Byts.keep {w w' : World} {B : Nat} {A : Option Addr} {zs : List Int} (h : Byts w B A zs) (hk : ∀ p : Addr, p.block < B → w'.cell? p = w.cell? p) : Byts w' B A zs := fun hn => by
  obtain ⟨b, off, e, hb, hc⟩ := h hn
  exact ⟨b, off, e, hb, fun j x hx => (hk ⟨b, off + j, none⟩ hb).trans (hc j x hx)⟩
theorem Byts.more {w : World} {B B' : Nat} {A : Option Addr} {zs : List Int} (h : Byts w B A zs) (hB : B ≤ B') : Byts w B' A zs := fun hn => by
  obtain ⟨b, off, e, hb, hc⟩ := h hn
  exact ⟨b, off, e, by omega, hc⟩
theorem Byts.below {w w' : World} {B B' : Nat} {A : Option Addr} {zs : List Int} (h : Byts w B A zs) (hb : Below B' w w') (hB : B ≤ B') : Byts w' B A zs :=
  h.keep fun p hp => hb.cell (p := p) (by omega)
theorem Byts.be {w w' : World} {A : Option Addr} {zs : List Int} (h : Byts w w.heap.size A zs) (hb : Below w.heap.size w w') : Byts w' w'.heap.size A zs :=
  (h.below hb (Nat.le_refl _)).more hb.size
/-- a box with the bytes zs, the place k and the hash h -/
def SrcBox (w : World) (g : Nat) (A : Option Addr) (zs : List Int) (c k : Nat) (h : Int) : Prop :=
  w.heap[g]? = some (.cells #[.slice A zs.length c, .int .i64 (k : Int), .int .u64 h] 221 (0, 0))
/-- a source of draws in block g, over bytes below block B -/
def Src (w : World) (B g : Nat) : Prop :=
  B ≤ g ∧ ∃ (A : Option Addr) (zs : List Int) (c k : Nat) (h : Int), SrcBox w g A zs c k h ∧ k ≤ zs.length ∧ zs.length ≤ c ∧ c ≤ 9223372036854775807 ∧ (∀ x ∈ zs, 0 ≤ x ∧ x ≤ 255) ∧ Byts w B A zs ∧ (0 ≤ h ∧ h ≤ 18446744073709551615)
theorem SrcBox.cells {w : World} {g : Nat} {A : Option Addr} {zs : List Int} {c k : Nat} {h : Int} (hb : SrcBox w g A zs c k h) :
    (w.cell? ⟨g, 0, none⟩ = some (.slice A zs.length c) ∧ w.cell? ⟨g, 1, none⟩ = some (.int .i64 (k : Int)) ∧ w.cell? ⟨g, 2, none⟩ = some (.int .u64 h)) ∧ w.frozen? ⟨g, 1, none⟩ = false ∧ w.frozen? ⟨g, 2, none⟩ = false ∧ g < w.heap.size := by
  have hb' : w.heap[g]? = _ := hb
  refine ⟨⟨?_, ?_, ?_⟩, ?_, ?_, (Array.getElem?_eq_some_iff.1 hb').1⟩ <;> simp [World.cell?, World.frozen?, hb']
theorem src_set {w : World} {X i T : Nat} {cs : Array Value} {p : Nat × Nat} (h : w.heap[X]? = some (.cells cs T p)) (u : Value) : (w.setCell ⟨X, i, none⟩ u).heap[X]? = some (.cells (cs.setIfInBounds i u) T p) := by
  simp [World.setCell, Array.getElem?_modify, h]
theorem src_grown (w : World) (X i : Nat) (u : Value) : w.grownBy (w.setCell ⟨X, i, none⟩ u) (some X) :=
  ⟨rfl, rfl, rfl, by simp, fun k _ hne => heap_setCell_other _ _ _ _ (fun e => hne (by rw [e]))⟩
theorem src_tr {a b c : World} {r : Option Nat} (h : a.grownBy b r) (k : b.grownBy c r) : a.grownBy c r :=
  ⟨k.os.trans h.os, k.tape.trans h.tape, k.output.trans h.output, Nat.le_trans h.size k.size, fun j hj hne => (k.block j (Nat.lt_of_lt_of_le hj h.size) hne).trans (h.block j hj hne)⟩
theorem src_drewN {a b : World} {r : Option Nat} (h : a.grownBy b r) (n : Nat) : a.grownBy (b.drewN n) r := ⟨h.os, h.tape, h.output, h.size, h.block⟩
theorem SrcBox.hash {w : World} {g : Nat} {A : Option Addr} {zs : List Int} {c k : Nat} {h : Int} (hb : SrcBox w g A zs c k h) (h' : Int) : SrcBox (w.setCell ⟨g, 2, none⟩ (.int .u64 h')) g A zs c k h' := src_set hb _
theorem SrcBox.step {w : World} {g : Nat} {A : Option Addr} {zs : List Int} {c k : Nat} {h : Int} (hb : SrcBox w g A zs c k h) (k' : Nat) : SrcBox (w.setCell ⟨g, 1, none⟩ (.int .i64 (k' : Int))) g A zs c k' h := src_set hb _
theorem grown_far {w w' : World} {g B : Nat} {A : Option Addr} {zs : List Int} (h : Byts w B A zs) (hg : w.grownBy w' (some g)) (hB : B ≤ g) : Byts w' B A zs := fun hn => by
  obtain ⟨b, off, e, hb, hc⟩ := h hn
  exact ⟨b, off, e, hb, fun j x hx => hg.cell (hc j x hx) (by show some b ≠ some g; intro e; injection e; omega)⟩
theorem Src.lt {w : World} {B g : Nat} (h : Src w B g) : g < w.heap.size := by
  obtain ⟨_, _, _, _, _, _, h, _⟩ := h
  exact h.cells.2.2.2
theorem Src.be {w w' : World} {B g : Nat} (h : Src w B g) (hb : Below w.heap.size w w') : Src w' B g := by
  have hl := h.lt
  obtain ⟨h0, A, zs, c, k, h1, h2, h3, h4, h5, h6, h7, h8⟩ := h
  exact ⟨h0, A, zs, c, k, h1, (hb.block g hl).trans h2, h3, h4, h5, h6, h7.below hb (by omega), h8⟩
/-- what else is made does not matter -/
theorem Src.kept {w w' : World} {B g : Nat} {row : Option Nat} (h : Src w B g) (hg : w.grownBy w' row) (hr : ∀ k, row = some k → B ≤ k ∧ k ≠ g) : Src w' B g := by
  have hl := h.lt
  obtain ⟨h0, A, zs, c, k, h1, h2, h3, h4, h5, h6, h7, h8⟩ := h
  refine ⟨h0, A, zs, c, k, h1, (hg.block g hl (fun e => (hr g e.symm).2 rfl)).trans h2, h3, h4, h5, h6, fun hn => ?_, h8⟩
  obtain ⟨b, off, e, hb, hc⟩ := h7 hn
  exact ⟨b, off, e, hb, fun j x hx => hg.cell (hc j x hx) (fun e => by have := (hr b e.symm).1; omega)⟩
end Go.Proofs.Ytdgcjkgbglofbaa

/- The next number that the model's source of draws hands out: from 0 to n - 1. -/
namespace Go.Proofs.Ytdgcjkgbglofbaa
open Go.RowKit

theorem wraps_u63 (n : Int) (h₀ : 0 ≤ n) (h₁ : n < 2 ^ 63) : IntKind.u64.wrap n = n := by rw [IntKind.wrap_u64]; omega
theorem draw_bits (H : Int) (h0 : 0 ≤ H) (h1 : H ≤ 18446744073709551615) : ∃ x : Int, wrap64 (bits BinOp.and IntKind.u64 (H / 8589934592) 16777215) = x ∧ 0 ≤ x ∧ x ≤ 16777215 := by
  have h := bits_mask .u64 63 (by decide) wraps_u63 24 (by decide) (H / 8589934592) (by omega) (by omega)
  have e : ((2 : Int) ^ 24 - 1) = 16777215 := by decide
  have e2 : ((2 : Int) ^ 24) = 16777216 := by decide
  rw [e, e2] at h
  rw [h, IntWalk.wrap64_in _ (by omega)]
  exact ⟨_, rfl, by omega, by omega⟩
theorem u64_range (n : Int) : 0 ≤ IntKind.u64.wrap n ∧ IntKind.u64.wrap n ≤ 18446744073709551615 := by rw [IntKind.wrap_u64]; omega

set_option maxRecDepth 100000 in
set_option maxHeartbeats 4000000 in
theorem l01Next (n : Int) (w : World) (B g : Nat) (hn : n ≤ 9223372036854775807) (hS : Hid (Src w B g)) :
    Calls Try.prog 186 #[.pointer (some ⟨g, 0, none⟩), .int .i64 n] w fun e w' => ∃ r : Int, e = .returned (.int .i64 r) ∧ (0 ≤ r ∧ (r < n ∨ r = 0)) ∧ Hid (Src w' B g) ∧ Hid (w.grownBy w' (some g)) := by
  obtain ⟨h0, A, zs, c, k, h, hbx, hk, hzc, hc, hz, hby, hh⟩ := hS.out
  obtain ⟨⟨c0, c1, c2⟩, f1, f2, hl⟩ := hbx.cells
  by_cases hn1 : n < 1
  · go_enter Try.func186, Try.ntmps186
    go_wp2
    go_ret
    exact ⟨0, rfl, ⟨by omega, .inr rfl⟩, hS, Lib.hid (World.grownBy.refl w _)⟩
  · have Hbx := Lib.hid hbx
    have Hby := Lib.hid hby
    have Hz := Lib.hid hz
    clear hbx hby hz
    go_enter Try.func186, Try.ntmps186
    go_wp2
    obtain ⟨H, hH⟩ : ∃ H, IntKind.u64.wrap (IntKind.u64.wrap (h * 6364136223846793005) + 1442695040888963407) = H := ⟨_, rfl⟩
    have hHr := u64_range (IntKind.u64.wrap (h * 6364136223846793005) + 1442695040888963407)
    rw [hH] at hHr ⊢
    obtain ⟨x, hx, hx0, hx1⟩ := draw_bits H hHr.1 hHr.2
    rw [hx]
    have Hb1 := Lib.hid (Hbx.out.hash H)
    have hg1 : Hid (w.grownBy (w.setCell ⟨g, 2, none⟩ (.int .u64 H)) (some g)) := src_grown w g 2 _
    have Hy1 : Hid (Byts (w.setCell ⟨g, 2, none⟩ (.int .u64 H)) B A zs) := grown_far Hby.out hg1.out h0
    clear hH hx c0 c1 c2 f1 f2 Hbx Hby
    generalize w.setCell ⟨g, 2, none⟩ (.int .u64 H) = W at Hb1 hg1 Hy1 ⊢
    obtain ⟨⟨c0, c1, c2⟩, f1, f2, hl1⟩ := Hb1.out.cells
    have hk0 : (0 : Int) ≤ (k : Int) := by omega
    by_cases hkz : k < zs.length
    · have hkz' : (k : Int) < (zs.length : Int) := by omega
      obtain ⟨b, off, rfl, hbB, hcell⟩ := Hy1.out (by omega)
      have hy := List.getElem?_eq_getElem hkz
      have hyr := Hz.out _ (List.mem_of_getElem? hy)
      generalize zs[k] = y at hy hyr
      have hcy := hcell k y hy
      have hw1 : IntKind.i64.wrap (x + y) = x + y := IntWalk.i64_in _ (by omega)
      have hw2 : IntKind.i64.wrap ((k : Int) + 1) = ((k + 1 : Nat) : Int) := by rw [IntWalk.i64_in _ (by omega)]; omega
      clear hcell hy
      go_quiet (fail)
      go_wp2
      go_quiet (fail)
      go_wp2
      go_ret
      refine ⟨_, rfl, ⟨Int.emod_nonneg _ (by omega), .inl (Int.emod_lt_of_pos _ (by omega))⟩, Lib.hid ⟨h0, _, zs, c, k + 1, H, SrcBox.step (show SrcBox _ g _ zs c k H from Hb1.out) (k + 1), by omega, hzc, hc, Hz.out, ?_, hHr⟩, ?_⟩
      · exact grown_far Hy1.out (src_tr (src_drewN (World.grownBy.refl W (some g)) _) (src_grown _ g 1 _)) h0
      · exact src_tr (src_drewN hg1.out _) (src_grown _ g 1 _)
    · have hkz' : ¬ (k : Int) < (zs.length : Int) := by omega
      go_quiet (fail)
      go_wp2
      go_ret
      exact ⟨_, rfl, ⟨Int.emod_nonneg _ (by omega), .inl (Int.emod_lt_of_pos _ (by omega))⟩, Lib.hid ⟨h0, A, zs, c, k, H, Hb1.out, hk, hzc, hc, Hz.out, Hy1.out, hHr⟩, Lib.hid (src_drewN hg1.out _)⟩
end Go.Proofs.Ytdgcjkgbglofbaa

/- One of some numbers that are told; a number near a range: the model's draws. -/
namespace Go.Proofs.Ytdgcjkgbglofbaa
open Go.RowKit

/-- a list whose cells do not lie in block g -/
def Off (w : World) (g : Nat) (A : Option Addr) (xs : List Int) : Prop :=
  ∃ b off, A = some ⟨b, off, none⟩ ∧ b ≠ g ∧ ∀ j x, xs[j]? = some x → w.cell? ⟨b, off + j, none⟩ = some (.int .i64 x)

set_option maxRecDepth 100000 in
set_option maxHeartbeats 4000000 in
theorem l01Pick (A : Option Addr) (xs : List Int) (n c : Nat) (w : World) (B g : Nat) (hn : Hid (xs.length = n)) (h1 : 1 ≤ n) (h2 : n ≤ 1000) (hI : Hid (Off w g A xs)) (hS : Hid (Src w B g)) :
    Calls Try.prog 209 #[.pointer (some ⟨g, 0, none⟩), .slice A n c] w fun e w' => ∃ r : Int, e = .returned (.int .i64 r) ∧ Hid (r ∈ xs) ∧ Hid (Src w' B g) ∧ Hid (w.grownBy w' (some g)) := by
  go_enter Try.func209, Try.ntmps209
  go_wp2_with fail
  refine (l01Next (n : Int) w B g (by omega) hS).mono ?_
  rintro e w1 ⟨r, rfl, ⟨hr0, hr1⟩, hS1, hg1⟩
  obtain ⟨k, rfl⟩ := Int.eq_ofNat_of_zero_le hr0
  have hk : k < n := by omega
  obtain ⟨b, off, rfl, hb, hcell⟩ := hI.out
  have hx := List.getElem?_eq_getElem (l := xs) (show k < xs.length by rw [hn.out]; exact hk)
  have hm := Lib.hid (List.mem_of_getElem? hx)
  have hcl := hg1.out.cell (hcell k _ hx) (by simp; exact hb)
  generalize xs[k]'_ = x at hm hcl
  clear hcell hx
  go_wp2
  go_ret
  exact ⟨x, rfl, hm, hS1, hg1⟩

theorem off_new (w : World) (g : Nat) (hg : g < w.heap.size) (xs : List Int) : Off (w.alloc (.cells (xs.map (Value.int .i64)).toArray 2)) g (some ⟨w.heap.size, 0, none⟩) xs :=
  ⟨w.heap.size, 0, rfl, by omega, fun j x hx => by
    rw [Nat.zero_add, World.cell?_alloc_new]
    simp [hx]⟩
end Go.Proofs.Ytdgcjkgbglofbaa

/- Drawn trees: a node of a tree gets one child more, a leaf at the end. Mathematics. -/
namespace Go.Proofs.Ytdgcjkgbglofbaa
namespace M
theorem isGo_snoc0 : ∀ (l : List Int) (o : Int), 0 ≤ o → isGo o l = true → isGo (o + 1) (l ++ [0]) = true := by
  intro l
  induction l with
  | nil =>
    intro o _ h
    simp [isGo] at h
    subst h
    rfl
  | cons d r ih =>
    intro o ho h
    have hp := isGo_pos _ _ h ho (by simp)
    simp only [isGo] at h
    split at h
    · cases h
    · rename_i hc
      simp at hc
      rw [List.cons_append, isGo, if_neg (by simp [hc.2.1, hc.2.2]; omega), show o + 1 - 1 + d = (o - 1 + d) + 1 by omega]
      exact ih _ (by omega) h
theorem isGo_inc : ∀ (l : List Int) (o : Int) (v : Nat) (x : Int), 0 ≤ o → isGo o l = true → l[v]? = some x → x + 1 ≤ 24 → isGo o (l.set v (x + 1) ++ [0]) = true := by
  intro l
  induction l with
  | nil => intro o v x _ _ hx; simp at hx
  | cons d r ih =>
    intro o v x ho h hx h24
    have hp := isGo_pos _ _ h ho (by simp)
    simp only [isGo] at h
    split at h
    · cases h
    · rename_i hc
      simp at hc
      cases v with
      | zero =>
        simp at hx
        subst hx
        rw [List.set_cons_zero, List.cons_append, isGo, if_neg (by simp; omega), show o - 1 + (d + 1) = (o - 1 + d) + 1 by omega]
        exact isGo_snoc0 _ _ (by omega) h
      | succ v =>
        simp at hx
        rw [List.set_cons_succ, List.cons_append, isGo, if_neg (by simp [hc.2.1, hc.2.2]; omega)]
        exact ih _ v x (by omega) h hx h24
theorem tree_degl {xs : List Int} (h : isTree xs = true) {v : Nat} {x : Int} (hx : xs[v]? = some x) : 0 ≤ x ∧ x + 1 ≤ xs.length := by
  have hv := (List.getElem?_eq_some_iff.1 hx).1
  obtain ⟨s, _, h1, h2⟩ := isGo_drop (tree_go h) v (by omega)
  have hs := h2 hv
  rw [drop_at hx, isGo] at h1
  split at h1
  · cases h1
  · rename_i hc
    simp at hc
    refine ⟨hc.2.1, ?_⟩
    rcases Int.lt_or_le ((xs.drop (v + 1)).length : Int) (s - 1 + x) with hb | hb
    · rw [isGo_big _ _ hb] at h1; cases h1
    · rw [List.length_drop] at hb; omega
theorem tree_inc {xs : List Int} (h : isTree xs = true) (hl : xs.length < 24) {v : Nat} {x : Int} (hx : xs[v]? = some x) : isTree (xs.set v (x + 1) ++ [0]) = true := by
  have := tree_degl h hx
  have hn := tree_len h
  simp only [isTree, Bool.and_eq_true, decide_eq_true_eq, List.length_append, List.length_set, List.length_singleton]
  exact ⟨⟨by omega, by omega⟩, isGo_inc _ _ _ _ (by omega) (tree_go h) hx (by omega)⟩
theorem tree_one : isTree [0] = true := rfl
end M
end Go.Proofs.Ytdgcjkgbglofbaa

/- A drawn tree of n nodes: the model's draw. -/
namespace Go.Proofs.Ytdgcjkgbglofbaa
open Go.RowKit

theorem own64_lit1 {w : World} {B : Nat} (x : Int) (hB : B ≤ w.heap.size) : Own64 (w.alloc (.cells #[.int .i64 x] 2)) B (.slice (some ⟨w.heap.size, 0, none⟩) 1 1) [x] := by
  have h := World.ownsRow_lit (e := 2) (size := 1) w #[.int .i64 x] 1 hB (by simp [maxLen]) (by simp)
  simpa [Own64] using h
/-- rows above a base that lies above g: other blocks than g are kept -/
theorem own_src {w w' : World} {base e size n g : Nat} {v : Value} {xs : List Value} (h : w.ownsRow base e size v n xs) (hg : w.grownBy w' (some g)) (hb : g < base) : w'.ownsRow base e size v n xs :=
  own_grown h hg (fun k e => by injection e with e; exact .inl (by omega))
theorem two_src {w w' : World} {base g : Nat} {v1 v2 : Value} {xs ys : List Int} (h : Two w base v1 v2 xs ys) (hg : w.grownBy w' (some g)) (hb : g < base) : Two w' base v1 v2 xs ys :=
  ⟨own_src h.1 hg hb, own_src h.2.1 hg hb, h.2.2⟩
theorem ints_take9 {w : World} {B : Nat} {A : Option Addr} {xs : List Int} (k : Nat) (h : Ints w B A xs) : Ints w B A (xs.take k) := fun hn => by
  rw [List.length_take] at hn
  obtain ⟨b, off, e, hb, hc⟩ := h (by omega)
  refine ⟨b, off, e, hb, fun j x hx => hc j x ?_⟩
  have := (List.getElem?_eq_some_iff.1 hx).1
  rw [List.length_take] at this
  rwa [List.getElem?_take_of_lt (by omega)] at hx
theorem two_beS {w w' : World} {B : Nat} {v1 v2 : Value} {xs ys : List Int} (h : Two w B v1 v2 xs ys) (hb : Below w.heap.size w w') : Two w' B v1 v2 xs ys :=
  ⟨own_below h.1 hb (Nat.le_refl _), own_below h.2.1 hb (Nat.le_refl _), h.2.2⟩
/-- what is only made above the start's blocks -/
theorem src_trans {a b c : World} {D g : Nat} (h : a.grownBy b (some g)) (k : Below D b c) (hD : a.heap.size ≤ D) : a.grownBy c (some g) :=
  ⟨k.os.trans h.os, k.tape.trans h.tape, k.output.trans h.output, Nat.le_trans h.size k.size, fun j hj hne => (k.block j (by omega)).trans (h.block j hj hne)⟩
theorem src_keep {b c : World} {B D g : Nat} (h : Src b B g) (k : Below D b c) (hg : g < D) : Src c B g := by
  obtain ⟨h0, A, zs, cc, kk, h1, h2, h3, h4, h5, h6, h7, h8⟩ := h
  exact ⟨h0, A, zs, cc, kk, h1, (k.block g hg).trans h2, h3, h4, h5, h6, h7.below k (by omega), h8⟩
theorem src_of {a b : World} {r : Option Nat} (h : Below a.heap.size a b) : a.grownBy b r := ⟨h.os, h.tape, h.output, h.size, fun j hj _ => h.block j hj⟩

set_option maxRecDepth 100000 in
set_option maxHeartbeats 8000000 in
theorem l01DrawOf (n : Nat) (w : World) (B g : Nat) (hn1 : 1 ≤ n) (hn : n ≤ 24) (hS : Hid (Src w B g)) :
    Calls Try.prog 205 #[.pointer (some ⟨g, 0, none⟩), .int .i64 (n : Int)] w fun e w' => ∃ A' c' ds, e = .returned (.agg #[.slice A' n c']) ∧ Hid (ds.length = n) ∧ Hid (M.isTree ds = true) ∧ Hid (Own64 w' w.heap.size (.slice A' n c') ds) ∧ Hid (Src w' B g) ∧ Hid (w.grownBy w' (some g)) := by
  have hgl := hS.out.lt
  -- the worlds of the start
  obtain ⟨W3, hW3⟩ : ∃ W3, W3 = ((w.alloc (.cells #[.slice none 0 0] 26)).alloc (.cells #[.int .i64 0] 2)).alloc (.cells #[.int .i64 0] 2) := ⟨_, rfl⟩
  have hz3 : W3.heap.size = w.heap.size + 1 + 1 + 1 := by rw [hW3]; simp
  have hb3 : Below w.heap.size w W3 := by rw [hW3]; exact bal (bal (bal (b0 w) _) _) _
  have hS3 := Lib.hid ((hS.out.be hb3).be (bal (b0 W3) (.cells #[.int .i64 1, .int .i64 2, .int .i64 4, .int .i64 30] 2)))
  have hO := Lib.hid (off_new W3 g (by omega) [1, 2, 4, 30])
  simp only [List.map_cons, List.map_nil] at hO
  have hT : Two W3 (w.heap.size + 1) (.slice (some ⟨w.heap.size + 1, 0, none⟩) 1 1) (.slice (some ⟨w.heap.size + 1 + 1, 0, none⟩) 1 1) [0] [0] := by
    rw [hW3]
    have e1 : (w.alloc (.cells #[.slice none 0 0] 26)).heap.size = w.heap.size + 1 := by simp
    have e2 : ((w.alloc (.cells #[.slice none 0 0] 26)).alloc (.cells #[.int .i64 0] 2)).heap.size = w.heap.size + 1 + 1 := by simp
    have h1 := own64_lit1 (w := w.alloc (.cells #[.slice none 0 0] 26)) (B := w.heap.size + 1) 0 (by omega)
    have h2 := own64_lit1 (w := (w.alloc (.cells #[.slice none 0 0] 26)).alloc (.cells #[.int .i64 0] 2)) (B := w.heap.size + 1) 0 (by omega)
    rw [e1] at h1
    rw [e2] at h2
    exact ⟨h1.alloc _, h2, fun b hb => by simp [Value.ownBlock] at hb ⊢; omega⟩
  have hres0 : W3.heap[w.heap.size]? = some (.cells #[.slice none 0 0] 26 (0, 0)) := by
    rw [hW3]
    exact (Below.heap_alloc _ _ _ (by simp; omega)).trans ((Below.heap_alloc _ _ _ (by simp)).trans (heap_alloc_new w _))
  go_enter Try.func205, Try.ntmps205
  go_wp2_with fail
  rw [← hW3]
  rw [hz3] at hO
  refine (l01Pick (some ⟨w.heap.size + 1 + 1 + 1, 0, none⟩) [1, 2, 4, 30] 4 4 _ B g rfl (by omega) (by omega) hO hS3).mono ?_
  rintro e w1 ⟨dp, rfl, hdp, hS1, hg1⟩
  have hdpr : 1 ≤ dp ∧ dp ≤ 30 := by
    have := hdp.out
    simp only [List.mem_cons, List.not_mem_nil, or_false] at this
    omega
  have hb4 : Hid (Below w.heap.size w (W3.alloc (.cells #[.int .i64 1, .int .i64 2, .int .i64 4, .int .i64 30] 2))) := bal hb3 _
  have hT1 := Lib.hid (two_src (two_beS hT (bal (b0 W3) (.cells #[.int .i64 1, .int .i64 2, .int .i64 4, .int .i64 30] 2))) hg1.out (show g < w.heap.size + 1 by omega))
  have hg01 : Hid (w.grownBy w1 (some g)) := src_tr (src_of hb4.out) hg1.out
  have hres1 : Hid (w1.heap[w.heap.size]? = some (.cells #[.slice none 0 0] 26 (0, 0))) :=
    (hg1.out.block w.heap.size (by simp; omega) (fun e => by injection e; omega)).trans ((Below.heap_alloc _ _ _ (Array.getElem?_eq_some_iff.1 hres0).1).trans hres0)
  clear hT hres0 hb3 hS3 hO hg1 hb4 hdp
  go_wp2
  go_loopw [5, 6, 8] (fun q1 q2 vi wr => ∃ (v n2 c1 c2 : Nat) (A1 A2 : Option Addr) (ds ws : List Int), 1 ≤ v ∧ v ≤ n ∧ vi = .int .i64 (v : Int) ∧ q1 = .slice A1 v c1 ∧ q2 = .slice A2 n2 c2 ∧ (1 ≤ n2 ∧ n2 ≤ v) ∧
      Hid (Two wr (w.heap.size + 1) (.slice A1 v c1) (.slice A2 n2 c2) ds ws) ∧ Hid (ds.length = v ∧ M.isTree ds = true) ∧ Hid (∀ x ∈ ws, 0 ≤ x ∧ x < (v : Int)) ∧ Hid (Src wr B g) ∧ Hid (w.grownBy wr (some g)) ∧
      Hid (wr.heap[w.heap.size]? = some (.cells #[.slice none 0 0] 26 (0, 0)))) (fun _ _ vi _ => n - (intOf vi).toNat)
  case atStart => exact ⟨1, 1, 1, 1, _, _, [0], [0], by omega, hn1, rfl, rfl, rfl, by omega, hT1, ⟨rfl, rfl⟩, fun x hx => by simp at hx; omega, hS1, hg01, hres1⟩
  case round =>
    clear hT1 hS1 hg01 hres1
    obtain ⟨v, n2, c1, c2, A1, A2, ds, ws, hv1, hvn, rfl, rfl, rfl, hn2, hT1, hds, hws, hSr, hgr, hres⟩ := hrel
    by_cases hlt : v < n
    · have hlt' : (v : Int) < (n : Int) := by omega
      have hwn : IntKind.i64.wrap ((n2 : Int) - 1) = ((n2 - 1 : Nat) : Int) := by rw [IntWalk.i64_in _ (by omega)]; omega
      rename World => V
      go_wp2
      go_loopw [9] (fun ai wr => ∃ a : Nat, a < n2 ∧ ai = .int .i64 (a : Int) ∧ Hid (Src wr B g) ∧ Hid (V.grownBy wr (some g))) (fun ai _ => (intOf ai).toNat)
      case atStart => exact ⟨n2 - 1, by omega, rfl, hSr, World.grownBy.refl _ _⟩
      case round =>
        clear hSr
        obtain ⟨a, ha, rfl, hS2, hV⟩ := hrel
        rename World => V2
        by_cases ha0 : 0 < a
        · have ha0' : (0 : Int) < (a : Int) := by omega
          have hwa1 : IntKind.i64.wrap ((a : Int) - 1) = ((a - 1 : Nat) : Int) := by rw [IntWalk.i64_in _ (by omega)]; omega
          go_wp2_with fail
          refine (l01Next dp V2 B g (by omega) hS2).mono ?_
          rintro e V3 ⟨r, rfl, ⟨hr0, hr1⟩, hS3, hV3⟩
          replace hV := Lib.hid (src_tr hV.out hV3.out)
          replace hS2 := hS3
          clear hS3 hV3
          by_cases hr : r = 0
          · subst hr
            go_wp2
            go_roundw
            case rel => exact ⟨a - 1, by omega, rfl, hS2, hV⟩
            case measure => simp [intOf]; omega
          · have hrb : (r == 0) = false := by simp [hr]
            rename World => V2
            have hV2 := hV.out
            have hT2 := Lib.hid (two_src hT1.out hV2 (show g < w.heap.size + 1 by omega))
            have hg2 : Hid (w.grownBy V2 (some g)) := src_tr hgr.out hV2
            have hres2 : Hid (V2.heap[w.heap.size]? = some (.cells #[.slice none 0 0] 26 (0, 0))) := (hV2.block w.heap.size (by have := hgr.out.size; have := (Array.getElem?_eq_some_iff.1 hres.out).1; omega) (fun e => by injection e; omega)).trans hres.out
            have hx := List.getElem?_eq_getElem (l := ws) (show a < ws.length by rw [← own64_len hT2.out.2.1]; exact ha)
            have hxr := hws.out _ (List.mem_of_getElem? hx)
            generalize ws[a]'_ = x at hx hxr
            obtain ⟨p, rfl⟩ := Int.eq_ofNat_of_zero_le hxr.1
            have hpv : p < v := by omega
            have hdl := hds.out.1
            have hd := List.getElem?_eq_getElem (l := ds) (show p < ds.length by omega)
            generalize ds[p]'_ = d0 at hd
            have hdg := M.tree_degl hds.out.2 hd
            have hinc := Lib.hid (M.tree_inc hds.out.2 (by omega) hd)
            obtain ⟨g1, rfl⟩ := hT2.out.shape.2 (by omega)
            obtain ⟨g2, rfl⟩ := hT2.out.symm.shape.2 (by omega)
            have hwl : ws.length = n2 := (own64_len hT2.out.2.1).symm
            have c2' := (own64_cell hT2.out.2.1 hwl hx).1
            obtain ⟨c1', f1', hg1lo, hg1hi⟩ := own64_cell hT2.out.1 hdl hd
            have hcap2 := hT2.out.symm.cap
            have hcap2' : (a : Int) + 1 ≤ (c2 : Int) := by omega
            have hset := Lib.hid (hT2.out.set hdl p (d0 + 1))
            have hapart : g1 ≠ g2 := fun e => hT2.out.2.2 g1 rfl (by rw [e]; rfl)
            have hbs : Hid (Below (w.heap.size + 1) V2 (V2.setCell ⟨g1, p, none⟩ (.int .i64 (d0 + 1)))) := below_setCell (Below.refl _ _) hg1lo _
            have hwd : IntKind.i64.wrap (d0 + 1) = d0 + 1 := IntWalk.i64_in _ (by omega)
            have hwa : IntKind.i64.wrap ((a : Int) + 1) = ((a + 1 : Nat) : Int) := by rw [IntWalk.i64_in _ (by omega)]; omega
            have hwv : IntKind.i64.wrap ((v : Int) + 1) = ((v + 1 : Nat) : Int) := by rw [IntWalk.i64_in _ (by omega)]; omega
            have hV2s : Hid (w.heap.size + 1 ≤ (V2.setCell ⟨g1, p, none⟩ (.int .i64 (d0 + 1))).heap.size) := by show _ ≤ _; have := hset.out.1.lt g1 rfl; omega
            have hIt := Lib.hid (ints_take9 (a + 1) (ints_of_own64 hset.out.2.1))
            have hOwn := fun (W : World) (hW : W = V2.setCell ⟨g1, p, none⟩ (.int .i64 (d0 + 1))) => l01Own (some ⟨g2, 0, none⟩) (ws.take (a + 1)) (a + 1) c2 W (Lib.hid (by rw [List.length_take]; omega)) (by omega) (Lib.hid (fun e => by cases e)) (Lib.hid (hW ▸ hIt.out))
            have HOwn := Lib.hid hOwn
            have Hws := Lib.hid (show ∀ x ∈ ws.take (a + 1) ++ [(v : Int)], 0 ≤ x ∧ x < ((v + 1 : Nat) : Int) from fun x hx => by
              rcases List.mem_append.1 hx with h | h
              · have := hws.out x (List.mem_of_mem_take h); omega
              · simp at h; omega)
            have hvl : v ≤ 1000000 := by omega
            have hal : a + 1 ≤ 1000000 := by omega
            have hds' := Lib.hid (show (ds.set p (d0 + 1) ++ [(0 : Int)]).length = v + 1 by simp; omega)
            clear hOwn hws hds hx hd hT1 hwl hIt hV2
            go_wp2_with (first | (go_at_call 207; refine (HOwn.out _ rfl).mono ?_; rintro e w3 ⟨A3, c3, rfl, ho3, hb3⟩; have hB3 : w.heap.size + 1 ≤ w3.heap.size := Nat.le_trans hV2s.out hb3.size; have hT3 : Hid (Two w3 (w.heap.size + 1) (.slice A3 (a + 1) c3) (.slice (some ⟨g1, 0, none⟩) v c1) (ws.take (a + 1)) (ds.set p (d0 + 1))) := Lib.hid ⟨own_mono ho3 hV2s.out, own_below hset.out.1 hb3 (Nat.le_refl _), fun b hb hb2 => by have h1 := (ho3.lt b hb).1; have h2 := (hset.out.1.lt b hb2).2; omega⟩; have Hb3 := Lib.hid hb3; clear ho3 hb3) | (at_builtin; refine pushTwo rfl (.tmp 46) (.tmp 48) rfl w3 (w.heap.size + 1) A3 (a + 1) c3 (.slice (some ⟨g1, 0, none⟩) v c1) (ws.take (a + 1)) (ds.set p (d0 + 1)) (v : Int) rfl _ rfl rfl hT3 hB3 hal ?_; intro A4 c4 w4 ht4 hb4; have hT4 := Lib.hid ht4.out.symm; have hB4 := Nat.le_trans hB3 hb4.out.size) | (at_builtin; refine pushTwo rfl (.tmp 50) (.tmp 51) rfl w4 (w.heap.size + 1) (some ⟨g1, 0, none⟩) v c1 (.slice A4 (a + 1 + 1) c4) (ds.set p (d0 + 1)) (ws.take (a + 1) ++ [(v : Int)]) 0 rfl _ rfl rfl hT4 hB4 hvl ?_; intro A5 c5 w5 ht5 hb5))
            have hbb := (hbs.out.trans (Hb3.out.mono hV2s.out)).trans (hb4.out.trans hb5.out)
            have hgf := Lib.hid (src_trans hg2.out hbb (by omega))
            have hSf := Lib.hid (src_keep hS2.out hbb (by omega))
            have hrf := Lib.hid ((hbb.block w.heap.size (by omega)).trans hres2.out)
            go_roundw
            case rel => exact ⟨v + 1, a + 1 + 1, c5, c4, A5, A4, _, _, by omega, by omega, by go_num, rfl, rfl, ⟨by omega, by omega⟩, ht5, ⟨hds'.out, hinc.out⟩, Hws, hSf, hgf, hrf⟩
            case measure => simp [intOf]; omega
        · have hna : ¬ (0 : Int) < (a : Int) := by omega
          have hV2 := hV.out
          have hT2 := Lib.hid (two_src hT1.out hV2 (show g < w.heap.size + 1 by omega))
          have hg2 : Hid (w.grownBy V2 (some g)) := src_tr hgr.out hV2
          have hres2 : Hid (V2.heap[w.heap.size]? = some (.cells #[.slice none 0 0] 26 (0, 0))) := (hV2.block w.heap.size (by have := hgr.out.size; have := (Array.getElem?_eq_some_iff.1 hres.out).1; omega) (fun e => by injection e; omega)).trans hres.out
          have hx := List.getElem?_eq_getElem (l := ws) (show a < ws.length by rw [← own64_len hT2.out.2.1]; exact ha)
          have hxr := hws.out _ (List.mem_of_getElem? hx)
          generalize ws[a]'_ = x at hx hxr
          obtain ⟨p, rfl⟩ := Int.eq_ofNat_of_zero_le hxr.1
          have hpv : p < v := by omega
          have hdl := hds.out.1
          have hd := List.getElem?_eq_getElem (l := ds) (show p < ds.length by omega)
          generalize ds[p]'_ = d0 at hd
          have hdg := M.tree_degl hds.out.2 hd
          have hinc := Lib.hid (M.tree_inc hds.out.2 (by omega) hd)
          obtain ⟨g1, rfl⟩ := hT2.out.shape.2 (by omega)
          obtain ⟨g2, rfl⟩ := hT2.out.symm.shape.2 (by omega)
          have hwl : ws.length = n2 := (own64_len hT2.out.2.1).symm
          have c2' := (own64_cell hT2.out.2.1 hwl hx).1
          obtain ⟨c1', f1', hg1lo, hg1hi⟩ := own64_cell hT2.out.1 hdl hd
          have hcap2 := hT2.out.symm.cap
          have hcap2' : (a : Int) + 1 ≤ (c2 : Int) := by omega
          have hset := Lib.hid (hT2.out.set hdl p (d0 + 1))
          have hapart : g1 ≠ g2 := fun e => hT2.out.2.2 g1 rfl (by rw [e]; rfl)
          have hbs : Hid (Below (w.heap.size + 1) V2 (V2.setCell ⟨g1, p, none⟩ (.int .i64 (d0 + 1)))) := below_setCell (Below.refl _ _) hg1lo _
          have hwd : IntKind.i64.wrap (d0 + 1) = d0 + 1 := IntWalk.i64_in _ (by omega)
          have hwa : IntKind.i64.wrap ((a : Int) + 1) = ((a + 1 : Nat) : Int) := by rw [IntWalk.i64_in _ (by omega)]; omega
          have hwv : IntKind.i64.wrap ((v : Int) + 1) = ((v + 1 : Nat) : Int) := by rw [IntWalk.i64_in _ (by omega)]; omega
          have hV2s : Hid (w.heap.size + 1 ≤ (V2.setCell ⟨g1, p, none⟩ (.int .i64 (d0 + 1))).heap.size) := by show _ ≤ _; have := hset.out.1.lt g1 rfl; omega
          have hIt := Lib.hid (ints_take9 (a + 1) (ints_of_own64 hset.out.2.1))
          have hOwn := fun (W : World) (hW : W = V2.setCell ⟨g1, p, none⟩ (.int .i64 (d0 + 1))) => l01Own (some ⟨g2, 0, none⟩) (ws.take (a + 1)) (a + 1) c2 W (Lib.hid (by rw [List.length_take]; omega)) (by omega) (Lib.hid (fun e => by cases e)) (Lib.hid (hW ▸ hIt.out))
          have HOwn := Lib.hid hOwn
          have Hws := Lib.hid (show ∀ x ∈ ws.take (a + 1) ++ [(v : Int)], 0 ≤ x ∧ x < ((v + 1 : Nat) : Int) from fun x hx => by
            rcases List.mem_append.1 hx with h | h
            · have := hws.out x (List.mem_of_mem_take h); omega
            · simp at h; omega)
          have hvl : v ≤ 1000000 := by omega
          have hal : a + 1 ≤ 1000000 := by omega
          have hds' := Lib.hid (show (ds.set p (d0 + 1) ++ [(0 : Int)]).length = v + 1 by simp; omega)
          clear hOwn hws hds hx hd hT1 hwl hIt hV2
          go_wp2_with (first | (go_at_call 207; refine (HOwn.out _ rfl).mono ?_; rintro e w3 ⟨A3, c3, rfl, ho3, hb3⟩; have hB3 : w.heap.size + 1 ≤ w3.heap.size := Nat.le_trans hV2s.out hb3.size; have hT3 : Hid (Two w3 (w.heap.size + 1) (.slice A3 (a + 1) c3) (.slice (some ⟨g1, 0, none⟩) v c1) (ws.take (a + 1)) (ds.set p (d0 + 1))) := Lib.hid ⟨own_mono ho3 hV2s.out, own_below hset.out.1 hb3 (Nat.le_refl _), fun b hb hb2 => by have h1 := (ho3.lt b hb).1; have h2 := (hset.out.1.lt b hb2).2; omega⟩; have Hb3 := Lib.hid hb3; clear ho3 hb3) | (at_builtin; refine pushTwo rfl (.tmp 46) (.tmp 48) rfl w3 (w.heap.size + 1) A3 (a + 1) c3 (.slice (some ⟨g1, 0, none⟩) v c1) (ws.take (a + 1)) (ds.set p (d0 + 1)) (v : Int) rfl _ rfl rfl hT3 hB3 hal ?_; intro A4 c4 w4 ht4 hb4; have hT4 := Lib.hid ht4.out.symm; have hB4 := Nat.le_trans hB3 hb4.out.size) | (at_builtin; refine pushTwo rfl (.tmp 50) (.tmp 51) rfl w4 (w.heap.size + 1) (some ⟨g1, 0, none⟩) v c1 (.slice A4 (a + 1 + 1) c4) (ds.set p (d0 + 1)) (ws.take (a + 1) ++ [(v : Int)]) 0 rfl _ rfl rfl hT4 hB4 hvl ?_; intro A5 c5 w5 ht5 hb5))
          have hbb := (hbs.out.trans (Hb3.out.mono hV2s.out)).trans (hb4.out.trans hb5.out)
          have hgf := Lib.hid (src_trans hg2.out hbb (by omega))
          have hSf := Lib.hid (src_keep hS2.out hbb (by omega))
          have hrf := Lib.hid ((hbb.block w.heap.size (by omega)).trans hres2.out)
          go_roundw
          case rel => exact ⟨v + 1, a + 1 + 1, c5, c4, A5, A4, _, _, by omega, by omega, by go_num, rfl, rfl, ⟨by omega, by omega⟩, ht5, ⟨hds'.out, hinc.out⟩, Hws, hSf, hgf, hrf⟩
          case measure => simp [intOf]; omega
    · obtain rfl : v = n := by omega
      have hge : ¬ (v : Int) < (v : Int) := by omega
      have hrc := cell_of_one hres.out
      have hrf := free_of_one hres.out
      rename World => V
      go_wp2
      refine bodyPost_ret (v := .agg #[.slice A1 v c1]) (by simp [results, Try.results205, go_sem, hrc]) rfl ?_
      exact ⟨A1, c1, rfl, ds, hds.out.1, hds.out.2, own_mono (own_far hT1.out.1 (by omega) _) (by omega), hSr.out.kept (src_grown V w.heap.size 0 _) (fun k e => by injection e with e; have := hS.out.1; omega), src_trans hgr.out (below_setCell (Below.refl w.heap.size V) (Nat.le_refl _) _) (Nat.le_refl _)⟩
end Go.Proofs.Ytdgcjkgbglofbaa

/- Lists of trees in memory: a slice whose elements are trees, each with a row of its own; append of one; what the laws' helpers do with them. -/
namespace Go.Proofs.Ytdgcjkgbglofbaa
open Go.RowKit

theorem infoTree : (Try.prog.info? 26).map (fun i => (i.zero, i.size, i.bytes)) = some (some (.agg #[.slice none 0 0]), 1, 24) := by kernel_rfl

/-- a row's header: its block, its length, its capacity -/
abbrev Hdr := Nat × Nat × Nat
abbrev hdr (h : Hdr) : Value := .slice (some ⟨h.1, 0, none⟩) h.2.1 h.2.2

/-- the slice v has the trees zss, with the headers hs; all lies from block B on, and no two share memory -/
structure Woods (w : World) (B : Nat) (v : Value) (hs : List Hdr) (zss : List (List Int)) : Prop where
  row : w.ownsRow B 26 1 v hs.length (hs.map hdr)
  len : hs.length = zss.length
  each : ∀ (k : Nat) (h : Hdr) (zs : List Int), hs[k]? = some h → zss[k]? = some zs → Own64 w B (hdr h) zs
  apart : ∀ (i j : Nat) (h h' : Hdr), hs[i]? = some h → hs[j]? = some h' → i ≠ j → h.1 ≠ h'.1

theorem Woods.at_ {w : World} {B : Nat} {v : Value} {hs : List Hdr} {zss : List (List Int)} (h : Woods w B v hs zss) {k : Nat} {zs : List Int} (hk : zss[k]? = some zs) : ∃ h', hs[k]? = some h' ∧ Own64 w B (hdr h') zs ∧ h'.2.1 = zs.length := by
  have hl : k < hs.length := by rw [h.len]; exact (List.getElem?_eq_some_iff.1 hk).1
  have h1 := List.getElem?_eq_getElem hl
  have h2 := h.each k _ zs h1 hk
  exact ⟨_, h1, h2, own64_len h2⟩
theorem Woods.lt {w : World} {B : Nat} {v : Value} {hs : List Hdr} {zss : List (List Int)} (h : Woods w B v hs zss) {h' : Hdr} (hh : h' ∈ hs) : B ≤ h'.1 ∧ h'.1 < w.heap.size := by
  obtain ⟨k, hk⟩ := List.getElem?_of_mem hh
  have hl : k < zss.length := by rw [← h.len]; exact (List.getElem?_eq_some_iff.1 hk).1
  exact World.ownsRow.lt (h.each k h' _ hk (List.getElem?_eq_getElem hl)) h'.1 rfl
theorem Woods.cell {w : World} {B g n c : Nat} {hs : List Hdr} {zss : List (List Int)} (h : Woods w B (.slice (some ⟨g, 0, none⟩) n c) hs zss) {k : Nat} {h' : Hdr} (hk : hs[k]? = some h') : w.cell? ⟨g, k, none⟩ = some (hdr h') := by
  have := h.row.cells (g := g) rfl k (hdr h') (by simp [hk])
  have ha : (⟨g, 0, none⟩ : Addr).add k = ⟨g, k, none⟩ := by unfold Addr.add; split <;> simp_all
  rw [ha] at this
  exact this
theorem Woods.shape {w : World} {B n c : Nat} {A : Option Addr} {hs : List Hdr} {zss : List (List Int)} (h : Woods w B (.slice A n c) hs zss) : n = zss.length ∧ (0 < n → ∃ g, A = some ⟨g, 0, none⟩) := by
  have hl := h.len
  rcases h.row.2 with ⟨e, h0⟩ | ⟨g, cap, cur, hv, _⟩
  · injection e with e1 e2 e3
    exact ⟨by omega, fun hn => by omega⟩
  · injection hv with e1 e2 e3
    exact ⟨by omega, fun _ => ⟨g, e1⟩⟩
/-- the slice's block is none of the rows': they hold other things -/
theorem Woods.off {w : World} {B : Nat} {v : Value} {hs : List Hdr} {zss : List (List Int)} (h : Woods w B v hs zss) {h' : Hdr} (hh : h' ∈ hs) : v.ownBlock ≠ some h'.1 := by
  intro e
  obtain ⟨k, hk⟩ := List.getElem?_of_mem hh
  have hl : k < zss.length := by rw [← h.len]; exact (List.getElem?_eq_some_iff.1 hk).1
  have h1 := h.each k h' _ hk (List.getElem?_eq_getElem hl)
  rcases h.row.2 with ⟨e0, _⟩ | ⟨g, cap, cur, hv, _, hg, _⟩
  · rw [e0] at e; cases e
  · rcases h1.2 with ⟨e0, _⟩ | ⟨g', cap', cur', hv', _, hg', _⟩
    · cases e0
    · injection hv' with e1
      injection e1 with e1
      injection e1 with e1
      rw [hv] at e
      have e2 : g = h'.1 := by injection e
      rw [e2, e1, hg'] at hg
      injection hg with hg
      injection hg with _ hg
      exact absurd hg (by decide)
theorem Woods.kept {w w' : World} {B : Nat} {v : Value} {hs : List Hdr} {zss : List (List Int)} {row : Option Nat} (h : Woods w B v hs zss) (hg : w.grownBy w' row) (h1 : ∀ k, row = some k → v.ownBlock ≠ some k ∧ ∀ h' ∈ hs, h'.1 ≠ k) : Woods w' B v hs zss := by
  refine ⟨h.row.kept hg ?_, h.len, fun k h' zs hk hz => (h.each k h' zs hk hz).kept hg (.inr fun e => ?_), h.apart⟩
  · cases hv : v.ownBlock with
    | none => exact .inl rfl
    | some k => exact .inr fun e => (h1 k e.symm).1 hv
  · exact (h1 h'.1 e.symm).2 h' (List.mem_of_getElem? hk) rfl
theorem Woods.be {w w' : World} {B : Nat} {v : Value} {hs : List Hdr} {zss : List (List Int)} (h : Woods w B v hs zss) (hb : Below w.heap.size w w') : Woods w' B v hs zss :=
  ⟨own_be h.row hb, h.len, fun k h' zs hk hz => own_be (h.each k h' zs hk hz) hb, h.apart⟩
theorem Woods.alloc {w : World} {B : Nat} {v : Value} {hs : List Hdr} {zss : List (List Int)} (h : Woods w B v hs zss) (o : Obj) : Woods (w.alloc o) B v hs zss := h.be (bal (b0 w) o)
theorem Woods.mono {w : World} {B B' : Nat} {v : Value} {hs : List Hdr} {zss : List (List Int)} (h : Woods w B v hs zss) (hB : B' ≤ B) : Woods w B' v hs zss :=
  ⟨own_mono h.row hB, h.len, fun k h' zs hk hz => own_mono (h.each k h' zs hk hz) hB, h.apart⟩
theorem woods_empty {w : World} {B : Nat} (hB : B ≤ w.heap.size) : Woods (w.alloc (.cells #[] 26)) B (.slice (some ⟨w.heap.size, 0, none⟩) 0 0) [] [] :=
  ⟨World.ownsRow_made (e := 26) (size := 1) w #[] 0 hB (by simp [maxLen]) (by simp), rfl, fun k h zs hk => by simp at hk, fun i j h h' hi => by simp at hi⟩
theorem woods_nil (w : World) (B : Nat) : Woods w B (.slice none 0 0) [] [] :=
  ⟨World.ownsRow_nil _ _ _ _, rfl, fun k h zs hk => by simp at hk, fun i j h h' hi => by simp at hi⟩
theorem woods_one {w : World} {B : Nat} {h : Hdr} {zs : List Int} (hB : B ≤ w.heap.size) (ho : Own64 w B (hdr h) zs) : Woods (w.alloc (.cells #[hdr h] 26)) B (.slice (some ⟨w.heap.size, 0, none⟩) 1 1) [h] [zs] := by
  refine ⟨World.ownsRow_lit (e := 26) (size := 1) w #[hdr h] 1 hB (by simp [maxLen]) (by simp), rfl, fun k h' zs' hk hz => ?_, fun i j h1 h2 hi hj hij => ?_⟩
  · have hk0 : k = 0 := by have := (List.getElem?_eq_some_iff.1 hk).1; simp at this; exact this
    subst hk0
    injection hk with hk
    injection hz with hz
    subst hk
    subst hz
    exact ho.alloc _
  · have h1 := (List.getElem?_eq_some_iff.1 hi).1
    have h2 := (List.getElem?_eq_some_iff.1 hj).1
    simp at h1 h2
    omega
/-- behind an append of one tree -/
theorem woods_pushed {w w1 : World} {B : Nat} {v v' : Value} {hs : List Hdr} {zss : List (List Int)} {h0 : Hdr} {zs : List Int} (h : Woods w B v hs zss) (ho : Own64 w B (hdr h0) zs) (hne : v.ownBlock ≠ some h0.1) (hfr : ∀ h' ∈ hs, h'.1 ≠ h0.1) {o : Obj}
    (hown : w1.ownsRow B 26 1 v' (hs.length + 1) (hs.map hdr ++ [hdr h0])) (hg : (w.alloc o).grownBy w1 v.ownBlock) : Woods w1 B v' (hs ++ [h0]) (zss ++ [zs]) := by
  have hk0 : ∀ (h' : Hdr) (ys : List Int), Own64 w B (hdr h') ys → v.ownBlock ≠ some h'.1 → Own64 w1 B (hdr h') ys := fun h' ys ho' hv => (ho'.alloc _).kept hg (.inr fun e => hv e.symm)
  refine ⟨by rw [List.length_append, List.map_append]; exact hown, by rw [List.length_append, List.length_append, h.len]; rfl, fun k h' ys hk hy => ?_, fun i j h1 h2 hi hj hij => ?_⟩
  · rcases Nat.lt_or_ge k hs.length with hl | hl
    · rw [List.getElem?_append_left hl] at hk
      rw [List.getElem?_append_left (by rw [← h.len]; exact hl)] at hy
      exact hk0 h' ys (h.each k h' ys hk hy) (h.off (List.mem_of_getElem? hk))
    · rw [List.getElem?_append_right hl] at hk
      rw [List.getElem?_append_right (by rw [← h.len]; exact hl)] at hy
      have e1 : k - hs.length = 0 := by have := (List.getElem?_eq_some_iff.1 hk).1; simp at this; omega
      rw [e1] at hk
      rw [← h.len, e1] at hy
      injection hk with hk
      injection hy with hy
      subst hk
      subst hy
      exact hk0 h0 zs ho hne
  · have hsel : ∀ (k : Nat) (h' : Hdr), (hs ++ [h0])[k]? = some h' → (k < hs.length ∧ hs[k]? = some h') ∨ (k = hs.length ∧ h' = h0) := fun k h' hk => by
      rcases Nat.lt_or_ge k hs.length with hl | hl
      · rw [List.getElem?_append_left hl] at hk; exact .inl ⟨hl, hk⟩
      · rw [List.getElem?_append_right hl] at hk
        have e1 : k - hs.length = 0 := by have := (List.getElem?_eq_some_iff.1 hk).1; simp at this; omega
        rw [e1] at hk
        injection hk with hk
        exact .inr ⟨by omega, hk.symm⟩
    rcases hsel i h1 hi with ⟨a1, a2⟩ | ⟨a1, a2⟩ <;> rcases hsel j h2 hj with ⟨b1, b2⟩ | ⟨b1, b2⟩
    · exact h.apart i j h1 h2 a2 b2 hij
    · rw [b2]; exact hfr h1 (List.mem_of_getElem? a2)
    · rw [a2]; exact fun e => hfr h2 (List.mem_of_getElem? b2) e.symm
    · omega

/-- the trees of a slice, to be read -/
def Trees (w : World) (A : Option Addr) (zss : List (List Int)) : Prop :=
  0 < zss.length → ∃ b, A = some ⟨b, 0, none⟩ ∧ b < w.heap.size ∧ ∀ (k : Nat) (zs : List Int), zss[k]? = some zs → ∃ A' c', w.cell? ⟨b, k, none⟩ = some (.slice A' zs.length c') ∧ Ints w w.heap.size A' zs
theorem Woods.trees {w : World} {B n c : Nat} {A : Option Addr} {hs : List Hdr} {zss : List (List Int)} (h : Woods w B (.slice A n c) hs zss) : Trees w A zss := fun hp => by
  obtain ⟨h1, h2⟩ := h.shape
  obtain ⟨g, rfl⟩ := h2 (by omega)
  refine ⟨g, rfl, (World.ownsRow.lt h.row g rfl).2, fun k zs hk => ?_⟩
  obtain ⟨h', hk', ho, hl⟩ := h.at_ hk
  have hc := h.cell hk'
  obtain ⟨g', m, c'⟩ := h'
  simp only at hl
  subst hl
  exact ⟨_, _, hc, ints_of_own64 ho⟩
theorem Trees.be {w w' : World} {A : Option Addr} {zss : List (List Int)} (h : Trees w A zss) (hb : Below w.heap.size w w') : Trees w' A zss := fun hp => by
  obtain ⟨b, rfl, hlt, hk⟩ := h hp
  refine ⟨b, rfl, Nat.lt_of_lt_of_le hlt hb.size, fun k zs hz => ?_⟩
  obtain ⟨A', c', h1, h2⟩ := hk k zs hz
  exact ⟨A', c', (hb.cell (p := ⟨b, k, none⟩) hlt).trans h1, h2.be hb⟩
end Go.Proofs.Ytdgcjkgbglofbaa

/- Lists of lists of numbers: how many numbers they have; rows that are marked. -/
namespace Go.Proofs.Ytdgcjkgbglofbaa
namespace M
def tot : List (List Int) → Nat
  | [] => 0
  | zs :: r => zs.length + tot r
theorem tot_snoc (l : List (List Int)) (zs : List Int) : tot (l ++ [zs]) = tot l + zs.length := by
  induction l with
  | nil => simp [tot]
  | cons x r ih => simp only [List.cons_append, tot, ih]; omega
theorem tot_take {zss : List (List Int)} {k : Nat} {zs : List Int} (h : zss[k]? = some zs) : tot (zss.take (k + 1)) = tot (zss.take k) + zs.length := by
  rw [List.take_add_one, h, Option.toList_some, tot_snoc]
theorem tot_le {zss : List (List Int)} {b : Nat} (h : ∀ zs ∈ zss, zs.length ≤ b) : tot zss ≤ b * zss.length := by
  induction zss with
  | nil => exact Nat.zero_le _
  | cons x r ih =>
    have h1 := h x (by simp)
    have h2 := ih fun z hz => h z (by simp [hz])
    simp only [tot, List.length_cons, Nat.mul_add, Nat.mul_one]
    omega
theorem tot_mem {zss : List (List Int)} {zs : List Int} (h : zs ∈ zss) : zs.length ≤ tot zss := by
  induction zss with
  | nil => cases h
  | cons x r ih =>
    simp only [tot]
    rcases List.mem_cons.1 h with rfl | h
    · omega
    · have := ih h; omega
theorem tot_take_le (zss : List (List Int)) : ∀ k, tot (zss.take k) ≤ tot zss := by
  induction zss with
  | nil => intro k; simp [tot]
  | cons x r ih =>
    intro k
    cases k with
    | zero => simp [tot]
    | succ k => simp only [List.take_succ_cons, tot]; have := ih k; omega
/-- the first k rows are marked -/
def partM (m : Int) (zss : List (List Int)) (k : Nat) : List (List Int) := (List.range zss.length).map fun j => if j < k then marks (m + (tot (zss.take j) : Int)) (zss[j]?.getD []).length else zss[j]?.getD []
theorem partM_len (m : Int) (zss : List (List Int)) (k : Nat) : (partM m zss k).length = zss.length := by simp [partM]
theorem partM_zero (m : Int) (zss : List (List Int)) : partM m zss 0 = zss := by
  apply List.ext_getElem?
  intro j
  simp only [partM, List.getElem?_map]
  by_cases hj : j < zss.length
  · rw [List.getElem?_range hj]; simp [List.getElem?_eq_getElem hj]
  · rw [List.getElem?_eq_none (by simp; omega), List.getElem?_eq_none (by omega)]; rfl
theorem partM_lo {m : Int} {zss : List (List Int)} {k j : Nat} {zs : List Int} (h : zss[j]? = some zs) (hj : j < k) : (partM m zss k)[j]? = some (marks (m + (tot (zss.take j) : Int)) zs.length) := by
  have hl := (List.getElem?_eq_some_iff.1 h).1
  simp only [partM, List.getElem?_map, List.getElem?_range hl, Option.map_some, if_pos hj, h, Option.getD_some]
theorem partM_hi {m : Int} {zss : List (List Int)} {k j : Nat} {zs : List Int} (h : zss[j]? = some zs) (hj : ¬ j < k) : (partM m zss k)[j]? = some zs := by
  have hl := (List.getElem?_eq_some_iff.1 h).1
  simp only [partM, List.getElem?_map, List.getElem?_range hl, Option.map_some, if_neg hj, h, Option.getD_some]
theorem partM_other {m : Int} {zss : List (List Int)} {k j : Nat} (hj : j ≠ k) : (partM m zss (k + 1))[j]? = (partM m zss k)[j]? := by
  by_cases hl : j < zss.length
  · have h := List.getElem?_eq_getElem hl
    by_cases hjk : j < k
    · rw [partM_lo h hjk, partM_lo h (by omega)]
    · rw [partM_hi h hjk, partM_hi h (by omega)]
  · rw [List.getElem?_eq_none (by rw [partM_len]; omega), List.getElem?_eq_none (by rw [partM_len]; omega)]
end M
end Go.Proofs.Ytdgcjkgbglofbaa

/- Lists of trees: append of one; equal, marked, held. -/
namespace Go.Proofs.Ytdgcjkgbglofbaa
open Go.RowKit

set_option maxRecDepth 100000 in
theorem pushTree {ops : Array Oper} {rest : List Oper} {o : Oper} {a : Act} {Q : Exit → Act → World → Prop} (hgd : o.guard = none) (s x : Operand)
    (ho : o.op = .call { callee := .builtin .append, args := #[s, x], argTypes := #[56, 56] }) (w : World) (B : Nat) (A : Option Addr) (n c : Nat) (hs : List Hdr) (zss : List (List Int)) (h0 : Hdr) (zs : List Int)
    (hs0 : a.eval s = .slice A n c) (hx : a.eval x = .slice (some ⟨w.heap.size, 0, none⟩) 1 1) (hW : Hid (Woods w B (.slice A n c) hs zss)) (hrow : Hid (Own64 w B (hdr h0) zs)) (hne : Hid ((Value.slice A n c).ownBlock ≠ some h0.1)) (hfr : Hid (∀ h' ∈ hs, h'.1 ≠ h0.1)) (hB : B ≤ w.heap.size) (hlen : n ≤ 1000000)
    (h : ∀ A' c' w', Hid (Woods w' B (.slice A' (n + 1) c') (hs ++ [h0]) (zss ++ [zs])) → Hid (Below B w w') → wpList Try.prog ops Q rest (a.put o.dst (.slice A' (n + 1) c')) w') :
    wpList Try.prog ops Q (o :: rest) a (w.alloc (.cells #[hdr h0] 26)) := by
  obtain ⟨i0, hi0, hz0, hz1, hz2⟩ := info_parts infoTree
  have hn : hs.length = n := by rw [hW.out.len]; exact hW.out.shape.1.symm
  refine wpList_append_own_at _ hgd s x 56 ho B 26 i0 (.agg #[.slice none 0 0]) 1 24 Try.underlying56 hi0 hz0 hz1 hz2 rfl (by decide) _ hs.length (hs.map hdr) hs0 (hW.out.row.alloc _) ⟨w.heap.size, 0, none⟩ 1 1 [hdr h0] hx rfl (cell_one_new _ _ _) ?_ ?_ ?_ ?_ ?_
  · intro u hu; simp at hu; subst hu; rfl
  · unfold maxLen; omega
  · omega
  · simp; omega
  · intro v' w1 hown1 hg1 _ _
    obtain ⟨A', c', rfl⟩ : ∃ A' c', v' = .slice A' (hs.length + 1) c' := own_shape hown1
    have hres := woods_pushed hW.out hrow.out hne.out hfr.out hown1 hg1
    rw [hn] at hres ⊢
    exact h A' c' w1 hres (((Below.refl B w).alloc hB _).grown hg1 (by simp; omega) (fun k hk => (World.ownsRow.lt hW.out.row k hk).1))

set_option maxRecDepth 100000 in
set_option maxHeartbeats 2000000 in
theorem eqTreeS (A A' : Option Addr) (zss : List (List Int)) (n c c' : Nat) (w : World) (hn : Hid (zss.length = n)) (hn' : n ≤ 1000000000000) (hz : Hid (∀ zs ∈ zss, zs.length ≤ 1000000000000)) (h : Hid (Trees w A zss)) (h' : Hid (Trees w A' zss)) :
    Calls Try.prog 135 #[.slice A n c, .slice A' n c'] w fun e w' => e = .returned (.bool true) ∧ Below w.heap.size w w' := by
  have hne : ((n : Int) != (n : Int)) = false := by simp
  go_enter Try.func135, Try.ntmps135
  go_wp2
  go_loopw [5] (fun i wr => ∃ k : Nat, k ≤ n ∧ i = .int .i64 (k : Int) ∧ Hid (Below w.heap.size w wr)) (fun i _ => n - (intOf i).toNat)
  case atStart => exact ⟨0, Nat.zero_le _, rfl, b0 w⟩
  case round =>
    obtain ⟨k, hk, rfl, hb⟩ := hrel
    clear hne
    by_cases hlt : k < n
    · have hki : (k : Int) < (n : Int) := by omega
      have hk0 : (0 : Int) ≤ (k : Int) := by omega
      have hkz : k < zss.length := by rw [hn.out]; exact hlt
      have hat : zss[k]? = some zss[k] := List.getElem?_eq_getElem hkz
      have hzk := hz.out _ (List.mem_of_getElem? hat)
      generalize zss[k] = zs at hat hzk
      obtain ⟨b, rfl, hbl, hc⟩ := h.out (by omega)
      obtain ⟨b', rfl, hbl', hc'⟩ := h'.out (by omega)
      obtain ⟨A1, c1, h1, h2⟩ := hc k zs hat
      obtain ⟨A2, c2, h3, h4⟩ := hc' k zs hat
      have HC : Hid (∀ W', Hid (Below w.heap.size w W') → W'.cell? ⟨b, k, none⟩ = some (.slice A1 zs.length c1) ∧ W'.cell? ⟨b', k, none⟩ = some (.slice A2 zs.length c2)) := fun W' hW' => ⟨(hW'.out.cell (p := ⟨b, k, none⟩) hbl).trans h1, (hW'.out.cell (p := ⟨b', k, none⟩) hbl').trans h3⟩
      have HE : Hid (∀ W', Hid (Below w.heap.size w W') → Calls Try.prog 136 #[.agg #[.slice A1 zs.length c1], .agg #[.slice A2 zs.length c2]] W' fun e w' => e = .returned (.bool true) ∧ Hid (Below w.heap.size w w')) := fun W' hW' =>
        (eqTreeT A1 A2 zs c1 c2 W' (by omega) (h2.be hW'.out) (h4.be hW'.out)).mono fun e w' ⟨he, hb'⟩ => ⟨he, btr hW'.out hb'⟩
      have K0 : Hid (Below w.heap.size w wr.drew) := hb.out.drew
      obtain ⟨d1, d2⟩ := HC.out _ K0
      obtain ⟨e1, e2⟩ := HC.out _ hb
      clear hat hc hc' h1 h2 h3 h4 hbl hbl' hkz
      go_wp2
      go_region_held3 (fun w' => w'.cell? ⟨b, k, none⟩ = some (.slice A1 zs.length c1) ∧ w'.cell? ⟨b', k, none⟩ = some (.slice A2 zs.length c2)) (first | exact ⟨d1, d2⟩ | exact HC.out _ (by assumption)) (first | (go_at_call 136; refine (HE.out _ K0).mono ?_; rintro e w7 ⟨rfl, hb7⟩))
      clear d1 d2 e1 e2 K0 HE HC hb
      go_wp2
      go_roundw
      case rel => exact ⟨k + 1, by omega, by go_num, hb7⟩
      case measure => simp [intOf]; omega
    · obtain rfl : k = n := by omega
      have hge : ¬ (k : Int) < (k : Int) := by omega
      go_wp2
      go_ret
      exact ⟨rfl, hb.out⟩


/-- behind a write into one row -/
theorem Woods.set {w w' : World} {B : Nat} {v : Value} {hs : List Hdr} {zss zss' : List (List Int)} {k : Nat} {h' : Hdr} {ys : List Int} (h : Woods w B v hs zss) (hk : hs[k]? = some h') (hl : zss'.length = zss.length) (ho : ∀ j, j ≠ k → zss'[j]? = zss[j]?) (hy : zss'[k]? = some ys)
    (hown : Own64 w' B (hdr h') ys) (hg : w.grownBy w' (some h'.1)) : Woods w' B v hs zss' := by
  refine ⟨h.row.kept hg (.inr (h.off (List.mem_of_getElem? hk))), by rw [hl]; exact h.len, fun j h2 zs hj hz => ?_, h.apart⟩
  by_cases hjk : j = k
  · subst hjk
    rw [hk] at hj
    rw [hy] at hz
    injection hj with hj
    injection hz with hz
    subst hj
    subst hz
    exact hown
  · rw [ho j hjk] at hz
    exact (h.each j h2 zs hj hz).kept hg (.inr fun e => h.apart j k h2 h' hj hk hjk (by injection e))

set_option maxRecDepth 100000 in
set_option maxHeartbeats 2000000 in
theorem markTreeS (A : Option Addr) (n c : Nat) (hs : List Hdr) (zss : List (List Int)) (m : Int) (B : Nat) (w : World) (hn : Hid (zss.length = n)) (hn' : n ≤ 100000000) (hT : Hid (M.tot zss ≤ 2000000000)) (hm : 0 ≤ m) (hm' : m ≤ 100000000000) (hB : B ≤ w.heap.size) (hW : Hid (Woods w B (.slice A n c) hs zss)) :
    Calls Try.prog 138 #[.slice A n c, .int .i64 m] w fun e w' => e = .returned (.int .i64 (m + (M.tot zss : Int))) ∧ Woods w' B (.slice A n c) hs (M.partM m zss n) ∧ Below B w w' ∧ (∀ j, j < w.heap.size → (∀ h' ∈ hs, h'.1 ≠ j) → w'.heap[j]? = w.heap[j]?) := by
  go_enter Try.func138, Try.ntmps138
  go_wp2
  go_loopw [1, 5] (fun q i wr => ∃ k : Nat, k ≤ n ∧ i = .int .i64 (k : Int) ∧ q = .int .i64 (m + (M.tot (zss.take k) : Int)) ∧ Hid (Woods wr B (.slice A n c) hs (M.partM m zss k)) ∧ Hid (Below B w wr) ∧ Hid (∀ j, j < w.heap.size → (∀ h' ∈ hs, h'.1 ≠ j) → wr.heap[j]? = w.heap[j]?)) (fun _ i _ => n - (intOf i).toNat)
  case atStart => exact ⟨0, Nat.zero_le _, rfl, by simp [M.tot], by rw [M.partM_zero]; exact hW, Below.refl _ _, fun _ _ _ => rfl⟩
  case round =>
    obtain ⟨k, hk, rfl, rfl, hWk, hb, hfr⟩ := hrel
    clear hW
    by_cases hlt : k < n
    · have hki : (k : Int) < (n : Int) := by omega
      have hk0 : (0 : Int) ≤ (k : Int) := by omega
      have hkz : k < zss.length := by rw [hn.out]; exact hlt
      have hat : zss[k]? = some zss[k] := List.getElem?_eq_getElem hkz
      have hzk := M.tot_mem (List.mem_of_getElem? hat)
      have hT2 := hT.out
      generalize zss[k] = zs at hat hzk
      have htk := M.tot_take_le zss k
      have hts := Lib.hid (M.tot_take hat)
      obtain ⟨t, ht⟩ : ∃ t, Hid (M.tot (zss.take k) = t) := ⟨_, rfl⟩
      rw [ht.out] at hts htk ⊢
      obtain ⟨g, hA⟩ := hWk.out.shape.2 (by omega)
      subst hA
      obtain ⟨h', hk', ho, hl⟩ := hWk.out.at_ (M.partM_hi (m := m) hat (Nat.lt_irrefl k))
      have hcl := hWk.out.cell hk'
      obtain ⟨g', mm, c'⟩ := h'
      simp only at hl hcl
      subst hl
      have HM := Lib.hid (markInts (some ⟨g', 0, none⟩) zs.length c' zs (m + (t : Int)) B wr rfl (by omega) (by omega) (by omega) ho)
      have Hat := Lib.hid hat
      have Hk' := Lib.hid hk'
      have hzr := hb.out.size
      clear hat hk' ho hkz
      go_wp2_with fail
      refine HM.out.mono ?_
      rintro e w7 ⟨rfl, ho7, hg7⟩
      have hW7 : Hid (Woods w7 B (.slice (some ⟨g, 0, none⟩) n c) hs (M.partM m zss (k + 1))) := by
        refine hWk.out.set Hk'.out (by rw [M.partM_len, M.partM_len]) (fun j hj => M.partM_other hj) (M.partM_lo Hat.out (Nat.lt_succ_self k)) ?_ hg7
        rw [ht.out]
        exact ho7
      have hb7 : Hid (Below B w w7) := hb.out.grown hg7 (by omega) (fun j e => by
        have h1 := (hWk.out.lt (List.mem_of_getElem? Hk'.out)).1
        have h2 : g' = j := by injection e
        simp only at h1
        omega)
      have hfr7 : Hid (∀ j, j < w.heap.size → (∀ h' ∈ hs, h'.1 ≠ j) → w7.heap[j]? = w.heap[j]?) := fun j hj hh => (hg7.block j (Nat.lt_of_lt_of_le hj hzr) (fun e => by
        have h2 : j = g' := by injection e
        exact hh _ (List.mem_of_getElem? Hk'.out) h2.symm)).trans (hfr.out j hj hh)
      clear HM ho7 hg7 hWk hb hcl hfr
      go_wp2
      go_roundw
      case rel => exact ⟨k + 1, by omega, by go_num, by rw [hts.out]; go_num, hW7, hb7, hfr7⟩
      case measure => simp [intOf]; omega
    · obtain rfl : k = n := by omega
      have hge : ¬ (k : Int) < (k : Int) := by omega
      have htot : Hid (M.tot (zss.take k) = M.tot zss) := by show _ = _; rw [List.take_of_length_le (by rw [hn.out]; exact Nat.le_refl _)]
      rw [htot.out]
      go_wp2
      go_ret
      exact ⟨rfl, hWk.out, hb.out, fun j hj hh => hfr.out j hj (fun h' hh' => hh h'.1 h'.2.1 h'.2.2 hh')⟩

set_option maxRecDepth 100000 in
set_option maxHeartbeats 2000000 in
theorem heldTreeS (A : Option Addr) (n c : Nat) (zss : List (List Int)) (m : Int) (w : World) (hn : Hid (zss.length = n)) (hn' : n ≤ 100000) (hz : Hid (∀ zs ∈ zss, zs.length ≤ 100000)) (hm : 0 ≤ m) (hm' : m ≤ 100000000000) (h : Hid (Trees w A (M.partM m zss n))) :
    Calls Try.prog 139 #[.slice A n c, .int .i64 m] w fun e w' => e = .returned (.int .i64 (m + (M.tot zss : Int))) ∧ Below w.heap.size w w' := by
  go_enter Try.func139, Try.ntmps139
  go_wp2
  go_loopw [1, 5] (fun q i wr => ∃ k : Nat, k ≤ n ∧ i = .int .i64 (k : Int) ∧ q = .int .i64 (m + (M.tot (zss.take k) : Int)) ∧ Hid (Below w.heap.size w wr)) (fun _ i _ => n - (intOf i).toNat)
  case atStart => exact ⟨0, Nat.zero_le _, rfl, by simp [M.tot], b0 w⟩
  case round =>
    obtain ⟨k, hk, rfl, rfl, hb⟩ := hrel
    by_cases hlt : k < n
    · have hki : (k : Int) < (n : Int) := by omega
      have hk0 : (0 : Int) ≤ (k : Int) := by omega
      have hkz : k < zss.length := by rw [hn.out]; exact hlt
      have hat : zss[k]? = some zss[k] := List.getElem?_eq_getElem hkz
      have hzk := hz.out _ (List.mem_of_getElem? hat)
      generalize zss[k] = zs at hat hzk
      have htk := M.tot_le (zss := zss.take k) (b := 100000) (fun z hz' => hz.out z (List.mem_of_mem_take hz'))
      have hkl : (zss.take k).length = k := by rw [List.length_take]; omega
      rw [hkl] at htk
      have hts := Lib.hid (M.tot_take hat)
      obtain ⟨t, ht⟩ : ∃ t, Hid (M.tot (zss.take k) = t) := ⟨_, rfl⟩
      have hpl := M.partM_lo (m := m) hat hlt
      rw [ht.out] at hts htk hpl ⊢
      obtain ⟨b, rfl, hbl, hc⟩ := h.out (by rw [M.partM_len]; omega)
      obtain ⟨A1, c1, h1, h2⟩ := hc k _ hpl
      rw [marks_length] at h1
      have hcl : wr.cell? ⟨b, k, none⟩ = some (.slice A1 zs.length c1) := (hb.out.cell (p := ⟨b, k, none⟩) hbl).trans h1
      have HM := Lib.hid (heldInts A1 zs.length c1 (m + (t : Int)) wr (by omega) (by omega) (by omega) (h2.be hb.out))
      have hpos : ¬ m + (t : Int) + (zs.length : Int) < 0 := by omega
      clear hat hkz hkl hc h1 h2 hpl
      go_wp2_with fail
      refine HM.out.mono ?_
      rintro e w7 ⟨rfl, rfl⟩
      go_wp2
      go_roundw
      case rel => exact ⟨k + 1, by omega, by go_num, by rw [hts.out]; go_num, hb⟩
      case measure => simp [intOf]; omega
    · obtain rfl : k = n := by omega
      have hge : ¬ (k : Int) < (k : Int) := by omega
      have htot : Hid (M.tot (zss.take k) = M.tot zss) := by show _ = _; rw [List.take_of_length_le (by rw [hn.out]; exact Nat.le_refl _)]
      rw [htot.out]
      go_wp2
      go_ret
      exact ⟨rfl, hb.out⟩
end Go.Proofs.Ytdgcjkgbglofbaa

/- JoinTrees, the program's and the model's: the tree with the trees of a list below its root, or a code. -/
namespace Go.Proofs.Ytdgcjkgbglofbaa
open Go.RowKit

namespace M
def joinP (zss : List (List Int)) (k : Nat) : List Int := (zss.length : Int) :: (zss.take k).flatten
theorem joinP_zero (zss : List (List Int)) : joinP zss 0 = [(zss.length : Int)] := by simp [joinP]
theorem joinP_succ {zss : List (List Int)} {k : Nat} {zs : List Int} (h : zss[k]? = some zs) : joinP zss (k + 1) = joinP zss k ++ zs := by
  simp [joinP, List.take_add_one, h]
theorem flat_len (l : List (List Int)) : l.flatten.length = tot l := by
  induction l with
  | nil => rfl
  | cons x r ih => simp only [List.flatten_cons, List.length_append, tot, ih]
theorem joinP_len (zss : List (List Int)) (k : Nat) : (joinP zss k).length = 1 + tot (zss.take k) := by simp only [joinP, List.length_cons, flat_len]; omega
end M

def F_JoinTrees (zss : List (List Int)) : List Int × Int := if ∀ zs ∈ zss, M.isTree zs = true then (if 1 + M.tot zss ≤ 24 then (M.joinP zss zss.length, 0) else ([], 3)) else ([], 1)
theorem F_JoinTrees_len (zss : List (List Int)) : (F_JoinTrees zss).1.length ≤ 1048576 := by
  rw [F_JoinTrees]
  split
  · split
    · show (M.joinP _ _).length ≤ _
      rw [M.joinP_len, List.take_length]
      omega
    · simp
  · simp

/-- a list of trees to a tree and a code -/
def GivesJoin (f : Nat) (F : List (List Int) → List Int × Int) : Prop :=
  ∀ (A : Option Addr) (zss : List (List Int)) (n c : Nat) (w : World), Hid (zss.length = n) → n ≤ 1048576 → Hid (∀ zs ∈ zss, zs.length ≤ 1048576) → Hid (Trees w A zss) →
    Calls Try.prog f #[.slice A n c] w fun e w' => ∃ A' c', e = .returned (.tuple #[.agg #[.slice A' (F zss).1.length c'], .int .i64 (F zss).2]) ∧ Own64 w' w.heap.size (.slice A' (F zss).1.length c') (F zss).1 ∧ Below w.heap.size w w'

theorem Trees.be' {w w' : World} {A : Option Addr} {zss : List (List Int)} (h : Trees w A zss) (hb : Below w.heap.size w w') : Trees w' A zss := h.be hb
theorem res_box (w : World) (o : Obj) : Hid ((w.alloc o).heap[w.heap.size]? = some o) := World.alloc_heap_new w o

set_option maxRecDepth 100000 in
set_option maxHeartbeats 4000000 in
theorem l01Join (A : Option Addr) (zss : List (List Int)) (n c : Nat) (w : World) (hn : Hid (zss.length = n)) (hn' : n ≤ 1048576) (ht : Hid (∀ zs ∈ zss, M.isTree zs = true)) (h : Hid (Trees w A zss)) :
    Calls Try.prog 206 #[.slice A n c] w fun e w' =>
      (1 + M.tot zss ≤ 24 → ∃ A' c', e = .returned (.tuple #[.agg #[.slice A' (M.joinP zss n).length c'], .bool true]) ∧ Own64 w' w.heap.size (.slice A' (M.joinP zss n).length c') (M.joinP zss n) ∧ Below w.heap.size w w') ∧
      (¬ 1 + M.tot zss ≤ 24 → e = .returned (.tuple #[.agg #[.slice none 0 0], .bool false]) ∧ Below w.heap.size w w') := by
  obtain ⟨W, hW⟩ : ∃ W, (w.alloc (.cells #[.slice none 0 0] 26)).alloc (.cells #[.int .i64 (n : Int)] 2) = W := ⟨_, rfl⟩
  have hWs : W.heap.size = w.heap.size + 1 + 1 := by rw [← hW]; simp
  have hR : Hid (W.heap[w.heap.size]? = some (.cells #[.slice none 0 0] 26 (0, 0))) := by rw [← hW]; exact (Below.heap_alloc _ _ _ (by simp)).trans (World.alloc_heap_new w _)
  have hst : Hid (Own64 W (w.heap.size + 1) (.slice (some ⟨w.heap.size + 1, 0, none⟩) 1 1) (M.joinP zss 0)) := by
    rw [← hW, M.joinP_zero, hn.out]
    have := World.ownsRow_lit (e := 2) (size := 1) (w.alloc (.cells #[.slice none 0 0] 26)) #[.int .i64 (n : Int)] 1 (Nat.le_refl _) (by simp [maxLen]) (by simp)
    simpa [Hid, Own64] using this
  have hBW : Hid (Below w.heap.size w W) := by rw [← hW]; exact bal (bal (b0 w) _) _
  have HW := Lib.hid hW
  clear hW
  go_enter Try.func206, Try.ntmps206
  go_wp2
  rw [HW.out]
  go_loopw [4, 5] (fun q i wr => ∃ (k m : Nat) (A' : Option Addr) (c' : Nat), k ≤ n ∧ i = .int .i64 (k : Int) ∧ q = .slice A' m c' ∧ Hid (m = 1 + M.tot (zss.take k)) ∧ (k = 0 ∨ m ≤ 24) ∧ m ≤ 24 ∧ Hid (Own64 wr (w.heap.size + 1) (.slice A' m c') (M.joinP zss k)) ∧ Hid (wr.heap[w.heap.size]? = some (.cells #[.slice none 0 0] 26 (0, 0))) ∧ Hid (Below w.heap.size w wr)) (fun _ i _ => n - (intOf i).toNat)
  case atStart => exact ⟨0, 1, _, 1, Nat.zero_le _, rfl, rfl, by simp [M.tot, Hid], .inl rfl, by omega, hst, hR, hBW⟩
  case round =>
    obtain ⟨k, m, A', c', hk, rfl, rfl, hm, _, hm24, ho, hres, hb⟩ := hrel
    clear hst hR hBW HW
    have hzr := hb.out.size
    have hzr2 := lt_of_block hres.out
    by_cases hlt : k < n
    · have hki : (k : Int) < (n : Int) := by omega
      have hk0 : (0 : Int) ≤ (k : Int) := by omega
      have hkz : k < zss.length := by rw [hn.out]; exact hlt
      have hat : zss[k]? = some zss[k] := List.getElem?_eq_getElem hkz
      have htk := ht.out _ (List.mem_of_getElem? hat)
      have hts := Lib.hid (M.tot_take hat)
      have hj := Lib.hid (M.joinP_succ hat)
      have hle := M.tot_take_le zss (k + 1)
      generalize zss[k] = zs at hat htk hts hj
      have hzl := M.tree_len htk
      obtain ⟨b, rfl, hbl, hc⟩ := h.out (by omega)
      obtain ⟨A1, c1, h1, h2⟩ := hc k zs hat
      have hcl : wr.cell? ⟨b, k, none⟩ = some (.slice A1 zs.length c1) := (hb.out.cell (p := ⟨b, k, none⟩) hbl).trans h1
      have hi1 : Hid (Ints wr wr.heap.size A1 zs) := h2.be hb.out
      obtain ⟨b1, off1, rfl, _⟩ := hi1.out (by omega)
      obtain ⟨L, hL⟩ : ∃ L, Hid (zs.length = L) := ⟨_, rfl⟩
      rw [hL.out] at hcl hts hzl
      clear hc h1 h2 hat hbl htk hkz
      by_cases hbig : m + L ≤ 24
      · have hbig2 : ¬ (24 : Int) < ((m + L : Nat) : Int) := by omega
        go_wp2_with (at_builtin; refine appendInts rfl (.tmp 15) (.tmp 20) rfl _ (w.heap.size + 1) A' m c' (M.joinP zss k) (some ⟨b1, off1, none⟩) L c1 zs rfl rfl ho hi1 hL (fun e => by cases e) (by omega) (by omega) (by omega) ?_; intro A2 c2 w2 ho2 hb2; have hbig3 := hbig2)
        have hres2 : Hid (w2.heap[w.heap.size]? = some (.cells #[.slice none 0 0] 26 (0, 0))) := (hb2.out.block _ (Nat.lt_succ_self _)).trans hres.out
        have hb3 : Hid (Below w.heap.size w w2) := hb.out.trans (hb2.out.mono (Nat.le_succ _))
        rw [← hj.out] at ho2
        have hm2 : Hid (m + L = 1 + M.tot (zss.take (k + 1))) := by show _ = _; rw [hts.out, hm.out]; omega
        clear ho hres hb hi1 hb2
        go_roundw
        case rel => exact ⟨k + 1, m + L, A2, c2, by omega, by go_num, rfl, hm2, .inr hbig, hbig, ho2, hres2, hb3⟩
        case measure => simp [intOf]; omega
      · have hbig2 : (24 : Int) < ((m + L : Nat) : Int) := by omega
        have hno : ¬ 1 + M.tot zss ≤ 24 := by have := hm.out; rw [hts.out] at hle; omega
        go_wp2_with (at_builtin; refine appendInts rfl (.tmp 15) (.tmp 20) rfl _ (w.heap.size + 1) A' m c' (M.joinP zss k) (some ⟨b1, off1, none⟩) L c1 zs rfl rfl ho hi1 hL (fun e => by cases e) (by omega) (by omega) (by omega) ?_; intro A2 c2 w2 ho2 hb2; have hbig3 := hbig2; have hres2 := (hb2.out.block w.heap.size (Nat.lt_succ_self _)).trans hres.out; have hr2 := cell_of_one hres2; have hf2 := free_of_one hres2)
        have hb3 : Below w.heap.size w w2 := hb.out.trans (hb2.out.mono (Nat.le_succ _))
        have e1 := (Boxed.set (.slice none 0 0) hres2).cell
        refine bodyPost_ret (v := .tuple #[.agg #[.slice none 0 0], .bool false]) (by simp [results, Try.results206, go_sem, e1]) rfl ?_
        exact ⟨fun e => absurd e hno, fun _ => ⟨rfl, below_setCell hb3 (Nat.le_refl _) _⟩⟩
    · obtain rfl : k = n := by omega
      have hge : ¬ (k : Int) < (k : Int) := by omega
      have htot : M.tot (zss.take k) = M.tot zss := by rw [List.take_of_length_le (by rw [hn.out]; exact Nat.le_refl _)]
      have hyes : Hid (1 + M.tot zss ≤ 24) := by show _ ≤ _; have := hm.out; rw [htot] at this; omega
      have hml : Hid ((M.joinP zss k).length = m) := by show _ = _; rw [M.joinP_len]; exact hm.out.symm
      have hr2 := cell_of_one hres.out
      have hf2 := free_of_one hres.out
      clear htot
      go_wp2
      have e1 := (Boxed.set (.slice A' m c') hres.out).cell
      refine bodyPost_ret (v := .tuple #[.agg #[.slice A' m c'], .bool true]) (by simp [results, Try.results206, go_sem, e1]) rfl ?_
      refine ⟨fun _ => ⟨A', c', ?_, ?_, below_setCell hb.out (Nat.le_refl _) _⟩, fun e => absurd hyes.out (by omega)⟩
      · rw [hml.out]
      · rw [hml.out]; exact own_mono (own_far ho.out (Nat.lt_succ_self _) _) (Nat.le_succ _)

theorem F_join_bad {zss : List (List Int)} {zs : List Int} (h : zs ∈ zss) (ht : M.isTree zs = false) : F_JoinTrees zss = ([], 1) := by
  rw [F_JoinTrees, if_neg]
  intro h'
  rw [h' zs h] at ht
  cases ht
theorem F_join_yes {zss : List (List Int)} (h : ∀ zs ∈ zss, M.isTree zs = true) (h2 : 1 + M.tot zss ≤ 24) : F_JoinTrees zss = (M.joinP zss zss.length, 0) := by rw [F_JoinTrees, if_pos h, if_pos h2]
theorem F_join_no {zss : List (List Int)} (h : ∀ zs ∈ zss, M.isTree zs = true) (h2 : ¬ 1 + M.tot zss ≤ 24) : F_JoinTrees zss = ([], 3) := by rw [F_JoinTrees, if_pos h, if_neg h2]
theorem all_take {zss : List (List Int)} {n : Nat} (hn : zss.length = n) (h : ∀ j zs, j < n → zss[j]? = some zs → M.isTree zs = true) : ∀ zs ∈ zss, M.isTree zs = true := fun zs hz => by
  obtain ⟨j, hj⟩ := List.getElem?_of_mem hz
  exact h j zs (by rw [← hn]; exact (List.getElem?_eq_some_iff.1 hj).1) hj

set_option maxRecDepth 100000 in
set_option maxHeartbeats 4000000 in
theorem spec_JoinTrees : GivesJoin 63 F_JoinTrees := by
  intro A zss n c w hn hn' hz h
  obtain ⟨W, hW⟩ : ∃ W, w.alloc (.cells #[.slice none 0 0] 26) = W := ⟨_, rfl⟩
  have hWs : W.heap.size = w.heap.size + 1 := by rw [← hW]; simp
  have hR : Hid (W.heap[w.heap.size]? = some (.cells #[.slice none 0 0] 26 (0, 0))) := by rw [← hW]; exact World.alloc_heap_new w _
  have hBW : Hid (Below w.heap.size w W) := by rw [← hW]; exact bal (b0 w) _
  have HW := Lib.hid hW
  clear hW
  go_enter Try.func63, Try.ntmps63
  go_wp2
  rw [HW.out]
  go_loopw [4] (fun i wr => ∃ (k : Nat), k ≤ n ∧ i = .int .i64 (k : Int) ∧ Hid (∀ j zs, j < k → zss[j]? = some zs → M.isTree zs = true) ∧ Hid (wr.heap[w.heap.size]? = some (.cells #[.slice none 0 0] 26 (0, 0))) ∧ Hid (Below w.heap.size w wr)) (fun i _ => n - (intOf i).toNat)
  case atStart => exact ⟨0, Nat.zero_le _, rfl, fun j zs hj => by omega, hR, hBW⟩
  case round =>
    obtain ⟨k, hk, rfl, hall, hres, hb⟩ := hrel
    clear hR hBW HW
    have hzr := lt_of_block hres.out
    by_cases hlt : k < n
    · have hki : (k : Int) < (n : Int) := by omega
      have hk0 : (0 : Int) ≤ (k : Int) := by omega
      have hkz : k < zss.length := by rw [hn.out]; exact hlt
      have hat : zss[k]? = some zss[k] := List.getElem?_eq_getElem hkz
      have hzk := hz.out _ (List.mem_of_getElem? hat)
      generalize zss[k] = zs at hat hzk
      obtain ⟨b, rfl, hbl, hc⟩ := h.out (by omega)
      obtain ⟨A1, c1, h1, h2⟩ := hc k zs hat
      have hcl : wr.cell? ⟨b, k, none⟩ = some (.slice A1 zs.length c1) := (hb.out.cell (p := ⟨b, k, none⟩) hbl).trans h1
      have HIs := Lib.hid (specIs A1 zs c1 wr (by omega) (h2.be hb.out))
      have Hat := Lib.hid hat
      clear hc h1 h2 hat hbl hkz
      cases ht : M.isTree zs
      · rw [ht] at HIs
        have hF := Lib.hid (F_join_bad (List.mem_of_getElem? Hat.out) ht)
        clear ht
        go_wp2_with fail
        refine HIs.out.mono ?_
        rintro e w7 ⟨rfl, hb7⟩
        have hres7 := (hb7.block w.heap.size hzr).trans hres.out
        have hr2 := cell_of_one hres7
        have hf2 := free_of_one hres7
        have hB := Lib.hid (btr hb.out hb7)
        clear hb7 hcl
        go_wp2
        have e1 := (Boxed.set (.slice none 0 0) hres7).cell
        refine bodyPost_ret (v := .tuple #[.agg #[.slice none 0 0], .int .i64 1]) (by simp [results, Try.results63, go_sem, e1]) rfl ?_
        rw [hF.out]
        exact ⟨none, 0, rfl, own64_nil _ _, below_setCell hB.out (Nat.le_refl _) _⟩
      · rw [ht] at HIs
        have hall2 : Hid (∀ j zs', j < k + 1 → zss[j]? = some zs' → M.isTree zs' = true) := fun j zs' hj hz' => by
          rcases Nat.lt_or_ge j k with h5 | h5
          · exact hall.out j zs' h5 hz'
          · obtain rfl : j = k := by omega
            rw [Hat.out] at hz'
            injection hz' with hz'
            rw [← hz']
            exact ht
        clear ht
        go_wp2_with fail
        refine HIs.out.mono ?_
        rintro e w7 ⟨rfl, hb7⟩
        have hres7 := Lib.hid ((hb7.block w.heap.size hzr).trans hres.out)
        have hB := Lib.hid (btr hb.out hb7)
        clear hb7 hcl hall hres hb HIs
        go_wp2
        go_roundw
        case rel => exact ⟨k + 1, by omega, by go_num, hall2, hres7, hB⟩
        case measure => simp [intOf]; omega
    · obtain rfl : k = n := by omega
      have hge : ¬ (k : Int) < (k : Int) := by omega
      have hA := Lib.hid (all_take hn.out hall.out)
      have hJ := Lib.hid (l01Join A zss k c wr hn hn' hA (h.out.be' hb.out))
      clear hall
      go_wp2_with fail
      refine hJ.out.mono ?_
      rintro e w7 ⟨hp1, hp2⟩
      by_cases hsm : 1 + M.tot zss ≤ 24
      · obtain ⟨A7, c7, rfl, ho7, hb7⟩ := hp1 hsm
        have hF := Lib.hid (F_join_yes hA.out hsm)
        rw [hn.out] at hF
        obtain ⟨J, hJe⟩ : ∃ J, Hid (M.joinP zss k = J) := ⟨_, rfl⟩
        rw [hJe.out] at hF ho7 ⊢
        have hres7 := (hb7.block w.heap.size hzr).trans hres.out
        have hres8 : (w7.alloc (.cells #[.slice A7 J.length c7] 26)).heap[w.heap.size]? = some (.cells #[.slice none 0 0] 26 (0, 0)) := (Below.heap_alloc _ _ _ (lt_of_block hres7)).trans hres7
        have hr2 := cell_of_one hres8
        have hf2 := free_of_one hres8
        have hB := Lib.hid (bal (btr hb.out hb7) (.cells #[.slice A7 J.length c7] 26))
        have Ho7 := Lib.hid (ho7.alloc (.cells #[.slice A7 J.length c7] 26))
        clear hb7 ho7 hp1 hp2 hsm
        go_wp2
        have e1 := (Boxed.set (.slice A7 J.length c7) hres8).cell
        refine bodyPost_ret (v := .tuple #[.agg #[.slice A7 J.length c7], .int .i64 0]) (by simp [results, Try.results63, go_sem, e1]) rfl ?_
        rw [hF.out]
        exact ⟨A7, c7, rfl, own_mono (own_far Ho7.out hzr _) (by omega), below_setCell hB.out (Nat.le_refl _) _⟩
      · obtain ⟨rfl, hb7⟩ := hp2 hsm
        have hF := Lib.hid (F_join_no hA.out hsm)
        have hres7 := (hb7.block w.heap.size hzr).trans hres.out
        have hres8 : (w7.alloc (.cells #[.slice none 0 0] 26)).heap[w.heap.size]? = some (.cells #[.slice none 0 0] 26 (0, 0)) := (Below.heap_alloc _ _ _ (lt_of_block hres7)).trans hres7
        have hr2 := cell_of_one hres8
        have hf2 := free_of_one hres8
        have hB := Lib.hid (bal (btr hb.out hb7) (.cells #[.slice none 0 0] 26))
        clear hb7 hp1 hp2 hsm
        go_wp2
        have e1 := (Boxed.set (.slice none 0 0) hres8).cell
        refine bodyPost_ret (v := .tuple #[.agg #[.slice none 0 0], .int .i64 3]) (by simp [results, Try.results63, go_sem, e1]) rfl ?_
        rw [hF.out]
        exact ⟨none, 0, rfl, own64_nil _ _, below_setCell hB.out (Nat.le_refl _) _⟩

set_option maxRecDepth 100000 in
set_option maxHeartbeats 4000000 in
theorem impl_JoinTrees : GivesJoin 62 F_JoinTrees := by
  intro A zss n c w hn hn' hz h
  obtain ⟨W, hW⟩ : ∃ W, w.alloc (.cells #[.slice none 0 0] 26) = W := ⟨_, rfl⟩
  have hWs : W.heap.size = w.heap.size + 1 := by rw [← hW]; simp
  have hR : Hid (W.heap[w.heap.size]? = some (.cells #[.slice none 0 0] 26 (0, 0))) := by rw [← hW]; exact World.alloc_heap_new w _
  have hBW : Hid (Below w.heap.size w W) := by rw [← hW]; exact bal (b0 w) _
  have HW := Lib.hid hW
  clear hW
  go_enter Try.func62, Try.ntmps62
  go_wp2
  rw [HW.out]
  go_loopw [4, 12] (fun q i wr => ∃ (k : Nat), k ≤ n ∧ i = .int .i64 (k : Int) ∧ q = .int .i64 (1 + (M.tot (zss.take k) : Int)) ∧ Hid (∀ j zs, j < k → zss[j]? = some zs → M.isTree zs = true) ∧ Hid (M.tot (zss.take k) ≤ 24 * k) ∧ Hid (wr.heap[w.heap.size]? = some (.cells #[.slice none 0 0] 26 (0, 0))) ∧ Hid (Below w.heap.size w wr)) (fun _ i _ => n - (intOf i).toNat)
  case atStart => exact ⟨0, Nat.zero_le _, rfl, by simp [M.tot], fun j zs hj => by omega, by simp [M.tot, Hid], hR, hBW⟩
  case round =>
    obtain ⟨k, hk, rfl, rfl, hall, htl, hres, hb⟩ := hrel
    clear hR hBW HW
    have hzr := lt_of_block hres.out
    by_cases hlt : k < n
    · have hki : (k : Int) < (n : Int) := by omega
      have hk0 : (0 : Int) ≤ (k : Int) := by omega
      have hkz : k < zss.length := by rw [hn.out]; exact hlt
      have hat : zss[k]? = some zss[k] := List.getElem?_eq_getElem hkz
      have hzk := hz.out _ (List.mem_of_getElem? hat)
      have hts := Lib.hid (M.tot_take hat)
      generalize zss[k] = zs at hat hzk hts
      obtain ⟨b, rfl, hbl, hc⟩ := h.out (by omega)
      obtain ⟨A1, c1, h1, h2⟩ := hc k zs hat
      have hcl : wr.cell? ⟨b, k, none⟩ = some (.slice A1 zs.length c1) := (hb.out.cell (p := ⟨b, k, none⟩) hbl).trans h1
      have HIs := Lib.hid (implIsTree A1 zs c1 (wr.alloc (.cells #[.slice A1 zs.length c1] 26)) (by omega) ((h2.be hb.out).al _))
      have hres1 : Hid ((wr.alloc (.cells #[.slice A1 zs.length c1] 26)).heap[w.heap.size]? = some (.cells #[.slice none 0 0] 26 (0, 0))) := (Below.heap_alloc _ _ _ hzr).trans hres.out
      have hbx : Hid (Boxed (wr.alloc (.cells #[.slice A1 zs.length c1] 26)) wr.heap.size 26 (.slice A1 zs.length c1)) := Boxed.new _ _ _
      have Hat := Lib.hid hat
      clear hc h1 h2 hat hbl hkz
      cases ht : M.isTree zs
      · rw [ht] at HIs
        have hF := Lib.hid (F_join_bad (List.mem_of_getElem? Hat.out) ht)
        clear ht
        go_wp2_with fail
        refine HIs.out.mono ?_
        rintro e w7 ⟨rfl, hb7⟩
        have hres7 := (hb7.block w.heap.size (lt_of_block hres1.out)).trans hres1.out
        have hr2 := cell_of_one hres7
        have hf2 := free_of_one hres7
        have hB := Lib.hid (btr (bal hb.out _) hb7)
        clear hb7 hcl
        go_wp2
        have e1 := (Boxed.set (.slice none 0 0) hres7).cell
        refine bodyPost_ret (v := .tuple #[.agg #[.slice none 0 0], .int .i64 1]) (by simp [results, Try.results62, go_sem, e1]) rfl ?_
        rw [hF.out]
        exact ⟨none, 0, rfl, own64_nil _ _, below_setCell hB.out (Nat.le_refl _) _⟩
      · rw [ht] at HIs
        have hall2 : Hid (∀ j zs', j < k + 1 → zss[j]? = some zs' → M.isTree zs' = true) := fun j zs' hj hz' => by
          rcases Nat.lt_or_ge j k with h5 | h5
          · exact hall.out j zs' h5 hz'
          · obtain rfl : j = k := by omega
            rw [Hat.out] at hz'
            injection hz' with hz'
            rw [← hz']
            exact ht
        have hz24 := (M.tree_len ht).2
        obtain ⟨t, ht'⟩ : ∃ t, Hid (M.tot (zss.take k) = t) := ⟨_, rfl⟩
        rw [ht'.out] at hts htl ⊢
        have htl' := htl.out
        have htl2 : Hid (M.tot (zss.take (k + 1)) ≤ 24 * (k + 1)) := by show _ ≤ _; rw [hts.out]; omega
        clear ht
        go_wp2_with fail
        refine HIs.out.mono ?_
        rintro e w7 ⟨rfl, hb7⟩
        have hres7 := Lib.hid ((hb7.block w.heap.size (lt_of_block hres1.out)).trans hres1.out)
        have hB := Lib.hid (btr (bal hb.out _) hb7)
        have cB := (show Boxed w7 wr.heap.size 26 (.slice A1 zs.length c1) from (hb7.block _ hbx.out.lt).trans hbx.out).cell
        clear hb7 hcl hall hres hb HIs hres1 hbx
        go_wp2
        go_roundw
        case rel => exact ⟨k + 1, by omega, by go_num, by rw [hts.out]; go_num, hall2, htl2, hres7, hB⟩
        case measure => simp [intOf]; omega
    · obtain rfl : k = n := by omega
      have hge : ¬ (k : Int) < (k : Int) := by omega
      have hA := Lib.hid (all_take hn.out hall.out)
      have htot : Hid (M.tot (zss.take k) = M.tot zss) := by show _ = _; rw [List.take_of_length_le (by rw [hn.out]; exact Nat.le_refl _)]
      rw [htot.out] at htl ⊢
      by_cases hsm : 1 + M.tot zss ≤ 24
      · have hF := Lib.hid (F_join_yes hA.out hsm)
        rw [hn.out] at hF
        have hsm2 : ¬ (24 : Int) < 1 + (M.tot zss : Int) := by omega
        have hst : Hid (Own64 (wr.alloc (.cells #[.int .i64 (k : Int)] 2)) wr.heap.size (.slice (some ⟨wr.heap.size, 0, none⟩) 1 1) (M.joinP zss 0)) := by
          rw [M.joinP_zero, hn.out]
          have := World.ownsRow_lit (e := 2) (size := 1) wr #[.int .i64 (k : Int)] 1 (Nat.le_refl _) (by simp [maxLen]) (by simp)
          simpa [Hid, Own64] using this
        have hres1 : Hid ((wr.alloc (.cells #[.int .i64 (k : Int)] 2)).heap[w.heap.size]? = some (.cells #[.slice none 0 0] 26 (0, 0))) := (Below.heap_alloc _ _ _ hzr).trans hres.out
        have hb1 : Hid (Below w.heap.size w (wr.alloc (.cells #[.int .i64 (k : Int)] 2))) := bal hb.out _
        have Hsm := Lib.hid hsm
        have hzn : zss.length = k := hn.out
        have hzs0 : wr.heap.size ≤ (wr.alloc (.cells #[.int .i64 (k : Int)] 2)).heap.size := by simp
        obtain ⟨B0, hB0⟩ : ∃ B0, Hid (wr.heap.size = B0) := ⟨_, rfl⟩
        obtain ⟨v0, hv0⟩ : ∃ v0, Hid (Value.slice (some ⟨wr.heap.size, 0, none⟩) 1 1 = v0) := ⟨_, rfl⟩
        have hst2 : Hid (Own64 (wr.alloc (.cells #[.int .i64 (k : Int)] 2)) B0 (.slice (some ⟨wr.heap.size, 0, none⟩) 1 1) (M.joinP zss 0)) := by rw [← hB0.out]; exact hst
        rw [hB0.out] at hzr hzs0
        clear hsm hall hres hb hst hv0
        go_wp2
        go_loopw [7, 34] (fun q i wx => ∃ (j : Nat) (A' : Option Addr) (c' m : Nat), j ≤ k ∧ i = .int .i64 (j : Int) ∧ q = .slice A' m c' ∧ Hid (m = 1 + M.tot (zss.take j)) ∧ m ≤ 24 ∧ Hid (Own64 wx B0 (.slice A' m c') (M.joinP zss j)) ∧ Hid (wx.heap[w.heap.size]? = some (.cells #[.slice none 0 0] 26 (0, 0))) ∧ B0 ≤ wx.heap.size ∧ Hid (Below w.heap.size w wx)) (fun _ i _ => k - (intOf i).toNat)
        case atStart => exact ⟨0, _, 1, 1, Nat.zero_le _, rfl, rfl, by simp [M.tot, Hid], by omega, hst2, hres1, hzs0, hb1⟩
        case round =>
          obtain ⟨j, A', c', m, hj, rfl, rfl, hm, hm24, ho, hres, hzx, hb⟩ := hrel
          clear hst2 hres1 hb1 hzs0
          have hsm := Hsm.out
          by_cases hlt2 : j < k
          · have hji : (j : Int) < (k : Int) := by omega
            have hj0 : (0 : Int) ≤ (j : Int) := by omega
            have hjz : j < zss.length := by omega
            have hat : zss[j]? = some zss[j] := List.getElem?_eq_getElem hjz
            have htk := hA.out _ (List.mem_of_getElem? hat)
            have hts := Lib.hid (M.tot_take hat)
            have hjj := Lib.hid (M.joinP_succ hat)
            have hle := M.tot_take_le zss (j + 1)
            generalize zss[j] = zs at hat htk hts hjj
            have hzl := M.tree_len htk
            obtain ⟨b, rfl, hbl, hc⟩ := h.out (by omega)
            obtain ⟨A1, c1, h1, h2⟩ := hc j zs hat
            obtain ⟨L, hL⟩ : ∃ L, Hid (zs.length = L) := ⟨_, rfl⟩
            have hcl := (hb.out.cell (p := ⟨b, j, none⟩) hbl).trans h1
            rw [hL.out] at hcl hts hzl
            obtain ⟨b1, off1, rfl, _⟩ := h2 (by have := hL.out; omega)
            have hi1 : Hid (Ints (wr.alloc (.cells #[.slice (some ⟨b1, off1, none⟩) L c1] 26)) (wr.alloc (.cells #[.slice (some ⟨b1, off1, none⟩) L c1] 26)).heap.size (some ⟨b1, off1, none⟩) zs) := (h2.be hb.out).al _
            have ho1 : Hid (Own64 (wr.alloc (.cells #[.slice (some ⟨b1, off1, none⟩) L c1] 26)) B0 (.slice A' m c') (M.joinP zss j)) := ho.out.alloc _
            have hzx1 : B0 ≤ (wr.alloc (.cells #[.slice (some ⟨b1, off1, none⟩) L c1] 26)).heap.size := by simp; omega
            have hres1 : Hid ((wr.alloc (.cells #[.slice (some ⟨b1, off1, none⟩) L c1] 26)).heap[w.heap.size]? = some (.cells #[.slice none 0 0] 26 (0, 0))) := (Below.heap_alloc _ _ _ (lt_of_block hres.out)).trans hres.out
            have hb1 : Hid (Below w.heap.size w (wr.alloc (.cells #[.slice (some ⟨b1, off1, none⟩) L c1] 26))) := bal hb.out _
            have hm2 : Hid (m + L = 1 + M.tot (zss.take (j + 1))) := by show _ = _; rw [hts.out, hm.out]; omega
            have hml : m + L ≤ 24 := by have := hm2.out; omega
            clear hc h1 h2 hat hbl htk hjz ho hres hb hm hsm hle hsm2
            go_wp2_with (at_builtin; refine appendInts rfl (.tmp 38) (.tmp 40) rfl _ B0 A' m c' (M.joinP zss j) (some ⟨b1, off1, none⟩) L c1 zs rfl rfl ho1 hi1 hL (fun e => by cases e) hzx1 (by omega) (by omega) ?_; intro A2 c2 w2 ho2 hb2)
            have hres2 : Hid (w2.heap[w.heap.size]? = some (.cells #[.slice none 0 0] 26 (0, 0))) := (hb2.out.block _ hzr).trans hres1.out
            have hb3 : Hid (Below w.heap.size w w2) := hb1.out.trans (hb2.out.mono (by omega))
            have hzx2 : B0 ≤ w2.heap.size := Nat.le_trans hzx1 hb2.out.size
            rw [← hjj.out] at ho2
            clear ho1 hres1 hb1 hi1 hb2 hzx1
            go_roundw
            case rel => exact ⟨j + 1, A2, c2, m + L, by omega, by go_num, rfl, hm2, hml, ho2, hres2, hzx2, hb3⟩
            case measure => simp [intOf]; omega
          · obtain rfl : j = k := by omega
            have hge2 : ¬ (j : Int) < (j : Int) := by omega
            have hJl : Hid ((M.joinP zss j).length = m) := by show _ = _; rw [M.joinP_len]; exact hm.out.symm
            have hr2 := cell_of_one hres.out
            have hf2 := free_of_one hres.out
            go_wp2
            have e1 := (Boxed.set (.slice A' m c') hres.out).cell
            refine bodyPost_ret (v := .tuple #[.agg #[.slice A' m c'], .int .i64 0]) (by simp [results, Try.results62, go_sem, e1]) rfl ?_
            rw [hF.out]
            show ∃ A'' c'', Ending.returned (.tuple #[.agg #[.slice A' m c'], .int .i64 0]) = .returned (.tuple #[.agg #[.slice A'' (M.joinP zss j).length c''], .int .i64 0]) ∧ Own64 _ _ (.slice A'' (M.joinP zss j).length c'') (M.joinP zss j) ∧ _
            rw [hJl.out]
            exact ⟨A', c', rfl, own_mono (own_far ho.out hzr _) (by omega), below_setCell hb.out (Nat.le_refl _) _⟩
      · have hF := Lib.hid (F_join_no hA.out hsm)
        have hsm2 : (24 : Int) < 1 + (M.tot zss : Int) := by omega
        have hr2 := cell_of_one hres.out
        have hf2 := free_of_one hres.out
        clear hsm
        go_wp2
        have e1 := (Boxed.set (.slice none 0 0) hres.out).cell
        refine bodyPost_ret (v := .tuple #[.agg #[.slice none 0 0], .int .i64 3]) (by simp [results, Try.results62, go_sem, e1]) rfl ?_
        rw [hF.out]
        exact ⟨none, 0, rfl, own64_nil _ _, below_setCell hb.out (Nat.le_refl _) _⟩
end Go.Proofs.Ytdgcjkgbglofbaa

/- Texts of trees: the mathematics. No program is named here. -/
namespace Go.Proofs.Ytdgcjkgbglofbaa.M
theorem go_span : ∀ (l : List Int) (o : Int), 0 ≤ o → ok o l → isGo o (l.take (span o l)) = true := by
  intro l
  induction l with
  | nil => intro o h0 h; simp only [ok] at h; simp [span, isGo]; omega
  | cons d r ih =>
    intro o h0 h
    by_cases ho : o ≤ 0
    · rw [span_stop ho]; simp [isGo]; omega
    · rcases h with h | ⟨h1, h2, h3⟩
      · omega
      · rw [span, if_neg ho, List.take_succ_cons, isGo, if_neg (by simp [h1, h2]; omega)]
        exact ih _ (by omega) h3
theorem sub_tree {xs : List Int} (h : isTree xs = true) {v : Nat} (hv : v < xs.length) : isTree (sub xs v) = true := by
  have h1 := go_span _ 1 (by omega) (tree_ok h hv)
  have h2 := span_pos hv
  have h3 := end_le (xs := xs) (v := v) (by omega)
  have h4 := (tree_len h).2
  simp only [isTree, Bool.and_eq_true, decide_eq_true_eq, sub_length]
  exact ⟨⟨h2, by omega⟩, h1⟩
/-- the text of a tree, f levels deep at most -/
def textL : Nat → List Int → ByteArray
  | 0, _ => ByteArray.empty
  | f + 1, xs => (List.range (xs[0]?.getD 0).toNat).foldl (fun a i => a ++ textL f (sub xs (kidAt xs 0 i))) (ByteArray.mk #[40]) ++ ByteArray.mk #[41]
/-- that of the first k children, with what opens it -/
def textK (f : Nat) (xs : List Int) (k : Nat) : ByteArray := (List.range k).foldl (fun a i => a ++ textL f (sub xs (kidAt xs 0 i))) (ByteArray.mk #[40])
theorem textK_zero (f : Nat) (xs : List Int) : textK f xs 0 = ByteArray.mk #[40] := rfl
theorem textK_succ (f : Nat) (xs : List Int) (k : Nat) : textK f xs (k + 1) = textK f xs k ++ textL f (sub xs (kidAt xs 0 k)) := by simp [textK, List.range_succ, List.foldl_append]
theorem textL_at {f : Nat} {xs : List Int} {d : Nat} (h : xs[0]? = some (d : Int)) : textL (f + 1) xs = textK f xs d ++ ByteArray.mk #[41] := by rw [textL, h]; rfl
/-- the subtrees below the root end the list -/
theorem kids_all {xs : List Int} (ht : isTree xs = true) {d : Nat} (hd : xs[0]? = some (d : Int)) : kidAt xs 0 d = xs.length := by
  have h := kid_due ht hd d (by omega)
  have h2 : due xs 0 = 1 := by simp [due, bal]
  rcases Nat.lt_or_ge (kidAt xs 0 d) xs.length with h3 | h3
  · have := due_pos ht h3; omega
  · omega
theorem sub_short {xs : List Int} (ht : isTree xs = true) {d : Nat} (hd : xs[0]? = some (d : Int)) {i : Nat} (hi : i < d) : (sub xs (kidAt xs 0 i)).length < xs.length := by
  have h1 := (kid_due ht hd i (by omega)).2.2
  have h2 := kid_lt ht hd (i := i) (by omega)
  have h3 := end_le (xs := xs) (v := kidAt xs 0 i) (by omega)
  rw [sub_length]; omega
theorem open_size : (ByteArray.mk #[40]).size = 1 := by decide
theorem close_size : (ByteArray.mk #[41]).size = 1 := by decide
theorem textL_size : ∀ (f : Nat) (xs : List Int), isTree xs = true → xs.length ≤ f → (textL f xs).size = 2 * xs.length := by
  intro f
  induction f with
  | zero => intro xs ht h; have := (tree_len ht).1; omega
  | succ f ih =>
    intro xs ht hf
    have hl := tree_len ht
    obtain ⟨d, hd, _⟩ := tree_degN ht (v := 0) (by omega)
    have hK : ∀ k, k ≤ d → (textK f xs k).size + 1 = 2 * kidAt xs 0 k := by
      intro k
      induction k with
      | zero => intro _; rw [textK_zero, open_size]; simp [kidAt]
      | succ k ihk =>
        intro hk
        have h1 := sub_short ht hd (i := k) (by omega)
        have h2 := kid_lt ht hd (i := k) (by omega)
        rw [textK_succ, ByteArray.size_append, ih _ (sub_tree ht h2) (by omega), sub_length]
        have := ihk (by omega)
        simp only [kidAt]
        omega
    have h1 := hK d (Nat.le_refl _)
    rw [kids_all ht hd] at h1
    rw [textL_at hd, ByteArray.size_append, close_size]
    omega
theorem textK_size {f : Nat} {xs : List Int} (ht : isTree xs = true) (hf : xs.length ≤ f + 1) {d : Nat} (hd : xs[0]? = some (d : Int)) : ∀ k, k ≤ d → (textK f xs k).size + 1 = 2 * kidAt xs 0 k := by
  intro k
  induction k with
  | zero => intro _; rw [textK_zero, open_size]; simp [kidAt]
  | succ k ihk =>
    intro hk
    have h1 := sub_short ht hd (i := k) (by omega)
    have h2 := kid_lt ht hd (i := k) (by omega)
    rw [textK_succ, ByteArray.size_append, textL_size f _ (sub_tree ht h2) (by omega), sub_length]
    have := ihk (by omega)
    simp only [kidAt]
    omega
end Go.Proofs.Ytdgcjkgbglofbaa.M

/- Trees come back from their texts: the mathematics. No program is named here. -/
namespace Go.Proofs.Ytdgcjkgbglofbaa.M
def bytes (s : ByteArray) : List Int := s.data.toList.map fun b => (b.toNat : Int)
theorem bytes_append (a b : ByteArray) : bytes (a ++ b) = bytes a ++ bytes b := by simp [bytes]
theorem bytes_open : bytes (ByteArray.mk #[40]) = [40] := by decide
theorem bytes_close : bytes (ByteArray.mk #[41]) = [41] := by decide
theorem bytes_length (s : ByteArray) : (bytes s).length = s.size := by simp [bytes]
theorem prun_cons {ds st ds' st' r : List Int} {c : Int} (hs : pstep ds st c = some (ds', st')) : prun ds st (c :: r) = prun ds' st' r := by rw [prun, hs]
/-- what the text of a tree does to a state with an open node p, and to the beginning -/
def ReadAt (T : ByteArray) (xs : List Int) : Prop :=
  ∀ (rest : List Int), (∀ (ds st : List Int) (p : Nat) (x : Int), ds[p]? = some x → prun ds (st ++ [(p : Int)]) (bytes T ++ rest) = prun (ds.set p (x + 1) ++ xs) (st ++ [(p : Int)]) rest) ∧ prun [] [] (bytes T ++ rest) = prun xs [] rest
theorem read_inner {f : Nat} {xs : List Int} {d : Nat} (ht : isTree xs = true) (hd : xs[0]? = some (d : Int)) (ih : ∀ k, k < d → ReadAt (textL f (sub xs (kidAt xs 0 k))) (sub xs (kidAt xs 0 k))) (dn st : List Int) :
    ∀ k, k ≤ d → ∃ B, bytes (textK f xs k) = 40 :: B ∧ ∀ rest, prun (dn ++ [0]) (st ++ [(dn.length : Int)]) (B ++ rest) = prun (dn ++ ((k : Int) :: (xs.drop 1).take (kidAt xs 0 k - 1))) (st ++ [(dn.length : Int)]) rest := by
  intro k
  induction k with
  | zero =>
    intro _
    exact ⟨[], by rw [textK_zero, bytes_open], fun rest => by simp [kidAt]⟩
  | succ k ihk =>
    intro hk
    obtain ⟨B, h1, h2⟩ := ihk (by omega)
    refine ⟨B ++ bytes (textL f (sub xs (kidAt xs 0 k))), by rw [textK_succ, bytes_append, h1]; rfl, fun rest => ?_⟩
    rw [List.append_assoc, h2]
    have h3 := (kid_due ht hd k (by omega)).2.2
    rw [((ih k (by omega)) rest).1 _ st dn.length k (by simp)]
    congr 1
    have e : (xs.drop 1).take (kidAt xs 0 (k + 1) - 1) = (xs.drop 1).take (kidAt xs 0 k - 1) ++ sub xs (kidAt xs 0 k) := by
      rw [kidAt, show kidAt xs 0 k + span 1 (xs.drop (kidAt xs 0 k)) - 1 = (kidAt xs 0 k - 1) + span 1 (xs.drop (kidAt xs 0 k)) by omega, List.take_add, List.drop_drop, show 1 + (kidAt xs 0 k - 1) = kidAt xs 0 k by omega]
      rfl
    rw [e]
    simp
theorem text_read : ∀ (f : Nat) (xs : List Int), isTree xs = true → xs.length ≤ f → ReadAt (textL f xs) xs := by
  intro f
  induction f with
  | zero => intro xs ht h; have := (tree_len ht).1; omega
  | succ f ih =>
    intro xs ht hf rest
    have hl := tree_len ht
    obtain ⟨d, hd, _⟩ := tree_degN ht (v := 0) (by omega)
    have hin := fun dn st => read_inner (f := f) ht hd (fun k hk => ih _ (sub_tree ht (kid_lt ht hd (i := k) (by omega))) (by have := sub_short ht hd hk; omega)) dn st d (Nat.le_refl _)
    have hxs : (d : Int) :: (xs.drop 1).take (kidAt xs 0 d - 1) = xs := by
      rw [kids_all ht hd, List.take_of_length_le (by simp)]
      exact (drop_at hd).symm
    have hb : ∀ B, bytes (textK f xs d) = 40 :: B → bytes (textL (f + 1) xs) ++ rest = 40 :: (B ++ (41 :: rest)) := fun B hB => by
      rw [textL_at hd, bytes_append, hB, bytes_close]; simp
    refine ⟨fun ds st p x hx => ?_, ?_⟩
    · obtain ⟨B, h1, h2⟩ := hin (ds.set p (x + 1)) (st ++ [(p : Int)])
      have hs := pstep_open (ds := ds) (st := st ++ [(p : Int)]) (p := (p : Int)) (d := x) (by simp) (by simpa using hx)
      rw [Int.toNat_natCast] at hs
      rw [hb B h1, prun_cons hs, show (ds.length : Int) = ((ds.set p (x + 1)).length : Int) by simp, h2, hxs, prun_cons (pstep_close (by simp))]
      simp
    · obtain ⟨B, h1, h2⟩ := hin [] []
      have h3 := h2 (41 :: rest)
      simp only [List.nil_append, List.length_nil] at h3
      rw [hb B h1, prun_cons pstep_first]
      rw [show ((0 : Nat) : Int) = 0 from rfl] at h3
      rw [h3, hxs, prun_cons (pstep_close (by simp))]
      rfl
theorem text_back {f : Nat} {xs : List Int} (ht : isTree xs = true) (hf : xs.length ≤ f) : prun [] [] (bytes (textL f xs)) = some (xs, []) := by
  have := (text_read f xs ht hf []).2
  simpa [prun] using this
theorem text_parse {f : Nat} {xs : List Int} (ht : isTree xs = true) (hf : xs.length ≤ f) : parse (bytes (textL f xs)) = (xs, 0) := by
  have h1 := textL_size f xs ht hf
  have h2 := tree_len ht
  refine parse_done (by rw [bytes_length]; omega) (text_back ht hf) (fun e => ?_)
  subst e
  simp at h2
theorem text_inj {f g : Nat} {xs ys : List Int} (ht : isTree xs = true) (hf : xs.length ≤ f) (hu : isTree ys = true) (hg : ys.length ≤ g) (h : textL f xs = textL g ys) : xs = ys := by
  have h1 := text_back ht hf
  rw [h, text_back hu hg] at h1
  injection h1 with h1
  injection h1 with h1
  exact h1.symm
end Go.Proofs.Ytdgcjkgbglofbaa.M

/- Mirrored trees: the mathematics. No program is named here. -/
namespace Go.Proofs.Ytdgcjkgbglofbaa.M
/-- the mirrored tree, f levels deep at most -/
def mirL : Nat → List Int → List Int
  | 0, _ => []
  | f + 1, xs => (xs[0]?.getD 0) :: (List.range (xs[0]?.getD 0).toNat).flatMap fun j => mirL f (sub xs (kidAt xs 0 ((xs[0]?.getD 0).toNat - 1 - j)))
/-- what has come when k children, from the last one on, have been taken -/
def mirK (f : Nat) (xs : List Int) (d k : Nat) : List Int := (d : Int) :: (List.range k).flatMap fun j => mirL f (sub xs (kidAt xs 0 (d - 1 - j)))
theorem mirK_zero (f : Nat) (xs : List Int) (d : Nat) : mirK f xs d 0 = [(d : Int)] := rfl
theorem mirK_succ (f : Nat) (xs : List Int) (d k : Nat) : mirK f xs d (k + 1) = mirK f xs d k ++ mirL f (sub xs (kidAt xs 0 (d - 1 - k))) := by simp [mirK, List.range_succ]
theorem mirL_at {f : Nat} {xs : List Int} {d : Nat} (h : xs[0]? = some (d : Int)) : mirL (f + 1) xs = mirK f xs d d := by rw [mirL, h]; rfl
theorem mirK_len {f : Nat} {xs : List Int} (ih : ∀ ys, isTree ys = true → ys.length ≤ f → (mirL f ys).length = ys.length) (ht : isTree xs = true) (hf : xs.length ≤ f + 1) {d : Nat} (hd : xs[0]? = some (d : Int)) : ∀ k, k ≤ d → (mirK f xs d k).length + kidAt xs 0 (d - k) = xs.length + 1 := by
  intro k
  induction k with
  | zero => intro _; rw [mirK_zero, Nat.sub_zero, kids_all ht hd]; simp; omega
  | succ k ihk =>
    intro hk
    have h1 := sub_short ht hd (i := d - 1 - k) (by omega)
    have h2 := kid_lt ht hd (i := d - 1 - k) (by omega)
    have h3 := ihk (by omega)
    rw [mirK_succ, List.length_append, ih _ (sub_tree ht h2) (by omega), sub_length]
    have e : kidAt xs 0 (d - k) = kidAt xs 0 (d - 1 - k) + span 1 (xs.drop (kidAt xs 0 (d - 1 - k))) := by
      rw [show d - k = (d - 1 - k) + 1 by omega, kidAt]
    rw [show d - (k + 1) = d - 1 - k by omega]
    omega
theorem mirL_len : ∀ (f : Nat) (xs : List Int), isTree xs = true → xs.length ≤ f → (mirL f xs).length = xs.length := by
  intro f
  induction f with
  | zero => intro xs ht h; have := (tree_len ht).1; omega
  | succ f ih =>
    intro xs ht hf
    have hl := tree_len ht
    obtain ⟨d, hd, _⟩ := tree_degN ht (v := 0) (by omega)
    have := mirK_len ih ht hf hd d (Nat.le_refl _)
    rw [Nat.sub_self, kidAt] at this
    rw [mirL_at hd]
    omega
theorem mirK_le {f : Nat} {xs : List Int} (ht : isTree xs = true) (hf : xs.length ≤ f + 1) {d : Nat} (hd : xs[0]? = some (d : Int)) {k : Nat} (hk : k ≤ d) : (mirK f xs d k).length ≤ 24 := by
  have h1 := mirK_len (fun ys => mirL_len f ys) ht hf hd k hk
  have h2 := tree_len ht
  have h3 : 1 ≤ kidAt xs 0 (d - k) := (kid_due ht hd (d - k) (by omega)).2.2
  omega
/-- more levels than nodes change nothing -/
theorem mirL_fuel : ∀ (f g : Nat) (xs : List Int), isTree xs = true → xs.length ≤ f → xs.length ≤ g → mirL f xs = mirL g xs := by
  intro f
  induction f with
  | zero => intro g xs ht h _; have := (tree_len ht).1; omega
  | succ f ih =>
    intro g xs ht hf hg
    have hl := tree_len ht
    obtain ⟨d, hd, _⟩ := tree_degN ht (v := 0) (by omega)
    obtain ⟨g, rfl⟩ : ∃ g', g = g' + 1 := ⟨g - 1, by omega⟩
    have hK : ∀ k, k ≤ d → mirK f xs d k = mirK g xs d k := by
      intro k
      induction k with
      | zero => intro _; rfl
      | succ k ihk =>
        intro hk
        have h1 := sub_short ht hd (i := d - 1 - k) (by omega)
        have h2 := kid_lt ht hd (i := d - 1 - k) (by omega)
        rw [mirK_succ, mirK_succ, ihk (by omega), ih g _ (sub_tree ht h2) (by omega) (by omega)]
    rw [mirL_at hd, mirL_at hd, hK d (Nat.le_refl _)]
theorem mirL_all {xs : List Int} (ht : isTree xs = true) {d : Nat} (hd : xs[0]? = some (d : Int)) : mirL 24 xs = mirK 24 xs d d := by
  rw [← mirL_at hd]
  exact mirL_fuel 24 25 xs ht (tree_len ht).2 (by have := (tree_len ht).2; omega)
end Go.Proofs.Ytdgcjkgbglofbaa.M

/- What a list grows, by the model's walk: degrees and labels in preorder. Mathematics. -/
namespace Go.Proofs.Ytdgcjkgbglofbaa
namespace M
theorem flat_congr {α β : Type} {f g : α → List β} : ∀ {l : List α}, (∀ i ∈ l, f i = g i) → l.flatMap f = l.flatMap g
  | [], _ => rfl
  | a :: l, h => by rw [List.flatMap_cons, List.flatMap_cons, h a (List.mem_cons_self ..), flat_congr fun i hi => h i (List.mem_cons_of_mem _ hi)]
theorem filter_congr9 {α β : Type} {f g : α → Option β} : ∀ {l : List α}, (∀ i ∈ l, f i = g i) → l.filterMap f = l.filterMap g
  | [], _ => rfl
  | a :: l, h => by rw [List.filterMap_cons, List.filterMap_cons, h a (List.mem_cons_self ..), filter_congr9 fun i hi => h i (List.mem_cons_of_mem _ hi)]
/-- the labels that a list puts right below label j -/
def kidsOf (l : List Int) (j : Nat) : List Nat := (List.range l.length).filterMap fun i => if l[i]? = some (j : Int) then some (i + 1) else none
/-- degrees and labels of what a list grows from label j on -/
def walkF (l : List Int) : Nat → Nat → List Int × List Int
  | 0, j => ([0], [(j : Int)])
  | f + 1, j => (((kidsOf l j).length : Int) :: (kidsOf l j).flatMap fun i => (walkF l f i).1, (j : Int) :: (kidsOf l j).flatMap fun i => (walkF l f i).2)
theorem mem_kids {l : List Int} {j i : Nat} : i ∈ kidsOf l j ↔ ∃ k, i = k + 1 ∧ l[k]? = some (j : Int) := by
  rw [kidsOf, List.mem_filterMap]
  constructor
  · rintro ⟨k, _, h⟩
    split at h
    · injection h with h; exact ⟨k, h.symm, by assumption⟩
    · cases h
  · rintro ⟨k, rfl, h⟩
    exact ⟨k, List.mem_range.2 (List.getElem?_eq_some_iff.1 h).1, by rw [if_pos h]⟩
/-- a list that grows a tree: each number is at most its place -/
def Grows (l : List Int) : Prop := ∀ (k : Nat) (x : Int), l[k]? = some x → 0 ≤ x ∧ x ≤ (k : Int)
theorem kids_above {l : List Int} (h : Grows l) {j i : Nat} (hi : i ∈ kidsOf l j) : j < i ∧ i ≤ l.length := by
  obtain ⟨k, rfl, hk⟩ := mem_kids.1 hi
  have := (h k _ hk).2
  have := (List.getElem?_eq_some_iff.1 hk).1
  omega
theorem kids_snoc (l : List Int) (x : Int) (j : Nat) : kidsOf (l ++ [x]) j = kidsOf l j ++ (if x = (j : Int) then [l.length + 1] else []) := by
  rw [kidsOf, List.length_append, List.length_singleton, List.range_succ, List.filterMap_append]
  congr 1
  · rw [kidsOf]
    refine filter_congr9 fun i hi => ?_
    rw [List.getElem?_append_left (List.mem_range.1 hi)]
  · rw [List.filterMap_cons, List.getElem?_append_right (Nat.le_refl _), Nat.sub_self]
    by_cases hx : x = (j : Int)
    · simp [hx]
    · simp [hx]
theorem kids_end {l : List Int} (h : Grows l) : kidsOf l l.length = [] :=
  List.eq_nil_iff_forall_not_mem.2 fun i hi => by have := kids_above h hi; omega
theorem walk_fuel {l : List Int} (h : Grows l) : ∀ (f g j : Nat), j ≤ l.length → l.length ≤ j + f → l.length ≤ j + g → walkF l f j = walkF l g j := by
  intro f
  induction f with
  | zero =>
    intro g j hj h1 _
    obtain rfl : j = l.length := by omega
    cases g with
    | zero => rfl
    | succ g => rw [walkF, walkF, kids_end h]; rfl
  | succ f ih =>
    intro g j hj h1 h2
    cases g with
    | zero =>
      obtain rfl : j = l.length := by omega
      rw [walkF, walkF, kids_end h]; rfl
    | succ g =>
      have he : ∀ i ∈ kidsOf l j, walkF l f i = walkF l g i := fun i hi => by
        have := kids_above h hi
        exact ih g i this.2 (by omega) (by omega)
      rw [walkF, walkF]
      congr 1
      · exact congrArg _ (flat_congr fun i hi => by rw [he i hi])
      · exact congrArg _ (flat_congr fun i hi => by rw [he i hi])
/-- what a list grows from label j on -/
def W (l : List Int) (j : Nat) : List Int × List Int := walkF l (l.length - j) j
theorem W_eq {l : List Int} (h : Grows l) {j : Nat} (hj : j ≤ l.length) : W l j = (((kidsOf l j).length : Int) :: (kidsOf l j).flatMap fun i => (W l i).1, (j : Int) :: (kidsOf l j).flatMap fun i => (W l i).2) := by
  by_cases e : j = l.length
  · subst e
    rw [W, Nat.sub_self, walkF, kids_end h]; rfl
  · obtain ⟨f, hf⟩ : ∃ f, l.length - j = f + 1 := ⟨l.length - j - 1, by omega⟩
    have he : ∀ i ∈ kidsOf l j, walkF l f i = W l i := fun i hi => by
      have := kids_above h hi
      exact walk_fuel h f (l.length - i) i this.2 (by omega) (by omega)
    rw [W, hf, walkF]
    congr 1
    · exact congrArg _ (flat_congr fun i hi => by rw [he i hi])
    · exact congrArg _ (flat_congr fun i hi => by rw [he i hi])
theorem W_induct {P : Nat → Prop} {n : Nat} (h : ∀ j, j ≤ n → (∀ i, j < i → i ≤ n → P i) → P j) : ∀ j, j ≤ n → P j := by
  have : ∀ d j, j ≤ n → n ≤ j + d → P j := by
    intro d
    induction d with
    | zero => intro j hj hd; exact h j hj fun i h1 h2 => by omega
    | succ d ih => intro j hj hd; exact h j hj fun i h1 h2 => ih i h2 (by omega)
  exact fun j hj => this n j hj (by omega)
theorem mem_W {l : List Int} (h : Grows l) {j : Nat} (hj : j ≤ l.length) {q : Int} : q ∈ (W l j).2 ↔ q = j ∨ ∃ i ∈ kidsOf l j, q ∈ (W l i).2 := by
  rw [W_eq h hj, List.mem_cons, List.mem_flatMap]
/-- labels are at least the root's -/
theorem W_ge {l : List Int} (h : Grows l) : ∀ j, j ≤ l.length → ∀ q ∈ (W l j).2, (j : Int) ≤ q ∧ q ≤ l.length := by
  refine W_induct fun j hj ih q hq => ?_
  rcases (mem_W h hj).1 hq with rfl | ⟨i, hi, hq⟩
  · omega
  · have := kids_above h hi
    have := ih i this.1 this.2 q hq
    omega
/-- what is below one is below what is above it -/
theorem W_up {l : List Int} (h : Grows l) : ∀ j, j ≤ l.length → ∀ q : Nat, (q : Int) ∈ (W l j).2 → q = j ∨ ∃ m : Nat, q ∈ kidsOf l m ∧ (m : Int) ∈ (W l j).2 := by
  refine W_induct fun j hj ih q hq => ?_
  rcases (mem_W h hj).1 hq with e | ⟨i, hi, hq⟩
  · exact .inl (by omega)
  · have hk := kids_above h hi
    rcases ih i hk.1 hk.2 q hq with e | ⟨m, h1, h2⟩
    · subst e
      exact .inr ⟨j, hi, (mem_W h hj).2 (.inl rfl)⟩
    · exact .inr ⟨m, h1, (mem_W h hj).2 (.inr ⟨i, hi, h2⟩)⟩
theorem kids_one {l : List Int} {m m' q : Nat} (h : q ∈ kidsOf l m) (h' : q ∈ kidsOf l m') : m = m' := by
  obtain ⟨k, rfl, hk⟩ := mem_kids.1 h
  obtain ⟨k', e, hk'⟩ := mem_kids.1 h'
  obtain rfl : k = k' := by omega
  rw [hk] at hk'
  injection hk' with hk'
  omega
/-- the children's labels are apart -/
theorem W_apart {l : List Int} (h : Grows l) {j i i' : Nat} (hi : i ∈ kidsOf l j) (hi' : i' ∈ kidsOf l j) : ∀ q : Nat, (q : Int) ∈ (W l i).2 → (q : Int) ∈ (W l i').2 → i = i' := by
  intro q
  induction q using Nat.strongRecOn with
  | _ q ih =>
    intro h1 h2
    have k1 := kids_above h hi
    have k2 := kids_above h hi'
    rcases W_up h i k1.2 q h1 with e | ⟨m, a1, a2⟩
    · rcases W_up h i' k2.2 q h2 with e' | ⟨m, b1, b2⟩
      · omega
      · subst e
        obtain rfl := kids_one hi b1
        have := (W_ge h i' k2.2 _ b2).1
        omega
    · rcases W_up h i' k2.2 q h2 with e' | ⟨m', b1, b2⟩
      · subst e'
        obtain rfl := kids_one hi' a1
        have := (W_ge h i k1.2 _ a2).1
        omega
      · obtain rfl := kids_one a1 b1
        exact ih m (kids_above h a1).1 a2 b2
theorem kids_lt (l : List Int) (j : Nat) : (kidsOf l j).Pairwise (· < ·) := by
  rw [kidsOf, List.pairwise_filterMap]
  refine List.pairwise_lt_range.imp fun {a a'} h b hb b' hb' => ?_
  split at hb
  · split at hb'
    · injection hb with hb
      injection hb' with hb'
      omega
    · cases hb'
  · cases hb
theorem grows_snoc {l : List Int} (h : Grows l) {p : Nat} (hp : p ≤ l.length) : Grows (l ++ [(p : Int)]) := fun k x hx => by
  rcases Nat.lt_or_ge k l.length with hk | hk
  · rw [List.getElem?_append_left hk] at hx; exact h k x hx
  · rw [List.getElem?_append_right hk] at hx
    have := (List.getElem?_eq_some_iff.1 hx).1
    simp at this
    rw [show k - l.length = 0 by omega] at hx
    injection hx with hx
    omega
theorem flat_lenW {α : Type} {f g : α → List Int} : ∀ {l : List α}, (∀ i ∈ l, (f i).length = (g i).length) → (l.flatMap f).length = (l.flatMap g).length
  | [], _ => rfl
  | a :: l, h => by rw [List.flatMap_cons, List.flatMap_cons, List.length_append, List.length_append, h a (List.mem_cons_self ..), flat_lenW fun i hi => h i (List.mem_cons_of_mem _ hi)]
theorem W_len {l : List Int} (h : Grows l) : ∀ j, j ≤ l.length → (W l j).1.length = (W l j).2.length := by
  refine W_induct fun j hj ih => ?_
  rw [W_eq h hj]
  show _ + 1 = _ + 1
  rw [flat_lenW fun i hi => ih i (kids_above h hi).1 (kids_above h hi).2]
def bump : List Int → List Int
  | [] => []
  | d :: r => (d + 1) :: r
theorem bump_app {x : List Int} (h : x ≠ []) (y : List Int) : bump (x ++ y) = bump x ++ y := by
  cases x with
  | nil => exact absurd rfl h
  | cons a x => rfl
theorem W_new {l : List Int} (h : Grows l) {p : Nat} (hp : p ≤ l.length) : W (l ++ [(p : Int)]) (l.length + 1) = ([0], [((l.length + 1 : Nat) : Int)]) := by
  have hl : (l ++ [(p : Int)]).length = l.length + 1 := by simp
  have h' := grows_snoc h hp
  have := kids_end h'
  rw [hl] at this
  rw [W_eq h' (by rw [hl]; exact Nat.le_refl _), this]; rfl
/-- one number more: one child more, the last one, below the label that is told -/
theorem W_step {l : List Int} (h : Grows l) {p : Nat} (hp : p ≤ l.length) : ∀ j, j ≤ l.length →
    ((p : Int) ∉ (W l j).2 → W (l ++ [(p : Int)]) j = W l j) ∧
    ((p : Int) ∈ (W l j).2 → ∃ a b c d, (W l j).2 = a ++ (W l p).2 ++ b ∧ (W l j).1 = c ++ (W l p).1 ++ d ∧ c.length = a.length ∧
      (W (l ++ [(p : Int)]) j).2 = a ++ (W l p).2 ++ [((l.length + 1 : Nat) : Int)] ++ b ∧ (W (l ++ [(p : Int)]) j).1 = c ++ bump (W l p).1 ++ [0] ++ d) := by
  have h' := grows_snoc h hp
  have hl : (l ++ [(p : Int)]).length = l.length + 1 := by simp
  refine W_induct fun j hj ih => ?_
  have e' := W_eq h' (j := j) (by rw [hl]; omega)
  have e := W_eq h hj
  rw [kids_snoc] at e'
  by_cases hpj : p = j
  · subst hpj
    refine ⟨fun hn => absurd ((mem_W h hj).2 (.inl rfl)) hn, fun _ => ⟨[], [], [], [], by simp, by simp, rfl, ?_, ?_⟩⟩
    all_goals
      have hs : ∀ i ∈ kidsOf l p, W (l ++ [(p : Int)]) i = W l i := fun i hi => by
        have hk := kids_above h hi
        refine (ih i hk.1 hk.2).1 fun hm => ?_
        have := (W_ge h i hk.2 _ hm).1
        omega
      rw [e', e, if_pos rfl, List.flatMap_append, List.flatMap_append]
      simp only [List.flatMap_singleton, W_new h hp]
    · rw [flat_congr fun i hi => by rw [hs i hi]]; simp
    · rw [flat_congr fun i hi => by rw [hs i hi]]; simp [bump]
  · rw [if_neg (fun e => hpj (by omega)), List.append_nil] at e'
    constructor
    · intro hn
      have hs : ∀ i ∈ kidsOf l j, W (l ++ [(p : Int)]) i = W l i := fun i hi => by
        have hk := kids_above h hi
        exact (ih i hk.1 hk.2).1 fun hm => hn ((mem_W h hj).2 (.inr ⟨i, hi, hm⟩))
      rw [e', e, flat_congr fun i hi => by rw [hs i hi], flat_congr (f := fun i => (W (l ++ [(p : Int)]) i).2) fun i hi => by rw [hs i hi]]
    · intro hm
      rcases (mem_W h hj).1 hm with e0 | ⟨i, hi, hmi⟩
      · exact absurd (by omega) hpj
      · have hk := kids_above h hi
        obtain ⟨a, b, c, d, h1, h2, h3, h4, h5⟩ := (ih i hk.1 hk.2).2 hmi
        obtain ⟨s, t, hst⟩ := List.append_of_mem hi
        have hlt := kids_lt l j
        rw [hst] at hlt
        have hne : ∀ i' ∈ s ++ t, i' ≠ i := fun i' hi' => by
          rw [List.pairwise_append] at hlt
          obtain ⟨_, h2, h3⟩ := hlt
          rw [List.pairwise_cons] at h2
          rcases List.mem_append.1 hi' with hs | ht
          · have := h3 i' hs i (List.mem_cons_self ..); omega
          · have := h2.1 i' ht; omega
        have hs : ∀ i' ∈ s ++ t, W (l ++ [(p : Int)]) i' = W l i' := fun i' hi' => by
          have hin : i' ∈ kidsOf l j := by
            rw [hst]
            rcases List.mem_append.1 hi' with hs | ht
            · exact List.mem_append_left _ hs
            · exact List.mem_append_right _ (List.mem_cons_of_mem _ ht)
          have hk' := kids_above h hin
          exact (ih i' hk'.1 hk'.2).1 fun hm' => hne i' hi' (W_apart h hin hi p hm' hmi)
        have hs1 : ∀ f : List Int × List Int → List Int, (s.flatMap fun i => f (W (l ++ [(p : Int)]) i)) = s.flatMap fun i => f (W l i) := fun f => flat_congr fun i hi => by rw [hs i (List.mem_append_left _ hi)]
        have hs2 : ∀ f : List Int × List Int → List Int, (t.flatMap fun i => f (W (l ++ [(p : Int)]) i)) = t.flatMap fun i => f (W l i) := fun f => flat_congr fun i hi => by rw [hs i (List.mem_append_right _ hi)]
        refine ⟨(j : Int) :: (s.flatMap fun i => (W l i).2) ++ a, b ++ (t.flatMap fun i => (W l i).2), ((kidsOf l j).length : Int) :: (s.flatMap fun i => (W l i).1) ++ c, d ++ (t.flatMap fun i => (W l i).1), ?_, ?_, ?_, ?_, ?_⟩
        · rw [e]
          show (j : Int) :: ((kidsOf l j).flatMap fun i => (W l i).2) = _
          rw [hst, List.flatMap_append, List.flatMap_cons, h1]; simp
        · rw [e]
          show ((kidsOf l j).length : Int) :: ((kidsOf l j).flatMap fun i => (W l i).1) = _
          rw [hst, List.flatMap_append, List.flatMap_cons, h2]; simp
        · have : (s.flatMap fun i => (W l i).1).length = (s.flatMap fun i => (W l i).2).length := flat_lenW fun i' hi' => by
            have hk' := kids_above h (show i' ∈ kidsOf l j by rw [hst]; exact List.mem_append_left _ hi')
            exact W_len h i' hk'.2
          simp only [List.cons_append, List.length_cons, List.length_append, this, h3]
        · rw [e']
          show (j : Int) :: ((kidsOf l j).flatMap fun i => (W (l ++ [(p : Int)]) i).2) = _
          rw [hst, List.flatMap_append, List.flatMap_cons, h4, hs1 (·.2), hs2 (·.2)]; simp
        · rw [e']
          show ((kidsOf l j).length : Int) :: ((kidsOf l j).flatMap fun i => (W (l ++ [(p : Int)]) i).1) = _
          rw [hst, List.flatMap_append, List.flatMap_cons, h5, hs1 (·.1), hs2 (·.1)]; simp
theorem W_self {l : List Int} (h : Grows l) {j : Nat} (hj : j ≤ l.length) : (j : Int) ∈ (W l j).2 := (mem_W h hj).2 (.inl rfl)
theorem W_down {l : List Int} (h : Grows l) {m q : Nat} (hq : q ∈ kidsOf l m) : ∀ j, j ≤ l.length → (m : Int) ∈ (W l j).2 → (q : Int) ∈ (W l j).2 := by
  refine W_induct fun j hj ih hm => ?_
  rcases (mem_W h hj).1 hm with e | ⟨i, hi, hm⟩
  · obtain rfl : m = j := by omega
    exact (mem_W h hj).2 (.inr ⟨q, hq, W_self h (kids_above h hq).2⟩)
  · have hk := kids_above h hi
    exact (mem_W h hj).2 (.inr ⟨i, hi, ih i hk.1 hk.2 hm⟩)
/-- all labels come -/
theorem W_all {l : List Int} (h : Grows l) (q : Nat) : q ≤ l.length → (q : Int) ∈ (W l 0).2 := by
  induction q using Nat.strongRecOn with
  | _ q ih =>
    intro hq
    cases q with
    | zero => exact W_self h (Nat.zero_le _)
    | succ k =>
      have hx := List.getElem?_eq_getElem (l := l) (show k < l.length by omega)
      have hg := h k _ hx
      obtain ⟨m, hm⟩ := Int.eq_ofNat_of_zero_le hg.1
      rw [hm] at hx hg
      exact W_down h (mem_kids.2 ⟨k, rfl, hx⟩) 0 (Nat.zero_le _) (ih m (by omega) (by omega))
/-- each label comes once -/
theorem W_nodup {l : List Int} (h : Grows l) : ∀ j, j ≤ l.length → (W l j).2.Nodup := by
  refine W_induct fun j hj ih => ?_
  rw [W_eq h hj]
  show ((j : Int) :: _).Nodup
  rw [List.nodup_cons]
  constructor
  · intro hm
    obtain ⟨i, hi, hm⟩ := List.mem_flatMap.1 hm
    have hk := kids_above h hi
    have := (W_ge h i hk.2 _ hm).1
    omega
  · refine List.pairwise_flatMap.2 ⟨fun i hi => ih i (kids_above h hi).1 (kids_above h hi).2, ?_⟩
    refine (List.Pairwise.and_mem.1 (kids_lt l j)).imp fun {a b} ⟨ha, hb, hab⟩ x hx y hy e => ?_
    subst e
    have hka := kids_above h ha
    obtain ⟨q, rfl⟩ := Int.eq_ofNat_of_zero_le (show 0 ≤ x by have := (W_ge h a hka.2 _ hx).1; omega)
    have := W_apart h ha hb q hx hy
    omega
/-- where an element stands behind one that is put in -/
theorem idx_ins {u v : List Int} {x z : Int} (hz : x ≠ z) : (u ++ [z] ++ v).idxOf x = if u.length ≤ (u ++ v).idxOf x then (u ++ v).idxOf x + 1 else (u ++ v).idxOf x := by
  have e1 : (u ++ v).idxOf x = if x ∈ u then u.idxOf x else v.idxOf x + u.length := List.idxOf_append
  have e2 : (u ++ ([z] ++ v)).idxOf x = if x ∈ u then u.idxOf x else ([z] ++ v).idxOf x + u.length := List.idxOf_append
  rw [List.append_assoc, e1, e2]
  by_cases h : x ∈ u
  · have := List.idxOf_lt_length_of_mem h
    rw [if_pos h, if_pos h, if_neg (by omega)]
  · have hzx : (z == x) = false := beq_eq_false_iff_ne.2 (Ne.symm hz)
    rw [if_neg h, if_neg h, if_pos (by omega), List.singleton_append, List.idxOf_cons, hzx]
    simp only [cond_false]
    omega
end M
end Go.Proofs.Ytdgcjkgbglofbaa

/- What a list grows is a tree, and what grows from a label is the part below its node. Mathematics. -/
namespace Go.Proofs.Ytdgcjkgbglofbaa
namespace M
theorem go_app : ∀ (t : List Int) (o o' : Int) (r : List Int), 0 ≤ o → 0 ≤ o' → isGo o t = true → isGo (o + o') (t ++ r) = isGo o' r := by
  intro t
  induction t with
  | nil =>
    intro o o' r _ _ h
    simp [isGo] at h
    subst h
    rw [Int.zero_add]; rfl
  | cons d t ih =>
    intro o o' r ho ho' h
    have hp := isGo_pos _ _ h ho (by simp)
    simp only [isGo] at h
    split at h
    · cases h
    · rename_i hc
      simp at hc
      rw [List.cons_append, isGo, if_neg (by simp [hc.2.1, hc.2.2]; omega), show o + o' - 1 + d = (o - 1 + d) + o' by omega]
      exact ih _ _ _ (by omega) ho' h
theorem go_flat {f : Nat → List Int} : ∀ {ks : List Nat}, (∀ i ∈ ks, isGo 1 (f i) = true) → isGo (ks.length : Int) (ks.flatMap f) = true
  | [], _ => rfl
  | a :: ks, h => by
    rw [List.flatMap_cons, List.length_cons, show ((ks.length + 1 : Nat) : Int) = 1 + (ks.length : Int) by omega, go_app _ 1 _ _ (by omega) (by omega) (h a (List.mem_cons_self ..))]
    exact go_flat fun i hi => h i (List.mem_cons_of_mem _ hi)
theorem span_app : ∀ (t : List Int) (o : Int) (d : List Int), 0 ≤ o → isGo o t = true → span o (t ++ d) = t.length := by
  intro t
  induction t with
  | nil =>
    intro o d _ h
    simp [isGo] at h
    subst h
    exact span_stop (Int.le_refl _) _
  | cons x t ih =>
    intro o d ho h
    have hp := isGo_pos _ _ h ho (by simp)
    simp only [isGo] at h
    split at h
    · cases h
    · rename_i hc
      simp at hc
      rw [List.cons_append, span, if_neg (by omega), ih _ _ (by omega) h]; rfl
theorem kids_few (l : List Int) (j : Nat) : (kidsOf l j).length ≤ l.length := by
  rw [kidsOf]
  have := List.length_filterMap_le (fun i => if l[i]? = some (j : Int) then some (i + 1) else none) (List.range l.length)
  simpa using this
theorem W_go {l : List Int} (h : Grows l) (hl : l.length ≤ 24) : ∀ j, j ≤ l.length → isGo 1 (W l j).1 = true := by
  refine W_induct fun j hj ih => ?_
  rw [W_eq h hj]
  have := kids_few l j
  show isGo 1 (((kidsOf l j).length : Int) :: _) = true
  rw [isGo, if_neg (by simp; omega), show (1 : Int) - 1 + ((kidsOf l j).length : Int) = ((kidsOf l j).length : Int) by omega]
  exact go_flat fun i hi => ih i (kids_above h hi).1 (kids_above h hi).2
theorem perm_len : ∀ (n : Nat) (zs : List Int), zs.Nodup → (∀ x : Int, x ∈ zs ↔ 0 ≤ x ∧ x < (n : Int)) → zs.length = n := by
  intro n
  induction n with
  | zero =>
    intro zs _ h
    cases zs with
    | nil => rfl
    | cons a zs => have := (h a).1 (List.mem_cons_self ..); omega
  | succ n ih =>
    intro zs hd h
    have hm : (n : Int) ∈ zs := (h n).2 ⟨by omega, by omega⟩
    have h1 := List.length_erase_of_mem hm
    have h2 := ih (zs.erase n) (hd.erase _) (fun x => by
      rw [hd.mem_erase_iff, h x]
      constructor
      · rintro ⟨a, b⟩; omega
      · rintro ⟨a, b⟩; exact ⟨by omega, by omega⟩)
    have := List.length_pos_of_mem hm
    omega
theorem W_count {l : List Int} (h : Grows l) : (W l 0).2.length = l.length + 1 :=
  perm_len _ _ (W_nodup h 0 (Nat.zero_le _)) fun x => by
    constructor
    · intro hx
      have := W_ge h 0 (Nat.zero_le _) x hx
      omega
    · rintro ⟨h0, h1⟩
      obtain ⟨q, rfl⟩ := Int.eq_ofNat_of_zero_le h0
      exact W_all h q (by omega)
theorem W_tree {l : List Int} (h : Grows l) (hl : l.length ≤ 23) : isTree (W l 0).1 = true := by
  have h1 := W_len h 0 (Nat.zero_le _)
  have h2 := W_count h
  simp only [isTree, Bool.and_eq_true, decide_eq_true_eq]
  exact ⟨⟨by omega, by omega⟩, W_go h (by omega) 0 (Nat.zero_le _)⟩
theorem grows_take {l : List Int} (h : Grows l) (k : Nat) : Grows (l.take k) := fun i x hx => by
  refine h i x ?_
  have hl := (List.getElem?_eq_some_iff.1 hx).1
  rw [List.length_take] at hl
  rwa [List.getElem?_take_of_lt (by omega)] at hx
/-- where a label stands -/
def pos (l : List Int) (j : Nat) : Nat := (W l 0).2.idxOf (j : Int)
theorem pos_lt {l : List Int} (h : Grows l) {j : Nat} (hj : j ≤ l.length) : pos l j < l.length + 1 := by
  rw [← W_count h]; exact List.idxOf_lt_length_of_mem (W_all h j hj)
/-- one number more, told by degrees and places -/
theorem W_put {l : List Int} (h : Grows l) (hl : l.length ≤ 23) {p : Nat} (hp : p ≤ l.length) :
    ∃ c x r d : List Int, ∃ t : Int, (W l 0).1 = c ++ (t :: r) ++ d ∧ c.length = pos l p ∧ span 1 ((W l 0).1.drop (pos l p)) = r.length + 1 ∧ (W l 0).1[pos l p]? = some t ∧
      (W (l ++ [(p : Int)]) 0).1 = c ++ ((t + 1) :: r) ++ [0] ++ d ∧ x = [] ∧
      pos (l ++ [(p : Int)]) (l.length + 1) = pos l p + (r.length + 1) ∧
      (∀ j, j ≤ l.length → pos (l ++ [(p : Int)]) j = if pos l p + (r.length + 1) ≤ pos l j then pos l j + 1 else pos l j) := by
  obtain ⟨a, b, c, d, h1, h2, h3, h4, h5⟩ := (W_step h hp 0 (Nat.zero_le _)).2 (W_all h p hp)
  have hn := W_nodup h 0 (Nat.zero_le _)
  have hgo := W_go h (by omega) p hp
  have hlen := W_len h p hp
  have hself : ∃ s, (W l p).2 = (p : Int) :: s := ⟨_, by rw [W_eq h hp]⟩
  obtain ⟨s, hs⟩ := hself
  obtain ⟨t, r, htr⟩ : ∃ t r, (W l p).1 = t :: r := ⟨_, _, by rw [W_eq h hp]⟩
  have hpos : pos l p = a.length := by
    rw [pos, h1, hs, List.append_assoc, List.idxOf_append, if_neg, List.cons_append, List.idxOf_cons_self, Nat.zero_add]
    intro hm
    rw [h1, hs, List.append_assoc, List.nodup_append] at hn
    exact hn.2.2 _ hm _ (by simp) rfl
  have hbump : bump (W l p).1 = (t + 1) :: r := by rw [htr]; rfl
  have hsl : (W l p).2.length = r.length + 1 := by rw [← hlen, htr]; rfl
  rw [htr] at h2 h5 hgo
  refine ⟨c, [], r, d, t, h2, by rw [hpos, h3], ?_, ?_, ?_, rfl, ?_, ?_⟩
  · rw [hpos, ← h3, h2, List.append_assoc, List.drop_left, span_app _ _ _ (by omega) hgo]; rfl
  · rw [hpos, ← h3, h2, List.append_assoc, List.getElem?_append_right (Nat.le_refl _), Nat.sub_self]; rfl
  · rw [h5]; rfl
  · rw [pos, h4, List.append_assoc, List.idxOf_append, if_neg, List.singleton_append, List.idxOf_cons_self, Nat.zero_add, List.length_append, hsl, hpos]
    intro hm
    have hm' : ((l.length + 1 : Nat) : Int) ∈ (W l 0).2 := by rw [h1]; exact List.mem_append_left _ hm
    have := W_ge h 0 (Nat.zero_le _) _ hm'
    omega
  · intro j hj
    have := idx_ins (u := a ++ (W l p).2) (v := b) (x := (j : Int)) (z := ((l.length + 1 : Nat) : Int)) (by omega)
    rw [pos, h4, this, List.length_append, hsl, ← h1, hpos]
    rfl
end M
end Go.Proofs.Ytdgcjkgbglofbaa

/- A tree that is mirrored twice is the tree. Mathematics. -/
namespace Go.Proofs.Ytdgcjkgbglofbaa
namespace M
theorem go_split : ∀ (l : List Int) (o k : Int), 0 ≤ o → 0 ≤ k → isGo (o + k) l = true → isGo o (l.take (span o l)) = true ∧ isGo k (l.drop (span o l)) = true := by
  intro l
  induction l with
  | nil =>
    intro o k ho hk h
    simp [isGo] at h
    simp only [span, List.take_nil, List.drop_nil, isGo]
    constructor <;> simp <;> omega
  | cons d r ih =>
    intro o k ho hk h
    rcases Int.lt_or_le 0 o with h0 | h0
    · simp only [isGo] at h
      split at h
      · cases h
      · rename_i hc
        simp at hc
        rw [show o + k - 1 + d = (o - 1 + d) + k by omega] at h
        have := ih (o - 1 + d) k (by omega) hk h
        rw [span, if_neg (by omega), List.take_succ_cons, List.drop_succ_cons]
        refine ⟨?_, this.2⟩
        rw [isGo, if_neg (by simp [hc.2.1, hc.2.2]; omega)]
        exact this.1
    · obtain rfl : o = 0 := by omega
      rw [span_stop (Int.le_refl _)]
      refine ⟨rfl, ?_⟩
      rw [Int.zero_add] at h
      exact h
theorem go_list : ∀ (k : Nat) (l : List Int), isGo (k : Int) l = true → ∃ ts : List (List Int), ts.length = k ∧ (∀ t ∈ ts, isGo 1 t = true) ∧ l = ts.flatten := by
  intro k
  induction k with
  | zero =>
    intro l h
    refine ⟨[], rfl, fun t ht => by simp at ht, ?_⟩
    cases l with
    | nil => rfl
    | cons d r => simp [isGo] at h
  | succ k ih =>
    intro l h
    rw [show ((k + 1 : Nat) : Int) = 1 + (k : Int) by omega] at h
    obtain ⟨h1, h2⟩ := go_split l 1 k (by omega) (by omega) h
    obtain ⟨ts, e1, e2, e3⟩ := ih _ h2
    refine ⟨l.take (span 1 l) :: ts, by simp [e1], fun t ht => ?_, ?_⟩
    · rcases List.mem_cons.1 ht with rfl | ht
      · exact h1
      · exact e2 t ht
    · rw [List.flatten_cons, ← e3, List.take_append_drop]
/-- a tree has trees below its root -/
theorem go_tree {xs : List Int} (h : isGo 1 xs = true) : ∃ ts : List (List Int), (∀ t ∈ ts, isGo 1 t = true) ∧ xs = (ts.length : Int) :: ts.flatten ∧ ts.length ≤ 24 := by
  cases xs with
  | nil => simp [isGo] at h
  | cons d r =>
    simp only [isGo] at h
    split at h
    · cases h
    · rename_i hc
      simp at hc
      rw [show (1 : Int) - 1 + d = d by omega] at h
      obtain ⟨k, rfl⟩ := Int.eq_ofNat_of_zero_le hc.1
      obtain ⟨ts, e1, e2, e3⟩ := go_list k r h
      exact ⟨ts, e2, by rw [e1, ← e3], by omega⟩
theorem go_mk {ts : List (List Int)} (h : ∀ t ∈ ts, isGo 1 t = true) (hl : ts.length ≤ 24) : isGo 1 ((ts.length : Int) :: ts.flatten) = true := by
  rw [isGo, if_neg (by simp; omega), show (1 : Int) - 1 + (ts.length : Int) = (ts.length : Int) by omega]
  have : ∀ ts : List (List Int), (∀ t ∈ ts, isGo 1 t = true) → isGo (ts.length : Int) ts.flatten = true := by
    intro ts
    induction ts with
    | nil => intro _; rfl
    | cons a ts ih =>
      intro h
      rw [List.flatten_cons, List.length_cons, show ((ts.length + 1 : Nat) : Int) = 1 + (ts.length : Int) by omega, go_app _ 1 _ _ (by omega) (by omega) (h a (List.mem_cons_self ..))]
      exact ih fun t ht => h t (List.mem_cons_of_mem _ ht)
  exact this ts h
theorem kid_mk {ts : List (List Int)} (h : ∀ t ∈ ts, isGo 1 t = true) : ∀ i, i ≤ ts.length → kidAt ((ts.length : Int) :: ts.flatten) 0 i = 1 + (ts.take i).flatten.length ∧
    ((ts.length : Int) :: ts.flatten).drop (1 + (ts.take i).flatten.length) = (ts.drop i).flatten := by
  have hd : ∀ i, ((ts.length : Int) :: ts.flatten).drop (1 + (ts.take i).flatten.length) = (ts.drop i).flatten := fun i => by
    rw [Nat.add_comm, List.drop_succ_cons]
    have : ts.flatten = (ts.take i).flatten ++ (ts.drop i).flatten := by rw [← List.flatten_append, List.take_append_drop]
    rw [this, List.drop_left]
  intro i
  induction i with
  | zero => intro _; exact ⟨by simp [kidAt], hd 0⟩
  | succ i ih =>
    intro hi
    obtain ⟨h1, h2⟩ := ih (by omega)
    refine ⟨?_, hd _⟩
    rw [kidAt, h1, h2, List.drop_eq_getElem_cons (show i < ts.length by omega), List.flatten_cons, span_app _ _ _ (by omega) (h _ (List.getElem_mem _)), List.take_succ_eq_append_getElem (by omega), List.flatten_append, List.length_append]
    simp
    omega
theorem sub_mk {ts : List (List Int)} (h : ∀ t ∈ ts, isGo 1 t = true) {i : Nat} (hi : i < ts.length) : sub ((ts.length : Int) :: ts.flatten) (kidAt ((ts.length : Int) :: ts.flatten) 0 i) = ts[i] := by
  obtain ⟨h1, h2⟩ := kid_mk h i (by omega)
  rw [sub, h1, h2, List.drop_eq_getElem_cons hi, List.flatten_cons, span_app _ _ _ (by omega) (h _ (List.getElem_mem _)), List.take_left]
theorem mir_mk (f : Nat) {ts : List (List Int)} (h : ∀ t ∈ ts, isGo 1 t = true) : mirL (f + 1) ((ts.length : Int) :: ts.flatten) = (ts.length : Int) :: (ts.reverse.map (mirL f)).flatten := by
  rw [mirL_at (d := ts.length) rfl, mirK, List.flatMap_def]
  congr 2
  apply List.ext_getElem
  · simp
  · intro j h1 h2
    simp only [List.length_map, List.length_range] at h1
    simp only [List.getElem_map, List.getElem_range, List.getElem_reverse]
    rw [sub_mk h (show ts.length - 1 - j < ts.length by omega)]
theorem len_mem {ts : List (List Int)} {t : List Int} (h : t ∈ ts) : t.length ≤ ts.flatten.length := by
  induction ts with
  | nil => simp at h
  | cons a ts ih =>
    rw [List.flatten_cons, List.length_append]
    rcases List.mem_cons.1 h with rfl | h
    · omega
    · have := ih h; omega
theorem mir_two : ∀ (f : Nat) (xs : List Int), isGo 1 xs = true → xs.length ≤ f → isGo 1 (mirL f xs) = true ∧ mirL f (mirL f xs) = xs := by
  intro f
  induction f with
  | zero =>
    intro xs h hl
    obtain rfl : xs = [] := List.eq_nil_of_length_eq_zero (by omega)
    simp [isGo] at h
  | succ f ih =>
    intro xs h hl
    obtain ⟨ts, h1, h2, h3⟩ := go_tree h
    subst h2
    rw [mir_mk f h1]
    have hlen : ∀ t ∈ ts, t.length ≤ f := fun t ht => by
      have := len_mem ht
      simp only [List.length_cons] at hl
      omega
    have hu : ∀ u ∈ ts.reverse.map (mirL f), isGo 1 u = true := fun u hu => by
      obtain ⟨t, ht, rfl⟩ := List.mem_map.1 hu
      have ht := List.mem_reverse.1 ht
      exact (ih t (h1 t ht) (hlen t ht)).1
    have hul : (ts.reverse.map (mirL f)).length = ts.length := by simp
    have e : (ts.length : Int) = ((ts.reverse.map (mirL f)).length : Int) := by rw [hul]
    rw [e]
    refine ⟨go_mk hu (by rw [hul]; exact h3), ?_⟩
    rw [mir_mk f hu, ← List.map_reverse, List.reverse_reverse, List.map_map]
    have : ∀ t ∈ ts, (mirL f ∘ mirL f) t = id t := fun t ht => (ih t (h1 t ht) (hlen t ht)).2
    rw [List.map_congr_left this, List.map_id, hul]
theorem mir_back {xs : List Int} (ht : isTree xs = true) : isTree (mirL 24 xs) = true ∧ mirL 24 (mirL 24 xs) = xs := by
  have hl := tree_len ht
  have h := mir_two 24 xs (tree_go ht) hl.2
  have hm := mirL_len 24 xs ht hl.2
  refine ⟨?_, h.2⟩
  simp only [isTree, Bool.and_eq_true, decide_eq_true_eq, hm]
  exact ⟨hl, h.1⟩
end M
end Go.Proofs.Ytdgcjkgbglofbaa

/- A drawn tree: the model's draws l01Small and l01Draw. -/
namespace Go.Proofs.Ytdgcjkgbglofbaa
open Go.RowKit

/-- a tree of the call's own comes out, the source goes on -/
def DrawnT (w w' : World) (B g : Nat) (e : Ending) : Prop :=
  ∃ (n : Nat) (A' : Option Addr) (c' : Nat) (ds : List Int), e = .returned (.agg #[.slice A' n c']) ∧ (1 ≤ n ∧ n ≤ 24) ∧ Hid (ds.length = n) ∧ Hid (M.isTree ds = true) ∧ Hid (Own64 w' w.heap.size (.slice A' n c') ds) ∧ Hid (Src w' B g) ∧ Hid (w.grownBy w' (some g))
theorem res_keep {w1 w2 : World} {R g : Nat} {o : Obj} (h : w1.heap[R]? = some o) (hg : w1.grownBy w2 (some g)) (hne : R ≠ g) : w2.heap[R]? = some o :=
  (hg.block R (Array.getElem?_eq_some_iff.1 h).1 (fun e => by injection e with e; exact hne e)).trans h
theorem drawn_end {w w2 : World} {B g D n c : Nat} {A : Option Addr} {ds : List Int} (v : Value) (hD : w.heap.size < D) (ho : Own64 w2 D (.slice A n c) ds) (hS : Src w2 B g) (hg : w.grownBy w2 (some g)) (hgl : g < w.heap.size) :
    Own64 (w2.setCell ⟨w.heap.size, 0, none⟩ v) w.heap.size (.slice A n c) ds ∧ Src (w2.setCell ⟨w.heap.size, 0, none⟩ v) B g ∧ w.grownBy (w2.setCell ⟨w.heap.size, 0, none⟩ v) (some g) :=
  ⟨own_mono (own_far ho hD _) (by omega), hS.kept (src_grown w2 w.heap.size 0 _) (fun k e => by injection e with e; have := hS.1; omega), src_trans hg (below_setCell (Below.refl w.heap.size w2) (Nat.le_refl _) _) (Nat.le_refl _)⟩

set_option maxRecDepth 100000 in
set_option maxHeartbeats 4000000 in
theorem l01Small (w : World) (B g : Nat) (hS : Hid (Src w B g)) :
    Calls Try.prog 189 #[.pointer (some ⟨g, 0, none⟩)] w fun e w' => DrawnT w w' B g e := by
  have hgl := hS.out.lt
  have hS0 := Lib.hid (hS.out.be (bal (b0 w) (.cells #[.slice none 0 0] 26)))
  have hr0 : Hid ((w.alloc (.cells #[.slice none 0 0] 26)).heap[w.heap.size]? = some (.cells #[.slice none 0 0] 26 (0, 0))) := heap_alloc_new w _
  have hz0 : (w.alloc (.cells #[.slice none 0 0] 26)).heap.size = w.heap.size + 1 := by simp
  have hg0 : Hid (w.grownBy (w.alloc (.cells #[.slice none 0 0] 26)) (some g)) := src_of (bal (b0 w) _)
  go_enter Try.func189, Try.ntmps189
  go_wp2_with fail
  refine (l01Next 6 _ B g (by omega) hS0).mono ?_
  rintro e w1 ⟨r, rfl, ⟨hr1, hr2⟩, hS1, hg1⟩
  obtain ⟨k, rfl⟩ := Int.eq_ofNat_of_zero_le hr1
  have hwk : IntKind.i64.wrap (1 + (k : Int)) = ((1 + k : Nat) : Int) := by rw [IntWalk.i64_in _ (by omega)]; omega
  have hz1 := hg1.out.size
  have hr3 := Lib.hid (res_keep hr0.out hg1.out (by omega))
  have hg2 := Lib.hid (src_tr hg0.out hg1.out)
  clear hg0 hg1 hr0
  go_wp2_with fail
  have hcall := l01DrawOf (1 + k) w1 B g (by omega) (by omega) hS1
  rw [← hwk] at hcall
  rw [IntWalk.i64_in _ (by omega)] at hcall
  refine hcall.mono ?_
  rintro e w2 ⟨A', c', ds, rfl, hl, ht, ho, hS2, hg3⟩
  have hr4 := res_keep hr3.out hg3.out (by omega)
  have hrc := cell_of_one hr4
  have hrf := free_of_one hr4
  obtain ⟨f1, f2, f3⟩ := drawn_end (w := w) (.slice A' (1 + k) c') (by omega) ho.out hS2.out (src_tr hg2.out hg3.out) hgl
  have F1 := Lib.hid f1
  have F2 := Lib.hid f2
  have F3 := Lib.hid f3
  clear f1 f2 f3
  go_wp2
  refine bodyPost_ret (v := .agg #[.slice A' (1 + k) c']) (by simp [results, Try.results189, go_sem, hrc]) rfl ?_
  exact ⟨1 + k, A', c', ds, rfl, ⟨by omega, by omega⟩, hl, ht, F1, F2, F3⟩

theorem grown_over9 {w w1 : World} {o : Obj} {r : Option Nat} (h : (w.alloc o).grownBy w1 r) : w.grownBy w1 r := src_tr (World.grownBy_alloc w o r) h
/-- append of one header to a row of headers -/
theorem pushHdr {ops : Array Oper} {rest : List Oper} {o : Oper} {a : Act} {Q : Exit → Act → World → Prop} (hgd : o.guard = none) (s x : Operand)
    (ho : o.op = .call { callee := .builtin .append, args := #[s, x], argTypes := #[56, 56] }) (w : World) (B : Nat) (A : Option Addr) (n c : Nat) (vs : List Value) (Ay : Option Addr) (ny cy : Nat)
    (hs0 : a.eval s = .slice A n c) (hx : a.eval x = .slice (some ⟨w.heap.size, 0, none⟩) 1 1) (hW : Hid (w.ownsRow B 26 1 (.slice A n c) n vs)) (hB : B ≤ w.heap.size) (hlen : n ≤ 1000000)
    (h : ∀ A' c' w', Hid (w'.ownsRow B 26 1 (.slice A' (n + 1) c') (n + 1) (vs ++ [.slice Ay ny cy])) → Hid (w.grownBy w' (Value.slice A n c).ownBlock) → Hid (Below B w w') → wpList Try.prog ops Q rest (a.put o.dst (.slice A' (n + 1) c')) w') :
    wpList Try.prog ops Q (o :: rest) a (w.alloc (.cells #[.slice Ay ny cy] 26)) := by
  obtain ⟨i0, hi0, hz0, hz1, hz2⟩ := info_parts infoTree
  refine wpList_append_own_at _ hgd s x 56 ho B 26 i0 (.agg #[.slice none 0 0]) 1 24 Try.underlying56 hi0 hz0 hz1 hz2 rfl (by decide) _ n vs hs0 (hW.out.alloc _) ⟨w.heap.size, 0, none⟩ 1 1 [.slice Ay ny cy] hx rfl (cell_one_new _ _ _) ?_ ?_ ?_ ?_ ?_
  · intro u hu; simp at hu; subst hu; rfl
  · unfold maxLen; omega
  · omega
  · simp; omega
  · intro v' w1 hown1 hg1 _ _
    obtain ⟨A', c', rfl⟩ : ∃ A' c', v' = .slice A' (n + 1) c' := own_shape hown1
    exact h A' c' w1 hown1 (grown_over9 hg1) (((Below.refl B w).alloc hB _).grown hg1 (by simp; omega) (fun k hk => (World.ownsRow.lt hW.out k hk).1))

/-- a row of equal headers is a list of equal trees -/
theorem trees_same {w : World} {B n c m cu : Nat} {A U : Option Addr} {ds : List Int} (h : w.ownsRow B 26 1 (.slice A n c) n (List.replicate n (.slice U m cu))) (hm : ds.length = m) (hI : Ints w w.heap.size U ds) : Trees w A (List.replicate n ds) := fun hp => by
  rw [List.length_replicate] at hp
  rcases h.2 with ⟨h0, _⟩ | ⟨g, cap, cur, hv, hg, _⟩
  · injection h0 with _ e _; omega
  · injection hv with e1 e2 e3
    subst e1
    refine ⟨g, rfl, (World.ownsRow.lt h g rfl).2, fun k zs hk => ?_⟩
    rw [List.getElem?_replicate] at hk
    split at hk
    · rename_i hkn
      injection hk with hk
      subst hk
      refine ⟨U, cu, ?_, hI⟩
      rw [hm]
      exact (World.ownsRow.cellAt h k (by simp; omega)).trans (by simp [hkn])
    · cases hk

/-- rows below what is left alone -/
theorem own_lowS {w w' : World} {D base e size n : Nat} {v : Value} {xs : List Value} (h : w.ownsRow base e size v n xs) (hb : Below D w w') (hlt : ∀ b, v.ownBlock = some b → b < D) : w'.ownsRow base e size v n xs := by
  refine ⟨h.1, ?_⟩
  rcases h.2 with h2 | ⟨g, cap, cur, hv, hg, hh, r⟩
  · exact .inl h2
  · exact .inr ⟨g, cap, cur, hv, hg, (hb.block g (hlt g (by rw [hv]; rfl))).trans hh, r⟩
theorem join_tree {zss : List (List Int)} {n : Nat} (hn : zss.length = n) (hl : n ≤ 24) (h : ∀ zs ∈ zss, M.isTree zs = true) (ht : 1 + M.tot zss ≤ 24) : M.isTree (M.joinP zss n) = true := by
  have hg := M.go_mk (ts := zss) (fun t hm => M.tree_go (h t hm)) (by omega)
  have hlen := M.joinP_len zss n
  have e : M.joinP zss n = (zss.length : Int) :: zss.flatten := by rw [M.joinP, ← hn, List.take_length]
  rw [← hn, List.take_length] at hlen
  simp only [M.isTree, Bool.and_eq_true, decide_eq_true_eq]
  rw [← hn] at e ⊢
  rw [e] at hlen ⊢
  exact ⟨⟨by omega, by omega⟩, hg⟩

set_option maxRecDepth 100000 in
set_option maxHeartbeats 8000000 in
theorem l01Draw (w : World) (B g : Nat) (hS : Hid (Src w B g)) :
    Calls Try.prog 185 #[.pointer (some ⟨g, 0, none⟩)] w fun e w' => DrawnT w w' B g e := by
  have hgl := hS.out.lt
  have hS0 := Lib.hid (hS.out.be (bal (b0 w) (.cells #[.slice none 0 0] 26)))
  have hr0 : Hid ((w.alloc (.cells #[.slice none 0 0] 26)).heap[w.heap.size]? = some (.cells #[.slice none 0 0] 26 (0, 0))) := heap_alloc_new w _
  have hz0 : (w.alloc (.cells #[.slice none 0 0] 26)).heap.size = w.heap.size + 1 := by simp
  have hg0 : Hid (w.grownBy (w.alloc (.cells #[.slice none 0 0] 26)) (some g)) := src_of (bal (b0 w) _)
  go_enter Try.func185, Try.ntmps185
  go_wp2_with fail
  refine (l01Next 5 _ B g (by omega) hS0).mono ?_
  rintro e V ⟨r, rfl, ⟨hr1, hr2⟩, HS, hg1⟩
  have hz1 := hg1.out.size
  have HR := Lib.hid (res_keep hr0.out hg1.out (by omega))
  have HG := Lib.hid (src_tr hg0.out hg1.out)
  have hVz : w.heap.size + 1 ≤ V.heap.size := by omega
  clear hg0 hg1 hr0 hS hS0 hz0 hz1
  by_cases h0 : r = 0
  · subst h0
    go_wp2_with fail
    refine (l01Small V B g HS).mono ?_
    rintro e w2 ⟨n, A', c', ds, rfl, hn, hl, ht, ho, hS2, hg3⟩
    have hr4 := res_keep HR.out hg3.out (by omega)
    have hrc := cell_of_one hr4
    have hrf := free_of_one hr4
    obtain ⟨f1, f2, f3⟩ := drawn_end (w := w) (.slice A' n c') (by omega) ho.out hS2.out (src_tr HG.out hg3.out) hgl
    have F1 := Lib.hid f1
    have F2 := Lib.hid f2
    have F3 := Lib.hid f3
    clear f1 f2 f3
    go_wp2
    refine bodyPost_ret (v := .agg #[.slice A' n c']) (by simp [results, Try.results185, go_sem, hrc]) rfl ?_
    exact ⟨n, A', c', ds, rfl, hn, hl, ht, F1, F2, F3⟩
  · have hb0 : (r == 0) = false := by simp [h0]
    by_cases h1 : r = 1
    · subst h1
      go_wp2_with fail
      refine (l01Next 5 V B g (by omega) HS).mono ?_
      rintro e w1 ⟨r, rfl, ⟨hr1, hr2⟩, hS1, hg1⟩
      obtain ⟨k, rfl⟩ := Int.eq_ofNat_of_zero_le hr1
      have hwk : IntKind.i64.wrap (1 + (k : Int)) = ((1 + k : Nat) : Int) := by rw [IntWalk.i64_in _ (by omega)]; omega
      have hr3 := Lib.hid (res_keep HR.out hg1.out (by omega))
      have hg2 := Lib.hid (src_tr HG.out hg1.out)
      have hz2 := Nat.le_trans hVz hg1.out.size
      clear HG hg1 HR HS
      go_wp2_with fail
      have hcall := l01DrawOf (1 + k) w1 B g (by omega) (by omega) hS1
      rw [← hwk] at hcall
      rw [IntWalk.i64_in _ (by omega)] at hcall
      refine hcall.mono ?_
      rintro e w2 ⟨U, cu, ds, rfl, hl, ht, ho, hS2, hg3⟩
      have hr4 := Lib.hid (res_keep hr3.out hg3.out (by omega))
      have hg4 := Lib.hid (src_tr hg2.out hg3.out)
      have hz3 := Nat.le_trans hz2 hg3.out.size
      have ho4 := Lib.hid (own_mono (base' := w.heap.size + 1) ho.out (by omega))
      clear hr3 hg2 hg3 ho hS1 hcall
      obtain ⟨X, hX⟩ : ∃ X, X = (w2.alloc (.cells #[.slice U (1 + k) cu] 26)).alloc (.cells #[] 26) := ⟨_, rfl⟩
      have hbX : Hid (Below w2.heap.size w2 X) := by rw [hX]; exact bal (bal (b0 w2) _) _
      have hzX : X.heap.size = w2.heap.size + 1 + 1 := by rw [hX]; simp
      have hUX : Hid (X.heap[w2.heap.size]? = some (.cells #[.slice U (1 + k) cu] 26 (0, 0))) := by
        rw [hX]; exact (Below.heap_alloc _ _ _ (by simp)).trans (heap_alloc_new w2 _)
      have hLX : Hid (X.ownsRow (w2.heap.size + 1) 26 1 (.slice (some ⟨w2.heap.size + 1, 0, none⟩) 0 0) 0 []) := by
        rw [hX]
        have := World.ownsRow_made (e := 26) (size := 1) (w2.alloc (.cells #[.slice U (1 + k) cu] 26)) #[] 0 (Nat.le_refl _) (by simp [maxLen]) (by simp)
        simpa [Hid] using this
      have hub : Hid (∀ b, (Value.slice U (1 + k) cu).ownBlock = some b → b < w2.heap.size) := fun b hb => (ho4.out.lt b hb).2
      have hoX := Lib.hid (own_below ho4.out hbX.out (Nat.le_refl _))
      have hSX := Lib.hid (hS2.out.be hbX.out)
      have hrX := Lib.hid ((hbX.out.block w.heap.size (by omega)).trans hr4.out)
      have hgX := Lib.hid (src_trans hg4.out hbX.out (by omega))
      clear hbX hr4 hg4 ho4 hS2
      go_wp2_with fail
      rw [← hX]
      refine (l01Next 5 X B g (by omega) hSX).mono ?_
      rintro e w3 ⟨r, rfl, ⟨hr1, hr2⟩, hS3, hg3⟩
      obtain ⟨k3, rfl⟩ := Int.eq_ofNat_of_zero_le hr1
      have hr5 := Lib.hid (res_keep hrX.out hg3.out (by omega))
      have hU5 := Lib.hid (res_keep hUX.out hg3.out (by omega))
      have hg5 := Lib.hid (src_tr hgX.out hg3.out)
      have ho5 := Lib.hid (own_src hoX.out hg3.out (by omega))
      have hL5 := Lib.hid (own_src hLX.out hg3.out (by omega))
      have hz5 : w2.heap.size + 1 + 1 ≤ w3.heap.size := by have := hg3.out.size; omega
      clear hrX hUX hgX hoX hLX hSX hg3 hX hzX
      go_wp2
      go_loopw [4, 5] (fun q ki wr => ∃ (m kk c' : Nat) (A' : Option Addr), m + kk ≤ 4 ∧ ki = .int .i64 (kk : Int) ∧ q = .slice A' m c' ∧
          Hid (wr.ownsRow (w2.heap.size + 1) 26 1 (.slice A' m c') m (List.replicate m (.slice U (1 + k) cu))) ∧ Hid (Own64 wr (w.heap.size + 1) (.slice U (1 + k) cu) ds) ∧ Hid (Src wr B g) ∧ Hid (w.grownBy wr (some g)) ∧
          Hid (wr.heap[w.heap.size]? = some (.cells #[.slice none 0 0] 26 (0, 0))) ∧ Hid (wr.heap[w2.heap.size]? = some (.cells #[.slice U (1 + k) cu] 26 (0, 0))) ∧ w2.heap.size + 1 + 1 ≤ wr.heap.size) (fun _ ki _ => (intOf ki).toNat)
      case atStart => exact ⟨0, k3, 0, _, by omega, rfl, rfl, hL5, ho5, hS3, hg5, hr5, hU5, hz5⟩
      case round =>
        clear hr5 hU5 hg5 ho5 hL5 hS3 hz5
        obtain ⟨m, kk, c', A', hmk, rfl, rfl, hL, ho, hS, hg, hr, hU, hz⟩ := hrel
        rename World => V
        by_cases hk0 : 0 < kk
        · have hk0' : (0 : Int) < (kk : Int) := by omega
          have hcu := cell_of_one hU.out
          have hwk2 : IntKind.i64.wrap ((kk : Int) - 1) = ((kk - 1 : Nat) : Int) := by rw [IntWalk.i64_in _ (by omega)]; omega
          go_wp2_with (at_builtin; refine pushHdr rfl (.tmp 28) (.tmp 30) rfl V (w2.heap.size + 1) A' m c' (List.replicate m (.slice U (1 + k) cu)) U (1 + k) cu rfl rfl hL (by omega) (by omega) ?_; intro A2 c2 w4 hL4 _ hb4)
          go_roundw
          case rel => exact ⟨m + 1, kk - 1, c2, A2, by omega, rfl, rfl, Lib.hid (by rw [List.replicate_succ']; exact hL4.out), Lib.hid (own_lowS ho.out hb4.out (fun b hb => by have := hub.out b hb; omega)), Lib.hid (src_keep hS.out hb4.out (by omega)), Lib.hid (src_trans hg.out hb4.out (by omega)), Lib.hid ((hb4.out.block _ (by omega)).trans hr.out), Lib.hid ((hb4.out.block _ (by omega)).trans hU.out), Nat.le_trans hz hb4.out.size⟩
          case measure => simp [intOf]; omega
        · obtain rfl : kk = 0 := by omega
          have hk0' : ¬ (0 : Int) < ((0 : Nat) : Int) := by omega
          have hT := Lib.hid (trees_same hL.out hl.out (ints_of_own64 ho.out))
          have hall := Lib.hid (show ∀ zs ∈ List.replicate m ds, M.isTree zs = true from fun zs hz => by rw [(List.mem_replicate.1 hz).2]; exact ht.out)
          go_wp2_with fail
          refine (l01Join A' (List.replicate m ds) m c' V (Lib.hid (by simp)) (by omega) hall hT).mono ?_
          rintro e w5 ⟨hj1, hj2⟩
          by_cases hj : 1 + M.tot (List.replicate m ds) ≤ 24
          · obtain ⟨A5, c5, rfl, ho5, hb5⟩ := hj1 hj
            have hjt := Lib.hid (join_tree (n := m) (by simp) (by omega) hall.out hj)
            have hjl : (M.joinP (List.replicate m ds) m).length ≤ 24 ∧ 1 ≤ (M.joinP (List.replicate m ds) m).length := by have := M.tree_len hjt.out; omega
            have hr6 := (hb5.block w.heap.size (by omega)).trans hr.out
            have hrc := cell_of_one hr6
            have hrf := free_of_one hr6
            have hg6 := Lib.hid (src_trans hg.out hb5 (by omega))
            have hS6 := Lib.hid (hS.out.be hb5)
            have ho6 := Lib.hid ho5
            have hz6 := hb5.size
            generalize M.joinP (List.replicate m ds) m = js at hjt hjl ho6
            have hb7 : Hid (Below w5.heap.size w5 (w5.alloc (.cells #[.slice A5 js.length c5] 26))) := bal (b0 w5) _
            have hrc7 : (w5.alloc (.cells #[.slice A5 js.length c5] 26)).cell? ⟨w.heap.size, 0, none⟩ = some (.slice none 0 0) := cell_al hrc _
            have hrf7 : (w5.alloc (.cells #[.slice A5 js.length c5] 26)).frozen? ⟨w.heap.size, 0, none⟩ = false := free_of_one ((hb7.out.block _ (by omega)).trans hr6)
            obtain ⟨f1, f2, f3⟩ := drawn_end (w := w) (.slice A5 js.length c5) (by omega) (ho6.out.alloc (.cells #[.slice A5 js.length c5] 26)) (hS6.out.be hb7.out) (src_trans hg6.out hb7.out (by omega)) hgl
            have F1 := Lib.hid f1
            have F2 := Lib.hid f2
            have F3 := Lib.hid f3
            clear f1 f2 f3 hj1 hj2 ho5 hb5 hr6 hj
            go_wp2
            refine bodyPost_ret (v := .agg #[.slice A5 js.length c5]) (by simp [results, Try.results185, go_sem, hrc7]) rfl ?_
            exact ⟨js.length, A5, c5, js, rfl, ⟨hjl.2, hjl.1⟩, rfl, hjt, F1, F2, F3⟩
          · obtain ⟨rfl, hb5⟩ := hj2 hj
            obtain ⟨V', hV'⟩ : ∃ V', V' = w5.alloc (.cells #[.slice none 0 0] 26) := ⟨_, rfl⟩
            have hbV : Below V.heap.size V V' := by rw [hV']; exact bal hb5 _
            have HR := Lib.hid ((hbV.block w.heap.size (by omega)).trans hr.out)
            have HG := Lib.hid (src_trans hg.out hbV (by omega))
            have HS := Lib.hid (hS.out.be hbV)
            have hVz : w.heap.size + 1 ≤ V'.heap.size := by have := hbV.size; omega
            clear hj1 hj2 hb5 hbV hj hT hall hL ho hS hg hr hU hz
            have hzV : w5.heap.size + 1 = V'.heap.size := by rw [hV']; simp
            have hS4 := Lib.hid (HS.out.be (bal (b0 V') (.cells #[.int .i64 8, .int .i64 12, .int .i64 24] 2)))
            have hO := Lib.hid (off_new V' g HS.out.lt [8, 12, 24])
            simp only [List.map_cons, List.map_nil] at hO
            have hgA : Hid (V'.grownBy (V'.alloc (.cells #[.int .i64 8, .int .i64 12, .int .i64 24] 2)) (some g)) := World.grownBy_alloc _ _ _
            go_wp2_with fail
            rw [← hV']
            clear hV' hzV
            go_wp2_with fail
            refine (l01Pick (some ⟨V'.heap.size, 0, none⟩) [8, 12, 24] 3 3 _ B g rfl (by omega) (by omega) hO hS4).mono ?_
            rintro e w5 ⟨q, rfl, hq, hS5, hg5⟩
            have hqr : 8 ≤ q ∧ q ≤ 24 := by
              have := hq.out
              simp only [List.mem_cons, List.not_mem_nil, or_false] at this
              omega
            go_wp2_with fail
            refine (l01Next q w5 B g (by omega) hS5).mono ?_
            rintro e w6 ⟨r6, rfl, ⟨hr61, hr62⟩, hS6, hg6⟩
            obtain ⟨k6, rfl⟩ := Int.eq_ofNat_of_zero_le hr61
            have hwk : IntKind.i64.wrap (1 + (k6 : Int)) = ((1 + k6 : Nat) : Int) := by rw [IntWalk.i64_in _ (by omega)]; omega
            have hg7 := Lib.hid (src_tr (src_tr HG.out hgA.out) (src_tr hg5.out hg6.out))
            have hr7 := Lib.hid (res_keep (res_keep (res_keep HR.out hgA.out (by omega)) hg5.out (by omega)) hg6.out (by omega))
            have hz7 := Nat.le_trans hVz (src_tr hgA.out (src_tr hg5.out hg6.out)).size
            have hcall := l01DrawOf (1 + k6) w6 B g (by omega) (by omega) hS6
            rw [← hwk] at hcall
            rw [IntWalk.i64_in _ (by omega)] at hcall
            have HC := Lib.hid hcall
            clear hcall hg5 hg6 hgA HG HR hS4 hS5 hO hq
            go_wp2_with fail
            refine HC.out.mono ?_
            rintro e w8 ⟨A', c', ds, rfl, hl, ht, ho, hS8, hg8⟩
            have hr8 := res_keep hr7.out hg8.out (by omega)
            have hrc := cell_of_one hr8
            have hrf := free_of_one hr8
            obtain ⟨f1, f2, f3⟩ := drawn_end (w := w) (.slice A' (1 + k6) c') (by omega) ho.out hS8.out (src_tr hg7.out hg8.out) hgl
            have F1 := Lib.hid f1
            have F2 := Lib.hid f2
            have F3 := Lib.hid f3
            clear f1 f2 f3 HC
            go_wp2
            refine bodyPost_ret (v := .agg #[.slice A' (1 + k6) c']) (by simp [results, Try.results185, go_sem, hrc]) rfl ?_
            exact ⟨1 + k6, A', c', ds, rfl, ⟨by omega, by omega⟩, hl, ht, F1, F2, F3⟩
    · have hb1 : (r == 1) = false := by simp [h1]
      have hS4 := Lib.hid (HS.out.be (bal (b0 V) (.cells #[.int .i64 8, .int .i64 12, .int .i64 24] 2)))
      have hO := Lib.hid (off_new V g HS.out.lt [8, 12, 24])
      simp only [List.map_cons, List.map_nil] at hO
      have hgA : Hid (V.grownBy (V.alloc (.cells #[.int .i64 8, .int .i64 12, .int .i64 24] 2)) (some g)) := World.grownBy_alloc _ _ _
      go_wp2_with fail
      refine (l01Pick (some ⟨V.heap.size, 0, none⟩) [8, 12, 24] 3 3 _ B g rfl (by omega) (by omega) hO hS4).mono ?_
      rintro e w5 ⟨q, rfl, hq, hS5, hg5⟩
      have hqr : 8 ≤ q ∧ q ≤ 24 := by
        have := hq.out
        simp only [List.mem_cons, List.not_mem_nil, or_false] at this
        omega
      go_wp2_with fail
      refine (l01Next q w5 B g (by omega) hS5).mono ?_
      rintro e w6 ⟨r6, rfl, ⟨hr61, hr62⟩, hS6, hg6⟩
      obtain ⟨k6, rfl⟩ := Int.eq_ofNat_of_zero_le hr61
      have hwk : IntKind.i64.wrap (1 + (k6 : Int)) = ((1 + k6 : Nat) : Int) := by rw [IntWalk.i64_in _ (by omega)]; omega
      have hg7 := Lib.hid (src_tr (src_tr HG.out hgA.out) (src_tr hg5.out hg6.out))
      have hr7 := Lib.hid (res_keep (res_keep (res_keep HR.out hgA.out (by omega)) hg5.out (by omega)) hg6.out (by omega))
      have hz7 := Nat.le_trans hVz (src_tr hgA.out (src_tr hg5.out hg6.out)).size
      have hcall := l01DrawOf (1 + k6) w6 B g (by omega) (by omega) hS6
      rw [← hwk] at hcall
      rw [IntWalk.i64_in _ (by omega)] at hcall
      have HC := Lib.hid hcall
      clear hcall hg5 hg6 hgA HG HR hS4 hS5 hO hq
      go_wp2_with fail
      refine HC.out.mono ?_
      rintro e w8 ⟨A', c', ds, rfl, hl, ht, ho, hS8, hg8⟩
      have hr8 := res_keep hr7.out hg8.out (by omega)
      have hrc := cell_of_one hr8
      have hrf := free_of_one hr8
      obtain ⟨f1, f2, f3⟩ := drawn_end (w := w) (.slice A' (1 + k6) c') (by omega) ho.out hS8.out (src_tr hg7.out hg8.out) hgl
      have F1 := Lib.hid f1
      have F2 := Lib.hid f2
      have F3 := Lib.hid f3
      clear f1 f2 f3 HC
      go_wp2
      refine bodyPost_ret (v := .agg #[.slice A' (1 + k6) c']) (by simp [results, Try.results185, go_sem, hrc]) rfl ?_
      exact ⟨1 + k6, A', c', ds, rfl, ⟨by omega, by omega⟩, hl, ht, F1, F2, F3⟩
end Go.Proofs.Ytdgcjkgbglofbaa

/- append of one number to a row of the call's own, with what else is kept: no conditions. -/
namespace Go.Proofs.Ytdgcjkgbglofbaa
open Go.RowKit

/-- append of one number, with what else is kept -/
theorem push64K {ops : Array Oper} {rest : List Oper} {o : Oper} {a : Act} {Q : Exit → Act → World → Prop} (hgd : o.guard = none) (s x : Operand)
    (ho : o.op = .call { callee := .builtin .append, args := #[s, x], argTypes := #[24, 24] }) (w : World) (B : Nat) (A : Option Addr) (n c : Nat) (zs : List Int) (y : Int)
    (hs : a.eval s = .slice A n c) (N : Nat) (hx : a.eval x = .slice (some ⟨N, 0, none⟩) 1 1) (hN : N = w.heap.size) (hown : Hid (Own64 w B (.slice A n c) zs)) (hB : B ≤ w.heap.size) (hlen : n ≤ 1000000)
    (h : ∀ A' c' w', Hid (Own64 w' B (.slice A' (n + 1) c') (zs ++ [y])) → Hid ((w.alloc (.cells #[.int .i64 y] 2)).grownBy w' (Value.slice A n c).ownBlock) → Hid ((Value.slice A' (n + 1) c').ownBlock = (Value.slice A n c).ownBlock ∨ (Value.slice A' (n + 1) c').ownBlock = some (w.alloc (.cells #[.int .i64 y] 2)).heap.size) → wpList Try.prog ops Q rest (a.put o.dst (.slice A' (n + 1) c')) w') :
    wpList Try.prog ops Q (o :: rest) a (w.alloc (.cells #[.int .i64 y] 2)) := by
  subst hN
  obtain ⟨i0, hi0, hz0, hz1, hz2⟩ := info_parts info64
  have hown := hown.out
  have hn := own64_len hown
  subst hn
  refine wpList_append_own_at _ hgd s x 24 ho B 2 i0 (.int .i64 0) 1 8 Try.underlying24 hi0 hz0 hz1 hz2 rfl (by decide) _ zs.length (zs.map (Value.int .i64)) hs (hown.alloc _) ⟨w.heap.size, 0, none⟩ 1 1 [.int .i64 y] hx rfl ?_ ?_ ?_ ?_ ?_ ?_
  · intro j u hj
    match j, hj with
    | 0, hj => simp at hj; subst hj; simp [Addr.add]
  · intro u hu; simp at hu; subst hu; rfl
  · unfold maxLen; omega
  · omega
  · simp; omega
  · intro v' w1 hown1 hg1 _ hwh
    obtain ⟨A, c, rfl⟩ : ∃ A c, v' = .slice A (zs.length + 1) c := own_shape hown1
    refine h A c w1 ?_ hg1 hwh
    have e : (zs ++ [y]).length = zs.length + 1 := by simp
    show Own64 _ _ _ _
    unfold Own64
    rw [e]
    simpa using hown1

end Go.Proofs.Ytdgcjkgbglofbaa

/- A tree that seldom is none: the model's draw l01Bad. -/
namespace Go.Proofs.Ytdgcjkgbglofbaa
open Go.RowKit

/-- what holds while a tree is spoiled -/
structure BadQ (w : World) (B g D R b3 b5 gO cO n : Nat) (A : Option Addr) (c : Nat) (ds : List Int) (X : World) : Prop where
  num : g < D ∧ D ≤ w.heap.size ∧ R = w.heap.size + 1 ∧ b3 = w.heap.size ∧ w.heap.size + 1 < b5 ∧ w.heap.size + 1 < gO ∧ gO < b5
  sub : ∀ b, (Value.slice A n c).ownBlock = some b → b < w.heap.size
  src : Src X B g
  grown : w.grownBy X (some g)
  res : X.heap[R]? = some (.cells #[.slice none 0 0] 26 (0, 0))
  arg : X.heap[b3]? = some (.cells #[.slice A n c] 26 (0, 0))
  out : X.heap[b5]? = some (.cells #[.slice (some ⟨gO, 0, none⟩) n cO] 26 (0, 0))
  row : ∃ zs : List Int, zs.length = n ∧ Own64 X (w.heap.size + 1 + 1) (.slice (some ⟨gO, 0, none⟩) n cO) zs
  own : Own64 X D (.slice A n c) ds
theorem own_lowB {w w' : World} {D base e size n : Nat} {v : Value} {xs : List Value} (h : w.ownsRow base e size v n xs) (hb : Below D w w') (hlt : ∀ b, v.ownBlock = some b → b < D) : w'.ownsRow base e size v n xs := by
  refine ⟨h.1, ?_⟩
  rcases h.2 with h2 | ⟨g, cap, cur, hv, hg, hh, r⟩
  · exact .inl h2
  · exact .inr ⟨g, cap, cur, hv, hg, (hb.block g (hlt g (by rw [hv]; rfl))).trans hh, r⟩
section
variable {w X X' : World} {B g D R b3 b5 gO cO n c : Nat} {A : Option Addr} {ds : List Int}
theorem BadQ.be (h : BadQ w B g D R b3 b5 gO cO n A c ds X) (hb : Below X.heap.size X X') : BadQ w B g D R b3 b5 gO cO n A c ds X' := by
  obtain ⟨zs, hz, ho⟩ := h.row
  have hs := h.grown.size
  exact ⟨h.num, h.sub, h.src.be hb, src_trans h.grown hb hs, (hb.block R (Array.getElem?_eq_some_iff.1 h.res).1).trans h.res, (hb.block b3 (Array.getElem?_eq_some_iff.1 h.arg).1).trans h.arg, (hb.block b5 (Array.getElem?_eq_some_iff.1 h.out).1).trans h.out, ⟨zs, hz, own_below ho hb (Nat.le_refl _)⟩, own_below h.own hb (Nat.le_refl _)⟩
theorem BadQ.draw (h : BadQ w B g D R b3 b5 gO cO n A c ds X) (hg : X.grownBy X' (some g)) (hS : Src X' B g) : BadQ w B g D R b3 b5 gO cO n A c ds X' := by
  obtain ⟨zs, hz, ho⟩ := h.row
  obtain ⟨n1, n2, n3, n4, n5, n6, n7⟩ := h.num
  have K : ∀ b o, X.heap[b]? = some o → b ≠ g → X'.heap[b]? = some o := fun b o hb hne => (hg.block b (Array.getElem?_eq_some_iff.1 hb).1 (fun e => by injection e with e; exact hne e)).trans hb
  exact ⟨h.num, h.sub, hS, src_tr h.grown hg, K _ _ h.res (by omega), K _ _ h.arg (by omega), K _ _ h.out (by omega), ⟨zs, hz, own_src ho hg (by omega)⟩, own_src h.own hg n1⟩
theorem BadQ.set (h : BadQ w B g D R b3 b5 gO cO n A c ds X) (k : Nat) (x : Int) : BadQ w B g D R b3 b5 gO cO n A c ds (X.setCell ⟨gO, k, none⟩ (.int .i64 x)) := by
  obtain ⟨zs, hz, ho⟩ := h.row
  obtain ⟨n1, n2, n3, n4, n5, n6, n7⟩ := h.num
  have hg := src_grown X gO k (.int .i64 x)
  have K : ∀ b o, X.heap[b]? = some o → b ≠ gO → (X.setCell ⟨gO, k, none⟩ (.int .i64 x)).heap[b]? = some o := fun b o hb hne => (hg.block b (Array.getElem?_eq_some_iff.1 hb).1 (fun e => by injection e with e; exact hne e)).trans hb
  refine ⟨h.num, h.sub, h.src.kept hg (fun k e => by injection e with e; have := h.src.1; omega), src_trans h.grown (below_setCell (Below.refl w.heap.size X) (by omega) _) (Nat.le_refl _), K _ _ h.res (by omega), K _ _ h.arg (by omega), K _ _ h.out (by omega), ⟨zs.set k x, by simp [hz], own64_set ho hz k x⟩, ?_⟩
  exact ownsRow_setCell_other h.own (a := ⟨gO, k, none⟩) (fun e => by have := h.sub gO e; omega) _
theorem BadQ.cell (h : BadQ w B g D R b3 b5 gO cO n A c ds X) {k : Nat} (hk : k < n) : (∃ x, X.cell? ⟨gO, k, none⟩ = some (.int .i64 x)) ∧ X.frozen? ⟨gO, k, none⟩ = false := by
  obtain ⟨zs, hz, ho⟩ := h.row
  have := own64_cell ho hz (List.getElem?_eq_getElem (show k < zs.length by omega))
  exact ⟨⟨_, this.1⟩, this.2.1⟩
end

theorem off_tree {w : World} {B e size n X : Nat} {v : Value} {xs : List Value} {cs : Array Value} {p : Nat × Nat} {T : TypeId} (h : w.ownsRow B e size v n xs) (hX : w.heap[X]? = some (.cells cs T p)) (he : e ≠ T) : v.ownBlock ≠ some X := by
  intro hk
  rcases h.2 with ⟨e0, _⟩ | ⟨g, cap, cur, hv, _, hg, _⟩
  · rw [e0] at hk; cases hk
  · rw [hv] at hk
    have e1 : g = X := by injection hk
    rw [e1, hX] at hg
    injection hg with hg
    injection hg with _ hg
    exact he hg.symm
theorem BadQ.fin {w X : World} {B g D R b3 b5 gO cO n c m cz : Nat} {A Az : Option Addr} {ds zs : List Int} (h : BadQ w B g D R b3 b5 gO cO n A c ds X) (ho : Own64 X D (.slice Az m cz) zs) (v : Value) :
    Own64 (X.setCell ⟨R, 0, none⟩ v) D (.slice Az m cz) zs ∧ Src (X.setCell ⟨R, 0, none⟩ v) B g ∧ w.grownBy (X.setCell ⟨R, 0, none⟩ v) (some g) := by
  obtain ⟨n1, n2, n3, n4, n5, n6, n7⟩ := h.num
  refine ⟨ownsRow_setCell_other ho (a := ⟨R, 0, none⟩) (off_tree ho h.res (by decide)) _, h.src.kept (src_grown X R 0 v) (fun k e => by injection e with e; have := h.src.1; omega), src_trans h.grown (below_setCell (Below.refl w.heap.size X) (by omega) _) (Nat.le_refl _)⟩
theorem off_be {w w' : World} {g : Nat} {A : Option Addr} {xs : List Int} (h : Off w g A xs) (hb : Below w.heap.size w w') : Hid (Off w' g A xs) := by
  obtain ⟨b, off, e, hne, hc⟩ := h
  exact ⟨b, off, e, hne, fun j x hx => (hb.cell (p := ⟨b, off + j, none⟩) (World.block_lt_of_cell? _ _ (hc j x hx))).trans (hc j x hx)⟩
theorem off_src {w w' : World} {g : Nat} {A : Option Addr} {xs : List Int} (h : Hid (Off w g A xs)) (hg : w.grownBy w' (some g)) : Hid (Off w' g A xs) := by
  obtain ⟨b, off, e, hne, hc⟩ := h.out
  exact ⟨b, off, e, hne, fun j x hx => hg.cell (hc j x hx) (by simp; exact hne)⟩
/-- a list comes out that seldom is no tree -/
def DrawnL (w w' : World) (B D g : Nat) (e : Ending) : Prop :=
  ∃ (m : Nat) (A' : Option Addr) (c' : Nat) (zs : List Int), e = .returned (.agg #[.slice A' m c']) ∧ m ≤ 25 ∧ Hid (zs.length = m) ∧ Hid (Own64 w' D (.slice A' m c') zs) ∧ Hid (Src w' B g) ∧ Hid (w.grownBy w' (some g))

set_option maxRecDepth 100000 in
theorem l01Copy (A : Option Addr) (xs : List Int) (m c : Nat) (w : World) (hm : Hid (xs.length = m)) (hx : m ≤ 1000) (hz : Hid (A = none → c = 0)) (h : Hid (Ints w w.heap.size A xs)) :
    Calls Try.prog 276 #[.agg #[.slice A m c]] w fun e w' => ∃ A' c', e = .returned (.agg #[.slice A' m c']) ∧ Hid (Own64 w' (w.heap.size + 1) (.slice A' m c') xs) ∧ Hid (Below w.heap.size w w') := by
  go_enter Try.func276, Try.ntmps276
  go_wp2_with fail
  obtain ⟨W, hW⟩ : ∃ W, W = (w.alloc (.cells #[.slice A m c] 26)).alloc (.cells #[.slice none 0 0] 26) := ⟨_, rfl⟩
  have hbW : Below w.heap.size w W := by rw [hW]; exact bal (bal (b0 w) _) _
  have hzW : W.heap.size = w.heap.size + 1 + 1 := by rw [hW]; simp
  have hr : W.heap[w.heap.size + 1]? = some (.cells #[.slice none 0 0] 26 (0, 0)) := by
    rw [hW]
    have := heap_alloc_new (w.alloc (.cells #[.slice A m c] 26)) (.cells #[.slice none 0 0] 26)
    simpa using this
  rw [← hW]
  refine (l01Make A xs m c W hm (by omega) hz (h.out.be hbW)).mono ?_
  rintro e w1 ⟨A', c', rfl, ho, hb⟩
  have hr1 := (hb.block _ (by omega)).trans hr
  have hrc := cell_of_one hr1
  have hrf := free_of_one hr1
  have F1 := Lib.hid (own_mono (base' := w.heap.size + 1) (own_far (g := w.heap.size + 1) (k := 0) ho (by omega) (.slice A' m c')) (by omega))
  have F2 := Lib.hid (below_setCell (g := w.heap.size + 1) (k := 0) (btr hbW hb) (by omega) (.slice A' m c'))
  clear hbW hr hr1 ho hb hW
  go_wp2
  refine bodyPost_ret (v := .agg #[.slice A' m c']) (by simp [results, Try.results276, go_sem, hrc]) rfl ?_
  exact ⟨A', c', rfl, F1, F2⟩

set_option maxRecDepth 100000 in
set_option maxHeartbeats 8000000 in
theorem l01Bad (A : Option Addr) (n c : Nat) (ds : List Int) (w : World) (B D g : Nat) (hn : 1 ≤ n ∧ n ≤ 24) (hl : Hid (ds.length = n)) (hgD : g < D) (hD : D ≤ w.heap.size) (ho : Hid (Own64 w D (.slice A n c) ds)) (hS : Hid (Src w B g)) :
    Calls Try.prog 191 #[.pointer (some ⟨g, 0, none⟩), .agg #[.slice A n c]] w fun e w' => DrawnL w w' B D g e := by
  obtain ⟨W, hW⟩ : ∃ W, W = (w.alloc (.cells #[.slice A n c] 26)).alloc (.cells #[.slice none 0 0] 26) := ⟨_, rfl⟩
  have hbW : Below w.heap.size w W := by rw [hW]; exact bal (bal (b0 w) _) _
  have hzW : W.heap.size = w.heap.size + 1 + 1 := by rw [hW]; simp
  have hr : W.heap[w.heap.size + 1]? = some (.cells #[.slice none 0 0] 26 (0, 0)) := by
    rw [hW]
    have := heap_alloc_new (w.alloc (.cells #[.slice A n c] 26)) (.cells #[.slice none 0 0] 26)
    simpa using this
  have ha : W.heap[w.heap.size]? = some (.cells #[.slice A n c] 26 (0, 0)) := by
    rw [hW]; exact (Below.heap_alloc _ _ _ (by simp)).trans (heap_alloc_new w _)
  have hac := cell_of_one ha
  go_enter Try.func191, Try.ntmps191
  go_wp2_with fail
  rw [← hW]
  refine (l01Copy A ds n c W hl (by omega) (Lib.hid (own64_z ho.out)) (Lib.hid ((ints_of_own64 ho.out).be hbW))).mono ?_
  rintro e w1 ⟨A1, cO, rfl, ho1, hb1⟩
  obtain ⟨gO, rfl⟩ : ∃ gO, A1 = some ⟨gO, 0, none⟩ := by
    rcases ho1.out.2 with ⟨q1, q2⟩ | ⟨pb, cap, cur, hv, _⟩
    · have := hl.out; omega
    · injection hv with q1; exact ⟨pb, q1⟩
  have hgl := World.ownsRow.lt ho1.out gO rfl
  obtain ⟨V, hV⟩ : ∃ V, V = w1.alloc (.cells #[.slice (some ⟨gO, 0, none⟩) n cO] 26) := ⟨_, rfl⟩
  have hbV : Below W.heap.size W V := by rw [hV]; exact bal hb1.out _
  have hout : V.heap[w1.heap.size]? = some (.cells #[.slice (some ⟨gO, 0, none⟩) n cO] 26 (0, 0)) := by rw [hV]; exact heap_alloc_new w1 _
  have hQ : Hid (BadQ w B g D (w.heap.size + 1) w.heap.size w1.heap.size gO cO n A c ds V) := by
    refine ⟨⟨hgD, hD, rfl, rfl, by omega, by omega, hgl.2⟩, fun b hb => (ho.out.lt b hb).2, (hS.out.be hbW).be hbV, src_trans (src_of hbW) hbV (by omega), (hbV.block _ (by omega)).trans hr, (hbV.block _ (by omega)).trans ha, hout, ⟨ds, hl.out, ?_⟩, own_below (own_below ho.out hbW (Nat.le_refl _)) hbV (Nat.le_refl _)⟩
    rw [hV]
    exact own_mono (ho1.out.alloc _) (by omega)
  have hzO : w.heap.size + 1 < w1.heap.size := by omega
  obtain ⟨b5, hb5⟩ : ∃ b5, w1.heap.size = b5 := ⟨_, rfl⟩
  rw [hb5] at hQ hzO
  clear hac hr ha hbW hbV hout hb1 ho1
  go_wp2_with fail
  rw [← hV]
  refine (l01Next 50 V B g (by omega) (Lib.hid hQ.out.src)).mono ?_
  rintro e w2 ⟨r, rfl, ⟨hr0, hr1⟩, hS2, hg2⟩
  have hQ2 := Lib.hid (hQ.out.draw hg2.out hS2.out)
  clear hQ hg2 hS2 hV hW hzW hgl hb5
  have c5 := cell_of_one hQ2.out.out
  have c3 := cell_of_one hQ2.out.arg
  have cR := cell_of_one hQ2.out.res
  have fR := free_of_one hQ2.out.res
  have f5 := free_of_one hQ2.out.out
  by_cases h0 : r = 0
  · subst h0
    obtain ⟨f1, f2, f3⟩ := hQ2.out.fin (own64_nil w2 D) (.slice none 0 0)
    have F1 := Lib.hid f1
    have F2 := Lib.hid f2
    have F3 := Lib.hid f3
    clear f1 f2 f3
    go_wp2
    refine bodyPost_ret (v := .agg #[.slice none 0 0]) (by simp [results, Try.results191, go_sem, cR]) rfl ?_
    exact ⟨0, none, 0, [], rfl, by omega, rfl, F1, F2, F3⟩
  · have hb0 : (r == 0) = false := by simp [h0]
    by_cases h1 : r = 1
    · subst h1
      go_wp2
      have hn0 := hn.1
      have QS := Lib.hid (fun (X : World) (hX : Hid (BadQ w B g D (w.heap.size + 1) w.heap.size b5 gO cO n A c ds X)) => (show X.cell? ⟨b5, 0, none⟩ = some (.slice (some ⟨gO, 0, none⟩) n cO) ∧ X.cell? ⟨w.heap.size, 0, none⟩ = some (.slice A n c) ∧ Hid (BadQ w B g D (w.heap.size + 1) w.heap.size b5 gO cO n A c ds X) from ⟨cell_of_one hX.out.out, cell_of_one hX.out.arg, hX⟩))
      have QA := Lib.hid (fun (X : World) (o : Obj) (hX : Hid (BadQ w B g D (w.heap.size + 1) w.heap.size b5 gO cO n A c ds X)) => (show Hid (BadQ w B g D (w.heap.size + 1) w.heap.size b5 gO cO n A c ds (X.alloc o)) from hX.out.be (bal (b0 X) o)))
      have QW := Lib.hid (fun (X : World) (k : Nat) (x : Int) (hX : Hid (BadQ w B g D (w.heap.size + 1) w.heap.size b5 gO cO n A c ds X)) => (show Hid (BadQ w B g D (w.heap.size + 1) w.heap.size b5 gO cO n A c ds (X.setCell ⟨gO, k, none⟩ (.int .i64 x))) from hX.out.set k x))
      have HN := Lib.hid (fun (X : World) (hX : Hid (BadQ w B g D (w.heap.size + 1) w.heap.size b5 gO cO n A c ds X)) => (l01N A n c X).mono fun e w' h => (show e = .returned (.int .i64 (n : Int)) ∧ Hid (BadQ w B g D (w.heap.size + 1) w.heap.size b5 gO cO n A c ds w') ∧ Hid (Below X.heap.size X w') from ⟨h.1, hX.out.be h.2, h.2⟩))
      have HX := Lib.hid (fun (X : World) (hX : Hid (BadQ w B g D (w.heap.size + 1) w.heap.size b5 gO cO n A c ds X)) => (l01Next (n : Int) X B g (by omega) (Lib.hid hX.out.src)).mono fun e w' h => (show ∃ k : Nat, e = .returned (.int .i64 (k : Int)) ∧ k < n ∧ Hid (BadQ w B g D (w.heap.size + 1) w.heap.size b5 gO cO n A c ds w') ∧ Hid (X.grownBy w' (some g)) from by
        obtain ⟨r, he, ⟨h1, h2⟩, h3, h4⟩ := h
        obtain ⟨k, rfl⟩ := Int.eq_ofNat_of_zero_le h1
        exact ⟨k, he, by omega, hX.out.draw h4.out h3.out, h4⟩))
      have HP := Lib.hid (fun (X : World) (N : Nat) (hX : Hid (BadQ w B g D (w.heap.size + 1) w.heap.size b5 gO cO n A c ds X)) (hO : Hid (Off X g (some ⟨N, 0, none⟩) [-1, 0, 1, 2, 25])) => (l01Pick (some ⟨N, 0, none⟩) [-1, 0, 1, 2, 25] 5 5 X B g rfl (by omega) (by omega) hO (Lib.hid hX.out.src)).mono fun e w' h => (show ∃ x : Int, e = .returned (.int .i64 x) ∧ Hid (BadQ w B g D (w.heap.size + 1) w.heap.size b5 gO cO n A c ds w') from by
        obtain ⟨r, he, h1, h3, h4⟩ := h
        exact ⟨r, he, hX.out.draw h4.out h3.out⟩))
      have OF := Lib.hid (fun (X : World) (hX : Hid (BadQ w B g D (w.heap.size + 1) w.heap.size b5 gO cO n A c ds X)) => (show Hid (Off (X.alloc (.cells #[.int .i64 (-1), .int .i64 0, .int .i64 1, .int .i64 2, .int .i64 25] 2)) g (some ⟨X.heap.size, 0, none⟩) [-1, 0, 1, 2, 25]) from by
        have := off_new X g hX.out.src.lt [-1, 0, 1, 2, 25]
        simp only [List.map_cons, List.map_nil] at this
        exact this))
      have K0 : Hid (BadQ w B g D (w.heap.size + 1) w.heap.size b5 gO cO n A c ds w2.drew) := hQ2.out.be (Below.refl _ _).drew
      clear c5 c3 cR fR f5 hQ2
      go_region_held3 (fun X => X.cell? ⟨b5, 0, none⟩ = some (.slice (some ⟨gO, 0, none⟩) n cO) ∧ X.cell? ⟨w.heap.size, 0, none⟩ = some (.slice A n c) ∧ Hid (BadQ w B g D (w.heap.size + 1) w.heap.size b5 gO cO n A c ds X)) (first | exact QS.out _ K0 | exact QS.out _ (QA.out _ _ K0) | exact QS.out _ K6 | exact QS.out _ (QA.out _ _ K6) | exact QS.out _ K7 | exact QS.out _ (QA.out _ _ K7) | exact QS.out _ K8 | exact QS.out _ (QW.out _ _ _ K8)) (first | (go_at_call 169; refine (HN.out _ (by first | exact K0 | exact QA.out _ _ K0)).mono ?_; rintro e w6 ⟨rfl, K6, hb6⟩) | (go_at_call 186; refine (HX.out _ (by first | exact K6 | exact QA.out _ _ K6)).mono ?_; rintro e w7 ⟨k7, rfl, hk7, K7, hg7⟩; have hk70 : (0 : Int) ≤ (k7 : Int) := (by omega); have hk7n : (k7 : Int) < (n : Int) := (by omega)) | (go_at_call 209; refine (HP.out _ _ (by first | exact K7 | exact QA.out _ _ K7) (by first | exact OF.out _ K7 | exact off_src (OF.out _ K6) hg7.out | exact off_src (off_be (OF.out _ K0).out hb6.out) hg7.out)).mono ?_; rintro e w8 ⟨x8, rfl, K8⟩; obtain ⟨⟨d8, cd8⟩, fd8⟩ := K8.out.cell hk7))
      all_goals
        have K9 := QW.out _ k7 x8 K8
        clear QS QA QW HN HX HP OF K0 K6 K7 K8 hb6 hg7 cd8 fd8
        generalize w8.setCell ⟨gO, k7, none⟩ (.int .i64 x8) = X9 at K9 ⊢
        obtain ⟨zs9, hz9, ho9⟩ := K9.out.row
        have c5 := cell_of_one K9.out.out
        have cR := cell_of_one K9.out.res
        have fR := free_of_one K9.out.res
        obtain ⟨f1, f2, f3⟩ := K9.out.fin (own_mono ho9 (by omega)) (.slice (some ⟨gO, 0, none⟩) n cO)
        have F1 := Lib.hid f1
        have F2 := Lib.hid f2
        have F3 := Lib.hid f3
        clear f1 f2 f3 ho9
        go_wp2
        refine bodyPost_ret (v := .agg #[.slice (some ⟨gO, 0, none⟩) n cO]) (by simp [results, Try.results191, go_sem, cR]) rfl ?_
        exact ⟨n, _, cO, zs9, rfl, by omega, hz9, F1, F2, F3⟩
    · have hb1 : (r == 1) = false := by simp [h1]
      by_cases h2 : r = 2
      · subst h2
        obtain ⟨n1, n2, n3, n4, n5, n6, n7⟩ := hQ2.out.num
        obtain ⟨zs, hzl, hoz⟩ := hQ2.out.row
        have Hoz := Lib.hid hoz
        have hsz := hQ2.out.grown.size
        have h5l := (Array.getElem?_eq_some_iff.1 hQ2.out.out).1
        have hRl := (Array.getElem?_eq_some_iff.1 hQ2.out.res).1
        have HK := Lib.hid (fun (X : World) (b : Nat) (o : Obj) (hX : w2.grownBy X (some gO)) (hb : w2.heap[b]? = some o) (hne : b ≠ gO) => (show X.heap[b]? = some o from (hX.block b (Array.getElem?_eq_some_iff.1 hb).1 (fun e => by injection e with e; exact hne e)).trans hb))
        clear hoz
        go_wp2_with (at_builtin; refine push64K rfl (.tmp 29) (.tmp 30) rfl w2 (w.heap.size + 1 + 1) (some ⟨gO, 0, none⟩) n cO zs 0 rfl _ rfl rfl Hoz (by omega) (by omega) ?_; intro A3 c3' w3 ho3 hg3 _; have hg4 := Lib.hid (src_tr (World.grownBy_alloc w2 (.cells #[.int .i64 0] 2) (some gO)) hg3.out); have K5 := Lib.hid (HK.out _ _ _ hg4.out hQ2.out.out (by omega)); have KR := Lib.hid (HK.out _ _ _ hg4.out hQ2.out.res (by omega)); have d5 := cell_of_one K5.out; have e5 := free_of_one K5.out; have dR := cell_of_one KR.out; have eR := free_of_one KR.out)
        refine bodyPost_ret (v := .agg #[.slice A3 (n + 1) c3']) (by simp [results, Try.results191, go_sem, dR]) rfl ?_
        have hS3 := hQ2.out.src.kept hg4.out (fun k e => by injection e with e; have := hQ2.out.src.1; omega)
        have hS4 := hS3.kept (src_grown w3 b5 0 (.slice A3 (n + 1) c3')) (fun k e => by injection e with e; have := hS3.1; omega)
        have hS5 := hS4.kept (src_grown (w3.setCell ⟨b5, 0, none⟩ (.slice A3 (n + 1) c3')) (w.heap.size + 1) 0 (.slice A3 (n + 1) c3')) (fun k e => by injection e with e; have := hS3.1; omega)
        have hb3 : Below w.heap.size w2 w3 := ⟨hg4.out.os, hg4.out.tape, hg4.out.output, hg4.out.size, fun j hj => hg4.out.block j (by omega) (fun e => by injection e; omega)⟩
        refine ⟨n + 1, A3, c3', zs ++ [0], rfl, by omega, Lib.hid (by simp [hzl]), ?_, hS5, src_trans hQ2.out.grown (below_setCell (below_setCell hb3 (by omega) _) (by omega) _) (Nat.le_refl _)⟩
        have o1 := ownsRow_setCell_other ho3.out (a := ⟨b5, 0, none⟩) (off_tree ho3.out K5.out (by decide)) (.slice A3 (n + 1) c3')
        exact own_mono (ownsRow_setCell_other o1 (a := ⟨w.heap.size + 1, 0, none⟩) (off_tree ho3.out KR.out (by decide)) _) (by omega)
      · have hb2 : (r == 2) = false := by simp [h2]
        obtain ⟨f1, f2, f3⟩ := hQ2.out.fin hQ2.out.own (.slice A n c)
        have F1 := Lib.hid f1
        have F2 := Lib.hid f2
        have F3 := Lib.hid f3
        clear f1 f2 f3
        go_wp2
        refine bodyPost_ret (v := .agg #[.slice A n c]) (by simp [results, Try.results191, go_sem, cR]) rfl ?_
        exact ⟨n, A, c, ds, rfl, by omega, hl, F1, F2, F3⟩
end Go.Proofs.Ytdgcjkgbglofbaa

/- A number near a range: the model's draw. -/
namespace Go.Proofs.Ytdgcjkgbglofbaa
open Go.RowKit

set_option maxRecDepth 100000 in
set_option maxHeartbeats 4000000 in
theorem l01Near (most : Int) (w : World) (B g : Nat) (hm0 : -1 ≤ most) (hm1 : most ≤ 4611686018427387903) (hS : Hid (Src w B g)) :
    Calls Try.prog 190 #[.pointer (some ⟨g, 0, none⟩), .int .i64 most] w fun e w' => ∃ r : Int, e = .returned (.int .i64 r) ∧ (-4611686018427387904 ≤ r ∧ r ≤ 4611686018427387904) ∧ Hid (Src w' B g) ∧ Hid (w.grownBy w' (some g)) := by
  have hwr : IntKind.i64.wrap (most + 1) = most + 1 := IntWalk.i64_in _ (by omega)
  go_enter Try.func190, Try.ntmps190
  go_wp2_with fail
  refine (l01Next 14 w B g (by omega) hS).mono ?_
  rintro e w1 ⟨r, rfl, ⟨hr0, hr1⟩, hS1, hg1⟩
  by_cases h0 : r = 0
  · subst h0
    have hS2 := Lib.hid (hS1.out.be (bal (b0 w1) (.cells #[.int .i64 (-1), .int .i64 (most + 1), .int .i64 1099511627776, .int .i64 (-4611686018427387904)] 2)))
    have hO := Lib.hid (off_new w1 g hS1.out.lt [-1, most + 1, 1099511627776, -4611686018427387904])
    simp only [List.map_cons, List.map_nil] at hO
    go_wp2_with fail
    refine (l01Pick (some ⟨w1.heap.size, 0, none⟩) [-1, most + 1, 1099511627776, -4611686018427387904] 4 4 _ B g rfl (by omega) (by omega) hO hS2).mono ?_
    rintro e w2 ⟨x, rfl, hx, hS3, hg2⟩
    have hxb : -4611686018427387904 ≤ x ∧ x ≤ 4611686018427387904 := by
      have := hx.out
      simp only [List.mem_cons, List.not_mem_nil, or_false] at this
      omega
    go_wp2
    go_ret
    exact ⟨x, rfl, hxb, hS3, Lib.hid (src_tr hg1.out (src_tr (World.grownBy_alloc w1 _ _) hg2.out))⟩
  · have hb : (r == 0) = false := by simp [h0]
    go_wp2_with fail
    refine (l01Next (most + 1) w1 B g (by omega) hS1).mono ?_
    rintro e w2 ⟨x, rfl, ⟨hx0, hx1⟩, hS3, hg2⟩
    go_wp2
    go_ret
    exact ⟨x, rfl, by omega, hS3, Lib.hid (src_tr hg1.out hg2.out)⟩
end Go.Proofs.Ytdgcjkgbglofbaa

/- The source of draws of a code: made in a box of its own. -/
namespace Go.Proofs.Ytdgcjkgbglofbaa
open Go.RowKit

theorem u64_range' (n : Int) : 0 ≤ IntKind.u64.wrap n ∧ IntKind.u64.wrap n ≤ 18446744073709551615 := by rw [IntKind.wrap_u64]; omega
set_option maxRecDepth 100000 in
set_option maxHeartbeats 4000000 in
theorem l01FromB (A : Option Addr) (zs : List Int) (c B : Nat) (w : World) (hB : B ≤ w.heap.size) (hzc : zs.length ≤ c) (hc : c ≤ 9223372036854775807) (hz : Hid (∀ x ∈ zs, 0 ≤ x ∧ x ≤ 255)) (h : Hid (Byts w B A zs)) :
    Calls Try.prog 165 #[.slice A zs.length c] w fun e w' => ∃ g, e = .returned (.pointer (some ⟨g, 0, none⟩)) ∧ w.heap.size ≤ g ∧ Hid (Src w' B g) ∧ Hid (Below w.heap.size w w') := by
  go_enter Try.func165, Try.ntmps165
  have hN := heap_alloc_new w (.cells #[.slice A zs.length c, .int .i64 0, .int .u64 (13911 + (zs.length : Int))] 221)
  go_wp2
  go_loopw [4] (fun i wr => ∃ (k : Nat) (h' : Int), k ≤ zs.length ∧ i = .int .i64 (k : Int) ∧ Hid (SrcBox wr w.heap.size A zs c 0 h') ∧ Hid (0 ≤ h' ∧ h' ≤ 18446744073709551615) ∧ Hid (Below w.heap.size w wr)) (fun i _ => zs.length - (intOf i).toNat)
  case atStart => exact ⟨0, _, Nat.zero_le _, rfl, hN, Lib.hid ⟨by omega, by omega⟩, bal (b0 w) _⟩
  case round =>
    clear hN
    obtain ⟨k, h', hk, rfl, hbx, hh, hb⟩ := hrel
    by_cases hlt : k < zs.length
    · have hlt' : (k : Int) < (zs.length : Int) := by omega
      by_cases h4 : k < 4096
      · have h4' : (k : Int) < 4096 := by omega
        have hk0 : (0 : Int) ≤ (k : Int) := by omega
        obtain ⟨b, off, rfl, hbB, hcell⟩ := h.out (by omega)
        have hy := List.getElem?_eq_getElem hlt
        have hyr := hz.out _ (List.mem_of_getElem? hy)
        generalize zs[k] = y at hy hyr
        have hcy := (hb.out.cell (p := ⟨b, off + k, none⟩) (Nat.lt_of_lt_of_le hbB hB)).trans (hcell k y hy)
        obtain ⟨⟨c0, c1, c2⟩, f1, f2, hl1⟩ := hbx.out.cells
        have hwk : IntKind.i64.wrap ((k : Int) + 1) = ((k + 1 : Nat) : Int) := by rw [IntWalk.i64_in _ (by omega)]; omega
        clear hcell hy
        go_wp2
        go_region
        go_wp2
        go_roundw
        case rel => exact ⟨k + 1, _, by omega, by go_num, hbx.out.hash _, u64_range' _, (below_setCell hb.out (Nat.le_refl _) _).drew⟩
        case measure => simp [intOf]; omega
      · have h4' : ¬ (k : Int) < 4096 := by omega
        go_wp2
        go_ret
        exact ⟨w.heap.size, rfl, Nat.le_refl _, ⟨hB, A, zs, c, 0, h', hbx.out, by omega, hzc, hc, hz.out, h.out.below hb.out hB, hh.out⟩, hb⟩
    · have hlt' : ¬ (k : Int) < (zs.length : Int) := by omega
      go_wp2
      go_ret
      exact ⟨w.heap.size, rfl, Nat.le_refl _, ⟨hB, A, zs, c, 0, h', hbx.out, by omega, hzc, hc, hz.out, h.out.below hb.out hB, hh.out⟩, hb⟩
theorem l01From (A : Option Addr) (zs : List Int) (c : Nat) (w : World) (hzc : zs.length ≤ c) (hc : c ≤ 9223372036854775807) (hz : Hid (∀ x ∈ zs, 0 ≤ x ∧ x ≤ 255)) (h : Hid (Byts w w.heap.size A zs)) :
    Calls Try.prog 165 #[.slice A zs.length c] w fun e w' => ∃ g, e = .returned (.pointer (some ⟨g, 0, none⟩)) ∧ Hid (Src w' w.heap.size g) ∧ Hid (Below w.heap.size w w') :=
  (l01FromB A zs c w.heap.size w (Nat.le_refl _) hzc hc hz h).mono fun _ _ ⟨g, he, _, h1, h2⟩ => ⟨g, he, h1, h2⟩
end Go.Proofs.Ytdgcjkgbglofbaa
