/- The walks of IsTree, the program's and the model's: both return the same Bool of the list of degrees. -/
import Derived.Test.YtdgcjkgbglofbaaTree
import Derived.Test.YtdgcjkgbglofbaaMath
namespace Go.Proofs.Ytdgcjkgbglofbaa
open Go.RowKit

theorem inAny (n lo hi : Int) (w : World) (b : Bool) (hb : Hid ((decide (lo ≤ n) && decide (n ≤ hi)) = b)) :
    Calls Try.prog 229 #[.int .i64 n, .int .i64 lo, .int .i64 hi] w fun e w' => e = .returned (.bool b) ∧ w = w' := by
  by_cases h : lo ≤ n
  · have hb' : b = decide (n ≤ hi) := by rw [← hb.out]; simp [h]
    clear hb
    subst hb'
    go_enter Try.func229, Try.ntmps229
    go_wp2
    go_ret
    exact ⟨rfl, rfl⟩
  · have hb' : b = false := by rw [← hb.out]; simp; intro h'; exact absurd h' h
    clear hb
    subst hb'
    have hd : decide (lo ≤ n) = false := decide_eq_false h
    go_enter Try.func229, Try.ntmps229
    go_wp2
    go_ret
    exact ⟨rfl, rfl⟩

theorem l01N (A : Option Addr) (n c : Nat) (w : World) : Calls Try.prog 169 #[.agg #[.slice A n c]] w fun e w' => e = .returned (.int .i64 n) ∧ Below w.heap.size w w' := by
  go_enter Try.func169, Try.ntmps169
  go_wp2
  go_ret
  exact ⟨rfl, bal (b0 w) _⟩

set_option maxHeartbeats 1000000 in
theorem specIs (A : Option Addr) (xs : List Int) (c : Nat) (w : World) (hx : xs.length ≤ 1000000000000) (h : Ints w w.heap.size A xs) :
    Calls Try.prog 168 #[.agg #[.slice A xs.length c]] w fun e w' => e = .returned (.bool (M.isTree xs)) ∧ Below w.heap.size w w' := by
  by_cases hn : 1 ≤ xs.length ∧ xs.length ≤ 24
  · have hd : Hid ((decide ((1 : Int) ≤ (xs.length : Int)) && decide ((xs.length : Int) ≤ 24)) = true) := by simp [Hid]; omega
    have ht := Lib.hid (M.isTree_is hn.1 hn.2)
    obtain ⟨hn1, hn2⟩ := hn
    go_enter Try.func168, Try.ntmps168
    go_wp2_with fail
    refine (l01N A xs.length c _).mono ?_
    rintro e w1 ⟨rfl, hb⟩
    obtain ⟨hc, hf⟩ := bcell hb
    have hB := btr (bal (b0 w) _) hb
    have h1 := (h.al (.cells #[.slice A xs.length c] 26)).be hb
    clear h
    have hsz : w.heap.size < w1.heap.size := by have := hb.size; simp at this; omega
    have hcell : w1.cell? ⟨w.heap.size, 0, none⟩ = some (.slice A xs.length c) := by rw [hc _ _ (by simp)]; simp
    clear hc hf hb
    go_wp2_with (go_at_call 229; refine (inAny _ _ _ _ _ hd).mono ?_; rintro e w' ⟨rfl, rfl⟩)
    go_loop [3, 4] (fun q i => ∃ (k : Nat) (o : Int), k ≤ xs.length ∧ i = .int .i64 k ∧ q = .int .i64 o ∧ 0 ≤ o ∧ o ≤ 1 + 24 * k ∧ Hid (M.isTree xs = M.isGo o (xs.drop k))) (fun _ i => xs.length - (intOf i).toNat)
    case atStart => exact ⟨0, 1, Nat.zero_le _, rfl, rfl, by omega, by omega, ht⟩
    case round =>
      obtain ⟨k, o, hk, rfl, rfl, ho0, ho1, hg⟩ := hrel
      clear ht
      by_cases hlt : k < xs.length
      · obtain ⟨b, off, x, rfl, hbB, g, hX⟩ := h1.at_ hlt
        clear h1
        by_cases ho : o = 0
        · subst ho
          have hs := Lib.hid (hg.out.trans (M.isGo_stop hX.out (by simp)))
          go_wp2_with fail
          go_ret
          exact ⟨by rw [hs.out]; rfl, hB⟩
        · have ho' : (o == 0) = false := by simp [ho]
          have ho2 : 1 ≤ o := by omega
          by_cases hr : 0 ≤ x ∧ x ≤ 24
          · obtain ⟨hr1, hr2⟩ := hr
            have hs := Lib.hid (hg.out.trans (M.isGo_step hX.out ho hr1 hr2))
            have hd2 : Hid ((decide (0 ≤ x) && decide (x ≤ 24)) = true) := by simp [Hid, hr1, hr2]
            clear ho
            go_wp2_with (go_at_call 229; refine (inAny _ _ _ _ _ hd2).mono ?_; rintro e w' ⟨rfl, rfl⟩)
            go_round
            case rel => exact ⟨k + 1, o - 1 + x, by omega, by go_num, rfl, by omega, by omega, hs⟩
            case measure => simp [intOf]; omega
          · have hd2 : Hid ((decide (0 ≤ x) && decide (x ≤ 24)) = false) := by simp [Hid]; omega
            have hs := Lib.hid (hg.out.trans (M.isGo_stop (o := o) hX.out (by rw [hd2.out]; simp)))
            clear ho
            go_wp2_with (go_at_call 229; refine (inAny _ _ _ _ _ hd2).mono ?_; rintro e w' ⟨rfl, rfl⟩)
            go_ret
            exact ⟨by rw [hs.out]; rfl, hB⟩
      · obtain rfl : k = xs.length := by omega
        have hs := hg.out
        rw [List.drop_length] at hs
        have Hs : Hid (M.isTree xs = (o == 0)) := hs
        clear hs hg
        go_wp2
        go_ret
        exact ⟨by rw [Hs.out]; rfl, hB⟩
  · have hd : Hid ((decide ((1 : Int) ≤ (xs.length : Int)) && decide ((xs.length : Int) ≤ 24)) = false) := by simp [Hid]; omega
    have ht := Lib.hid (M.isTree_no hn)
    clear hn
    go_enter Try.func168, Try.ntmps168
    go_wp2_with fail
    refine (l01N A xs.length c _).mono ?_
    rintro e w1 ⟨rfl, hb⟩
    have hB := btr (bal (b0 w) _) hb
    clear h
    go_wp2_with (go_at_call 229; refine (inAny _ _ _ _ _ hd).mono ?_; rintro e w' ⟨rfl, rfl⟩)
    go_ret
    exact ⟨by rw [ht.out]; rfl, hB⟩

set_option maxHeartbeats 1000000 in
theorem implIsTree (A : Option Addr) (xs : List Int) (c : Nat) (w : World) (hx : xs.length ≤ 1000000000000) (h : Ints w w.heap.size A xs) :
    Calls Try.prog 34 #[.agg #[.slice A xs.length c]] w fun e w' => e = .returned (.bool (M.isTree xs)) ∧ Below w.heap.size w w' := by
  by_cases hn : 1 ≤ xs.length
  · have hn' : ¬ ((xs.length : Int) < 1) := by omega
    have hd0 : decide ((xs.length : Int) < 1) = false := decide_eq_false hn'
    by_cases hn2 : xs.length ≤ 24
    · have ht := Lib.hid (M.isTree_im hn hn2)
      have hh := h.al (.cells #[.slice A xs.length c] 26)
      clear h
      go_enter Try.func34, Try.ntmps34
      go_wp2
      go_loop [4, 19] (fun q i => ∃ (k : Nat) (o : Int), k ≤ xs.length ∧ i = .int .i64 k ∧ q = .int .i64 o ∧ 0 ≤ o ∧ o ≤ 1 + 24 * k ∧ Hid (M.isTree xs = M.imGo xs.length o (xs.drop k))) (fun _ i => xs.length - (intOf i).toNat)
      case atStart => exact ⟨0, 1, Nat.zero_le _, rfl, rfl, by omega, by omega, ht⟩
      case round =>
        obtain ⟨k, o, hk, rfl, rfl, ho0, ho1, hg⟩ := hrel
        clear ht
        by_cases hlt : k < xs.length
        · obtain ⟨b, off, x, rfl, hbB, g, hX⟩ := hh.at_ hlt
          clear hh
          by_cases ho : o = 0
          · subst ho
            have hs := Lib.hid (hg.out.trans (M.imGo_stop hX.out (by simp)))
            go_wp2
            go_ret
            exact ⟨by rw [hs.out]; rfl, bal (b0 w) _⟩
          · have ho' : (o == 0) = false := by simp [ho]
            have ho2 : 1 ≤ o := by omega
            by_cases hr : x < 0
            · have hs := Lib.hid (hg.out.trans (M.imGo_stop (n := xs.length) (o := o) hX.out (by simp [hr])))
              clear ho
              go_wp2
              go_ret
              exact ⟨by rw [hs.out]; rfl, bal (b0 w) _⟩
            · have hr' : decide (x < 0) = false := decide_eq_false hr
              have hr0 : 0 ≤ x := by omega
              by_cases hr2 : (xs.length : Int) ≤ x
              · have hs := Lib.hid (hg.out.trans (M.imGo_stop (n := xs.length) (o := o) hX.out (by simp [hr2])))
                clear ho hr
                go_wp2
                go_ret
                exact ⟨by rw [hs.out]; rfl, bal (b0 w) _⟩
              · have hs := Lib.hid (hg.out.trans (M.imGo_step (n := xs.length) hX.out ho hr0 (by omega)))
                have hr3 : x < (xs.length : Int) := by omega
                have hr4 : decide ((xs.length : Int) ≤ x) = false := decide_eq_false hr2
                clear ho hr
                go_wp2
                go_round
                case rel => exact ⟨k + 1, o + (x - 1), by omega, by go_num, rfl, by omega, by omega, hs⟩
                case measure => simp [intOf]; omega
        · obtain rfl : k = xs.length := by omega
          have hs := hg.out
          rw [List.drop_length] at hs
          have Hs : Hid (M.isTree xs = (o == 0)) := hs
          clear hs hg
          go_wp2
          go_ret
          exact ⟨by rw [Hs.out]; rfl, bal (b0 w) _⟩
    · have ht := Lib.hid (M.isTree_no (xs := xs) (by omega))
      have hd1 : (24 : Int) < (xs.length : Int) := by omega
      go_enter Try.func34, Try.ntmps34
      go_wp2
      go_ret
      exact ⟨by rw [ht.out]; rfl, bal (b0 w) _⟩
  · have ht := Lib.hid (M.isTree_no (xs := xs) (by omega))
    have hd1 : (xs.length : Int) < 1 := by omega
    go_enter Try.func34, Try.ntmps34
    go_wp2
    go_ret
    exact ⟨by rw [ht.out]; rfl, bal (b0 w) _⟩
end Go.Proofs.Ytdgcjkgbglofbaa
