/- CountByLeaves, the program's and the model's: the number of trees by their leaves, or a code. -/
import Derived.Test.YtdaghbfejcjknabLeavesBy
import Derived.Test.YtdaghbfejcjknabChoose
import Derived.Test.YtdaghbfejcjknabNumbers
namespace Go.Proofs.Ytdaghbfejcjknab
open Go.RowKit

def F_CountByLeaves (n k : Int) : Int × Int := if (1 ≤ n ∧ n ≤ 30) ∧ 0 ≤ k ∧ k ≤ n then ((M.Tl n.toNat k.toNat : Int), 0) else (0, 2)

set_option maxHeartbeats 1000000 in
set_option maxRecDepth 100000 in
theorem impl_CountByLeaves : GivesNumN2 38 F_CountByLeaves := by
  intro n k w _ _ _ _
  obtain ⟨b, hb⟩ : ∃ b, Hid (((decide ((1 : Int) ≤ n) && decide (n ≤ 30)) && (decide (0 ≤ k) && decide (k ≤ n))) = b) := ⟨_, rfl⟩
  cases b
  · have hF : F_CountByLeaves n k = (0, 2) := if_neg (fun h => by have := counted_iff.2 h; rw [hb.out] at this; cases this)
    rw [hF]
    clear hF
    go_enter Try.func38, Try.ntmps38
    go_wp2_with (go_at_call 70; refine (countedAny _ _ _ _ hb).mono ?_; rintro e w' ⟨rfl, rfl⟩)
    go_ret2
    exact ⟨rfl, b0 _⟩
  · have h12 := counted_iff.1 hb.out
    obtain ⟨m, hm0⟩ := Int.eq_ofNat_of_zero_le (show 0 ≤ n - 1 by omega)
    obtain rfl : n = (m : Int) + 1 := by omega
    clear hm0
    obtain ⟨t, rfl⟩ := Int.eq_ofNat_of_zero_le (show 0 ≤ k by omega)
    have hF : F_CountByLeaves ((m : Int) + 1) t = ((M.Tl (m + 1) t : Int), 0) := by
      have e1 : ((m : Int) + 1).toNat = m + 1 := by omega
      rw [F_CountByLeaves, if_pos h12, e1, Int.toNat_natCast]
    have hm : m ≤ 29 := by omega
    have hc := Lib.hid (treesByLeaves_at w.heap.size m t (w.alloc (.map #[] 0)) (by omega) (by omega) (leavesAt w.heap.size m hm) (Memo.new M.entG w))
    have hmm := @run_makeMap Try.prog
    rw [hF]
    clear hF h12
    go_enter Try.func38, Try.ntmps38
    go_wp2_with (go_at_call 70; refine (countedAny _ _ _ _ hb).mono ?_; rintro e w' ⟨rfl, rfl⟩)
    refine hc.out.mono ?_
    rintro e w2 ⟨rfl, hM, hg⟩
    have hB : Hid (Below w.heap.size w w2) := (bal (b0 w) (.map #[] 0)).grown hg.out (by simp) (fun k e => by injection e with e; omega)
    clear hmm hc
    go_wp2
    go_ret2
    exact ⟨rfl, hB.out⟩

set_option maxHeartbeats 1000000 in
set_option maxRecDepth 100000 in
theorem spec_CountByLeaves : GivesNumN2 37 F_CountByLeaves := by
  intro n k w _ _ _ _
  obtain ⟨b, hb⟩ : ∃ b, Hid (((decide ((1 : Int) ≤ n) && decide (n ≤ 30)) && (decide (0 ≤ k) && decide (k ≤ n))) = b) := ⟨_, rfl⟩
  cases b
  · have hF : F_CountByLeaves n k = (0, 2) := if_neg (fun h => by have := counted_iff.2 h; rw [hb.out] at this; cases this)
    rw [hF]
    clear hF
    go_enter Try.func37, Try.ntmps37
    go_wp2_with (go_at_call 68; refine (l02Numbers _ _ _ _ hb).mono ?_; rintro e w' ⟨rfl, rfl⟩)
    go_ret2
    exact ⟨rfl, b0 _⟩
  · have h12 := counted_iff.1 hb.out
    obtain ⟨m, hm0⟩ := Int.eq_ofNat_of_zero_le (show 0 ≤ n - 1 by omega)
    obtain rfl : n = (m : Int) + 1 := by omega
    clear hm0
    obtain ⟨t, rfl⟩ := Int.eq_ofNat_of_zero_le (show 0 ≤ k by omega)
    have hF : F_CountByLeaves ((m : Int) + 1) t = ((M.Tl (m + 1) t : Int), 0) := by
      have e1 : ((m : Int) + 1).toNat = m + 1 := by omega
      rw [F_CountByLeaves, if_pos h12, e1, Int.toNat_natCast]
    have hm : m ≤ 29 := by omega
    have htm : t ≤ m + 1 := by omega
    rw [hF]
    clear hF h12
    rcases Nat.eq_zero_or_pos m with h0 | h0
    · subst h0
      have hT : Hid (M.Tl (0 + 1) t = t) := by
        show _ = _
        have e : M.Tl (0 + 1) t = if t = 1 then 1 else 0 := rfl
        rw [e]
        split <;> omega
      rw [hT.out]
      go_enter Try.func37, Try.ntmps37
      go_wp2_with (go_at_call 68; refine (l02Numbers _ _ _ _ hb).mono ?_; rintro e w' ⟨rfl, rfl⟩)
      go_ret2
      exact ⟨rfl, b0 _⟩
    · have hT : M.Tl (m + 1) t = M.entG m t := by rw [M.Tl, if_neg (by omega)]; rfl
      rw [hT, ← M.ch_leaves h0 hm (k := t) (by omega)]
      have ha : M.ch m (t : Int) ≤ 100000000 := by
        rw [M.ch]; split
        · omega
        · exact M.ch_small hm (by omega)
      have hb2 : M.ch m ((t : Int) - 1) ≤ 100000000 := by
        rw [M.ch]; split
        · omega
        · exact M.ch_small hm (by omega)
      have hc1 := l02Choose m (t : Int) w hm (by omega) (by omega) _ rfl
      have hc2 := l02Choose m ((t : Int) - 1) w hm (by omega) (by omega) _ rfl
      generalize M.ch m (t : Int) = a at *
      generalize M.ch m ((t : Int) - 1) = d at *
      obtain ⟨p, hp⟩ : ∃ p, Hid (a * d = p) := ⟨_, rfl⟩
      have hpb : p ≤ 10000000000000000 := by rw [← hp.out]; exact Nat.mul_le_mul ha hb2
      have hpe : (a : Int) * (d : Int) = (p : Int) := by rw [← hp.out, Int.natCast_mul]
      obtain ⟨q, hq⟩ : ∃ q, Hid (p / m = q) := ⟨_, rfl⟩
      have hqb : q ≤ 10000000000000000 := by rw [← hq.out]; exact Nat.le_trans (Nat.div_le_self _ _) hpb
      have hqe : (p : Int) / (m : Int) = (q : Int) := by rw [← hq.out, Int.natCast_ediv]
      rw [hp.out, hq.out]
      have HC1 := Lib.hid hc1
      have HC2 := Lib.hid hc2
      have hm1 : ((m : Int) + 1 == 1) = false := by simp; omega
      have hm2 : 1 ≤ (m : Int) := by omega
      clear hc1 hc2 hT
      go_enter Try.func37, Try.ntmps37
      go_wp2_with (go_at_call 68; refine (l02Numbers _ _ _ _ hb).mono ?_; rintro e w' ⟨rfl, rfl⟩)
      refine HC1.out.mono ?_
      rintro e w' ⟨rfl, rfl⟩
      go_wp2_with fail
      refine HC2.out.mono ?_
      rintro e w' ⟨rfl, rfl⟩
      go_wp2
      go_ret2
      exact ⟨rfl, b0 _⟩
end Go.Proofs.Ytdaghbfejcjknab
