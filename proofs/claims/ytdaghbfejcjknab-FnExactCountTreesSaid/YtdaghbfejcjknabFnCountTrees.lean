/- CountTrees, the program's and the model's: the number of trees of n nodes, or a code. -/
import Derived.Test.YtdaghbfejcjknabLists
import Derived.Test.YtdaghbfejcjknabCatalan
import Derived.Test.YtdaghbfejcjknabFirst
namespace Go.Proofs.Ytdaghbfejcjknab
open Go.RowKit

def F_CountTrees (n : Int) : Int × Int := if 1 ≤ n ∧ n ≤ 30 then ((M.L n.toNat 1 : Int), 0) else (0, 2)

set_option maxHeartbeats 1000000 in
set_option maxRecDepth 100000 in
theorem impl_CountTrees : GivesNumN1 36 F_CountTrees := by
  intro n w _ _
  obtain ⟨b, hb⟩ : ∃ b, Hid ((decide ((1 : Int) ≤ n) && decide (n ≤ 30)) = b) := ⟨_, rfl⟩
  cases b
  · have hF : F_CountTrees n = (0, 2) := if_neg (by have := hb.out; simp at this; omega)
    rw [hF]
    clear hF
    go_enter Try.func36, Try.ntmps36
    go_wp2_with (go_at_call 54; refine (withinAny _ _ _ _ _ hb).mono ?_; rintro e w' ⟨rfl, rfl⟩)
    go_ret2
    exact ⟨rfl, b0 _⟩
  · have h12 := hb.out
    simp only [Bool.and_eq_true, decide_eq_true_eq] at h12
    obtain ⟨m, rfl⟩ := Int.eq_ofNat_of_zero_le (show 0 ≤ n by omega)
    have hF : F_CountTrees m = ((M.L m 1 : Int), 0) := if_pos h12
    have hc := Lib.hid (listsAt w.heap.size m (by omega) 1 (w.alloc (.map #[] 0)) (by omega) (Memo.new M.L w))
    have hmm := @run_makeMap Try.prog
    rw [hF]
    clear hF h12
    go_enter Try.func36, Try.ntmps36
    go_wp2_with (go_at_call 54; refine (withinAny _ _ _ _ _ hb).mono ?_; rintro e w' ⟨rfl, rfl⟩)
    refine hc.out.mono ?_
    rintro e w2 ⟨rfl, hM, hg⟩
    have hB : Hid (Below w.heap.size w w2) := (bal (b0 w) (.map #[] 0)).grown hg.out (by simp) (fun k e => by injection e with e; omega)
    clear hmm hc
    go_wp2
    go_ret2
    exact ⟨rfl, hB.out⟩

set_option maxHeartbeats 1000000 in
set_option maxRecDepth 100000 in
theorem spec_CountTrees : GivesNumN1 35 F_CountTrees := by
  intro n w _ _
  obtain ⟨b, hb⟩ : ∃ b, Hid ((decide ((1 : Int) ≤ n) && decide (n ≤ 30)) = b) := ⟨_, rfl⟩
  cases b
  · have hF : F_CountTrees n = (0, 2) := if_neg (by have := hb.out; simp at this; omega)
    rw [hF]
    clear hF
    go_enter Try.func35, Try.ntmps35
    go_wp2_with (go_at_call 66; refine (inAny _ _ _ _ _ hb).mono ?_; rintro e w' ⟨rfl, rfl⟩)
    go_ret2
    exact ⟨rfl, b0 _⟩
  · have h12 := hb.out
    simp only [Bool.and_eq_true, decide_eq_true_eq] at h12
    obtain ⟨m, rfl⟩ := Int.eq_ofNat_of_zero_le (show 0 ≤ n by omega)
    have hF : F_CountTrees m = ((M.L m 1 : Int), 0) := if_pos h12
    have hm1 : 1 ≤ m := by omega
    have hm2 : m ≤ 30 := by omega
    rw [hF]
    clear hF h12
    go_enter Try.func35, Try.ntmps35
    go_wp2_with (go_at_call 66; refine (inAny _ _ _ _ _ hb).mono ?_; rintro e w' ⟨rfl, rfl⟩)
    refine (l02Catalan m _ hm1 hm2).mono ?_
    rintro e w2 ⟨A', c', rfl, ho, hb2⟩
    obtain ⟨g, rfl⟩ := own64_shape ho (by omega)
    have c1 := (own64_cell ho (M.cats_len m) (M.cats_at (n := m) (k := m) (by omega))).1
    have hB := Lib.hid hb2
    clear ho hb2
    go_wp2
    go_ret2
    exact ⟨rfl, hB.out⟩
end Go.Proofs.Ytdaghbfejcjknab
