/- LastTree, the program's and the model's: the star of n nodes, or a code. -/
import Derived.Test.YtdaghbfejcjknabFirst
namespace Go.Proofs.Ytdaghbfejcjknab
open Go.RowKit

def F_LastTree (n : Int) : List Int × Int := if 1 ≤ n ∧ n ≤ 24 then ((List.replicate n.toNat 0).set 0 (n - 1), 0) else ([], 2)
theorem F_LastTree_len (n : Int) : (F_LastTree n).1.length ≤ 1048576 := by
  rw [F_LastTree]
  split
  · show ((List.replicate n.toNat (0 : Int)).set 0 (n - 1)).length ≤ _; simp; omega
  · simp

theorem own64_made_set0 {w : World} {B n : Nat} (hB : B ≤ w.heap.size) (hn : n ≤ maxLen) (x : Int) :
    Own64 (w.alloc (.cells ((madeCells #[.int .i64 0] n).setIfInBounds 0 (.int .i64 x)) 2)) B (.slice (some ⟨w.heap.size, 0, none⟩) n n) ((List.replicate n 0).set 0 x) := by
  have h := World.ownsRow_lit (e := 2) (size := 1) w ((madeCells #[.int .i64 0] n).setIfInBounds 0 (.int .i64 x)) n hB hn (by simp [size_madeCells])
  rw [Array.toList_setIfInBounds, toList_madeCells_one] at h
  simpa [Own64, List.map_set] using h

set_option maxHeartbeats 1000000 in
set_option maxRecDepth 100000 in
theorem impl_LastTree : GivesTreeN1 21 F_LastTree := by
  intro n w _ _
  obtain ⟨b, hb⟩ : ∃ b, Hid ((decide ((1 : Int) ≤ n) && decide (n ≤ 24)) = b) := ⟨_, rfl⟩
  cases b
  · have hF : F_LastTree n = ([], 2) := if_neg (by have := hb.out; simp at this; omega)
    rw [hF]
    clear hF
    go_enter Try.func21, Try.ntmps21
    go_wp2_with (go_at_call 54; refine (withinAny _ _ _ _ _ hb).mono ?_; rintro e w' ⟨rfl, rfl⟩)
    refine bodyPost_ret (v := .tuple #[.agg #[.slice none 0 0], .int .i64 2]) (by simp [results, Try.results21, go_sem]) rfl ?_
    exact ⟨none, 0, rfl, own64_nil _ _, (Below.refl _ _).alloc (Nat.le_refl _) _⟩
  · have h12 := hb.out
    simp only [Bool.and_eq_true, decide_eq_true_eq] at h12
    obtain ⟨m, rfl⟩ := Int.eq_ofNat_of_zero_le (show 0 ≤ n by omega)
    have hF : F_LastTree m = ((List.replicate m 0).set 0 ((m : Int) - 1), 0) := if_pos h12
    have hl : ((List.replicate m (0 : Int)).set 0 ((m : Int) - 1)).length = m := by simp
    have hm1 : 1 ≤ m := by omega
    have hm2 : m ≤ 24 := by omega
    rw [hF]
    show Calls _ _ _ _ fun e w' => ∃ A' c', e = .returned (.tuple #[.agg #[.slice A' ((List.replicate m (0 : Int)).set 0 ((m : Int) - 1)).length c'], .int .i64 0]) ∧ _
    rw [hl]
    have hmk := run_make_row' (P := Try.prog) 22 2 (.int .i64 0) 8 Try.underlying22 info64 rfl .i64 .i64 m (by omega) (by omega)
    have ho := own64_made_set0 (w := w.alloc (.cells #[.slice (some ⟨w.heap.size + 1, 0, none⟩) m m] 24)) (B := w.heap.size) (n := m) (by simp) (by unfold maxLen; omega) ((m : Int) - 1)
    rw [World.size_alloc] at ho
    have ho := Lib.hid ho
    have hm0 : (madeCells #[Value.int .i64 0] m)[0]? = some (.int .i64 0) := by rw [← Array.getElem?_toList, toList_madeCells_one, List.getElem?_replicate, if_pos (by omega)]
    clear hF h12 hl
    go_enter Try.func21, Try.ntmps21
    go_wp2_with (go_at_call 54; refine (withinAny _ _ _ _ _ hb).mono ?_; rintro e w' ⟨rfl, rfl⟩)
    refine bodyPost_ret (v := .tuple #[.agg #[.slice (some ⟨w.heap.size + 1, 0, none⟩) m m], .int .i64 0]) (by simp [results, Try.results21, go_sem]) rfl ?_
    exact ⟨_, _, rfl, ho.out, bal (bal (b0 w) _) _⟩

set_option maxHeartbeats 1000000 in
set_option maxRecDepth 100000 in
theorem spec_LastTree : GivesTreeN1 20 F_LastTree := by
  intro n w _ _
  obtain ⟨b, hb⟩ : ∃ b, Hid ((decide ((1 : Int) ≤ n) && decide (n ≤ 24)) = b) := ⟨_, rfl⟩
  cases b
  · have hF : F_LastTree n = ([], 2) := if_neg (by have := hb.out; simp at this; omega)
    rw [hF]
    clear hF
    go_enter Try.func20, Try.ntmps20
    go_wp2_with (go_at_call 53; refine (l02Whole _ _ _ hb).mono ?_; rintro e w' ⟨rfl, rfl⟩)
    refine bodyPost_ret (v := .tuple #[.agg #[.slice none 0 0], .int .i64 2]) (by simp [results, Try.results20, go_sem]) rfl ?_
    exact ⟨none, 0, rfl, own64_nil _ _, (Below.refl _ _).alloc (Nat.le_refl _) _⟩
  · have h12 := hb.out
    simp only [Bool.and_eq_true, decide_eq_true_eq] at h12
    obtain ⟨m, rfl⟩ := Int.eq_ofNat_of_zero_le (show 0 ≤ n by omega)
    have hF : F_LastTree m = ((List.replicate m 0).set 0 ((m : Int) - 1), 0) := if_pos h12
    have hl : ((List.replicate m (0 : Int)).set 0 ((m : Int) - 1)).length = m := by simp
    have hm1 : 1 ≤ m := by omega
    have hm2 : m ≤ 24 := by omega
    rw [hF]
    show Calls _ _ _ _ fun e w' => ∃ A' c', e = .returned (.tuple #[.agg #[.slice A' ((List.replicate m (0 : Int)).set 0 ((m : Int) - 1)).length c'], .int .i64 0]) ∧ _
    rw [hl]
    have hmk := run_make_row' (P := Try.prog) 22 2 (.int .i64 0) 8 Try.underlying22 info64 rfl .i64 .i64 m (by omega) (by omega)
    have ho := own64_made_set0 (w := w.alloc (.cells #[.slice (some ⟨w.heap.size + 1, 0, none⟩) m m] 24)) (B := w.heap.size) (n := m) (by simp) (by unfold maxLen; omega) ((m : Int) - 1)
    rw [World.size_alloc] at ho
    have ho := Lib.hid ho
    have hm0 : (madeCells #[Value.int .i64 0] m)[0]? = some (.int .i64 0) := by rw [← Array.getElem?_toList, toList_madeCells_one, List.getElem?_replicate, if_pos (by omega)]
    clear hF h12 hl
    go_enter Try.func20, Try.ntmps20
    go_wp2_with (go_at_call 53; refine (l02Whole _ _ _ hb).mono ?_; rintro e w' ⟨rfl, rfl⟩)
    refine bodyPost_ret (v := .tuple #[.agg #[.slice (some ⟨w.heap.size + 1, 0, none⟩) m m], .int .i64 0]) (by simp [results, Try.results20, go_sem]) rfl ?_
    exact ⟨_, _, rfl, ho.out, bal (bal (b0 w) _) _⟩
end Go.Proofs.Ytdaghbfejcjknab
