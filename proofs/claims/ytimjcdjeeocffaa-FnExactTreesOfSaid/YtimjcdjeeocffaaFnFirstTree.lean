/- FirstTree, the program's and the model's: the path of n nodes, or a code. -/
import Derived.Test.YtimjcdjeeocffaaFirst
namespace Go.Proofs.Ytimjcdjeeocffaa
open Go.RowKit

namespace M
theorem firstL_one {m : Nat} (hm : 1 ≤ m) : List.replicate (m - 1) (1 : Int) ++ [0] = firstL m 1 := by
  apply List.ext_getElem?
  intro j
  simp only [firstL, firstTo, List.getElem?_map]
  by_cases hj : j < m
  · rw [List.getElem?_range hj]
    simp only [Option.map_some]
    by_cases h1 : j < m - 1
    · rw [List.getElem?_append_left (by simp; exact h1), List.getElem?_replicate, if_pos h1, if_pos (by omega)]
    · rw [List.getElem?_append_right (by simp; omega), List.length_replicate, if_neg (by omega)]
      obtain rfl : j = m - 1 := by omega
      simp
  · rw [List.getElem?_eq_none (by simp; omega), List.getElem?_eq_none (by simp; omega)]; rfl
end M

def F_FirstTree (n : Int) : List Int × Int := if 1 ≤ n ∧ n ≤ 24 then (M.firstL n.toNat 1, 0) else ([], 2)
theorem F_FirstTree_len (n : Int) : (F_FirstTree n).1.length ≤ 1048576 := by
  rw [F_FirstTree]
  split
  · show (M.firstL n.toNat 1).length ≤ _; rw [M.firstL_len]; omega
  · simp

theorem res_new (w : World) (o : Obj) : Hid ((w.alloc o).heap[w.heap.size]? = some o) := World.alloc_heap_new w o

set_option maxHeartbeats 1000000 in
set_option maxRecDepth 100000 in
theorem impl_FirstTree : GivesTreeN1 94 F_FirstTree := by
  intro n w _ _
  obtain ⟨b, hb⟩ : ∃ b, Hid ((decide ((1 : Int) ≤ n) && decide (n ≤ 24)) = b) := ⟨_, rfl⟩
  cases b
  · have hF : F_FirstTree n = ([], 2) := if_neg (by have := hb.out; simp at this; omega)
    rw [hF]
    clear hF
    go_enter Try.func94, Try.ntmps94
    go_wp2_with (go_at_call 172; refine (withinAny _ _ _ _ _ hb).mono ?_; rintro e w' ⟨rfl, rfl⟩)
    refine bodyPost_ret (v := .tuple #[.agg #[.slice none 0 0], .int .i64 2]) (by simp [results, Try.results94, go_sem]) rfl ?_
    exact ⟨none, 0, rfl, own64_nil _ _, (Below.refl _ _).alloc (Nat.le_refl _) _⟩
  · have h12 := hb.out
    simp only [Bool.and_eq_true, decide_eq_true_eq] at h12
    obtain ⟨m, rfl⟩ := Int.eq_ofNat_of_zero_le (show 0 ≤ n by omega)
    have hF : F_FirstTree m = (M.firstL m 1, 0) := if_pos h12
    have hm1 : 1 ≤ m := by omega
    have hm2 : m ≤ 24 := by omega
    rw [hF, M.firstL_len]
    clear hF h12
    go_enter Try.func94, Try.ntmps94
    go_wp2_with (go_at_call 172; refine (withinAny _ _ _ _ _ hb).mono ?_; rintro e w' ⟨rfl, rfl⟩)
    refine (appendFirst none 0 0 [] m 1 _ (w.heap.size + 1) hm1 hm2 (Nat.le_refl _) (by omega) (by omega) (own64_nil _ _) (by simp)).mono ?_
    rintro e w2 ⟨A', c', rfl, ho, hb2⟩
    have hr := (hb2.block w.heap.size (Nat.lt_succ_self _)).trans (World.alloc_heap_new w (.cells #[.slice none 0 0] 26))
    have hr2 := cell_of_one hr
    have hf2 := free_of_one hr
    have hB2 := Lib.hid (hb2)
    have Ho := Lib.hid ho
    rw [Nat.zero_add] at Ho
    clear ho hb2
    go_wp2
    refine bodyPost_ret (v := .tuple #[.agg #[.slice A' m c'], .int .i64 0]) (by simp [results, Try.results94, go_sem, hr2]) rfl ?_
    exact ⟨A', c', rfl, own_mono (own_far Ho.out (Nat.lt_succ_self _) _) (Nat.le_succ _), below_setCell ((bal (b0 w) _).trans (hB2.out.mono (Nat.le_succ _))) (Nat.le_refl _) _⟩

set_option maxHeartbeats 1000000 in
set_option maxRecDepth 100000 in
theorem spec_FirstTree : GivesTreeN1 95 F_FirstTree := by
  intro n w _ _
  obtain ⟨b, hb⟩ : ∃ b, Hid ((decide ((1 : Int) ≤ n) && decide (n ≤ 24)) = b) := ⟨_, rfl⟩
  cases b
  · have hF : F_FirstTree n = ([], 2) := if_neg (by have := hb.out; simp at this; omega)
    rw [hF]
    clear hF
    go_enter Try.func95, Try.ntmps95
    go_wp2_with (go_at_call 169; refine (l02Whole _ _ _ hb).mono ?_; rintro e w' ⟨rfl, rfl⟩)
    refine bodyPost_ret (v := .tuple #[.agg #[.slice none 0 0], .int .i64 2]) (by simp [results, Try.results95, go_sem]) rfl ?_
    exact ⟨none, 0, rfl, own64_nil _ _, (Below.refl _ _).alloc (Nat.le_refl _) _⟩
  · have h12 := hb.out
    simp only [Bool.and_eq_true, decide_eq_true_eq] at h12
    obtain ⟨m, rfl⟩ := Int.eq_ofNat_of_zero_le (show 0 ≤ n by omega)
    have hF : F_FirstTree m = (M.firstL m 1, 0) := if_pos h12
    have hm1 : 1 ≤ m := by omega
    have hm2 : m ≤ 24 := by omega
    rw [hF, M.firstL_len]
    have hL := Lib.hid (M.firstL_one hm1)
    clear hF h12
    go_enter Try.func95, Try.ntmps95
    go_wp2_with (go_at_call 169; refine (l02Whole _ _ _ hb).mono ?_; rintro e w' ⟨rfl, rfl⟩)
    go_loopw [4, 5] (fun q i wr => ∃ (k : Nat) (A' : Option Addr) (c' : Nat), k + 1 ≤ m ∧ i = .int .i64 ((k : Int) + 1) ∧ q = .slice A' k c' ∧ Hid (Own64 wr (w.heap.size + 1) (.slice A' k c') (List.replicate k 1)) ∧ Hid (Below (w.heap.size + 1) (w.alloc (.cells #[.slice none 0 0] 26)) wr)) (fun _ i _ => m - (intOf i).toNat)
    case atStart => exact ⟨0, some ⟨w.heap.size + 1, 0, none⟩, 0, hm1, rfl, rfl, by have := own64_empty (w := w.alloc (.cells #[.slice none 0 0] 26)) (B := w.heap.size + 1) (by simp); exact Lib.hid (by simpa using this), (Below.refl _ _).alloc (by simp) _⟩
    case round =>
      obtain ⟨k, A', c', hk2, rfl, rfl, ho, hbr⟩ := hrel
      have hB1 := hbr.out.size
      have hB2 : w.heap.size + 1 ≤ wr.heap.size := by simpa using hB1
      clear hB1
      by_cases hlt : k + 1 < m
      · have hrep : Hid (List.replicate k (1 : Int) ++ [1] = List.replicate (k + 1) 1) := by
          show _ = _
          rw [List.replicate_succ']
        have hlt2 : (k : Int) + 1 < (m : Int) := by omega
        go_wp2_with (at_builtin; refine push64 rfl (.tmp 16) (.tmp 17) rfl wr (w.heap.size + 1) A' k c' (List.replicate k 1) 1 rfl rfl ho hB2 (by omega) ?_; intro A2 c2 w2 ho2 hb2; have hb3 := Lib.hid (hbr.out.trans hb2.out))
        go_roundw
        case rel => exact ⟨k + 1, A2, c2, by omega, by go_num, rfl, own64_eq ho2.out hrep.out, hb3⟩
        case measure => simp [intOf]; omega
      · obtain rfl : m = k + 1 := by omega
        have hge : ¬ (k : Int) + 1 < ((k + 1 : Nat) : Int) := by omega
        have hL2 : Hid (List.replicate k (1 : Int) ++ [0] = M.firstL (k + 1) 1) := hL.out
        go_wp2_with (at_builtin; refine push64 rfl (.tmp 19) (.tmp 20) rfl wr (w.heap.size + 1) A' k c' (List.replicate k 1) 0 rfl rfl ho hB2 (by omega) ?_; intro A2 c2 w2 ho2 hb2; have hb3 := Lib.hid (hbr.out.trans hb2.out); have hr := (hb3.out.block w.heap.size (Nat.lt_succ_self _)).trans (World.alloc_heap_new w (.cells #[.slice none 0 0] 26)); have hr2 := cell_of_one hr; have hf2 := free_of_one hr)
        refine bodyPost_ret (v := .tuple #[.agg #[.slice A2 (k + 1) c2], .int .i64 0]) (by simp [results, Try.results95, go_sem, hr2]) rfl ?_
        exact ⟨A2, c2, rfl, own_mono (own_far (own64_eq ho2.out hL2.out) (Nat.lt_succ_self _) _) (Nat.le_succ _), below_setCell ((bal (b0 w) _).trans (hb3.out.mono (Nat.le_succ _))) (Nat.le_refl _) _⟩
end Go.Proofs.Ytimjcdjeeocffaa
