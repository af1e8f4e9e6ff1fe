/- appendFirst: the first list of so many trees, appended; tests of ranges. -/
import Derived.Test.YtdgcjkgbglofbaaClone
import Derived.Test.YtdgcjkgbglofbaaIs
import Derived.Test.YtdgcjkgbglofbaaTwo
import Derived.Test.YtdgcjkgbglofbaaGives
import Derived.Outline
namespace Go.Proofs.Ytdgcjkgbglofbaa
open Go.RowKit

namespace M
def firstTo (m t i : Nat) : List Int := (List.range m).map fun j => if t ≤ j + 1 ∧ j < i then 1 else 0
/-- so many trees of so many nodes together, the first list: all but the last one are single nodes, and the last one is a path -/
def firstL (m t : Nat) : List Int := firstTo m t (m - 1)
theorem firstTo_len (m t i : Nat) : (firstTo m t i).length = m := by simp [firstTo]
theorem firstL_len (m t : Nat) : (firstL m t).length = m := firstTo_len _ _ _
theorem firstTo_start (m t : Nat) (ht : 1 ≤ t) : firstTo m t (t - 1) = List.replicate m 0 := by
  apply List.ext_getElem?
  intro j
  simp only [firstTo, List.getElem?_map, List.getElem?_replicate]
  by_cases hj : j < m
  · rw [List.getElem?_range hj, if_pos hj]
    simp only [Option.map_some]
    rw [if_neg (by omega)]
  · rw [List.getElem?_eq_none (by simp; omega), if_neg hj]; rfl
theorem firstTo_step (m t i : Nat) (h1 : t ≤ i + 1) : (firstTo m t i).set i 1 = firstTo m t (i + 1) := by
  apply List.ext_getElem?
  intro j
  by_cases hj : j < m
  · by_cases hji : i = j
    · subst hji
      rw [List.getElem?_set_self (by rw [firstTo_len]; exact hj)]
      simp only [firstTo, List.getElem?_map]
      rw [List.getElem?_range hj]
      simp only [Option.map_some]
      rw [if_pos (by omega)]
    · rw [List.getElem?_set_ne hji]
      simp only [firstTo, List.getElem?_map]
      rw [List.getElem?_range hj]
      simp only [Option.map_some]
      congr 1
      by_cases h3 : t ≤ j + 1 ∧ j < i
      · rw [if_pos h3, if_pos (by omega)]
      · rw [if_neg h3, if_neg (by omega)]
  · rw [List.getElem?_eq_none (by simp [firstTo_len]; omega), List.getElem?_eq_none (by rw [firstTo_len]; omega)]
theorem firstTo_end {m t i : Nat} (h1 : t ≤ i + 1) (h2 : m ≤ i + 1) (h3 : i < m ∨ i = t - 1) (ht : 1 ≤ t) : firstTo m t i = firstL m t := by
  rcases Nat.lt_or_ge i m with h4 | h4
  · obtain rfl : i = m - 1 := by omega
    rfl
  · have e : i = t - 1 := by omega
    subst e
    rw [firstTo_start m t ht]
    apply List.ext_getElem?
    intro j
    simp only [firstL, firstTo, List.getElem?_map, List.getElem?_replicate]
    by_cases hj : j < m
    · rw [List.getElem?_range hj, if_pos hj]
      simp only [Option.map_some]
      rw [if_neg (by omega)]
    · rw [List.getElem?_eq_none (by simp; omega), if_neg hj]; rfl
theorem firstTo_at {m t i : Nat} (h : i < m) : ∃ y, (firstTo m t i)[i]? = some y := ⟨_, List.getElem?_eq_getElem (by rw [firstTo_len]; exact h)⟩
end M

theorem withinAny (n lo hi : Int) (w : World) (b : Bool) (hb : Hid ((decide (lo ≤ n) && decide (n ≤ hi)) = b)) :
    Calls Try.prog 216 #[.int .i64 n, .int .i64 lo, .int .i64 hi] w fun e w' => e = .returned (.bool b) ∧ w = w' := by
  by_cases h : lo ≤ n
  · have hb' : b = decide (n ≤ hi) := by rw [← hb.out]; simp [h]
    clear hb
    subst hb'
    go_enter Try.func216, Try.ntmps216
    go_wp2
    go_ret
    exact ⟨rfl, rfl⟩
  · have hb' : b = false := by rw [← hb.out]; simp; intro h'; exact absurd h' h
    have hd : decide (lo ≤ n) = false := decide_eq_false h
    clear hb
    subst hb'
    go_enter Try.func216, Try.ntmps216
    go_wp2
    go_ret
    exact ⟨rfl, rfl⟩

theorem l02Whole (n : Int) (w : World) (b : Bool) (hb : Hid ((decide (1 ≤ n) && decide (n ≤ 24)) = b)) :
    Calls Try.prog 217 #[.int .i64 n] w fun e w' => e = .returned (.bool b) ∧ w = w' := by
  go_enter Try.func217, Try.ntmps217
  go_wp2_with (go_at_call 229; refine (inAny _ _ _ _ b hb).mono ?_; rintro e w8 ⟨rfl, rfl⟩)
  go_ret
  exact ⟨rfl, rfl⟩

set_option maxRecDepth 100000 in
set_option maxHeartbeats 1000000 in
theorem appendFirst (A : Option Addr) (n c : Nat) (zs : List Int) (m t : Nat) (w : World) (B : Nat) (hm1 : 1 ≤ m) (hm : m ≤ 24) (ht1 : 1 ≤ t) (ht : t ≤ 100) (hn : n ≤ 1000) (hown : Hid (Own64 w B (.slice A n c) zs)) (hB : B ≤ w.heap.size) :
    Calls Try.prog 218 #[.slice A n c, .int .i64 m, .int .i64 t] w fun e w' => ∃ A' c', e = .returned (.slice A' (n + m) c') ∧ Own64 w' B (.slice A' (n + m) c') (zs ++ M.firstL m t) ∧ Below B w w' := by
  have hmk := run_make_row' (P := Try.prog) 24 2 (.int .i64 0) 8 Try.underlying24 info64 rfl .i64 .i64 m (by omega) (by omega)
  have ht2 : Hid (Two (w.alloc (.cells (madeCells #[.int .i64 0] m) 2)) B (.slice (some ⟨w.heap.size, 0, none⟩) m m) (.slice A n c) (M.firstTo m t (t - 1)) zs) := by
    rw [M.firstTo_start m t ht1]
    exact ⟨own_mono (own64_made (w := w) (B := w.heap.size) (n := m) (Nat.le_refl _) (by unfold maxLen; omega)) hB, hown.out.alloc _, fun b e e2 => by
      have e1 : b = w.heap.size := by injection e with e; exact e.symm
      have := (World.ownsRow.lt hown.out b e2).2
      omega⟩
  have hb0 : Hid (Below B w (w.alloc (.cells (madeCells #[.int .i64 0] m) 2))) := (Below.refl _ _).alloc hB _
  clear hown
  go_enter Try.func218, Try.ntmps218
  go_wp2
  clear hmk
  go_loopw [8] (fun i wr => ∃ (k : Nat), t ≤ k + 1 ∧ (k < m ∨ k = t - 1) ∧ i = .int .i64 k ∧ Hid (Two wr B (.slice (some ⟨w.heap.size, 0, none⟩) m m) (.slice A n c) (M.firstTo m t k) zs) ∧ Hid (Below B w wr)) (fun i _ => 200 - (intOf i).toNat)
  case atStart => exact ⟨t - 1, by omega, .inr rfl, by go_num, ht2, hb0⟩
  case round =>
    obtain ⟨k, hk1, hk2, rfl, ho, hbr⟩ := hrel
    clear ht2 hb0
    by_cases hlt : k + 1 < m
    · obtain ⟨y, hy⟩ := M.firstTo_at (m := m) (t := t) (i := k) (by omega)
      obtain ⟨c1, c2, _, _⟩ := own64_cell ho.out.1 (M.firstTo_len _ _ _) hy
      have hset := ho.out.set (M.firstTo_len _ _ _) k 1
      rw [M.firstTo_step m t k hk1] at hset
      have hset := Lib.hid hset
      have hlt2 : (k : Int) < (m : Int) - 1 := by omega
      clear hy ho
      go_wp2
      go_roundw
      case rel => exact ⟨k + 1, by omega, .inl (by omega), by go_num, hset, below_setCell hbr.out hB _⟩
      case measure => simp [intOf]; omega
    · have he := Lib.hid (M.firstTo_end (m := m) (t := t) (i := k) hk1 (by omega) hk2 ht1)
      have hge : ¬ (k : Int) < (m : Int) - 1 := by omega
      have hO := Lib.hid ho.out.2.1
      have hI : Hid (Ints wr wr.heap.size (some ⟨w.heap.size, 0, none⟩) (M.firstTo m t k)) := ints_of_own64 ho.out.1
      have hml : Hid ((M.firstTo m t k).length = m) := M.firstTo_len _ _ _
      have hz : Hid ((some ⟨w.heap.size, 0, none⟩ : Option Addr) = none → m = 0) := fun e => by cases e
      have hBr : B ≤ wr.heap.size := Nat.le_trans hB hbr.out.size
      have hn' : n ≤ 1000000 := by omega
      have hm' : m ≤ 1000000 := by omega
      go_wp2_with (at_builtin; refine appendInts rfl (.tmp 22) (.tmp 23) rfl wr B A n c zs (some ⟨w.heap.size, 0, none⟩) m m (M.firstTo m t k) rfl rfl hO hI hml hz hBr hn' hm' ?_; intro A2 c2 w2 ho2 hb2)
      go_ret
      exact ⟨A2, c2, rfl, by rw [← he.out]; exact ho2.out, hbr.out.trans hb2.out⟩
end Go.Proofs.Ytdgcjkgbglofbaa
