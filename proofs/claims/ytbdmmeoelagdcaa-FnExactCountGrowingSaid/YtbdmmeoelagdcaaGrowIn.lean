/- treeCode, labelsIn, nodesOf: the code of a tree, the labels of a list of nodes, all nodes in their order. -/
import Derived.Test.YtbdmmeoelagdcaaGrow
import Derived.Test.YtbdmmeoelagdcaaParents
import Derived.Test.YtbdmmeoelagdcaaTree
namespace Go.Proofs.Ytbdmmeoelagdcaa
open Go.RowKit

namespace M
/-- the first k ones are their own numbers -/
def nodTo (n k : Nat) : List Int := (List.range n).map fun v : Nat => if v < k then (v : Int) else 0
theorem nodTo_len (n k : Nat) : (nodTo n k).length = n := by simp [nodTo]
theorem nodTo_zero (n : Nat) : nodTo n 0 = List.replicate n 0 := by simp [nodTo, List.map_const']
theorem nodTo_done (n : Nat) : nodTo n n = iota n := by
  simp only [nodTo, iota]
  exact List.map_congr_left fun v hv => if_pos (List.mem_range.1 hv)
theorem nodTo_step {n k : Nat} (h : k < n) : (nodTo n k).set k (k : Int) = nodTo n (k + 1) := by
  refine List.ext_getElem? fun i => ?_
  rcases Nat.lt_or_ge i n with hi | hi
  · rw [List.getElem?_set]
    simp only [nodTo, List.length_map, List.length_range, List.getElem?_map, List.getElem?_range hi, Option.map_some]
    by_cases e : k = i
    · subst e; rw [if_pos rfl, if_pos h, if_pos (by omega)]
    · rw [if_neg e]
      congr 1
      by_cases h2 : i < k
      · rw [if_pos h2, if_pos (by omega)]
      · rw [if_neg h2, if_neg (by omega)]
  · rw [List.getElem?_eq_none (by simp [nodTo]; omega), List.getElem?_eq_none (by rw [nodTo_len]; omega)]
end M

set_option maxHeartbeats 1000000 in
theorem treeCode (A A2 : Option Addr) (xs : List Int) (c n2 c2 : Nat) (w : World) (hx : xs.length ≤ 1000000000000) (h : Ints w w.heap.size A xs) (r : Int) (hr : Hid ((if M.isTree xs then 0 else 1) = r)) :
    Calls Try.prog 111 #[.agg #[.slice A xs.length c, .slice A2 n2 c2]] w fun e w' => e = .returned (.int .i64 r) ∧ Below w.heap.size w w' := by
  have HC := Lib.hid (codeOf0 A xs c (w.alloc (.cells #[.slice A xs.length c, .slice A2 n2 c2] 118)) hx (h.al _) r hr)
  go_enter Try.func111, Try.ntmps111
  go_wp2_with fail
  refine HC.out.mono ?_
  rintro e w1 ⟨rfl, hb⟩
  have hB := btr (bal (b0 w) _) hb
  go_wp2
  go_ret
  exact ⟨rfl, hB⟩

set_option maxHeartbeats 2000000 in
set_option maxRecDepth 100000 in
theorem labelsIn (A : Option Addr) (l : List Int) (n c : Nat) (w : World) (hn : n ≤ 24) (ho : Hid (M.isOrd n l = true)) (hl : Hid (l.length = n)) (h : Ints w w.heap.size A l) :
    Calls Try.prog 175 #[.slice A n c] w fun e w' => e = .returned (.slice (some ⟨w.heap.size, 0, none⟩) n n) ∧ Own64 w' w.heap.size (.slice (some ⟨w.heap.size, 0, none⟩) n n) (M.labs n l) ∧ Below w.heap.size w w' := by
  have hmk := run_make_row' (P := Try.prog) 23 2 (.int .i64 0) 8 Try.underlying23 info64 rfl .i64 .i64 n (by omega) (by omega)
  have Hstart := Lib.hid (own64_made (w := w) (B := w.heap.size) (n := n) (Nat.le_refl _) (by unfold maxLen; omega))
  rw [← M.labTo_zero n l] at Hstart
  have h1 := Lib.hid h
  have hB0 := Lib.hid (bal (b0 w) (.cells (madeCells #[.int .i64 0] n) 2))
  clear h
  go_enter Try.func175, Try.ntmps175
  go_wp2
  clear hmk
  go_loopw [4, 5, 11] (fun _ _ i wr => ∃ (k : Nat), k ≤ n ∧ i = .int .i64 (k : Int) ∧ Hid (Own64 wr w.heap.size (.slice (some ⟨w.heap.size, 0, none⟩) n n) (M.labTo n l k)) ∧ Hid (Below w.heap.size w wr)) (fun _ _ i _ => n - (intOf i).toNat)
  case atStart => exact ⟨0, Nat.zero_le _, rfl, Hstart, hB0⟩
  case round =>
    obtain ⟨k, hk, rfl, ho1, hb⟩ := hrel
    clear Hstart
    by_cases hlt : k < n
    · obtain ⟨b, off, x, rfl, hbB, g1, hX⟩ := (h1.out.be hb.out).at_ (k := k) (by rw [hl.out]; exact hlt)
      have hr := (M.isOrd_iff.1 ho.out).2.2 x (List.mem_of_getElem? hX.out)
      obtain ⟨v, rfl⟩ := Int.eq_ofNat_of_zero_le hr.1
      have hv : v < n := by omega
      have hv0 : (0 : Int) ≤ (v : Int) := by omega
      have hv1 : (v : Int) < (n : Int) := hr.2
      have hs := Lib.hid (M.labTo_step ho.out hX.out)
      have hset := Lib.hid (own64_set ho1.out (M.labTo_len n l k) v (k : Int))
      rw [hs.out] at hset
      obtain ⟨y, hy⟩ : ∃ y, (M.labTo n l k)[v]? = some y := ⟨_, List.getElem?_eq_getElem (by rw [M.labTo_len]; exact hv)⟩
      obtain ⟨c3, f3, _, hw3⟩ := own64_cell ho1.out (M.labTo_len n l k) hy
      have hb2 := Lib.hid (below_setCell hb.out (Nat.le_refl _) (k := v) (.int .i64 (k : Int)))
      clear hX hs hr hy
      go_wp2
      go_roundw
      case rel => exact ⟨k + 1, by omega, by go_num, hset, hb2⟩
      case measure => simp [intOf]; omega
    · obtain rfl : k = n := by omega
      have hge : ¬ (k : Int) < (k : Int) := by omega
      have hR : Hid (M.labTo k l k = M.labs k l) := by show _ = _; rw [M.labs, hl.out]
      rw [hR.out] at ho1
      go_wp2
      go_ret
      exact ⟨rfl, ho1.out, hb.out⟩

set_option maxHeartbeats 2000000 in
set_option maxRecDepth 100000 in
theorem nodesOf (A : Option Addr) (n c : Nat) (w : World) (hn : n ≤ 24) :
    Calls Try.prog 174 #[.agg #[.slice A n c]] w fun e w' => ∃ A', e = .returned (.slice A' n n) ∧ Own64 w' w.heap.size (.slice A' n n) (M.iota n) ∧ Below w.heap.size w w' := by
  have hmk := run_make_row' (P := Try.prog) 23 2 (.int .i64 0) 8 Try.underlying23 info64 rfl .i64 .i64 n (by omega) (by omega)
  have Hstart := Lib.hid (own64_made (w := w.alloc (.cells #[.slice A n c] 29)) (B := w.heap.size) (n := n) (by simp) (by unfold maxLen; omega))
  rw [show List.replicate n (0 : Int) = M.nodTo n 0 from (M.nodTo_zero n).symm] at Hstart
  have hB0 := Lib.hid (bal (bal (b0 w) (.cells #[.slice A n c] 29)) (.cells (madeCells #[.int .i64 0] n) 2))
  obtain ⟨g, hg⟩ : ∃ g, g = w.heap.size + 1 := ⟨_, rfl⟩
  simp only [World.size_alloc] at Hstart
  go_enter Try.func174, Try.ntmps174
  go_wp2
  clear hmk
  go_loopw [4, 11] (fun _ i wr => ∃ (k : Nat), k ≤ n ∧ i = .int .i64 (k : Int) ∧ Hid (Own64 wr w.heap.size (.slice (some ⟨w.heap.size + 1, 0, none⟩) n n) (M.nodTo n k)) ∧ Hid (Below w.heap.size w wr)) (fun _ i _ => n - (intOf i).toNat)
  case atStart => exact ⟨0, Nat.zero_le _, rfl, Hstart, hB0⟩
  case round =>
    obtain ⟨k, hk, rfl, ho1, hb⟩ := hrel
    clear Hstart
    by_cases hlt : k < n
    · have hs := Lib.hid (M.nodTo_step hlt)
      have hset := Lib.hid (own64_set ho1.out (M.nodTo_len n k) k (k : Int))
      rw [hs.out] at hset
      obtain ⟨y, hy⟩ : ∃ y, (M.nodTo n k)[k]? = some y := ⟨_, List.getElem?_eq_getElem (by rw [M.nodTo_len]; exact hlt)⟩
      obtain ⟨c3, f3, _, hw3⟩ := own64_cell ho1.out (M.nodTo_len n k) hy
      have hb2 := Lib.hid (below_setCell hb.out (Nat.le_succ _) (k := k) (.int .i64 (k : Int)))
      have hki : (k : Int) < (n : Int) := by omega
      have hk0 : (0 : Int) ≤ (k : Int) := by omega
      clear hs hy
      go_wp2
      go_roundw
      case rel => exact ⟨k + 1, by omega, by go_num, hset, hb2⟩
      case measure => simp [intOf]; omega
    · obtain rfl : k = n := by omega
      have hge : ¬ (k : Int) < (k : Int) := by omega
      have hR := Lib.hid (M.nodTo_done k)
      rw [hR.out] at ho1
      go_wp2
      go_ret
      exact ⟨_, rfl, ho1.out, hb.out⟩

end Go.Proofs.Ytbdmmeoelagdcaa
