/- slices.Backward: the iterator over the indices and the elements of a slice from its end, for every loop body that keeps what lay below a block and the box of the slice. -/
import Derived.Test.YtamnilpmdccgoaaEach
import Derived.Test.YtamnilpmdccgoaaRangeRows
namespace Go.Proofs.Ytamnilpmdccgoaa
open Go.RowKit Go.Shelf
attribute [local go_sem] Oper.semAt_some

set_option maxRecDepth 100000 in
set_option maxHeartbeats 2000000 in
theorem back1 (encs : Nat → Array Value) (n : Nat) (hn : 1 ≤ n) (l Bd n₀ : Nat) (A : Option Addr) (xs : List Int) (c : Nat) (hx : xs.length ≤ 1000)
    (hmk : Hid (∀ k v (x : Int), k + 1 + v = xs.length → xs[v]? = some x → encs k = #[.int .i64 (v : Int), .int .i64 x])) (J Jx : List Nat → World → Prop)
    (hY : ∀ pre x W, J pre W → (pre = List.range x ∧ x < xs.length) → YieldAt Fence.wide (n - 1) Try.prog l (encs x) W fun e W' =>
      (e = .returned (.bool true) ∧ J (pre ++ [x]) W' ∧ KeepK n₀ Bd W W') ∨ (e = .returned (.bool false) ∧ Jx (pre ++ [x]) W'))
    (W : World) (hBd : Boxed W Bd 22 (.slice A xs.length c)) (hI : Ints W n₀ A xs) (_ : n₀ ≤ W.heap.size) (h0 : J [] W) :
    CallsIn Fence.wide n Try.prog 154 #[.func (.yield l) #[] #[], .pointer (some ⟨Bd, 0, none⟩)] W fun e W' => (∃ u, e = .returned u) ∧
      ((∃ ys, ys = List.range xs.length ∧ J ys W') ∨ (∃ pre, True ∧ Jx pre W')) := by
  have hcd := hBd.cell
  have HBd := Lib.hid hBd
  have HI := Lib.hid hI
  obtain ⟨m, hm⟩ : ∃ m, Hid (xs.length = m) := ⟨_, rfl⟩
  rw [hm.out] at hx hmk hY hcd HBd ⊢
  clear hI hBd
  refine callsIn_of_wp Try.func154 rfl trivial ?_ rfl
  simp only [Try.ntmps154, List.size_toArray, List.length_cons, List.length_nil, Nat.reduceAdd, Nat.reduceSub, Array.replicate_succ, Array.replicate_zero, List.push_toArray, List.append_toArray, List.nil_append, List.cons_append]
  gi_wp2
  gi_loopw [3] (fun i wr => ∃ k : Nat, k ≤ m ∧ i = .int .i64 ((m : Int) - 1 - (k : Int)) ∧ J (List.range k) wr ∧ Hid (KeepK n₀ Bd W wr))
    (fun i _ => (intOf i + 1).toNat)
  case atStart => exact ⟨0, Nat.zero_le _, by simp, h0, ⟨Below.refl _ _, rfl⟩⟩
  case round =>
    obtain ⟨k, hk, rfl, hJs, hnx⟩ := hrel
    clear hcd
    by_cases hlt : k < m
    · obtain ⟨v, hv⟩ : ∃ v : Nat, k + 1 + v = m := ⟨m - 1 - k, by omega⟩
      have hv2 : (m : Int) - 1 - (k : Int) = (v : Int) := by omega
      have hvm : (v : Int) < (m : Int) := by omega
      have hv0 : (0 : Int) ≤ (v : Int) := by omega
      obtain ⟨x, hX⟩ : ∃ x, xs[v]? = some x := ⟨_, List.getElem?_eq_getElem (by have := hm.out; omega)⟩
      have hYk := hY _ k wr hJs ⟨rfl, hlt⟩
      rw [hmk.out k v x hv hX] at hYk
      obtain ⟨fn, tmps, assign, body, hy, hR⟩ := hYk
      have hbd1 : Boxed wr Bd 22 (.slice A m c) := hnx.out.2.trans HBd.out
      have hc1 := hbd1.cell
      obtain ⟨b, off, rfl, hbB, hcells⟩ := (HI.out.below hnx.out.1 (Nat.le_refl _)) (by have := hm.out; omega)
      have hc0 := hcells v x hX
      rw [hv2]
      clear hbd1 hcells hX hbB hJs
      gi_wp2
      refine hR.mono ?_
      rintro e W3 (⟨rfl, hJ3, hk3⟩ | ⟨rfl, hJx3⟩)
      · have hk4 : Hid (KeepK n₀ Bd W W3) := hnx.out.t hk3
        have hv3 : (v : Int) - 1 = (m : Int) - 1 - ((k + 1 : Nat) : Int) := by omega
        clear hk3 hy hc1 hc0
        gi_wp2
        go_roundw
        case rel => exact ⟨k + 1, by omega, by go_num, by rw [List.range_succ]; exact hJ3, hk4⟩
        case measure => simp [intOf]; omega
      · gi_wp2
        refine bodyPost_ret (results_none rfl _ _ _) rfl ?_
        exact ⟨⟨_, rfl⟩, .inr ⟨_, trivial, hJx3⟩⟩
    · obtain rfl : k = m := by omega
      have hv2 : (k : Int) - 1 - (k : Int) = -1 := by omega
      rw [hv2]
      gi_wp2
      go_end0
      exact ⟨⟨_, rfl⟩, .inl ⟨_, rfl, hJs⟩⟩

set_option maxHeartbeats 1000000 in
/-- slices.Backward: the argument is boxed; the function value captures the box -/
theorem backIn (n : Nat) (A : Option Addr) (m c : Nat) (w : World) :
    CallsIn Fence.wide n Try.prog 119 #[.slice A m c] w fun e w' => e = .returned (.func (.func 154) #[] #[.pointer (some ⟨w.heap.size, 0, none⟩)]) ∧
      w' = w.alloc (.cells #[.slice A m c] 22) := by
  refine callsIn_of_wp Try.func119 rfl trivial ?_ rfl
  simp only [Try.ntmps119, List.size_toArray, List.length_cons, List.length_nil, Nat.reduceAdd, Nat.reduceSub, Array.replicate_succ, Array.replicate_zero, List.push_toArray, List.append_toArray, List.nil_append, List.cons_append]
  gi_wp2
  go_ret
  exact ⟨rfl, rfl⟩

/-- what a range over a slice from its end gives: all elements, in order, or a beginning where a round has said 'no more' -/
theorem back_rows (encs : Nat → Array Value) (n : Nat) (hn : 1 ≤ n) (Bd n₀ : Nat) (A : Option Addr) (xs : List Int) (c : Nat) (hx : xs.length ≤ 1000)
    (hmk : ∀ k v (x : Int), k + 1 + v = xs.length → xs[v]? = some x → encs k = #[.int .i64 (v : Int), .int .i64 x]) (w : World) (hBd : Boxed w Bd 22 (.slice A xs.length c)) (hI : Ints w n₀ A xs) (hn0 : n₀ ≤ w.heap.size) :
    SeqRows Fence.wide n Try.prog 154 #[.pointer (some ⟨Bd, 0, none⟩)] encs (fun pre x _ => pre = List.range x ∧ x < xs.length) (KeepK n₀ Bd)
      (fun ys => ys = List.range xs.length) (fun _ => True) w := fun l J Jx W hW _ _ hY h0 =>
  back1 encs n hn l Bd n₀ A xs c hx hmk J Jx hY W ((hW.block Bd hBd.lt).trans hBd) (hI.below hW hn0) (Nat.le_trans hn0 hW.size) h0
end Go.Proofs.Ytamnilpmdccgoaa
