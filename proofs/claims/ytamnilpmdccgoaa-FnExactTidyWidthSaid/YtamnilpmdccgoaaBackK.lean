/- slices.Backward again, for a round that keeps the slice's box and its elements (whatever else it writes). -/
import Derived.Test.YtamnilpmdccgoaaBack
namespace Go.Proofs.Ytamnilpmdccgoaa
open Go.RowKit Go.Shelf
attribute [local go_sem] Oper.semAt_some

set_option maxRecDepth 100000 in
set_option maxHeartbeats 2000000 in
theorem back1K (encs : Nat → Array Value) (n : Nat) (hn : 1 ≤ n) (l Bd n₀ : Nat) (A : Option Addr) (xs : List Int) (c : Nat) (hx : xs.length ≤ 1000)
    (hmk : Hid (∀ k v (x : Int), k + 1 + v = xs.length → xs[v]? = some x → encs k = #[.int .i64 (v : Int), .int .i64 x])) (Kp : World → World → Prop) (hKr : ∀ X, Kp X X) (hKt : ∀ {X Y Z}, Kp X Y → Kp Y Z → Kp X Z) (J Jx : List Nat → World → Prop)
    (hY : ∀ pre x W, J pre W → (pre = List.range x ∧ x < xs.length) → YieldAt Fence.wide (n - 1) Try.prog l (encs x) W fun e W' =>
      (e = .returned (.bool true) ∧ J (pre ++ [x]) W' ∧ Kp W W') ∨ (e = .returned (.bool false) ∧ Jx (pre ++ [x]) W'))
    (W : World) (hKe : Hid (∀ W', Kp W W' → Boxed W' Bd 22 (.slice A xs.length c) ∧ Ints W' n₀ A xs)) (h0 : J [] W) :
    CallsIn Fence.wide n Try.prog 154 #[.func (.yield l) #[] #[], .pointer (some ⟨Bd, 0, none⟩)] W fun e W' => (∃ u, e = .returned u) ∧
      ((∃ ys, ys = List.range xs.length ∧ J ys W') ∨ (∃ pre, True ∧ Jx pre W')) := by
  have hcd := (hKe.out _ (hKr _)).1.cell
  obtain ⟨m, hm⟩ : ∃ m, Hid (xs.length = m) := ⟨_, rfl⟩
  rw [hm.out] at hx hmk hY hcd hKe ⊢
  refine callsIn_of_wp Try.func154 rfl trivial ?_ rfl
  simp only [Try.ntmps154, List.size_toArray, List.length_cons, List.length_nil, Nat.reduceAdd, Nat.reduceSub, Array.replicate_succ, Array.replicate_zero, List.push_toArray, List.append_toArray, List.nil_append, List.cons_append]
  gi_wp2
  gi_loopw [3] (fun i wr => ∃ k : Nat, k ≤ m ∧ i = .int .i64 ((m : Int) - 1 - (k : Int)) ∧ J (List.range k) wr ∧ Hid (Kp W wr))
    (fun i _ => (intOf i + 1).toNat)
  case atStart => exact ⟨0, Nat.zero_le _, by simp, h0, hKr _⟩
  case round =>
    obtain ⟨k, hk, rfl, hJs, hnx⟩ := hrel
    clear hcd
    by_cases hlt : k < m
    · obtain ⟨v, hv⟩ : ∃ v : Nat, k + 1 + v = m := ⟨m - 1 - k, by omega⟩
      have hv2 : (m : Int) - 1 - (k : Int) = (v : Int) := by omega
      have hvm : (v : Int) < (m : Int) := by omega
      have hv0 : (0 : Int) ≤ (v : Int) := by omega
      obtain ⟨x, hX⟩ : ∃ x, xs[v]? = some x := ⟨_, List.getElem?_eq_getElem (by have := hm.out; omega)⟩
      have hYk := hY _ k wr hJs ⟨rfl, hlt⟩
      rw [hmk.out k v x hv hX] at hYk
      obtain ⟨fn, tmps, assign, body, hy, hR⟩ := hYk
      have hbd1 : Boxed wr Bd 22 (.slice A m c) := (hKe.out _ hnx.out).1
      have hc1 := hbd1.cell
      obtain ⟨b, off, rfl, hbB, hcells⟩ := ((hKe.out _ hnx.out).2) (by have := hm.out; omega)
      have hc0 := hcells v x hX
      rw [hv2]
      clear hbd1 hcells hX hbB hJs
      gi_wp2
      refine hR.mono ?_
      rintro e W3 (⟨rfl, hJ3, hk3⟩ | ⟨rfl, hJx3⟩)
      · have hk4 : Hid (Kp W W3) := hKt hnx.out hk3
        have hv3 : (v : Int) - 1 = (m : Int) - 1 - ((k + 1 : Nat) : Int) := by omega
        clear hk3 hy hc1 hc0
        gi_wp2
        go_roundw
        case rel => exact ⟨k + 1, by omega, by go_num, by rw [List.range_succ]; exact hJ3, hk4⟩
        case measure => simp [intOf]; omega
      · gi_wp2
        refine bodyPost_ret (results_none rfl _ _ _) rfl ?_
        exact ⟨⟨_, rfl⟩, .inr ⟨_, trivial, hJx3⟩⟩
    · obtain rfl : k = m := by omega
      have hv2 : (k : Int) - 1 - (k : Int) = -1 := by omega
      rw [hv2]
      gi_wp2
      go_end0
      exact ⟨⟨_, rfl⟩, .inl ⟨_, rfl, hJs⟩⟩

/-- what a range over a slice from its end gives, for such rounds -/
theorem back_rowsK (encs : Nat → Array Value) (n : Nat) (hn : 1 ≤ n) (Bd n₀ : Nat) (A : Option Addr) (xs : List Int) (c : Nat) (hx : xs.length ≤ 1000)
    (hmk : ∀ k v (x : Int), k + 1 + v = xs.length → xs[v]? = some x → encs k = #[.int .i64 (v : Int), .int .i64 x]) (w : World) (Kp : World → World → Prop) (hKr : ∀ X, Kp X X) (hKt : ∀ {X Y Z}, Kp X Y → Kp Y Z → Kp X Z) (hKe : ∀ W W', Below w.heap.size w W → Kp W W' → Boxed W' Bd 22 (.slice A xs.length c) ∧ Ints W' n₀ A xs) :
    SeqRows Fence.wide n Try.prog 154 #[.pointer (some ⟨Bd, 0, none⟩)] encs (fun pre x _ => pre = List.range x ∧ x < xs.length) Kp
      (fun ys => ys = List.range xs.length) (fun _ => True) w := fun l J Jx W hW _ _ hY h0 =>
  back1K encs n hn l Bd n₀ A xs c hx hmk Kp hKr hKt J Jx hY W (fun W' hk => hKe W W' hW hk) h0
end Go.Proofs.Ytamnilpmdccgoaa
