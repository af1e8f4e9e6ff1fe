/- eachChild: the iterator over the places and the children of a node: for every loop body that keeps what lay below a block and the box of the degrees. -/
import Derived.RangeFuncBox
import Derived.RangeFuncNested
import Derived.RangeFuncBound
import Derived.RangeFuncCalls
import Derived.RangeFuncLeaves
import Derived.Shelf.Abstract
import Derived.OwnWalkIn
import Derived.TacticsInMore
import Derived.LoopNIn
import Derived.LoopIn
import Derived.Test.YtdgcjkgbglofbaaEnd
namespace Go.Proofs.Ytdgcjkgbglofbaa
open Go.RowKit Go.Shelf
attribute [local go_sem] Oper.semAt_some

/-- what a round of a loop over the children must keep: all below n₀, and the box of the degrees -/
def KeepK (n₀ Bd : Nat) (W W' : World) : Prop := Below n₀ W W' ∧ W'.heap[Bd]? = W.heap[Bd]?
theorem KeepK.t {n₀ Bd : Nat} {A B C : World} (h : KeepK n₀ Bd A B) (k : KeepK n₀ Bd B C) : KeepK n₀ Bd A C := ⟨h.1.trans k.1, k.2.trans h.2⟩
theorem KeepK.b {n₀ Bd : Nat} {w : World} (hn : n₀ ≤ w.heap.size) (hB : Bd < w.heap.size) (W : World) (l : Nat) (o o' : Obj) (hl : w.heap.size ≤ l) (h : W.heap[l]? = some o) (h1 : o.isCells = false) (h2 : o.isWalk = false) : KeepK n₀ Bd W (W.putObj l o') :=
  ⟨belowK_b hn W l o o' hl h h1 h2, (grownBy_putObj' W l o').block Bd (by have := (Array.getElem?_eq_some_iff.1 h).1; omega) (fun e => by cases e; omega)⟩

/-- the places and the children that have come behind k rounds -/
def kids (xs : List Int) (v k : Nat) : List (Nat × Nat) := (List.range k).map fun i => (i, M.kidAt xs v i)
theorem kids_succ (xs : List Int) (v k : Nat) : kids xs v (k + 1) = kids xs v k ++ [(k, M.kidAt xs v k)] := by simp [kids, List.range_succ]
theorem kids_length (xs : List Int) (v k : Nat) : (kids xs v k).length = k := by simp [kids]

set_option maxRecDepth 100000 in
set_option maxHeartbeats 2000000 in
theorem each1 {α : Type} (mk : Nat → α) (encs : α → Array Value) (n : Nat) (hn : 1 ≤ n) (l Bv Bd n₀ : Nat) (A : Option Addr) (xs : List Int) (c v d : Nat) (hx : xs.length ≤ 24) (hcl : xs.length ≤ c) (hcu : c ≤ 9223372036854775807) (ht : Hid (M.isTree xs = true)) (hd : Hid (xs[v]? = some (d : Int)))
    (hmk : ∀ k, k < d → encs (mk k) = #[.int .i64 (k : Int), .int .i64 (M.kidAt xs v k : Int)]) (J Jx : List α → World → Prop)
    (hY : ∀ pre x W, J pre W → pre.length < d → YieldAt Fence.wide (n - 1) Try.prog l (encs x) W fun e W' =>
      (e = .returned (.bool true) ∧ J (pre ++ [x]) W' ∧ KeepK n₀ Bd W W') ∨ (e = .returned (.bool false) ∧ Jx (pre ++ [x]) W'))
    (W : World) (hBv : W.cell? ⟨Bv, 0, none⟩ = some (.int .i64 v)) (hBd : Boxed W Bd 24 (.slice A xs.length c)) (hI : Ints W n₀ A xs) (hn0 : n₀ ≤ W.heap.size) (h0 : J [] W) :
    CallsIn Fence.wide n Try.prog 332 #[.func (.yield l) #[] #[], .pointer (some ⟨Bv, 0, none⟩), .pointer (some ⟨Bd, 0, none⟩)] W fun e W' => (∃ u, e = .returned u) ∧
      ((∃ ys, ys = (List.range d).map mk ∧ J ys W') ∨ (∃ pre, (∃ k, k ≤ d ∧ pre = (List.range k).map mk) ∧ Jx pre W')) := by
  have hv : v < xs.length := (List.getElem?_eq_some_iff.1 hd.out).1
  have hd24 : d ≤ 24 := by have := M.tree_deg ht.out hd.out; omega
  obtain ⟨b, off, rfl, hbB, hcells⟩ := hI (by omega)
  have Hcells := Lib.hid hcells
  have hc0 := hcells v _ hd.out
  have hcd := hBd.cell
  have HBd := Lib.hid hBd
  have HI := Lib.hid hI
  clear hcells hI hBd
  refine callsIn_of_wp Try.func332 rfl trivial ?_ rfl
  simp only [Try.ntmps332, List.size_toArray, List.length_cons, List.length_nil, Nat.reduceAdd, Nat.reduceSub, Array.replicate_succ, Array.replicate_zero, List.push_toArray, List.append_toArray, List.nil_append, List.cons_append]
  gi_wp2
  gi_loopw [4, 5, 12] (fun q _ i wr => ∃ k : Nat, k ≤ d ∧ i = .int .i64 k ∧ q = .int .i64 (M.kidAt xs v k) ∧ J ((List.range k).map mk) wr ∧ Hid (KeepK n₀ Bd W wr))
    (fun _ _ i _ => d - (intOf i).toNat)
  case atStart => exact ⟨0, Nat.zero_le _, rfl, by simp [M.kidAt], h0, ⟨Below.refl _ _, rfl⟩⟩
  case round =>
    obtain ⟨k, hk, rfl, rfl, hJs, hnx⟩ := hrel
    clear hc0 hcd
    by_cases hlt : k < d
    · have hYk := hY _ (mk k) wr hJs (by simpa using hlt)
      rw [hmk k hlt] at hYk
      obtain ⟨fn, tmps, assign, body, hy, hR⟩ := hYk
      have hkl := M.kid_lt ht.out hd.out (i := k) (by omega)
      have hsp := M.span_le (xs.drop (M.kidAt xs v k)) 1
      have hsp2 : (xs.drop (M.kidAt xs v k)).length ≤ xs.length := by simp
      have hok := Lib.hid (M.tree_ok ht.out hkl)
      have hks : Hid (M.kidAt xs v (k + 1) = M.kidAt xs v k + M.span 1 (xs.drop (M.kidAt xs v k))) := rfl
      generalize hC : M.kidAt xs v k = C at *
      obtain ⟨S, hS⟩ : ∃ S, Hid (M.span 1 (xs.drop C) = S) := ⟨_, rfl⟩
      have hS2 : S ≤ 24 := by have := hS.out; omega
      have HC := Lib.hid hC
      clear hsp hsp2 hC
      gi_wp2
      refine hR.mono ?_
      rintro e W3 (⟨rfl, hJ3, hk3⟩ | ⟨rfl, hJx3⟩)
      · have hk4 : Hid (KeepK n₀ Bd W W3) := hnx.out.t hk3
        have hbd3 : Boxed W3 Bd 24 (.slice (some ⟨b, off, none⟩) xs.length c) := hk4.out.2.trans HBd.out
        have hc3 := hbd3.cell
        have hI3 := Lib.hid ((HI.out.below hk4.out.1 (Nat.le_refl _)).more (Nat.le_trans hn0 hk4.out.1.size))
        have hK3 := Lib.hid hk3
        clear hk3 hbd3
        gi_wp2_with (refine ⟨trivial, ?_⟩; gi_at_call 167; refine (callsIn_wide.2 (sizeAt _ xs c C S _ hS hx hcl hcu hok hI3.out)).mono ?_; rintro e w' ⟨rfl, rfl⟩)
        have hks2 : Hid (M.kidAt xs v (k + 1) = C + S) := by show _ = _; rw [hks.out, hS.out]
        go_roundw
        case rel => exact ⟨k + 1, by omega, by go_num, by rw [hks2.out]; go_num, by rw [List.range_succ, List.map_append]; exact hJ3, hk4⟩
        case measure => simp [intOf]; omega
      · gi_wp2
        refine bodyPost_ret (results_none rfl _ _ _) rfl ?_
        exact ⟨⟨_, rfl⟩, .inr ⟨_, ⟨k + 1, by omega, by rw [List.range_succ, List.map_append]; rfl⟩, hJx3⟩⟩
    · obtain rfl : k = d := by omega
      gi_wp2
      go_end0
      exact ⟨⟨_, rfl⟩, .inl ⟨_, rfl, hJs⟩⟩

set_option maxHeartbeats 1000000 in
/-- eachChild: both arguments are boxed; the function value captures the boxes -/
theorem eachIn (n : Nat) (A : Option Addr) (m c : Nat) (v : Int) (w : World) :
    CallsIn Fence.wide n Try.prog 275 #[.slice A m c, .int .i64 v] w fun e w' => e = .returned (.func (.func 332) #[] #[.pointer (some ⟨w.heap.size + 1, 0, none⟩), .pointer (some ⟨w.heap.size, 0, none⟩)]) ∧
      w' = (w.alloc (.cells #[.slice A m c] 24)).alloc (.cells #[.int .i64 v] 2) := by
  refine callsIn_of_wp Try.func275 rfl trivial ?_ rfl
  simp only [Try.ntmps275, List.size_toArray, List.length_cons, List.length_nil, Nat.reduceAdd, Nat.reduceSub, Array.replicate_succ, Array.replicate_zero, List.push_toArray, List.append_toArray, List.nil_append, List.cons_append]
  gi_wp2
  go_ret
  exact ⟨rfl, rfl⟩

/-- what a range over the children of v gives: all of them in order, or a beginning where a round has said 'no more'; the elements as the caller names them -/
theorem each_stopsF {α : Type} (mk : Nat → α) (encs : α → Array Value) (n : Nat) (hn : 1 ≤ n) (Bv Bd n₀ : Nat) (A : Option Addr) (xs : List Int) (c v d : Nat) (hx : xs.length ≤ 24) (hcl : xs.length ≤ c) (hcu : c ≤ 9223372036854775807) (ht : Hid (M.isTree xs = true)) (hd : Hid (xs[v]? = some (d : Int)))
    (hmk : ∀ k, k < d → encs (mk k) = #[.int .i64 (k : Int), .int .i64 (M.kidAt xs v k : Int)]) (w : World) (hBv : w.cell? ⟨Bv, 0, none⟩ = some (.int .i64 v)) (hBd : Boxed w Bd 24 (.slice A xs.length c)) (hI : Ints w n₀ A xs) (hn0 : n₀ ≤ w.heap.size) :
    SeqStopsK Fence.wide n Try.prog 332 #[.pointer (some ⟨Bv, 0, none⟩), .pointer (some ⟨Bd, 0, none⟩)] encs (KeepK n₀ Bd)
      (fun ys => ys = (List.range d).map mk) (fun pre => ∃ k, k ≤ d ∧ pre = (List.range k).map mk) d w := fun l J Jx W hW _ _ hY h0 =>
  each1 mk encs n hn l Bv Bd n₀ A xs c v d hx hcl hcu ht hd hmk J Jx hY W ((hW.cell (p := ⟨Bv, 0, none⟩) (World.block_lt_of_cell? _ _ hBv)).trans hBv) ((hW.block Bd hBd.lt).trans hBd) (hI.below hW hn0) (Nat.le_trans hn0 hW.size) h0

/-- what a range over the children of v gives: all of them in order, or a beginning where a round has said 'no more' -/
theorem each_stops (n : Nat) (hn : 1 ≤ n) (Bv Bd n₀ : Nat) (A : Option Addr) (xs : List Int) (c v d : Nat) (hx : xs.length ≤ 24) (hcl : xs.length ≤ c) (hcu : c ≤ 9223372036854775807) (ht : Hid (M.isTree xs = true)) (hd : Hid (xs[v]? = some (d : Int)))
    (w : World) (hBv : w.cell? ⟨Bv, 0, none⟩ = some (.int .i64 v)) (hBd : Boxed w Bd 24 (.slice A xs.length c)) (hI : Ints w n₀ A xs) (hn0 : n₀ ≤ w.heap.size) :
    SeqStopsK Fence.wide n Try.prog 332 #[.pointer (some ⟨Bv, 0, none⟩), .pointer (some ⟨Bd, 0, none⟩)] (fun x : Nat × Nat => #[Value.int .i64 (x.1 : Int), Value.int .i64 (x.2 : Int)]) (KeepK n₀ Bd)
      (fun ys => ys = kids xs v d) (fun pre => ∃ k, k ≤ d ∧ pre = kids xs v k) d w :=
  each_stopsF (fun i => (i, M.kidAt xs v i)) _ n hn Bv Bd n₀ A xs c v d hx hcl hcu ht hd (fun _ _ => rfl) w hBv hBd hI hn0
end Go.Proofs.Ytdgcjkgbglofbaa
