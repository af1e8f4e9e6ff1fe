/- slices.Backward over a slice that the rounds write into: the iterator's elements are the indices from the end, each with whatever number is read there. -/
import Derived.Test.YtamnilpmdccgoaaBack
import Derived.RangeFuncNested
namespace Go.Proofs.Ytamnilpmdccgoaa
open Go.RowKit Go.Shelf
attribute [local go_sem] Oper.semAt_some

/-- the m cells stay numbers, and the box of the slice stays -/
def KeepR (b off m Bd : Nat) (W W' : World) : Prop :=
  (∀ j, j < m → (∃ x, W.cell? ⟨b, off + j, none⟩ = some (.int .i64 x)) → ∃ x, W'.cell? ⟨b, off + j, none⟩ = some (.int .i64 x)) ∧ W'.heap[Bd]? = W.heap[Bd]?
theorem KeepR.r (b off m Bd : Nat) (W : World) : KeepR b off m Bd W W := ⟨fun _ _ h => h, rfl⟩
theorem KeepR.t {b off m Bd : Nat} {X Y Z : World} (h : KeepR b off m Bd X Y) (k : KeepR b off m Bd Y Z) : KeepR b off m Bd X Z := ⟨fun j hj hx => k.1 j hj (h.1 j hj hx), k.2.trans h.2⟩
theorem KeepR.b {b off m Bd D : Nat} (hb : b < D) (hBd : Bd < D) (W : World) (l : Nat) (o o' : Obj) (hl : D ≤ l) (_ : W.heap[l]? = some o) (_ : o.isCells = false) (_ : o.isWalk = false) : KeepR b off m Bd W (W.putObj l o') :=
  ⟨fun j _ ⟨x, hx⟩ => ⟨x, (World.cell?_of_block (a := ⟨b, off + j, none⟩) (World.putObj_heap_other (by show b ≠ l; omega))).trans hx⟩, World.putObj_heap_other (by omega)⟩
/-- all cells are numbers -/
def NumsAt (b off m : Nat) (W : World) : Prop := ∀ j, j < m → ∃ x, W.cell? ⟨b, off + j, none⟩ = some (.int .i64 x)
theorem NumsAt.keep {b off m Bd : Nat} {W W' : World} (h : NumsAt b off m W) (k : KeepR b off m Bd W W') : NumsAt b off m W' := fun j hj => k.1 j hj (h j hj)

set_option maxRecDepth 100000 in
set_option maxHeartbeats 2000000 in
theorem backA (n : Nat) (hn : 1 ≤ n) (l Bd b off m c : Nat) (hm : m ≤ 1000) (J Jx : List (Nat × Int) → World → Prop)
    (hY : ∀ pre (x : Nat × Int) W, J pre W → pre.length < m → YieldAt Fence.wide (n - 1) Try.prog l #[.int .i64 ((m - 1 - x.1 : Nat) : Int), .int .i64 x.2] W fun e W' =>
      (e = .returned (.bool true) ∧ J (pre ++ [x]) W' ∧ KeepR b off m Bd W W') ∨ (e = .returned (.bool false) ∧ Jx (pre ++ [x]) W'))
    (W : World) (hBd : Boxed W Bd 22 (.slice (some ⟨b, off, none⟩) m c)) (hI : NumsAt b off m W) (h0 : J [] W) :
    CallsIn Fence.wide n Try.prog 154 #[.func (.yield l) #[] #[], .pointer (some ⟨Bd, 0, none⟩)] W fun e W' => (∃ u, e = .returned u) ∧
      ((∃ ys : List (Nat × Int), ys.map Prod.fst = List.range m ∧ J ys W') ∨ (∃ pre, True ∧ Jx pre W')) := by
  have hcd := hBd.cell
  have HBd := Lib.hid hBd
  have HI := Lib.hid hI
  clear hI hBd
  refine callsIn_of_wp Try.func154 rfl trivial ?_ rfl
  simp only [Try.ntmps154, List.size_toArray, List.length_cons, List.length_nil, Nat.reduceAdd, Nat.reduceSub, Array.replicate_succ, Array.replicate_zero, List.push_toArray, List.append_toArray, List.nil_append, List.cons_append]
  gi_wp2
  gi_loopw [3] (fun i wr => ∃ (k : Nat) (pre : List (Nat × Int)), k ≤ m ∧ i = .int .i64 ((m : Int) - 1 - (k : Int)) ∧ Hid (pre.map Prod.fst = List.range k) ∧ J pre wr ∧ Hid (KeepR b off m Bd W wr))
    (fun i _ => (intOf i + 1).toNat)
  case atStart => exact ⟨0, [], Nat.zero_le _, by simp, rfl, h0, KeepR.r _ _ _ _ _⟩
  case round =>
    obtain ⟨k, pre, hk, rfl, hpre, hJs, hnx⟩ := hrel
    clear hcd
    have hpl : pre.length = k := by have := congrArg List.length hpre.out; simpa using this
    by_cases hlt : k < m
    · obtain ⟨v, hv⟩ : ∃ v : Nat, k + 1 + v = m := ⟨m - 1 - k, by omega⟩
      have hv2 : (m : Int) - 1 - (k : Int) = (v : Int) := by omega
      have hvm : (v : Int) < (m : Int) := by omega
      have hv0 : (0 : Int) ≤ (v : Int) := by omega
      obtain ⟨x, hc0⟩ := (HI.out.keep hnx.out) v (by omega)
      have hYk := hY pre (k, x) wr hJs (by omega)
      simp only at hYk
      rw [show m - 1 - k = v by omega] at hYk
      obtain ⟨fn, tmps, assign, body, hy, hR⟩ := hYk
      have hbd1 : Boxed wr Bd 22 (.slice (some ⟨b, off, none⟩) m c) := hnx.out.2.trans HBd.out
      have hc1 := hbd1.cell
      have hpre2 : Hid ((pre ++ [(k, x)]).map Prod.fst = List.range (k + 1)) := by show _ = _; rw [List.map_append, hpre.out, List.range_succ]; rfl
      rw [hv2]
      clear hbd1 hJs hpre hpl
      gi_wp2
      refine hR.mono ?_
      rintro e W3 (⟨rfl, hJ3, hk3⟩ | ⟨rfl, hJx3⟩)
      · have hk4 : Hid (KeepR b off m Bd W W3) := hnx.out.t hk3
        have hv3 : (v : Int) - 1 = (m : Int) - 1 - ((k + 1 : Nat) : Int) := by omega
        clear hk3 hy hc1 hc0
        gi_wp2
        go_roundw
        case rel => exact ⟨k + 1, _, by omega, by go_num, hpre2, hJ3, hk4⟩
        case measure => simp [intOf]; omega
      · gi_wp2
        refine bodyPost_ret (results_none rfl _ _ _) rfl ?_
        exact ⟨⟨_, rfl⟩, .inr ⟨_, trivial, hJx3⟩⟩
    · obtain rfl : k = m := by omega
      have hv2 : (k : Int) - 1 - (k : Int) = -1 := by omega
      rw [hv2]
      gi_wp2
      go_end0
      exact ⟨⟨_, rfl⟩, .inl ⟨_, hpre.out, hJs⟩⟩

/-- what such a range gives -/
theorem back_any (n : Nat) (hn : 1 ≤ n) (Bd b off m c : Nat) (hm : m ≤ 1000) (w : World) (hBd : Boxed w Bd 22 (.slice (some ⟨b, off, none⟩) m c)) (hI : NumsAt b off m w) :
    SeqStopsK Fence.wide n Try.prog 154 #[.pointer (some ⟨Bd, 0, none⟩)] (fun x : Nat × Int => #[.int .i64 ((m - 1 - x.1 : Nat) : Int), .int .i64 x.2]) (KeepR b off m Bd)
      (fun ys => ys.map Prod.fst = List.range m) (fun _ => True) m w := fun l J Jx W hW _ _ hY h0 =>
  backA n hn l Bd b off m c hm J Jx hY W ((hW.block Bd hBd.lt).trans hBd) (fun j hj => by
    obtain ⟨x, hx⟩ := hI j hj
    exact ⟨x, (hW.cell (p := ⟨b, off + j, none⟩) (World.block_lt_of_cell? _ _ hx)).trans hx⟩) h0
end Go.Proofs.Ytamnilpmdccgoaa
