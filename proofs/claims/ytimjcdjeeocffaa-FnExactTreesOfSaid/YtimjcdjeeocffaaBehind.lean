/- treesBehind: the iterator over the trees behind one; each comes in a row of its own. -/
import Derived.Test.YtimjcdjeeocffaaNextIn
import Derived.Laws.Cover3
namespace Go.Proofs.Ytimjcdjeeocffaa
open Go.RowKit Go.Shelf Go.Maps
attribute [local go_sem] Oper.semAt_some

namespace M
/-- the k-th tree behind xs -/
def after (xs : List Int) : Nat → Option (List Int)
  | 0 => nextF 1 xs
  | k + 1 => (after xs k).bind (nextF 1)
theorem after_ok {xs : List Int} (ht : isTree xs = true) : ∀ (k : Nat) (ys : List Int), after xs k = some ys → isTree ys = true ∧ ys.length = xs.length ∧ rk 1 ys = rk 1 xs + k + 1 := by
  intro k
  induction k with
  | zero =>
    intro ys h
    have h1 := next_tree ht h
    have h2 := next_rk xs 1 (tree_len ht).2 (tree_go ht)
    rw [show nextF 1 xs = some ys from h] at h2
    exact ⟨h1.1, h1.2, h2.2.2⟩
  | succ k ih =>
    intro ys h
    simp only [after] at h
    cases hz : after xs k with
    | none => rw [hz] at h; cases h
    | some zs =>
      rw [hz] at h
      obtain ⟨i1, i2, i3⟩ := ih zs hz
      have h0 : nextF 1 zs = some ys := h
      have h1 := next_tree i1 h0
      have h2 := next_rk zs 1 (tree_len i1).2 (tree_go i1)
      rw [h0] at h2
      exact ⟨h1.1, h1.2.trans i2, by rw [h2.2.2, i3]; omega⟩
theorem after_lt {xs ys : List Int} (ht : isTree xs = true) {k : Nat} (h : after xs k = some ys) : rk 1 xs + k + 1 < L xs.length 1 := by
  obtain ⟨h1, h2, h3⟩ := after_ok ht k ys h
  have := rk_lt ys 1 (tree_go h1)
  rw [h2, h3] at this
  exact this
theorem after_succ {xs ys : List Int} {k : Nat} (h : after xs k = some ys) : after xs (k + 1) = nextF 1 ys := by simp [after, h]
end M

/-- what a round of a loop over the trees behind one must keep: the rows of numbers -/
def KeepRows (W W' : World) : Prop := W.heap.size ≤ W'.heap.size ∧ ∀ (j : Nat) (cur : Array Value), W.heap[j]? = some (.cells cur 2 (0, 0)) → W'.heap[j]? = some (.cells cur 2 (0, 0))
theorem KeepRows.t {A B C : World} (h : KeepRows A B) (k : KeepRows B C) : KeepRows A C := ⟨Nat.le_trans h.1 k.1, fun j cur e => k.2 j cur (h.2 j cur e)⟩
theorem KeepRows.own {W W' : World} (h : KeepRows W W') {B : Nat} {v : Value} {zs : List Int} (ho : Own64 W B v zs) : Own64 W' B v zs := by
  refine ⟨ho.1, ?_⟩
  rcases ho.2 with h1 | ⟨g, cap, cur, h1, h2, h3, h4⟩
  · exact .inl h1
  · exact .inr ⟨g, cap, cur, h1, h2, h.2 g cur h3, h4⟩

theorem keepRows_turn {W : World} {l : Nat} {r r' : Loop} (h : W.heap[l]? = some (.loop r)) : KeepRows W (W.putObj l (.loop r')) :=
  ⟨(grownBy_putObj' W l _).size, fun j cur hj => ((grownBy_putObj' W l _).block j (Array.getElem?_eq_some_iff.1 hj).1 (fun e => by
    injection e with e
    subst e
    rw [hj] at h
    cases h)).trans hj⟩

/-- the numbers of a row in memory -/
def rowOf (W : World) : Value → List Int
  | .slice (some a) m _ => (List.range m).map fun j => match W.cell? ⟨a.block, j, none⟩ with
    | some v => intOf v
    | none => 0
  | _ => []
theorem rowOf_own {W : World} {B g n c : Nat} {zs : List Int} (h : Own64 W B (.slice (some ⟨g, 0, none⟩) n c) zs) : rowOf W (.slice (some ⟨g, 0, none⟩) n c) = zs := by
  have hn := own64_len h
  subst hn
  apply List.ext_getElem?
  intro j
  simp only [rowOf, List.getElem?_map]
  by_cases hj : j < zs.length
  · have hz : zs[j]? = some zs[j] := List.getElem?_eq_getElem hj
    obtain ⟨h1, _⟩ := own64_cell h rfl hz
    rw [List.getElem?_range hj, hz]
    simp only [Option.map_some, h1, intOf]
  · rw [List.getElem?_eq_none (by simp; omega), List.getElem?_eq_none (by omega)]
    rfl
/-- how many trees are still to come, for the loop's end -/
def leftOf (n : Nat) (W : World) (q : Value) : Nat := match q with
  | .slice (some _) _ _ => M.L n 1 - M.rk 1 (rowOf W q)
  | _ => 0

/-- what is told of an element -/
def RowC (xs : List Int) (B : Nat) (pre : List Value) (x : Value) (W : World) : Prop :=
  ∃ (ys : List Int) (g c' : Nat), M.after xs pre.length = some ys ∧ x = .slice (some ⟨g, 0, none⟩) ys.length c' ∧ c' ≤ 9223372036854775807 ∧ Own64 W B x ys ∧ ∀ y ∈ pre, y.ownBlock ≠ some g

theorem RowC.from (xs : List Int) (B D : Nat) : OwnFrom D (fun (s : List Value × Value) W => RowC xs B s.1 s.2 W) := fun _ _ _ _ ⟨ys, g, c', h1, h2, h3, h4, h5⟩ hg hr => ⟨ys, g, c', h1, h2, h3, row_kept h4 hg hr, h5⟩

/-- where the iterator stands: the tree at hand, or nothing -/
def AtTree (xs : List Int) (B : Nat) (pre : List Value) (q : Value) (W : World) : Prop :=
  match M.after xs pre.length with
  | some _ => RowC xs B pre q W
  | none => q = .slice none 0 0

theorem at_next {xs ys : List Int} {B : Nat} {pre : List Value} {W W' : World} {e : Ending} (hB : B ≤ W.heap.size) (h : IsNext W W.heap.size ys e W') (ha : M.after xs pre.length = M.nextF 1 ys) (hp : ∀ y ∈ pre, ∀ g, y.ownBlock = some g → g < W.heap.size) :
    ∃ q, e = .returned q ∧ AtTree xs B pre q W' ∧ Below W.heap.size W W' := by
  unfold IsNext at h
  cases hn : M.nextF 1 ys with
  | none =>
    rw [hn] at h
    exact ⟨_, h.1, by unfold AtTree; rw [ha, hn], h.2⟩
  | some zs =>
    rw [hn] at h
    obtain ⟨g, c', h1, h2, h3⟩ := h
    refine ⟨_, h1, ?_, h3⟩
    unfold AtTree
    rw [ha, hn]
    have hc : c' ≤ 9223372036854775807 := by
      rcases h2.2 with ⟨h0, _⟩ | ⟨g', cap, cur, hv, _, _, _, h5, _⟩
      · cases h0
      · injection hv with _ _ e3
        subst e3
        unfold maxLen at h5
        omega
    refine ⟨zs, g, c', ha.trans hn, rfl, hc, own_mono h2 hB, fun y hy e' => ?_⟩
    have h6 := hp y hy g e'
    have h7 := (World.ownsRow.lt h2 g rfl).1
    omega

theorem own_cap' {w : World} {B n c : Nat} {A : Option Addr} {zs : List Int} (h : Own64 w B (.slice A n c) zs) : n ≤ c := by
  rcases h.2 with ⟨e, _⟩ | ⟨g, cap, cur, hv, _, _, h4, _⟩
  · injection e with e1 e2 e3; omega
  · injection hv with e1 e2 e3; omega

theorem grown_of_below {W W' : World} (h : Below W.heap.size W W') : W.grownBy W' none := ⟨h.os, h.tape, h.output, h.size, fun k hk _ => h.block k hk⟩

theorem at_left {xs : List Int} {B : Nat} {pre : List Value} {x q : Value} {W W' : World} (ht : M.isTree xs = true) (h : RowC xs B pre x W) (h' : AtTree xs B (pre ++ [x]) q W') : leftOf xs.length W' q < leftOf xs.length W x := by
  obtain ⟨ys, g, c', h1, rfl, _, h4, _⟩ := h
  obtain ⟨k1, k2, k3⟩ := M.after_ok ht _ ys h1
  have k4 := M.after_lt ht h1
  have e1 : leftOf xs.length W (.slice (some ⟨g, 0, none⟩) ys.length c') = M.L xs.length 1 - M.rk 1 ys := by simp only [leftOf, rowOf_own h4]
  rw [e1]
  unfold AtTree at h'
  rw [List.length_append, List.length_singleton] at h'
  cases hn : M.after xs (pre.length + 1) with
  | none =>
    rw [hn] at h'
    simp only at h'
    rw [h']
    show 0 < _
    omega
  | some zs =>
    rw [hn] at h'
    obtain ⟨zs', g', c2, j1, rfl, _, j4, _⟩ := h'
    rw [List.length_append, List.length_singleton] at j1
    obtain ⟨i1, i2, i3⟩ := M.after_ok ht _ zs' j1
    have i4 := M.after_lt ht j1
    have e2 : leftOf xs.length W' (.slice (some ⟨g', 0, none⟩) zs'.length c2) = M.L xs.length 1 - M.rk 1 zs' := by simp only [leftOf, rowOf_own j4]
    rw [e2]
    omega

set_option maxRecDepth 100000 in
set_option maxHeartbeats 4000000 in
theorem behind1 (n : Nat) (hn : 1 ≤ n) (l Bd B : Nat) (A : Option Addr) (xs : List Int) (c : Nat) (ht : Hid (M.isTree xs = true)) (hcl : xs.length ≤ c) (hcu : c ≤ 9223372036854775807) (J Jx : List Value → World → Prop)
    (hJ : Hid (∀ s X Y, J s X → X.grownBy Y none → J s Y))
    (hY : Hid (∀ pre x W, J pre W → RowC xs B pre x W → YieldAt Fence.wide (n - 1) Try.prog l #[x] W fun e W' =>
      (e = .returned (.bool true) ∧ J (pre ++ [x]) W' ∧ KeepRows W W') ∨ (e = .returned (.bool false) ∧ Jx (pre ++ [x]) W')))
    (W : World) (hBd : W.cell? ⟨Bd, 0, none⟩ = some (.slice A xs.length c)) (hI : Hid (Ints W W.heap.size A xs)) (hB : B ≤ W.heap.size) (h0 : Hid (J [] W)) :
    CallsIn Fence.wide n Try.prog 194 #[.func (.yield l) #[] #[], .pointer (some ⟨Bd, 0, none⟩)] W fun e W' => (∃ u, e = .returned u) ∧
      ((∃ ys, M.after xs ys.length = none ∧ J ys W') ∨ (∃ pre, True ∧ Jx pre W')) := by
  have HN := Lib.hid (nextDegrees A xs c W ht hcl hcu hI)
  have heq := fun W A m c => run_neq_slice_nil (P := Try.prog) W 22 2 A m c Try.underlying22
  refine callsIn_of_wp Try.func194 rfl trivial ?_ rfl
  simp only [Try.ntmps194, List.size_toArray, List.length_cons, List.length_nil, Nat.reduceAdd, Nat.reduceSub, Array.replicate_succ, Array.replicate_zero, List.push_toArray, List.append_toArray, List.nil_append, List.cons_append]
  gi_wp2_with (refine ⟨trivial, ?_⟩; gi_at_call 195; refine (callsIn_wide.2 HN.out).mono ?_; intro e W1 hn1; obtain ⟨q1, rfl, hq1, hb1⟩ := at_next (pre := []) hB hn1 rfl (fun y hy => by cases hy))
  have hst : Hid (J [] W1) := hJ.out _ _ _ h0.out (grown_of_below hb1)
  have Hq1 := Lib.hid hq1
  have Hb1 := Lib.hid hb1
  clear hq1 hb1 h0 HN
  gi_loopw [3] (fun q wr => ∃ pre, Hid (J pre wr) ∧ Hid (AtTree xs B pre q wr) ∧ Hid (∀ y ∈ pre, ∀ g, y.ownBlock = some g → g < wr.heap.size) ∧ Hid (B ≤ wr.heap.size))
    (fun q wr => leftOf xs.length wr q)
  case atStart => exact ⟨[], hst, Hq1, Lib.hid (fun y hy => by cases hy), Lib.hid (Nat.le_trans hB Hb1.out.size)⟩
  case round =>
    obtain ⟨pre, hJp, hat, hbl, hBw⟩ := hrel
    clear hst Hq1 hn1 Hb1 hBd
    cases haf : M.after xs pre.length with
    | none =>
      have hq := hat.out
      unfold AtTree at hq
      rw [haf] at hq
      simp only at hq
      subst hq
      have Haf := Lib.hid haf
      clear haf hat
      gi_wp2
      go_end0
      exact ⟨⟨_, rfl⟩, .inl ⟨pre, Haf.out, hJp.out⟩⟩
    | some ys0 =>
      have hq := hat.out
      unfold AtTree at hq
      rw [haf] at hq
      simp only at hq
      have HRow := Lib.hid hq
      obtain ⟨ys, g, c', h1, rfl, hc', ho, hfr⟩ := hq
      obtain ⟨fn, tmps, assign, body, hy, hR⟩ := hY.out pre _ wr hJp.out HRow.out
      have H1 := Lib.hid h1
      have Ho := Lib.hid ho
      have hok := Lib.hid (M.after_ok ht.out _ ys h1)
      clear haf hat h1 ho hfr hJp
      gi_wp2
      refine hR.mono ?_
      rintro e W3 (⟨rfl, hJ3, hk3⟩ | ⟨rfl, hJx3⟩)
      · have ho3 : Hid (Own64 W3 B (.slice (some ⟨g, 0, none⟩) ys.length c') ys) := hk3.own Ho.out
        have HJ3 := Lib.hid hJ3
        have hg := (World.ownsRow.lt Ho.out g rfl).2
        have hcap : ys.length ≤ c' := own_cap' Ho.out
        have hN3 := Lib.hid (nextDegrees (some ⟨g, 0, none⟩) ys c' W3 hok.out.1 hcap hc' (ints_of_own64 ho3.out))
        have hz3 : wr.heap.size ≤ W3.heap.size := hk3.1
        have hbl3 : Hid (∀ y ∈ pre ++ [Value.slice (some ⟨g, 0, none⟩) ys.length c'], ∀ g', y.ownBlock = some g' → g' < W3.heap.size) := fun y hy g' e' => by
          rcases List.mem_append.1 hy with h | h
          · exact Nat.lt_of_lt_of_le (hbl.out y h g' e') hz3
          · rw [List.mem_singleton.1 h] at e'
            have : g = g' := by injection e'
            omega
        have hB3 : B ≤ W3.heap.size := Nat.le_trans hBw.out hz3
        have hsucc : Hid (M.after xs (pre ++ [Value.slice (some ⟨g, 0, none⟩) ys.length c']).length = M.nextF 1 ys) := by show _ = _; rw [List.length_append, List.length_singleton]; exact M.after_succ H1.out
        clear hJ3 hk3 hy ho3
        gi_wp2_with (refine ⟨trivial, ?_⟩; gi_at_call 195; refine (callsIn_wide.2 hN3.out).mono ?_; intro e W4 hn4; obtain ⟨q4, rfl, hq4, hb4⟩ := at_next hB3 hn4 hsucc.out hbl3.out)
        have HJ4 := Lib.hid (hJ.out _ _ _ HJ3.out (grown_of_below hb4))
        have Hq4 := Lib.hid hq4
        have Hb4 := Lib.hid hb4
        clear hq4 hb4 hn4 hN3
        go_roundw
        case rel => exact ⟨_, HJ4, Hq4, fun y hy g' e' => Nat.lt_of_lt_of_le (hbl3.out y hy g' e') Hb4.out.size, Nat.le_trans hB3 Hb4.out.size⟩
        case measure => exact at_left ht.out HRow.out Hq4.out
      · gi_wp2
        refine bodyPost_ret (results_none rfl _ _ _) rfl ?_
        exact ⟨⟨_, rfl⟩, .inr ⟨_, trivial, hJx3⟩⟩

set_option maxHeartbeats 1000000 in
/-- treesBehind: the argument is boxed; the function value captures the box -/
theorem behindIn (n : Nat) (A : Option Addr) (m c : Nat) (w : World) :
    CallsIn Fence.wide n Try.prog 168 #[.slice A m c] w fun e w' => e = .returned (.func (.func 194) #[] #[.pointer (some ⟨w.heap.size, 0, none⟩)]) ∧
      w' = w.alloc (.cells #[.slice A m c] 22) := by
  refine callsIn_of_wp Try.func168 rfl trivial ?_ rfl
  simp only [Try.ntmps168, List.size_toArray, List.length_cons, List.length_nil, Nat.reduceAdd, Nat.reduceSub, Array.replicate_succ, Array.replicate_zero, List.push_toArray, List.append_toArray, List.nil_append, List.cons_append]
  gi_wp2
  go_ret
  exact ⟨rfl, rfl⟩

/-- what a range over the trees behind one gives -/
theorem behind_rows (n : Nat) (hn : 1 ≤ n) (Bd B : Nat) (A : Option Addr) (xs : List Int) (c : Nat) (ht : Hid (M.isTree xs = true)) (hcl : xs.length ≤ c) (hcu : c ≤ 9223372036854775807) (w : World)
    (hBd : Boxed w Bd 22 (.slice A xs.length c)) (hI : Ints w w.heap.size A xs) (hB : B ≤ w.heap.size) :
    SeqRows Fence.wide n Try.prog 194 #[.pointer (some ⟨Bd, 0, none⟩)] (fun x => #[x]) (RowC xs B) KeepRows (fun ys => M.after xs ys.length = none) (fun _ => True) w := fun l J Jx W hW hJ _ hY h0 =>
  behind1 n hn l Bd B A xs c ht hcl hcu J Jx hJ hY W (show Boxed W Bd _ _ from (hW.block Bd hBd.lt).trans hBd).cell (hI.be hW) (Nat.le_trans hB hW.size) h0
end Go.Proofs.Ytimjcdjeeocffaa
