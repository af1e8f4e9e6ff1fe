/- treesBehind: the iterator over the trees behind one; each comes in a row of its own. -/
import Derived.Test.YtmhpobgfgimfcaaMgFirstAvoiding4
import Derived.Laws.Cover3
import Derived.Deep.DeepCutAuto
import Derived.BigRegion
import Derived.OneCell
import Derived.ProofKit
import Derived.SizedLaws
import Derived.Lib.SmallJoins
import Derived.Deep.Slices
import Derived.Deep.Fields
namespace Go.Proofs.Ytmhpobgfgimfcaa
open Go.RowKit Go.Shelf Go.Maps
attribute [local go_sem] Oper.semAt_some

namespace M
/-- the k-th tree behind xs -/
def tafter (xs : List Int) : Nat → Option (List Int)
  | 0 => nextF 1 xs
  | k + 1 => (tafter xs k).bind (nextF 1)
theorem tafter_ok {xs : List Int} (ht : isTree xs = true) : ∀ (k : Nat) (ys : List Int), tafter xs k = some ys → isTree ys = true ∧ ys.length = xs.length ∧ rk 1 ys = rk 1 xs + k + 1 := by
  intro k
  induction k with
  | zero =>
    intro ys h
    have h1 := next_tree ht h
    have h2 := next_rk xs 1 (tree_len ht).2 (tree_go ht)
    rw [show nextF 1 xs = some ys from h] at h2
    exact ⟨h1.1, h1.2, h2.2.2⟩
  | succ k ih =>
    intro ys h
    simp only [tafter] at h
    cases hz : tafter xs k with
    | none => rw [hz] at h; cases h
    | some zs =>
      rw [hz] at h
      obtain ⟨i1, i2, i3⟩ := ih zs hz
      have h0 : nextF 1 zs = some ys := h
      have h1 := next_tree i1 h0
      have h2 := next_rk zs 1 (tree_len i1).2 (tree_go i1)
      rw [h0] at h2
      exact ⟨h1.1, h1.2.trans i2, by rw [h2.2.2, i3]; omega⟩
theorem tafter_lt {xs ys : List Int} (ht : isTree xs = true) {k : Nat} (h : tafter xs k = some ys) : rk 1 xs + k + 1 < L xs.length 1 := by
  obtain ⟨h1, h2, h3⟩ := tafter_ok ht k ys h
  have := rk_lt ys 1 (tree_go h1)
  rw [h2, h3] at this
  exact this
theorem tafter_succ {xs ys : List Int} {k : Nat} (h : tafter xs k = some ys) : tafter xs (k + 1) = nextF 1 ys := by simp [tafter, h]
end M

/-- what a round of a loop over the trees behind one must keep: the rows of numbers -/
def KeepRows (W W' : World) : Prop := W.heap.size ≤ W'.heap.size ∧ ∀ (j : Nat) (cur : Array Value), W.heap[j]? = some (.cells cur 2 (0, 0)) → W'.heap[j]? = some (.cells cur 2 (0, 0))
theorem KeepRows.t {A B C : World} (h : KeepRows A B) (k : KeepRows B C) : KeepRows A C := ⟨Nat.le_trans h.1 k.1, fun j cur e => k.2 j cur (h.2 j cur e)⟩
theorem KeepRows.own {W W' : World} (h : KeepRows W W') {B : Nat} {v : Value} {zs : List Int} (ho : Own64 W B v zs) : Own64 W' B v zs := by
  refine ⟨ho.1, ?_⟩
  rcases ho.2 with h1 | ⟨g, cap, cur, h1, h2, h3, h4⟩
  · exact .inl h1
  · exact .inr ⟨g, cap, cur, h1, h2, h.2 g cur h3, h4⟩

theorem keepRows_turn {W : World} {l : Nat} {r r' : Loop} (h : W.heap[l]? = some (.loop r)) : KeepRows W (W.putObj l (.loop r')) :=
  ⟨(grownBy_putObj' W l _).size, fun j cur hj => ((grownBy_putObj' W l _).block j (Array.getElem?_eq_some_iff.1 hj).1 (fun e => by
    injection e with e
    subst e
    rw [hj] at h
    cases h)).trans hj⟩

/-- the numbers of a row in memory -/
def rowOf (W : World) : Value → List Int
  | .slice (some a) m _ => (List.range m).map fun j => match W.cell? ⟨a.block, j, none⟩ with
    | some v => intOf v
    | none => 0
  | _ => []
theorem rowOf_own {W : World} {B g n c : Nat} {zs : List Int} (h : Own64 W B (.slice (some ⟨g, 0, none⟩) n c) zs) : rowOf W (.slice (some ⟨g, 0, none⟩) n c) = zs := by
  have hn := own64_len h
  subst hn
  apply List.ext_getElem?
  intro j
  simp only [rowOf, List.getElem?_map]
  by_cases hj : j < zs.length
  · have hz : zs[j]? = some zs[j] := List.getElem?_eq_getElem hj
    obtain ⟨h1, _⟩ := own64_cell h rfl hz
    rw [List.getElem?_range hj, hz]
    simp only [Option.map_some, h1, intOf]
  · rw [List.getElem?_eq_none (by simp; omega), List.getElem?_eq_none (by omega)]
    rfl
/-- how many trees are still to come, for the loop's end -/
def leftOf (n : Nat) (W : World) (q : Value) : Nat := match q with
  | .slice (some _) _ _ => M.L n 1 - M.rk 1 (rowOf W q)
  | _ => 0

/-- what is told of an element -/
def RowC (xs : List Int) (B : Nat) (pre : List Value) (x : Value) (W : World) : Prop :=
  ∃ (ys : List Int) (g c' : Nat), M.tafter xs pre.length = some ys ∧ x = .slice (some ⟨g, 0, none⟩) ys.length c' ∧ c' ≤ 9223372036854775807 ∧ Own64 W B x ys ∧ ∀ y ∈ pre, y.ownBlock ≠ some g

theorem RowC.from (xs : List Int) (B D : Nat) : OwnFrom D (fun (s : List Value × Value) W => RowC xs B s.1 s.2 W) := fun _ _ _ _ ⟨ys, g, c', h1, h2, h3, h4, h5⟩ hg hr => ⟨ys, g, c', h1, h2, h3, row_kept h4 hg hr, h5⟩

/-- where the iterator stands: the tree at hand, or nothing -/
def AtTree (xs : List Int) (B : Nat) (pre : List Value) (q : Value) (W : World) : Prop :=
  match M.tafter xs pre.length with
  | some _ => RowC xs B pre q W
  | none => q = .slice none 0 0

theorem at_next {xs ys : List Int} {B : Nat} {pre : List Value} {W W' : World} {e : Ending} (hB : B ≤ W.heap.size) (h : IsNext W W.heap.size ys e W') (ha : M.tafter xs pre.length = M.nextF 1 ys) (hp : ∀ y ∈ pre, ∀ g, y.ownBlock = some g → g < W.heap.size) :
    ∃ q, e = .returned q ∧ AtTree xs B pre q W' ∧ Below W.heap.size W W' := by
  unfold IsNext at h
  cases hn : M.nextF 1 ys with
  | none =>
    rw [hn] at h
    exact ⟨_, h.1, by unfold AtTree; rw [ha, hn], h.2⟩
  | some zs =>
    rw [hn] at h
    obtain ⟨g, c', h1, h2, h3⟩ := h
    refine ⟨_, h1, ?_, h3⟩
    unfold AtTree
    rw [ha, hn]
    have hc : c' ≤ 9223372036854775807 := by
      rcases h2.2 with ⟨h0, _⟩ | ⟨g', cap, cur, hv, _, _, _, h5, _⟩
      · cases h0
      · injection hv with _ _ e3
        subst e3
        unfold maxLen at h5
        omega
    refine ⟨zs, g, c', ha.trans hn, rfl, hc, own_mono h2 hB, fun y hy e' => ?_⟩
    have h6 := hp y hy g e'
    have h7 := (World.ownsRow.lt h2 g rfl).1
    omega

theorem own_cap' {w : World} {B n c : Nat} {A : Option Addr} {zs : List Int} (h : Own64 w B (.slice A n c) zs) : n ≤ c := by
  rcases h.2 with ⟨e, _⟩ | ⟨g, cap, cur, hv, _, _, h4, _⟩
  · injection e with e1 e2 e3; omega
  · injection hv with e1 e2 e3; omega

theorem grown_of_below {W W' : World} (h : Below W.heap.size W W') : W.grownBy W' none := ⟨h.os, h.tape, h.output, h.size, fun k hk _ => h.block k hk⟩

theorem at_left {xs : List Int} {B : Nat} {pre : List Value} {x q : Value} {W W' : World} (ht : M.isTree xs = true) (h : RowC xs B pre x W) (h' : AtTree xs B (pre ++ [x]) q W') : leftOf xs.length W' q < leftOf xs.length W x := by
  obtain ⟨ys, g, c', h1, rfl, _, h4, _⟩ := h
  obtain ⟨k1, k2, k3⟩ := M.tafter_ok ht _ ys h1
  have k4 := M.tafter_lt ht h1
  have e1 : leftOf xs.length W (.slice (some ⟨g, 0, none⟩) ys.length c') = M.L xs.length 1 - M.rk 1 ys := by simp only [leftOf, rowOf_own h4]
  rw [e1]
  unfold AtTree at h'
  rw [List.length_append, List.length_singleton] at h'
  cases hn : M.tafter xs (pre.length + 1) with
  | none =>
    rw [hn] at h'
    simp only at h'
    rw [h']
    show 0 < _
    omega
  | some zs =>
    rw [hn] at h'
    obtain ⟨zs', g', c2, j1, rfl, _, j4, _⟩ := h'
    rw [List.length_append, List.length_singleton] at j1
    obtain ⟨i1, i2, i3⟩ := M.tafter_ok ht _ zs' j1
    have i4 := M.tafter_lt ht j1
    have e2 : leftOf xs.length W' (.slice (some ⟨g', 0, none⟩) zs'.length c2) = M.L xs.length 1 - M.rk 1 zs' := by simp only [leftOf, rowOf_own j4]
    rw [e2]
    omega

end Go.Proofs.Ytmhpobgfgimfcaa

/- treesAvoiding: the iterator over the trees in which a pattern matches nowhere; each comes in a row of its own. -/
namespace Go.Proofs.Ytmhpobgfgimfcaa
open Go.RowKit Go.Shelf Go.Maps
attribute [local go_sem] Oper.semAt_some

/-- how many of the first k trees of n nodes a pattern matches nowhere in -/
def cntA (P : List UInt8) (n k : Nat) : Nat := (((M.suff n 1).take k).filter (av P)).length
theorem cntA_zero (P : List UInt8) (n : Nat) : cntA P n 0 = 0 := by simp [cntA]
theorem cntA_hit {P : List UInt8} {n k : Nat} (hk : k < M.L n 1) (h : av P (M.unrank n 1 k) = true) : cntA P n (k + 1) = cntA P n k + 1 := by
  rw [cntA, cntA, List.take_add_one, M.suff_at hk, List.filter_append, List.length_append]
  show _ + (List.filter (av P) [M.unrank n 1 k]).length = _
  simp [h]
theorem cntA_miss {P : List UInt8} {n k : Nat} (hk : k < M.L n 1) (h : av P (M.unrank n 1 k) = false) : cntA P n (k + 1) = cntA P n k := by
  rw [cntA, cntA, List.take_add_one, M.suff_at hk, List.filter_append, List.length_append]
  show _ + (List.filter (av P) [M.unrank n 1 k]).length = _
  simp [h]
theorem cntA_end {p : ByteArray} {n k : Nat} (hk : M.L n 1 ≤ k) : cntA p.data.toList n k = (avs n p).length := by
  rw [cntA, List.take_of_length_le (by rw [M.suff_len]; exact hk)]; rfl
theorem avs_at {p : ByteArray} {n k : Nat} (hk : k < M.L n 1) (h : av p.data.toList (M.unrank n 1 k) = true) : (avs n p)[cntA p.data.toList n k]? = some (M.unrank n 1 k) := by
  have h1 := List.take_append_drop k (M.suff n 1)
  have h2 : (M.suff n 1).drop k = M.unrank n 1 k :: (M.suff n 1).drop (k + 1) := by
    rw [List.drop_eq_getElem_cons (by rw [M.suff_len]; exact hk)]
    congr 1
    have := M.suff_at hk
    rw [List.getElem?_eq_getElem (by rw [M.suff_len]; exact hk)] at this
    injection this
  rw [avs, ← h1, List.filter_append, h2, List.filter_cons_of_pos h, cntA, List.getElem?_append_right (Nat.le_refl _), Nat.sub_self]
  rfl

/-- what a round of a loop over those trees must keep: the rows of numbers from block B on, and the pattern's box -/
def KeepB (B : Nat) (W W' : World) : Prop := W.heap.size ≤ W'.heap.size ∧ ∀ (j : Nat) (cur : Array Value), B ≤ j → W.heap[j]? = some (.cells cur 2 (0, 0)) → W'.heap[j]? = some (.cells cur 2 (0, 0))
theorem KeepB.t {B : Nat} {X Y Z : World} (h : KeepB B X Y) (k : KeepB B Y Z) : KeepB B X Z := ⟨Nat.le_trans h.1 k.1, fun j cur hj e => k.2 j cur hj (h.2 j cur hj e)⟩
theorem KeepB.own {B : Nat} {W W' : World} (h : KeepB B W W') {v : Value} {zs : List Int} (ho : Own64 W B v zs) : Own64 W' B v zs := by
  refine ⟨ho.1, ?_⟩
  rcases ho.2 with h1 | ⟨g, cap, cur, h1, h2, h3, h4⟩
  · exact .inl h1
  · exact .inr ⟨g, cap, cur, h1, h2, h.2 g cur h2 h3, h4⟩
def KeepA (B Bp : Nat) (p : ByteArray) (W W' : World) : Prop := KeepB B W W' ∧ (Boxed W Bp 9 (.string p) → Boxed W' Bp 9 (.string p))
theorem KeepA.t {B Bp : Nat} {p : ByteArray} {X Y Z : World} (h : KeepA B Bp p X Y) (k : KeepA B Bp p Y Z) : KeepA B Bp p X Z := ⟨h.1.t k.1, fun b => k.2 (h.2 b)⟩
theorem keepA_turn {B Bp : Nat} {p : ByteArray} {W : World} {l : Nat} {r r' : Loop} (h : W.heap[l]? = some (.loop r)) : KeepA B Bp p W (W.putObj l (.loop r')) := ⟨⟨(keepRows_turn h).1, fun j cur _ e => (keepRows_turn h).2 j cur e⟩, fun b => b.kept (grownBy_putObj' W l _) (fun e => by
  injection e with e
  subst e
  unfold Boxed at b
  rw [h] at b
  cases b)⟩
/-- what is told of an element -/
def RowA (n : Nat) (p : ByteArray) (B : Nat) (pre : List Value) (x : Value) (W : World) : Prop :=
  ∃ k g c', k < M.L n 1 ∧ av p.data.toList (M.unrank n 1 k) = true ∧ pre.length = cntA p.data.toList n k ∧ x = .slice (some ⟨g, 0, none⟩) n c' ∧ c' ≤ 9223372036854775807 ∧ Own64 W B x (M.unrank n 1 k) ∧ ∀ y ∈ pre, y.ownBlock ≠ some g
theorem RowA.from (n : Nat) (p : ByteArray) (B D : Nat) : OwnFrom D (fun (s : List Value × Value) W => RowA n p B s.1 s.2 W) := fun _ _ _ _ ⟨k, g, c', h1, h2, h3, h4, h5, h6, h7⟩ hg hr => ⟨k, g, c', h1, h2, h3, h4, h5, row_kept h6 hg hr, h7⟩
/-- where the iterator stands -/
def AtA (n B k : Nat) (pre : List Value) (q : Value) (W : World) : Prop :=
  if k < M.L n 1 then ∃ g c', q = .slice (some ⟨g, 0, none⟩) n c' ∧ c' ≤ 9223372036854775807 ∧ Own64 W B q (M.unrank n 1 k) ∧ ∀ y ∈ pre, y.ownBlock ≠ some g else q = .slice none 0 0
theorem own_max' {w : World} {B n c : Nat} {A : Option Addr} {zs : List Int} (h : Own64 w B (.slice A n c) zs) : c ≤ 9223372036854775807 := by
  rcases h.2 with ⟨e, _⟩ | ⟨g, cap, cur, hv, _, _, _, h5, _⟩
  · injection e with e1 e2 e3; omega
  · injection hv with e1 e2 e3
    subst e3
    unfold maxLen at h5
    omega
theorem at_A {n B k : Nat} {pre : List Value} {W W' : World} {e : Ending} (hn1 : 1 ≤ n) (hn : n ≤ 24) (hk : k < M.L n 1) (hB : B ≤ W.heap.size) (h : IsNext W W.heap.size (M.unrank n 1 k) e W') (hp : ∀ y ∈ pre, ∀ g, y.ownBlock = some g → g < W.heap.size) :
    ∃ q, e = .returned q ∧ AtA n B (k + 1) pre q W' ∧ Below W.heap.size W W' := by
  unfold IsNext at h
  rw [M.unrank_next hn1 hn hk] at h
  unfold AtA
  by_cases h1 : k + 1 < M.L n 1
  · rw [if_pos h1] at h
    obtain ⟨g, c', rfl, ho, hb⟩ := h
    rw [M.unrank_len] at ho
    refine ⟨_, by rw [M.unrank_len], ?_, hb⟩
    rw [if_pos h1]
    exact ⟨g, c', rfl, own_max' ho, own_mono ho hB, fun y hy e => by
      have h6 := hp y hy g e
      have h7 := (World.ownsRow.lt ho g rfl).1
      omega⟩
  · rw [if_neg h1] at h
    refine ⟨_, h.1, ?_, h.2⟩
    rw [if_neg h1]
theorem left_at {n B k : Nat} {pre : List Value} {q : Value} {W : World} (hn1 : 1 ≤ n) (hn : n ≤ 24) (hk : k < M.L n 1) (h : AtA n B k pre q W) : leftOf n W q = M.L n 1 - k := by
  unfold AtA at h
  rw [if_pos hk] at h
  obtain ⟨g, c', rfl, _, ho, _⟩ := h
  simp only [leftOf, rowOf_own ho, (M.unrank_tree hn1 hn k hk).2]
theorem left_A {n B k : Nat} {pre pre' : List Value} {q q' : Value} {W W' : World} (hn1 : 1 ≤ n) (hn : n ≤ 24) (hk : k < M.L n 1) (h : AtA n B k pre q W) (h' : AtA n B (k + 1) pre' q' W') : leftOf n W' q' < leftOf n W q := by
  rw [left_at hn1 hn hk h]
  by_cases h1 : k + 1 < M.L n 1
  · rw [left_at hn1 hn h1 h']; omega
  · unfold AtA at h'
    rw [if_neg h1] at h'
    subst h'
    show 0 < _
    omega
theorem firstIn (n B : Nat) (W : World) (hn1 : 1 ≤ n) (hn : n ≤ 24) (hB : B ≤ W.heap.size) :
    Calls Try.prog 119 #[.slice none 0 0, .int .i64 (n : Int), .int .i64 1] W fun e W' => ∃ q, e = .returned q ∧ AtA n B 0 [] q W' ∧ Below W.heap.size W W' := by
  refine (appendFirst none 0 0 [] n 1 W W.heap.size hn1 hn (by omega) (by omega) (by omega) (Lib.hid (own64_nil _ _)) (Nat.le_refl _)).mono ?_
  rintro e w' ⟨A', c', rfl, ho, hb⟩
  rw [Nat.zero_add, List.nil_append, ← M.start_unrank hn1] at *
  have hs : ∃ g, A' = some ⟨g, 0, none⟩ := own_some ho (by omega)
  obtain ⟨g, rfl⟩ := hs
  refine ⟨_, rfl, ?_, hb⟩
  unfold AtA
  rw [if_pos (by have := M.L_pos hn1; omega)]
  exact ⟨g, c', rfl, own_max' ho, own_mono ho hB, fun y hy => by cases hy⟩

set_option maxRecDepth 100000 in
set_option maxHeartbeats 4000000 in
theorem avoid1 (nn : Nat) (hnn : 1 ≤ nn) (l Bn Bp B n : Nat) (p : ByteArray) (hn1 : 1 ≤ n) (hn8 : n ≤ 8) (hp : p.size ≤ 60) (J Jx : List Value → World → Prop)
    (hJ : Hid (∀ s X Y, J s X → X.grownBy Y none → J s Y))
    (hY : Hid (∀ pre x W, J pre W → RowA n p B pre x W → YieldAt Fence.wide (nn - 1) Try.prog l #[x] W fun e W' =>
      (e = .returned (.bool true) ∧ J (pre ++ [x]) W' ∧ KeepA B Bp p W W') ∨ (e = .returned (.bool false) ∧ Jx (pre ++ [x]) W')))
    (W : World) (hBn : W.cell? ⟨Bn, 0, none⟩ = some (.int .i64 (n : Int))) (hBp : Hid (Boxed W Bp 9 (.string p))) (hB : B ≤ W.heap.size) (h0 : Hid (J [] W)) :
    CallsIn Fence.wide nn Try.prog 118 #[.func (.yield l) #[] #[], .pointer (some ⟨Bn, 0, none⟩), .pointer (some ⟨Bp, 0, none⟩)] W fun e W' => (∃ u, e = .returned u) ∧
      ((∃ ys, ys.length = (avs n p).length ∧ J ys W') ∨ (∃ pre, True ∧ Jx pre W')) := by
  have HN := Lib.hid (firstIn n B W hn1 (by omega) hB)
  have heq := fun W A m c => run_neq_slice_nil (P := Try.prog) W 23 2 A m c Try.underlying23
  refine callsIn_of_wp Try.func118 rfl trivial ?_ rfl
  simp only [Try.ntmps118, List.size_toArray, List.length_cons, List.length_nil, Nat.reduceAdd, Nat.reduceSub, Array.replicate_succ, Array.replicate_zero, List.push_toArray, List.append_toArray, List.nil_append, List.cons_append]
  gi_wp2_with (refine ⟨trivial, ?_⟩; gi_at_call 119; refine (callsIn_wide.2 HN.out).mono ?_; rintro e W1 ⟨q1, rfl, hq1, hb1⟩)
  have hst : Hid (J [] W1) := hJ.out _ _ _ h0.out (grown_of_below hb1)
  have hbp1 : Hid (Boxed W1 Bp 9 (.string p)) := (hb1.block _ hBp.out.lt).trans hBp.out
  have hz1 := hb1.size
  have Hq1 := Lib.hid hq1
  clear hq1 hb1 h0 HN hBn
  gi_loopw [4] (fun q wr => ∃ (k : Nat) (pre : List Value), k ≤ M.L n 1 ∧ Hid (pre.length = cntA p.data.toList n k) ∧ Hid (J pre wr) ∧ Hid (AtA n B k pre q wr) ∧ Hid (∀ y ∈ pre, ∀ g, y.ownBlock = some g → g < wr.heap.size) ∧ Hid (B ≤ wr.heap.size) ∧ Hid (Boxed wr Bp 9 (.string p)))
    (fun q wr => leftOf n wr q)
  case atStart => exact ⟨0, [], Nat.zero_le _, by rw [cntA_zero]; rfl, hst, Hq1, Lib.hid (fun y hy => by cases hy), Lib.hid (Nat.le_trans hB hz1), hbp1⟩
  case round =>
    obtain ⟨k, pre, hk, hpl, hJp, hat, hbl, hBw, hbx⟩ := hrel
    clear hst Hq1 hbp1 hz1 hBp
    by_cases hkL : k < M.L n 1
    · have hq := hat.out
      unfold AtA at hq
      rw [if_pos hkL] at hq
      obtain ⟨g, c', rfl, hc', ho, hfr⟩ := hq
      have htr := M.unrank_tree hn1 (by omega) k hkL
      have hul := M.unrank_len n 1 k
      have hcap : n ≤ c' := own_cap' ho
      have Ho := Lib.hid ho
      have hcp := hbx.out.cell
      have HM : Hid (Calls Try.prog 67 #[.slice (some ⟨g, 0, none⟩) n c', .string p] wr fun e w' => ∃ A2 m2 c2, e = .returned (.slice A2 m2 c2) ∧ ((m2 : Int) == 0) = av p.data.toList (M.unrank n 1 k) ∧ Hid (Below wr.heap.size wr w')) := by
        have := matchedIn (some ⟨g, 0, none⟩) (M.unrank n 1 k) c' p wr (Lib.hid htr.1) (by rw [hul]; exact hcap) hc' hp (Lib.hid (ints_of_own64 ho))
        rw [hul] at this
        refine this.mono ?_
        rintro e w' ⟨A2, c2, h1, _, h2⟩
        refine ⟨A2, _, c2, h1, ?_, h2⟩
        rw [av, hul]
        generalize (hits p.data.toList (M.unrank n 1 k) n).length = m
        cases m <;> simp <;> omega
      cases hav : av p.data.toList (M.unrank n 1 k)
      · rw [hav] at HM
        have hpl2 : Hid (pre.length = cntA p.data.toList n (k + 1)) := by show _ = _; rw [cntA_miss hkL hav]; exact hpl.out
        clear hav ho hfr
        gi_wp2_with (refine ⟨trivial, ?_⟩; gi_at_call 67; refine (callsIn_wide.2 HM.out).mono ?_; rintro e w2 ⟨A2, m2, c2, rfl, hm2, hb2⟩)
        have hJ2 : Hid (J pre w2) := hJ.out _ _ _ hJp.out (grown_of_below hb2.out)
        have ho2 := Lib.hid (own_be Ho.out hb2.out)
        have hB2 : B ≤ w2.heap.size := Nat.le_trans hBw.out hb2.out.size
        have hbl2 : Hid (∀ y ∈ pre, ∀ g, y.ownBlock = some g → g < w2.heap.size) := fun y hy g e => Nat.lt_of_lt_of_le (hbl.out y hy g e) hb2.out.size
        have hbx2 : Hid (Boxed w2 Bp 9 (.string p)) := (hb2.out.block _ hbx.out.lt).trans hbx.out
        have hN3 : Hid (Calls Try.prog 120 #[.slice (some ⟨g, 0, none⟩) n c'] w2 fun e w' => IsNext w2 w2.heap.size (M.unrank n 1 k) e w') := by
          have := nextDegrees (some ⟨g, 0, none⟩) (M.unrank n 1 k) c' w2 (Lib.hid htr.1) (by rw [hul]; exact hcap) hc' (ints_of_own64 ho2.out)
          rwa [hul] at this
        clear hb2 hcp hJp hbx HM
        refine ⟨fun f h => (by cases h), ?_⟩
        gi_wp2_with (refine ⟨trivial, ?_⟩; gi_at_call 120; refine (callsIn_wide.2 hN3.out).mono ?_; intro e W4 hn4; obtain ⟨q4, rfl, hq4, hb4⟩ := at_A hn1 (by omega) hkL hB2 hn4 hbl2.out)
        have HJ4 := Lib.hid (hJ.out _ _ _ hJ2.out (grown_of_below hb4))
        have Hq4 := Lib.hid hq4
        have Hb4 := Lib.hid hb4
        have hbx4 : Hid (Boxed W4 Bp 9 (.string p)) := (hb4.block _ hbx2.out.lt).trans hbx2.out
        clear hq4 hb4 hn4 hN3
        go_roundw
        case rel => exact ⟨k + 1, pre, hkL, hpl2, HJ4, Hq4, fun y hy g' e' => Nat.lt_of_lt_of_le (hbl2.out y hy g' e') Hb4.out.size, Nat.le_trans hB2 Hb4.out.size, hbx4⟩
        case measure => exact left_A hn1 (by omega) hkL hat.out Hq4.out
      · rw [hav] at HM
        have Hav := Lib.hid hav
        have Hfr := Lib.hid hfr
        clear hav ho hfr
        gi_wp2_with (refine ⟨trivial, ?_⟩; gi_at_call 67; refine (callsIn_wide.2 HM.out).mono ?_; rintro e w2 ⟨A2, m2, c2, rfl, hm2, hb2⟩; have hJ2 := hJ.out _ _ _ hJp.out (grown_of_below hb2.out); have hRow2 : RowA n p B pre (.slice (some ⟨g, 0, none⟩) n c') w2 := ⟨k, g, c', hkL, Hav.out, hpl.out, rfl, hc', own_be Ho.out hb2.out, Hfr.out⟩; obtain ⟨fn, tmps, assign, body, hy, hR⟩ := hY.out pre _ w2 hJ2 hRow2; clear hJ2)
        refine hR.mono ?_
        rintro e W3 (⟨rfl, hJ3, hk3⟩ | ⟨rfl, hJx3⟩)
        · have ho3 : Hid (Own64 W3 B (.slice (some ⟨g, 0, none⟩) n c') (M.unrank n 1 k)) := hk3.1.own (own_be Ho.out hb2.out)
          have HJ3 := Lib.hid hJ3
          have hg2 := (World.ownsRow.lt Ho.out g rfl).2
          have hz3 : w2.heap.size ≤ W3.heap.size := hk3.1.1
          have hz2 := hb2.out.size
          have hbx3 : Hid (Boxed W3 Bp 9 (.string p)) := hk3.2 ((hb2.out.block _ hbx.out.lt).trans hbx.out)
          have hN3 : Hid (Calls Try.prog 120 #[.slice (some ⟨g, 0, none⟩) n c'] W3 fun e w' => IsNext W3 W3.heap.size (M.unrank n 1 k) e w') := by
            have := nextDegrees (some ⟨g, 0, none⟩) (M.unrank n 1 k) c' W3 (Lib.hid htr.1) (by rw [hul]; exact hcap) hc' (ints_of_own64 ho3.out)
            rwa [hul] at this
          have hbl3 : Hid (∀ y ∈ pre ++ [Value.slice (some ⟨g, 0, none⟩) n c'], ∀ g', y.ownBlock = some g' → g' < W3.heap.size) := fun y hy g' e' => by
            rcases List.mem_append.1 hy with h | h
            · have := hbl.out y h g' e'; omega
            · rw [List.mem_singleton.1 h] at e'
              have : g = g' := by injection e'
              omega
          have hB3 : B ≤ W3.heap.size := by have := hBw.out; omega
          have hpl3 : Hid ((pre ++ [Value.slice (some ⟨g, 0, none⟩) n c']).length = cntA p.data.toList n (k + 1)) := by show _ = _; rw [cntA_hit hkL Hav.out, List.length_append, hpl.out]; rfl
          clear hJ3 hk3 hy ho3 hRow2 hm2 hcp hbx
          gi_wp2_with (refine ⟨trivial, ?_⟩; gi_at_call 120; refine (callsIn_wide.2 hN3.out).mono ?_; intro e W4 hn4; obtain ⟨q4, rfl, hq4, hb4⟩ := at_A hn1 (by omega) hkL hB3 hn4 hbl3.out)
          have HJ4 := Lib.hid (hJ.out _ _ _ HJ3.out (grown_of_below hb4))
          have Hq4 := Lib.hid hq4
          have Hb4 := Lib.hid hb4
          have hbx4 : Hid (Boxed W4 Bp 9 (.string p)) := (hb4.block _ hbx3.out.lt).trans hbx3.out
          clear hq4 hb4 hn4 hN3
          go_roundw
          case rel => exact ⟨k + 1, _, hkL, hpl3, HJ4, Hq4, fun y hy g' e' => Nat.lt_of_lt_of_le (hbl3.out y hy g' e') Hb4.out.size, Nat.le_trans hB3 Hb4.out.size, hbx4⟩
          case measure => exact left_A hn1 (by omega) hkL hat.out Hq4.out
        · gi_wp2
          refine bodyPost_ret (results_none rfl _ _ _) rfl ?_
          exact ⟨⟨_, rfl⟩, .inr ⟨_, trivial, hJx3⟩⟩
    · have hq := hat.out
      unfold AtA at hq
      rw [if_neg hkL] at hq
      subst hq
      have hend : Hid (pre.length = (avs n p).length) := by show _ = _; rw [hpl.out, cntA_end (by omega)]
      clear hat
      gi_wp2
      go_end0
      exact ⟨⟨_, rfl⟩, .inl ⟨pre, hend.out, hJp.out⟩⟩

set_option maxHeartbeats 1000000 in
/-- treesAvoiding: the arguments are boxed; the function value captures the boxes -/
theorem avoidIn (nn n : Nat) (p : ByteArray) (w : World) :
    CallsIn Fence.wide nn Try.prog 87 #[.int .i64 (n : Int), .string p] w fun e w' => e = .returned (.func (.func 118) #[] #[.pointer (some ⟨w.heap.size, 0, none⟩), .pointer (some ⟨w.heap.size + 1, 0, none⟩)]) ∧
      w' = (w.alloc (.cells #[.int .i64 (n : Int)] 2)).alloc (.cells #[.string p] 9) := by
  refine callsIn_of_wp Try.func87 rfl trivial ?_ rfl
  simp only [Try.ntmps87, List.size_toArray, List.length_cons, List.length_nil, Nat.reduceAdd, Nat.reduceSub, Array.replicate_succ, Array.replicate_zero, List.push_toArray, List.append_toArray, List.nil_append, List.cons_append]
  gi_wp2
  go_ret
  exact ⟨rfl, rfl⟩

/-- what a range over those trees gives -/
theorem avoid_rows (nn : Nat) (hnn : 1 ≤ nn) (Bn Bp B n : Nat) (p : ByteArray) (hn1 : 1 ≤ n) (hn8 : n ≤ 8) (hp : p.size ≤ 60) (w : World)
    (hBn : Boxed w Bn 2 (.int .i64 (n : Int))) (hBp : Boxed w Bp 9 (.string p)) (hB : B ≤ w.heap.size) :
    SeqRows Fence.wide nn Try.prog 118 #[.pointer (some ⟨Bn, 0, none⟩), .pointer (some ⟨Bp, 0, none⟩)] (fun x => #[x]) (RowA n p B) (KeepA B Bp p) (fun ys => ys.length = (avs n p).length) (fun _ => True) w := fun l J Jx W hW hJ _ hY h0 =>
  avoid1 nn hnn l Bn Bp B n p hn1 hn8 hp J Jx hJ hY W (show Boxed W Bn _ _ from (hW.block Bn hBn.lt).trans hBn).cell (Lib.hid ((hW.block Bp hBp.lt).trans hBp)) (Nat.le_trans hB hW.size) h0
end Go.Proofs.Ytmhpobgfgimfcaa

/- FirstAvoiding, the program's: the first tree in which a pattern matches nowhere. -/
namespace Go.Proofs.Ytmhpobgfgimfcaa
open Go.RowKit Go.Shelf Go.Maps
attribute [local go_sem] Oper.semAt_some

set_option maxRecDepth 100000 in
set_option maxHeartbeats 8000000 in
theorem impl_FirstAvoiding_in (n : Nat) (p : ByteArray) (w : World) (hn1 : 1 ≤ n) (hn8 : n ≤ 8) (hp : p.size ≤ 60) (hC : Hid (codeA (n : Int) (M.isPat p.data.toList) = 0)) :
    CallsIn Fence.wide 5 Try.prog 46 #[.int .i64 (n : Int), .string p] w fun e w' => ∃ A' c', e = .returned (.tuple #[.agg #[.slice A' (firstOf (avs n p)).1.length c'], .int .i64 (firstOf (avs n p)).2]) ∧ Own64 w' w.heap.size (.slice A' (firstOf (avs n p)).1.length c') (firstOf (avs n p)).1 ∧ Below w.heap.size w w' := by
  have bR0 := Boxed.new w 29 (.slice none 0 0)
  have bK0 := Boxed.new (w.alloc (.cells #[.slice none 0 0] 29)) 2 (.int .i64 0)
  simp only [World.size_alloc] at bK0
  have bR := bR0.alloc (.cells #[.int .i64 0] 2)
  have hB0 := bal (bal (b0 w) (.cells #[.slice none 0 0] 29)) (.cells #[.int .i64 0] 2)
  have hc := codeOfAvoiding (n : Int) p ((w.alloc (.cells #[.slice none 0 0] 29)).alloc (.cells #[.int .i64 0] 2)) (by omega)
  rw [hC.out] at hc
  have HC := Lib.hid hc
  have HR := Lib.hid bR
  have HK := Lib.hid bK0
  have HB0 := Lib.hid hB0
  clear bR0 bR bK0 hB0 hc hC
  refine callsIn_of_wp_marks Try.func46 rfl trivial ?_ rfl
  simp only [Try.ntmps46, List.size_toArray, List.length_cons, List.length_nil, Nat.reduceAdd, Nat.reduceSub, Array.replicate_succ, Array.replicate_zero, List.push_toArray, List.append_toArray, List.nil_append, List.cons_append]
  gi_wp2_with (first | (refine ⟨trivial, ?_⟩; gi_at_call 86; refine (callsIn_wide.2 HC.out).mono ?_; rintro e w1 ⟨rfl, hb1⟩) | (refine ⟨trivial, ?_⟩; gi_at_call 87; refine (avoidIn _ n p _).mono ?_; rintro e w' ⟨rfl, rfl⟩))
  have hw1 : w.heap.size + 1 + 1 ≤ w1.heap.size := by have := hb1.out.size; simpa using this
  have bR1 : Boxed w1 w.heap.size 29 (.slice none 0 0) := (hb1.out.block _ HR.out.lt).trans HR.out
  have bK1 : Boxed w1 (w.heap.size + 1) 2 (.int .i64 0) := (hb1.out.block _ HK.out.lt).trans HK.out
  have hB1 : Below w.heap.size w w1 := btr HB0.out hb1.out
  have bN0 := Boxed.new w1 2 (.int .i64 (n : Int))
  have bP := Boxed.new (w1.alloc (.cells #[.int .i64 (n : Int)] 2)) 9 (.string p)
  have bN := bN0.alloc (.cells #[.string p] 9)
  have bR2 := (bR1.alloc (.cells #[.int .i64 (n : Int)] 2)).alloc (.cells #[.string p] 9)
  have bK2 := (bK1.alloc (.cells #[.int .i64 (n : Int)] 2)).alloc (.cells #[.string p] 9)
  have hB2 := bal (bal hB1 (.cells #[.int .i64 (n : Int)] 2)) (.cells #[.string p] 9)
  simp only [World.size_alloc] at bP
  obtain ⟨W0, hW0⟩ : ∃ W0, W0 = (w1.alloc (.cells #[.int .i64 (n : Int)] 2)).alloc (.cells #[.string p] 9) := ⟨_, rfl⟩
  obtain ⟨d, hdd⟩ : ∃ d, w1.heap.size = d := ⟨_, rfl⟩
  have hsz : W0.heap.size = d + 1 + 1 := by rw [hW0, ← hdd]; simp
  rw [← hW0] at bN bP bR2 bK2 hB2 ⊢
  rw [hdd] at bN bP hw1 ⊢
  clear hW0 bR1 bK1 hB1 HC HR HK HB0 bN0 hb1
  have h15 : 1 ≤ 5 := by omega
  refine wpIn_rangeRows (α := Value) rfl h15 (gf := 118) (lb := #[.pointer (some ⟨d, 0, none⟩), .pointer (some ⟨d + 1, 0, none⟩)]) rfl trivial (enters_of Try.func118 (by kernel_rfl) rfl)
    (avoid_rows 4 (by omega) d (d + 1) (d + 1 + 1) n p hn1 hn8 hp W0 bN bP (by omega)) (Below.refl _ _) (fun h k => h.t k)
    (fun W r r' h => keepA_turn h) (fun _ => rfl)
    (fun pre W => pre = [] ∧ Boxed W w.heap.size 29 (.slice none 0 0) ∧ Boxed W (w.heap.size + 1) 2 (.int .i64 0) ∧ Below w.heap.size w W)
    (fun cc _ W => cc = .ret ∧ ∃ ys g c', firstOf (avs n p) = (ys, 0) ∧ ys.length = n ∧ Boxed W w.heap.size 29 (.slice (some ⟨g, 0, none⟩) n c') ∧ Boxed W (w.heap.size + 1) 2 (.int .i64 0) ∧ Own64 W (d + 1 + 1) (.slice (some ⟨g, 0, none⟩) n c') ys ∧ Below w.heap.size w W)
    (fun pre X Y r' ⟨h0, h1, h2, h3⟩ hg hr => ⟨h0, h1.kept hg (fun e => by have := (hr _ e.symm).1; omega), h2.kept hg (fun e => by have := (hr _ e.symm).1; omega), h3.grown hg h3.size (fun k e => by have := (hr _ e).1; omega)⟩)
    (fun cc pre X Y r' ⟨h0, ys, g, c', h1, hl, h2, h3, h4, h5⟩ hg hr => ⟨h0, ys, g, c', h1, hl, h2.kept hg (fun e => by have := (hr _ e.symm).1; omega), h3.kept hg (fun e => by have := (hr _ e.symm).1; omega), row_kept h4 hg hr, h5.grown hg h5.size (fun k e => by have := (hr _ e).1; omega)⟩)
    (RowA.from _ _ _ _)
    ⟨rfl, bR2, bK2, hB2⟩
    (fun x => { tmps := #[.int .i64 (n : Int), .string p, undef, undef, .pointer (some ⟨w.heap.size, 0, none⟩), .pointer (some ⟨w.heap.size + 1, 0, none⟩), .int .i64 0, x, .int .i64 (n : Int), .string p, .int .i64 0, .int .i64 0, .bool false, undef, undef, .int .i64 (n : Int), .string p, .func (.func 118) #[] #[.pointer (some ⟨d, 0, none⟩), .pointer (some ⟨d + 1, 0, none⟩)], x, undef, undef, undef], defers := [] }) ?assign ?body ?done ?stop
  case assign =>
    intro l x W K hK
    gi_wp2
    exact hK
  case body =>
    rintro l pre x W ⟨rfl, h1, h2, h3⟩ ⟨k, g, c', hk, hav, hpl, rfl, _, ho, _⟩
    have hfirst : firstOf (avs n p) = (M.unrank n 1 k, 0) := by
      have := avs_at hk hav
      rw [← hpl] at this
      cases hV : avs n p with
      | nil => rw [hV] at this; cases this
      | cons y V => rw [hV] at this; injection this with this; rw [this]; rfl
    have hul := M.unrank_len n 1 k
    generalize M.unrank n 1 k = ys at *
    have Hf := Lib.hid hfirst
    have c1 := h1.cell
    have f1 := h1.frozen
    have k2 : Boxed (W.setCell ⟨w.heap.size, 0, none⟩ (.slice (some ⟨g, 0, none⟩) n c')) (w.heap.size + 1) 2 (.int .i64 0) := h2.other (by omega) _
    have c2 := k2.cell
    have f2 := k2.frozen
    clear hfirst hk hav hpl
    gi_wp2
    have k1 : Boxed ((W.setCell ⟨w.heap.size, 0, none⟩ (.slice (some ⟨g, 0, none⟩) n c')).setCell ⟨w.heap.size + 1, 0, none⟩ (.int .i64 0)) w.heap.size 29 (.slice (some ⟨g, 0, none⟩) n c') := (h1.set _).other (by omega) _
    exact ⟨((KeepsOthers.setCell W _ _).trans (KeepsOthers.setCell _ _ _)).from _, rfl, ys, g, c', Hf.out, hul, k1, k2.set _, own_far (own_far ho (by omega) _) (by omega) _, below_setCell (below_setCell h3 (by omega) _) (by omega) _⟩
  case done =>
    rintro D ys W hD hys ⟨rfl, h1, h2, h3⟩ hK
    have hf : firstOf (avs n p) = ([], 4) := by
      have : (avs n p).length = 0 := hys.symm
      rw [List.eq_nil_of_length_eq_zero this]; rfl
    have c1 := h1.cell
    have f1 := h1.frozen
    have k2 : Boxed (W.setCell ⟨w.heap.size, 0, none⟩ (.slice none 0 0)) (w.heap.size + 1) 2 (.int .i64 0) := h2.other (by omega) _
    have c2 := k2.cell
    have f2 := k2.frozen
    have HK := Lib.hid hK
    have Hf := Lib.hid hf
    clear hys hK hf
    gi_wp2
    have k1 : Boxed ((W.setCell ⟨w.heap.size, 0, none⟩ (.slice none 0 0)).setCell ⟨w.heap.size + 1, 0, none⟩ (.int .i64 4)) w.heap.size 29 (.slice none 0 0) := (h1.set _).other (by omega) _
    have k3 := k2.set (.int .i64 4)
    have hKD : ((W.setCell ⟨w.heap.size, 0, none⟩ (.slice none 0 0)).setCell ⟨w.heap.size + 1, 0, none⟩ (.int .i64 4)).heap[D]? = some (.deferred (some [])) :=
      (Below.heap_setCell _ ⟨w.heap.size + 1, 0, none⟩ _ D (show D ≠ w.heap.size + 1 by omega)).trans ((Below.heap_setCell W ⟨w.heap.size, 0, none⟩ _ D (show D ≠ w.heap.size by omega)).trans HK.out)
    have e1 := (k1.kept (grownBy_putObj' _ D (.deferred none)) (fun e => by injection e with e; omega)).cell
    have e2 := (k3.kept (grownBy_putObj' _ D (.deferred none)) (fun e => by injection e with e; omega)).cell
    refine ⟨by simp, .inl ⟨_, _, rfl, run_takeDeferred hKD, ?_⟩⟩
    refine ⟨.tuple #[.agg #[.slice none 0 0], .int .i64 4], by simp [results, Try.results46, go_sem, e1, e2], ?_⟩
    rw [Hf.out]
    exact ⟨none, 0, rfl, own64_nil _ _, (below_setCell (below_setCell h3 (by omega) _) (by omega) _).trans (belowK_b (w := w) (Nat.le_refl _) _ D _ _ (by omega) hKD rfl rfl)⟩
  case stop =>
    rintro D cc pre W hD _ ⟨rfl, ys, g, c', h1, hl, h2, h3, h4, h5⟩ hK
    have e1 := (h2.kept (grownBy_putObj' W D (.deferred none)) (fun e => by injection e with e; omega)).cell
    have e2 := (h3.kept (grownBy_putObj' W D (.deferred none)) (fun e => by injection e with e; omega)).cell
    have Hl := Lib.hid hl
    clear hl
    gi_wp2
    refine ⟨by simp, .inl ⟨_, _, rfl, run_takeDeferred hK, ?_⟩⟩
    refine ⟨.tuple #[.agg #[.slice (some ⟨g, 0, none⟩) n c'], .int .i64 0], by simp [results, Try.results46, go_sem, e1, e2], ?_⟩
    rw [h1]
    show ∃ A' c2, _ ∧ Own64 _ _ (.slice A' ys.length c2) ys ∧ _
    rw [Hl.out]
    exact ⟨some ⟨g, 0, none⟩, c', rfl, own_mono (ownsRow_putObj h4 _ hK rfl) (by omega), h5.trans (belowK_b (w := w) (Nat.le_refl _) W D _ _ (by omega) hK rfl rfl)⟩

set_option maxRecDepth 100000 in
set_option maxHeartbeats 2000000 in
theorem impl_FirstAvoiding : GivesNST 46 F_FirstAvoiding := by
  intro n p w hp
  by_cases h0 : codeA n (M.isPat p.data.toList) = 0
  · rw [F_FirstA_yes h0]
    obtain ⟨hpt, h1, h8⟩ := codeA_zero h0
    obtain ⟨m, rfl⟩ := Int.eq_ofNat_of_zero_le (show 0 ≤ n by omega)
    simp only [Int.toNat_natCast]
    exact (callsIn_wide (n := 5)).1 (impl_FirstAvoiding_in m p w (by omega) (by omega) (pat_60 hpt) h0)
  · rw [F_FirstA_no h0]
    have hc := codeOfAvoiding n p ((w.alloc (.cells #[.slice none 0 0] 29)).alloc (.cells #[.int .i64 0] 2)) hp
    generalize codeA n (M.isPat p.data.toList) = r at *
    have hq : (r != 0) = true := by simp [h0]
    have hB0 := Lib.hid (bal (bal (b0 w) (.cells #[.slice none 0 0] 29)) (.cells #[.int .i64 0] 2))
    have bR0 := Boxed.new w 29 (.slice none 0 0)
    have bK0 := Boxed.new (w.alloc (.cells #[.slice none 0 0] 29)) 2 (.int .i64 0)
    simp only [World.size_alloc] at bK0
    have HR := Lib.hid (bR0.alloc (.cells #[.int .i64 0] 2))
    have HK := Lib.hid bK0
    have HC := Lib.hid hc
    clear bR0 bK0 hc h0
    go_enter Try.func46, Try.ntmps46
    go_wp2_with fail
    refine HC.out.mono ?_
    rintro e w1 ⟨rfl, hb⟩
    have bR1 : Boxed w1 w.heap.size 29 (.slice none 0 0) := (hb.out.block _ HR.out.lt).trans HR.out
    have bK1 : Boxed w1 (w.heap.size + 1) 2 (.int .i64 0) := (hb.out.block _ HK.out.lt).trans HK.out
    have B1 := Lib.hid (btr hB0.out hb.out)
    have c1 := bR1.cell
    have f1 := bR1.frozen
    have bK2 : Boxed (w1.setCell ⟨w.heap.size, 0, none⟩ (.slice none 0 0)) (w.heap.size + 1) 2 (.int .i64 0) := bK1.other (by omega) _
    have c2 := bK2.cell
    have f2 := bK2.frozen
    clear hb HC
    go_wp2
    have e1 := ((bR1.set (.slice none 0 0)).other (show w.heap.size ≠ w.heap.size + 1 by omega) (.int .i64 r)).cell
    have e2 := (bK2.set (.int .i64 r)).cell
    refine bodyPost_ret (v := .tuple #[.agg #[.slice none 0 0], .int .i64 r]) (by simp [results, Try.results46, go_sem, e1, e2]) rfl ?_
    exact ⟨none, 0, rfl, own64_nil _ _, below_setCell (below_setCell B1.out (by omega) _) (by omega) _⟩
end Go.Proofs.Ytmhpobgfgimfcaa

/- An argument of type laws.Tree opened: its value, its numbers in memory. -/
namespace Go.Proofs.Ytmhpobgfgimfcaa
open Go.RowKit Go.Joins Go.ChangeShapes Go.WideShapes Go.ChangeAt Go.Deep

theorem own : ownKnob Try.prog.godebug = none := by kernel_rfl
theorem laidOut : laidOutB Try.prog = true := by kernel_rfl
theorem cells64 : Try.prog.cellsOf 2 = 1 := by kernel_rfl
theorem cellsTree : Try.prog.cellsOf 25 = 1 := by kernel_rfl

section
variable {H : Type} {enc : TypeId × Value → H} {P : Program} {w : World} {base : Nat} {spare : Nat → Bool} {held : Bool}
theorem open_agg1 {r : Reach} {b0 : Nat} {t : TypeId} {f0 : Field} {v : Value} {d : DataW H} {p : List MemPlace} (hs : P.underlying t = some (.struct #[f0])) (hone : oneCellFields P #[f0] = true) (hC : P.cellsOf t = 1)
    (hv : Value.okWide P w r b0 t v) (h : DataW.Trod enc P w base spare held t v d p) :
    ∃ (v0 : Value) (y0 : DataW H × List MemPlace) (n : Nat), v = .agg #[v0] ∧ d = .agg [y0.1] ∧ p = y0.2 ∧ DataW.trod enc P w base spare held n f0.type [v0] = some y0 := by
  obtain ⟨cs, rfl, hsz⟩ := okWide_struct hs hv
  obtain ⟨l⟩ := cs
  match l, hsz.trans hC with
  | [c0], _ =>
    obtain ⟨fuel, hf⟩ := h
    obtain ⟨xs, n, _, hx, _, hlen, hg⟩ := DataW.trod_struct hs hf
    obtain ⟨o0, k0⟩ := hone_of hone 0 f0 rfl
    match xs, hlen with
    | [y0], _ =>
      simp only [Prod.mk.injEq] at hx
      exact ⟨c0, y0, n, rfl, by simpa using hx.1, by simpa using hx.2, by simpa [Value.cells, o0, k0] using hg 0 f0 rfl⟩
end

/-- a slice of int64 as read, in this seat's words -/
theorem openInts {H : Type} {enc : TypeId × Value → H} {W : World} {fuel : Nat} {v : Value} {y : DataW H × List MemPlace}
    (h : DataW.trod enc Try.prog W 0 (fun _ => true) true fuel 23 [v] = some y) (hlt : ∀ x ∈ y.2, x.block < W.heap.size) :
    ∃ (A : Option Addr) (c : Nat) (xs : List Int), v = .slice A xs.length c ∧ xs.length ≤ 9223372036854775807 ∧ Ints W W.heap.size A xs ∧ ∀ x ∈ xs, -9223372036854775808 ≤ x ∧ x ≤ 9223372036854775807 := by
  rcases open_ints Try.underlying23 Try.underlying2 cells64 h with ⟨hcs, hx⟩ | ⟨a, len', cap', zs, hcs, _, hl, hm, hz, hx, hcell, hwz⟩
  · obtain rfl : v = .slice none 0 0 := by simpa using hcs
    exact ⟨none, 0, [], rfl, by simp, Ints.nil_ _ _ _, by simp⟩
  · obtain rfl : v = .slice (some a) len' cap' := by simpa using hcs
    simp only [if_true] at hz
    have hlz : len' ≤ zs.length := by omega
    have htl : (zs.take len').length = len' := by simp; omega
    subst hx
    refine ⟨some a, cap', zs.take len', by rw [htl], by rw [htl]; simp only [maxLen] at hm; omega, fun hpos => ?_, fun x hxm => ?_⟩
    · rw [htl] at hpos
      obtain ⟨b, off, spot⟩ := a
      have hspot : spot = none := by simpa [Addr.add] using World.cell?_spot (hcell 0 (by omega))
      subst hspot
      refine ⟨b, off, rfl, hlt (.cell b off) (MemPlace.mem_row.2 ⟨0, by omega, by simp⟩), fun j x hj => ?_⟩
      have hj' : j < zs.length := by
        have := (List.getElem?_eq_some_iff.1 hj).1
        rw [htl] at this
        omega
      have hj2 : zs[j]? = some x := by
        rw [List.getElem?_take] at hj
        split at hj
        · exact hj
        · cases hj
      rw [← add_plain, hcell j hj']
      simp [List.getD, hj2]
    · have := hwz x (List.mem_of_mem_take hxm)
      simpa [Lit.wf, IntKind.min, IntKind.max, IntKind.signed, IntKind.bits] using this

set_option maxRecDepth 100000 in
theorem openTree {H : Type} {enc : TypeId × Value → H} {W : World} {base : Nat} {v : Value} {d : DataW H} {p : List MemPlace} (hv : Value.okWide Try.prog W .any base 25 v)
    (h : DataW.Trod enc Try.prog W 0 (fun _ => true) true 25 v d p) (hlt : ∀ x ∈ p, x.block < W.heap.size) :
    ∃ (A : Option Addr) (c : Nat) (xs : List Int), v = .agg #[.slice A xs.length c] ∧ xs.length ≤ 9223372036854775807 ∧ Ints W W.heap.size A xs ∧ ∀ x ∈ xs, -9223372036854775808 ≤ x ∧ x ≤ 9223372036854775807 := by
  obtain ⟨v0, y0, n, rfl, rfl, rfl, hy⟩ := open_agg1 Try.underlying25 (by kernel_rfl) cellsTree hv h
  obtain ⟨A, c, xs, rfl, h1, h2, h3⟩ := openInts hy hlt
  exact ⟨A, c, xs, rfl, h1, h2, h3⟩
end Go.Proofs.Ytmhpobgfgimfcaa
