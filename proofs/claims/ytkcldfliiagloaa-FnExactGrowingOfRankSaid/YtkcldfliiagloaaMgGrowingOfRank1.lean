/- Words for slices of int64 in memory, and small lemmas on worlds: what the walks of this seat share. No conditions. -/
import Derived.Test.YtkcldfliiagloaaRows
import Derived.WalkKit
import Derived.OwnWalk
import Derived.Lib.Hide
import Derived.Outline
import Derived.LoopTactic
import Derived.Deep.QuietTactic
import Derived.BigQuiet
import Derived.Deep.Draws
import Derived.Deep.OwnRows
import Derived.Maps.AppendAt
import Derived.Deep.RegionHeld3
import Derived.RangeFuncBox
import Derived.RangeFuncNested
import Derived.RangeFuncBound
import Derived.RangeFuncCalls
import Derived.RangeFuncLeaves
import Derived.Shelf.Abstract
import Derived.OwnWalkIn
import Derived.TacticsInMore
import Derived.LoopNIn
import Derived.LoopIn
namespace Go.Proofs.Ytkcldfliiagloaa
open Go.RowKit

/-- The slice value '.slice A zs.length c' reads as zs, below block B. -/
def Ints (w : World) (B : Nat) (A : Option Addr) (zs : List Int) : Prop :=
  0 < zs.length → ∃ b off, A = some ⟨b, off, none⟩ ∧ b < B ∧ ∀ j x, zs[j]? = some x → w.cell? ⟨b, off + j, none⟩ = some (.int .i64 x)

theorem Ints.nil_ (w : World) (B : Nat) (A : Option Addr) : Ints w B A [] := fun h => absurd h (by simp)

theorem Ints.at_ {w : World} {B : Nat} {A : Option Addr} {zs : List Int} (h : Ints w B A zs) {k : Nat} (hk : k < zs.length) :
    ∃ b off x, A = some ⟨b, off, none⟩ ∧ b < B ∧ w.cell? ⟨b, off + k, none⟩ = some (.int .i64 x) ∧ Hid (zs[k]? = some x) := by
  obtain ⟨b, off, e, hb, hc⟩ := h (by omega)
  exact ⟨b, off, zs[k], e, hb, hc k _ (List.getElem?_eq_getElem hk), List.getElem?_eq_getElem hk⟩

theorem Ints.keep {w w' : World} {B : Nat} {A : Option Addr} {zs : List Int} (h : Ints w B A zs) (hk : ∀ p : Addr, p.block < B → w'.cell? p = w.cell? p) : Ints w' B A zs := fun hn => by
  obtain ⟨b, off, e, hb, hc⟩ := h hn
  exact ⟨b, off, e, hb, fun j x hx => (hk ⟨b, off + j, none⟩ hb).trans (hc j x hx)⟩

theorem Ints.more {w : World} {B B' : Nat} {A : Option Addr} {zs : List Int} (h : Ints w B A zs) (hB : B ≤ B') : Ints w B' A zs := fun hn => by
  obtain ⟨b, off, e, hb, hc⟩ := h hn
  exact ⟨b, off, e, by omega, hc⟩

theorem Ints.below {w w' : World} {B B' : Nat} {A : Option Addr} {zs : List Int} (h : Ints w B A zs) (hb : Below B' w w') (hB : B ≤ B') : Ints w' B A zs :=
  h.keep fun p hp => hb.cell (p := p) (by omega)

theorem Ints.alloc {w : World} {B : Nat} {A : Option Addr} {zs : List Int} (h : Ints w B A zs) (hB : B ≤ w.heap.size) (o : Obj) : Ints (w.alloc o) B A zs :=
  h.keep fun p hp => World.cell?_alloc_lt w o p (by omega)

theorem Ints.al {w : World} {A : Option Addr} {zs : List Int} (h : Ints w w.heap.size A zs) (o : Obj) : Ints (w.alloc o) (w.alloc o).heap.size A zs :=
  (h.alloc (Nat.le_refl _) o).more (by simp)

theorem Ints.be {w w' : World} {A : Option Addr} {zs : List Int} (h : Ints w w.heap.size A zs) (hb : Below w.heap.size w w') : Ints w' w'.heap.size A zs :=
  (h.below hb (Nat.le_refl _)).more hb.size

theorem Ints.drewN {w : World} {B : Nat} {A : Option Addr} {zs : List Int} (h : Ints w B A zs) (n : Nat) : Ints (w.drewN n) B A zs := h

theorem below_drewN {B : Nat} {a w : World} (h : Below B a w) (n : Nat) : Below B a (w.drewN n) := ⟨h.os, h.tape, h.output, h.size, h.block⟩

theorem ints_of_own {w : World} {base e n c : Nat} {A : Option Addr} {zs : List Int} (h : w.ownsRow base e 1 (.slice A n c) n (zs.map (Value.int .i64))) : n = zs.length ∧ Ints w w.heap.size A zs := by
  have hn : n = zs.length := by have := h.1; simpa using this.symm
  refine ⟨hn, fun hz => ?_⟩
  rcases h.2 with ⟨_, h0⟩ | ⟨g, cap, cur, hv, _, hg, _⟩
  · omega
  · injection hv with h1 h2 h3
    subst h1
    refine ⟨g, 0, rfl, (Array.getElem?_eq_some_iff.1 hg).1, fun j x hx => ?_⟩
    have := h.cells (g := g) rfl j (.int .i64 x) (by simp [hx])
    have ha : (⟨g, 0, none⟩ : Addr).add j = ⟨g, j, none⟩ := by unfold Addr.add; split <;> simp_all
    rw [ha] at this
    rw [Nat.zero_add]
    exact this


/-- The element type of the slices: int64. -/
theorem info64 : (Try.prog.info? 2).map (fun i => (i.zero, i.size, i.bytes)) = some (some (.int .i64 0), 1, 8) := by kernel_rfl

/-- the slice value v owns a row that reads zs -/
abbrev Own64 (w : World) (B : Nat) (v : Value) (zs : List Int) : Prop := w.ownsRow B 2 1 v zs.length (zs.map (Value.int .i64))

theorem ints_of_own64 {w : World} {B n c : Nat} {A : Option Addr} {zs : List Int} (h : Own64 w B (.slice A n c) zs) : Ints w w.heap.size A zs := by
  have hn : n = zs.length := by
    rcases h.2 with ⟨h1, h2⟩ | ⟨g, cap, cur, hv, _⟩
    · injection h1 with _ h1 _; omega
    · injection hv
  subst hn
  exact (ints_of_own h).2

theorem cell_al {w : World} {b : Nat} {v : Value} (h : w.cell? ⟨b, 0, none⟩ = some v) (o : Obj) : (w.alloc o).cell? ⟨b, 0, none⟩ = some v :=
  (World.cell?_alloc_lt w o ⟨b, 0, none⟩ (World.block_lt_of_cell? _ _ h)).trans h

theorem own64_made {w : World} {B n : Nat} (hB : B ≤ w.heap.size) (hn : n ≤ maxLen) :
    Own64 (w.alloc (.cells (madeCells #[.int .i64 0] n) 2)) B (.slice (some ⟨w.heap.size, 0, none⟩) n n) (List.replicate n 0) := by
  have h := World.ownsRow_lit (e := 2) (size := 1) w (madeCells #[.int .i64 0] n) n hB hn (by simp [size_madeCells])
  rw [toList_madeCells_one] at h
  simpa [Own64] using h

theorem own64_set {w : World} {B g n c : Nat} {zs : List Int} (h : Own64 w B (.slice (some ⟨g, 0, none⟩) n c) zs) (hn : zs.length = n) (k : Nat) (x : Int) :
    Own64 (w.setCell ⟨g, k, none⟩ (.int .i64 x)) B (.slice (some ⟨g, 0, none⟩) n c) (zs.set k x) := by
  subst hn
  have := (World.ownsRow.stored h k (.int .i64 x)).1
  simpa [Own64, List.map_set] using this

theorem own64_cell {w : World} {B g n c : Nat} {zs : List Int} (h : Own64 w B (.slice (some ⟨g, 0, none⟩) n c) zs) (hn : zs.length = n) {k : Nat} {x : Int} (hx : zs[k]? = some x) :
    w.cell? ⟨g, k, none⟩ = some (.int .i64 x) ∧ w.frozen? ⟨g, k, none⟩ = false ∧ B ≤ g ∧ g < w.heap.size := by
  subst hn
  have hk : k < zs.length := (List.getElem?_eq_some_iff.1 hx).1
  have hl := World.ownsRow.lt h g rfl
  exact ⟨(World.ownsRow.cellAt h k (by omega)).trans (by simp [hx]), World.ownsRow.frozenAt h k, hl.1, hl.2⟩

theorem own_mono {w : World} {base base' e size n : Nat} {v : Value} {xs : List Value} (h : w.ownsRow base e size v n xs) (hB : base' ≤ base) : w.ownsRow base' e size v n xs := by
  refine ⟨h.1, ?_⟩
  rcases h.2 with h2 | ⟨g, cap, cur, hv, hg, r⟩
  · exact .inl h2
  · exact .inr ⟨g, cap, cur, hv, by omega, r⟩

theorem own_far {w : World} {base e size n g k : Nat} {v : Value} {xs : List Value} (h : w.ownsRow base e size v n xs) (hg : g < base) (u : Value) : (w.setCell ⟨g, k, none⟩ u).ownsRow base e size v n xs :=
  ownsRow_setCell_below h (a := ⟨g, k, none⟩) hg u

theorem own_below {w w' : World} {B base e size n : Nat} {v : Value} {xs : List Value} (h : w.ownsRow base e size v n xs) (hb : Below B w w') (hB : w.heap.size ≤ B) : w'.ownsRow base e size v n xs := by
  refine ⟨h.1, ?_⟩
  rcases h.2 with h2 | ⟨g, cap, cur, hv, hg, hh, r⟩
  · exact .inl h2
  · exact .inr ⟨g, cap, cur, hv, hg, (hb.block g (by have := (Array.getElem?_eq_some_iff.1 hh).1; omega)).trans hh, r⟩

/-- 'Below' from a world's own size on, with no side conditions: a new block, a call, a draw -/
theorem b0 (a : World) : Below a.heap.size a a := Below.refl _ _
theorem bal {a w : World} (h : Below a.heap.size a w) (o : Obj) : Below a.heap.size a (w.alloc o) := h.alloc h.size o
theorem btr {a W w : World} (h : Below a.heap.size a W) (k : Below W.heap.size W w) : Below a.heap.size a w := h.trans (k.mono h.size)

theorem below_setCell {B : Nat} {a w : World} (h : Below B a w) {g k : Nat} (hg : B ≤ g) (u : Value) : Below B a (w.setCell ⟨g, k, none⟩ u) := h.setCell (p := ⟨g, k, none⟩) hg u

end Go.Proofs.Ytkcldfliiagloaa

/- The walks of the laws' own helpers over slices of int64: szInt64S, eqInt64S, toInt64S, markInt64S, heldInt64S. No conditions but lengths. -/
namespace Go.Proofs.Ytkcldfliiagloaa
open Go.RowKit

theorem szInts (A : Option Addr) (n c : Nat) (left : Int) (w : World) (hn : n ≤ 9223372036854775807) (hl : left ≤ 1048576) (hl0 : 0 ≤ left) :
    Calls Try.prog 83 #[.slice A n c, .int .i64 left] w fun e w' => e = .returned (.int .i64 (if left - n < 0 then -1 else left - n)) ∧ w = w' := by
  by_cases h : left - (n : Int) < 0
  · go_enter Try.func83, Try.ntmps83
    go_wp2
    go_ret
    exact ⟨rfl, rfl⟩
  · go_enter Try.func83, Try.ntmps83
    go_wp2
    go_ret
    exact ⟨rfl, rfl⟩

theorem take_eq_succ {xs ys : List Int} {k : Nat} {x : Int} (hx : Hid (xs[k]? = some x)) (hy : Hid (ys[k]? = some x)) (h : Hid (xs.take k = ys.take k)) : Hid (xs.take (k + 1) = ys.take (k + 1)) := by
  have hx' : xs[k]? = some x := hx
  have hy' : ys[k]? = some x := hy
  have h' : xs.take k = ys.take k := h
  show xs.take (k + 1) = ys.take (k + 1)
  rw [List.take_add_one, List.take_add_one, h', hx', hy']
theorem ne_of_at {xs ys : List Int} {k : Nat} {x y : Int} (hx : Hid (xs[k]? = some x)) (hy : Hid (ys[k]? = some y)) (he : x ≠ y) : ¬ xs = ys := fun e => by
  have hx' : xs[k]? = some x := hx
  have hy' : ys[k]? = some y := hy
  rw [e, hy'] at hx'
  injection hx' with h
  exact he h.symm

set_option maxHeartbeats 400000 in
theorem eqInts (A A' : Option Addr) (xs ys : List Int) (c c' : Nat) (w : World) (hy : ys.length ≤ 1000000000000000)
    (h : Ints w w.heap.size A xs) (h' : Ints w w.heap.size A' ys) :
    Calls Try.prog 23 #[.slice A xs.length c, .slice A' ys.length c'] w fun e w' => e = .returned (.bool (decide (xs = ys))) ∧ Below w.heap.size w w' := by
  by_cases hl : xs.length = ys.length
  · have hl' : ((xs.length : Int) != (ys.length : Int)) = false := by simp [hl]
    have Hl := Lib.hid hl
    have hl1 : xs.length ≤ ys.length := by omega
    clear hl
    go_enter Try.func23, Try.ntmps23
    go_wp2
    go_loopw [5] (fun i wr => ∃ k : Nat, k ≤ xs.length ∧ i = .int .i64 k ∧ Hid (xs.take k = ys.take k) ∧ Below w.heap.size w wr) (fun i _ => xs.length - (intOf i).toNat)
    case atStart => exact ⟨0, Nat.zero_le _, rfl, rfl, Below.refl _ _⟩
    case round =>
      obtain ⟨k, hk, rfl, he, hb⟩ := hrel
      by_cases hlt : k < xs.length
      · obtain ⟨b, off, x, rfl, hbB, g, hX⟩ := (h.below hb (Nat.le_refl _)).at_ hlt
        obtain ⟨b', off', y, rfl, hbB', g', hY⟩ := (h'.below hb (Nat.le_refl _)).at_ (k := k) (by omega)
        clear h h'
        by_cases hq : x = y
        · subst hq
          have hs := take_eq_succ hX hY he
          go_wp2
          go_quiet (fail)
          go_wp2
          go_roundw
          case rel => exact ⟨k + 1, by omega, by go_num, hs, below_drewN hb _⟩
          case measure => simp [intOf]; omega
        · have hq' : (x != y) = true := by simp [hq]
          have hs := ne_of_at hX hY hq
          clear hq
          go_wp2
          go_quiet (fail)
          go_wp2
          go_ret
          exact ⟨by simp [hs], below_drewN hb _⟩
      · obtain rfl : k = xs.length := by omega
        have hs : xs = ys := by
          have := he.out
          rw [List.take_length, Hl.out, List.take_length] at this
          exact this
        have Hs := Lib.hid hs
        clear hs
        go_wp2
        go_ret
        exact ⟨by simp [Hs.out], hb⟩
  · have hl' : ((xs.length : Int) != (ys.length : Int)) = true := by simp; omega
    go_enter Try.func23, Try.ntmps23
    go_wp2
    go_ret
    refine ⟨?_, Below.refl _ _⟩
    have : ¬ xs = ys := fun e => hl (by rw [e])
    simp [this]

theorem take_set_succ {xs ys : List Int} {k : Nat} {x : Int} (hl : Hid (ys.length = xs.length)) (hx : Hid (xs[k]? = some x)) (h : Hid (ys.take k = xs.take k)) : Hid ((ys.set k x).take (k + 1) = xs.take (k + 1)) := by
  have hl' : ys.length = xs.length := hl
  have hx' : xs[k]? = some x := hx
  have h' : ys.take k = xs.take k := h
  have hk : k < ys.length := by rw [hl']; exact (List.getElem?_eq_some_iff.1 hx').1
  show (ys.set k x).take (k + 1) = xs.take (k + 1)
  rw [List.take_add_one, List.take_add_one, hx', List.getElem?_set_self hk, List.take_set_of_le (Nat.le_refl _), h']

set_option maxHeartbeats 400000 in
theorem toInts (A : Option Addr) (xs : List Int) (c : Nat) (w : World) (hx : xs.length ≤ 1000000000000) (h : Ints w w.heap.size A xs) :
    Calls Try.prog 20 #[.slice A xs.length c] w fun e w' => ∃ g, e = .returned (.slice (some ⟨g, 0, none⟩) xs.length xs.length) ∧
      Own64 w' w.heap.size (.slice (some ⟨g, 0, none⟩) xs.length xs.length) xs ∧ Below w.heap.size w w' := by
  have hmk := run_make_row' (P := Try.prog) 22 2 (.int .i64 0) 8 Try.underlying22 info64 rfl .i64 .i64 xs.length (by omega) (by omega)
  have hstart := own64_made (w := w) (B := w.heap.size) (n := xs.length) (Nat.le_refl _) (by unfold maxLen; omega)
  go_enter Try.func20, Try.ntmps20
  go_wp2
  clear hmk
  go_loopw [4] (fun i wr => ∃ (k : Nat) (ys : List Int), k ≤ xs.length ∧ i = .int .i64 k ∧ Hid (ys.length = xs.length) ∧ Hid (ys.take k = xs.take k) ∧
      Hid (Own64 wr w.heap.size (.slice (some ⟨w.heap.size, 0, none⟩) xs.length xs.length) ys) ∧ Below w.heap.size w wr) (fun i _ => xs.length - (intOf i).toNat)
  case atStart => exact ⟨0, List.replicate xs.length 0, Nat.zero_le _, rfl, by simp [Hid], rfl, hstart, (Below.refl _ _).alloc (Nat.le_refl _) _⟩
  case round =>
    obtain ⟨k, ys, hk, rfl, hly, he, ho, hb⟩ := hrel
    clear hstart
    by_cases hlt : k < xs.length
    · obtain ⟨b, off, x, rfl, hbB, g, hX⟩ := (h.below hb (Nat.le_refl _)).at_ hlt
      clear h
      have hly' : ys.length = xs.length := hly
      obtain ⟨c1, c2, c3, c4⟩ := own64_cell ho.out hly' (k := k) (x := ys[k]) (List.getElem?_eq_getElem (by omega))
      have hs := take_set_succ hly hX he
      have ho' : Hid (Own64 _ _ _ _) := own64_set ho.out hly' k x
      generalize ys[k] = y at c1
      clear hly'
      go_wp2
      go_roundw
      case rel => exact ⟨k + 1, ys.set k x, by omega, by go_num, by simp [Hid]; exact hly.out, hs, ho', below_setCell hb (Nat.le_refl _) _⟩
      case measure => simp [intOf]; omega
    · obtain rfl : k = xs.length := by omega
      have hys : ys = xs := by
        have := he.out
        rw [← hly.out, List.take_length, hly.out, List.take_length] at this
        exact this
      have Hs := Lib.hid hys
      clear hys
      go_wp2
      go_ret
      exact ⟨_, rfl, by rw [← Hs.out]; have := ho.out; rw [← hly.out] at this; exact this, hb⟩

/-- the marks that the laws write: k, k + 1, .. -/
def marks (k : Int) (n : Nat) : List Int := (List.range n).map fun (i : Nat) => k + (i : Int)
theorem marks_length (k : Int) (n : Nat) : (marks k n).length = n := by simp [marks]
theorem marks_at (k : Int) {n i : Nat} (h : i < n) : (marks k n)[i]? = some (k + i) := by simp [marks, h]

theorem take_marks_succ {ys : List Int} {k : Int} {n i : Nat} (hl : Hid (ys.length = n)) (hi : i < n) (h : Hid (ys.take i = (marks k n).take i)) : Hid ((ys.set i (k + i)).take (i + 1) = (marks k n).take (i + 1)) :=
  take_set_succ (xs := marks k n) (by show ys.length = _; rw [marks_length]; exact hl) (marks_at k hi) h

theorem grown_set {a w : World} {g : Nat} (h : a.grownBy w (some g)) (k : Nat) (u : Value) : a.grownBy (w.setCell ⟨g, k, none⟩ u) (some g) :=
  ⟨h.os, h.tape, h.output, by simpa [World.setCell] using h.size, fun i hi hne => (Below.heap_setCell w ⟨g, k, none⟩ u i (fun e => hne (by rw [e]))).trans (h.block i hi hne)⟩

set_option maxHeartbeats 400000 in
theorem markInts (A : Option Addr) (n c : Nat) (zs : List Int) (m : Int) (B : Nat) (w : World) (hn : zs.length = n) (hn' : n ≤ 1000000000000) (hm : 0 ≤ m) (hm' : m ≤ 1000000000000) (ho : Own64 w B (.slice A n c) zs) :
    Calls Try.prog 27 #[.slice A n c, .int .i64 m] w fun e w' => e = .returned (.int .i64 (m + n)) ∧ Own64 w' B (.slice A n c) (marks m n) ∧ w.grownBy w' (Value.slice A n c).ownBlock := by
  rcases Nat.eq_zero_or_pos n with h0 | h0
  · subst h0
    obtain rfl : zs = [] := List.eq_nil_of_length_eq_zero hn
    clear hn
    go_enter Try.func27, Try.ntmps27
    go_wp2
    refine wp_loop_rounds 1 ?_
    rw [rounds_succ]
    go_wp2
    go_ret
    exact ⟨by simp, by simpa [marks] using ho, World.grownBy.refl _ _⟩
  · obtain ⟨g, rfl⟩ : ∃ g, A = some ⟨g, 0, none⟩ := by
      rcases ho.2 with ⟨_, h⟩ | ⟨g, _, _, h, _⟩
      · omega
      · injection h with h; exact ⟨g, h⟩
    have Hn := Lib.hid hn
    clear hn
    go_enter Try.func27, Try.ntmps27
    go_wp2
    go_loopw [1, 5] (fun q i wr => ∃ (k : Nat) (ys : List Int), k ≤ n ∧ i = .int .i64 k ∧ q = .int .i64 (m + k) ∧ Hid (ys.length = n) ∧ Hid (ys.take k = (marks m n).take k) ∧
        Hid (Own64 wr B (.slice (some ⟨g, 0, none⟩) n c) ys) ∧ w.grownBy wr (some g)) (fun _ i _ => n - (intOf i).toNat)
    case atStart => exact ⟨0, zs, Nat.zero_le _, rfl, by simp, Hn, rfl, ho, World.grownBy.refl _ _⟩
    case round =>
      obtain ⟨k, ys, hk, rfl, rfl, hly, he, ho', hb⟩ := hrel
      clear ho
      by_cases hlt : k < n
      · have hly' : ys.length = n := hly
        obtain ⟨c1, c2, c3, c4⟩ := own64_cell ho'.out hly' (k := k) (x := ys[k]) (List.getElem?_eq_getElem (by omega))
        have hs := take_marks_succ hly hlt he
        have ho2 : Hid (Own64 _ _ _ _) := own64_set ho'.out hly' k (m + k)
        generalize ys[k] = y at c1
        clear hly'
        go_wp2
        go_roundw
        case rel => exact ⟨k + 1, ys.set k (m + k), by omega, by go_num, by go_num, by simp [Hid]; exact hly.out, hs, ho2, grown_set hb _ _⟩
        case measure => simp [intOf]; omega
      · obtain rfl : k = n := by omega
        have hys : ys = marks m k := by
          have h1 := he.out
          have h2 := hly.out
          rw [← h2, List.take_length, h2] at h1
          rw [h1, List.take_of_length_le (by rw [marks_length]; exact Nat.le_refl _)]
        have Hs := Lib.hid hys
        clear hys
        go_wp2
        go_ret
        exact ⟨rfl, by rw [← Hs.out]; exact ho'.out, hb⟩

set_option maxHeartbeats 400000 in
theorem heldInts (A : Option Addr) (n c : Nat) (m : Int) (w : World) (hn' : n ≤ 1000000000000) (hm : 0 ≤ m) (hm' : m ≤ 1000000000000) (h : Ints w w.heap.size A (marks m n)) :
    Calls Try.prog 28 #[.slice A n c, .int .i64 m] w fun e w' => e = .returned (.int .i64 (m + n)) ∧ w = w' := by
  go_enter Try.func28, Try.ntmps28
  go_wp2
  go_loop [1, 5] (fun q i => ∃ (k : Nat), k ≤ n ∧ i = .int .i64 k ∧ q = .int .i64 (m + k)) (fun _ i => n - (intOf i).toNat)
  case atStart => exact ⟨0, Nat.zero_le _, rfl, by simp⟩
  case round =>
    obtain ⟨k, hk, rfl, rfl⟩ := hrel
    by_cases hlt : k < n
    · obtain ⟨b, off, x, rfl, hbB, g, hX⟩ := h.at_ (k := k) (by rw [marks_length]; exact hlt)
      clear h
      obtain rfl : x = m + k := by
        have h1 := hX.out
        rw [marks_at m hlt] at h1
        injection h1 with h1
        exact h1.symm
      go_wp2
      go_round
      case rel => exact ⟨k + 1, by omega, by go_num, by go_num⟩
      case measure => simp [intOf]; omega
    · obtain rfl : k = n := by omega
      go_wp2
      go_ret
      exact ⟨rfl, rfl⟩
end Go.Proofs.Ytkcldfliiagloaa

/- The walks of the laws' own helpers over trees (structs of one slice): szTree, toTree, eqTree, markTree, heldTree. No conditions but lengths. -/
namespace Go.Proofs.Ytkcldfliiagloaa
open Go.RowKit

theorem bcell {W w1 : World} (hb : Below W.heap.size W w1) : (∀ b o, b < W.heap.size → w1.cell? ⟨b, o, none⟩ = W.cell? ⟨b, o, none⟩) ∧ (∀ b o, b < W.heap.size → w1.frozen? ⟨b, o, none⟩ = W.frozen? ⟨b, o, none⟩) :=
  ⟨fun b o h => hb.cell (p := ⟨b, o, none⟩) h, fun b o h => hb.frozen (p := ⟨b, o, none⟩) h⟩

theorem szTree (A : Option Addr) (n c : Nat) (left : Int) (w : World) (hn : n ≤ 9223372036854775807) (hl : left ≤ 1048576) (hl0 : 0 ≤ left) :
    Calls Try.prog 17 #[.agg #[.slice A n c], .int .i64 left] w fun e w' => e = .returned (.int .i64 (if left - n < 0 then -1 else left - n)) ∧ Below w.heap.size w w' := by
  by_cases h : left - (n : Int) < 0
  · go_enter Try.func17, Try.ntmps17
    go_wp2_with (go_at_call 83; refine (szInts _ _ _ _ _ hn hl hl0).mono ?_; rintro e w' ⟨rfl, rfl⟩)
    go_ret
    exact ⟨rfl, (Below.refl _ _).alloc (Nat.le_refl _) _⟩
  · go_enter Try.func17, Try.ntmps17
    go_wp2_with (go_at_call 83; refine (szInts _ _ _ _ _ hn hl hl0).mono ?_; rintro e w' ⟨rfl, rfl⟩)
    go_ret
    exact ⟨rfl, (Below.refl _ _).alloc (Nat.le_refl _) _⟩

set_option maxHeartbeats 400000 in
theorem toTree (A : Option Addr) (xs : List Int) (c : Nat) (w : World) (hx : xs.length ≤ 1000000000000) (h : Ints w w.heap.size A xs) :
    Calls Try.prog 19 #[.agg #[.slice A xs.length c]] w fun e w' => ∃ g, e = .returned (.agg #[.slice (some ⟨g, 0, none⟩) xs.length xs.length]) ∧
      Own64 w' w.heap.size (.slice (some ⟨g, 0, none⟩) xs.length xs.length) xs ∧ Below w.heap.size w w' := by
  go_enter Try.func19, Try.ntmps19
  go_wp2_with fail
  refine (toInts A xs c _ hx (((h.al _).al _).al _)).mono ?_
  rintro e w1 ⟨g, rfl, ho, hb⟩
  obtain ⟨hc, hf⟩ := bcell hb
  have hB := btr (bal (bal (bal (b0 w) _) _) _) hb
  have ho' : Own64 w1 (w.heap.size + 3) (.slice (some ⟨g, 0, none⟩) xs.length xs.length) xs := own_mono ho (by simp)
  clear ho h
  go_wp2
  refine bodyPost_ret (v := .agg #[.slice (some ⟨g, 0, none⟩) xs.length xs.length]) (by simp [results, Try.results19, go_sem, hc]) rfl ?_
  exact ⟨g, rfl, own_mono (own_far (own_far ho' (by omega) _) (by omega) _) (by omega), below_setCell (below_setCell hB (by omega) _) (by omega) _⟩

set_option maxHeartbeats 400000 in
theorem eqTree (A A' : Option Addr) (xs ys : List Int) (c c' : Nat) (w : World) (hy : ys.length ≤ 1000000000000000)
    (h : Ints w w.heap.size A xs) (h' : Ints w w.heap.size A' ys) :
    Calls Try.prog 22 #[.agg #[.slice A xs.length c], .agg #[.slice A' ys.length c']] w fun e w' => e = .returned (.bool (decide (xs = ys))) ∧ Below w.heap.size w w' := by
  have C := eqInts A A' xs ys c c' _ hy ((h.al (.cells #[.slice A xs.length c] 28)).al (.cells #[.slice A' ys.length c'] 28)) ((h'.al _).al _)
  generalize decide (xs = ys) = d at C ⊢
  have HC := Lib.hid C
  clear C
  cases d
  all_goals
    go_enter Try.func22, Try.ntmps22
    go_wp2_with fail
    refine HC.out.mono ?_
    rintro e w1 ⟨rfl, hb⟩
    have hB := btr (bal (bal (b0 w) _) _) hb
    go_wp2
    go_ret
    exact ⟨rfl, hB⟩

set_option maxHeartbeats 400000 in
theorem markTree (A : Option Addr) (n c : Nat) (zs : List Int) (m : Int) (B : Nat) (w : World) (hn : zs.length = n) (hn' : n ≤ 1000000000000) (hm : 0 ≤ m) (hm' : m ≤ 1000000000000) (ho : Own64 w B (.slice A n c) zs) :
    Calls Try.prog 26 #[.agg #[.slice A n c], .int .i64 m] w fun e w' => e = .returned (.int .i64 (m + n)) ∧ Own64 w' B (.slice A n c) (marks m n) ∧ w.grownBy w' (Value.slice A n c).ownBlock := by
  have Hn := Lib.hid hn
  clear hn
  go_enter Try.func26, Try.ntmps26
  go_wp2_with fail
  refine (markInts A n c zs m B _ Hn.out hn' hm hm' (ho.alloc _)).mono ?_
  rintro e w1 ⟨rfl, ho1, hg⟩
  go_wp2
  go_ret
  exact ⟨rfl, ho1, (World.grownBy_alloc w _ _).trans hg⟩

set_option maxHeartbeats 400000 in
theorem heldTree (A : Option Addr) (n c : Nat) (m : Int) (w : World) (hn' : n ≤ 1000000000000) (hm : 0 ≤ m) (hm' : m ≤ 1000000000000) (h : Ints w w.heap.size A (marks m n)) :
    Calls Try.prog 31 #[.agg #[.slice A n c], .int .i64 m] w fun e w' => e = .returned (.int .i64 (m + n)) ∧ Below w.heap.size w w' := by
  go_enter Try.func31, Try.ntmps31
  go_wp2_with (go_at_call 28; refine (heldInts A n c m _ hn' hm hm' (h.al _)).mono ?_; rintro e w' ⟨rfl, rfl⟩)
  go_ret
  exact ⟨rfl, (Below.refl _ _).alloc (Nat.le_refl _) _⟩

theorem own_shape {w : World} {B e : Nat} {v : Value} {n : Nat} {zs : List Value} (h : w.ownsRow B e 1 v n zs) : ∃ A c, v = .slice A n c := by
  rcases h.2 with ⟨rfl, rfl⟩ | ⟨g, cap, _, rfl, _⟩
  · exact ⟨none, 0, rfl⟩
  · exact ⟨_, _, rfl⟩

/-- a step that keeps all that was there: what a law knows of its own memory stays -/
theorem own_be {w w' : World} {base e size n : Nat} {v : Value} {xs : List Value} (h : w.ownsRow base e size v n xs) (hb : Below w.heap.size w w') : w'.ownsRow base e size v n xs := own_below h hb (Nat.le_refl _)

theorem cell_be {w w' : World} {b : Nat} {v : Value} (h : w.cell? ⟨b, 0, none⟩ = some v) (hb : Below w.heap.size w w') : w'.cell? ⟨b, 0, none⟩ = some v :=
  ((bcell hb).1 _ _ (World.block_lt_of_cell? _ _ h)).trans h

theorem cell_grown {w w' : World} {b : Nat} {v : Value} {row : Option Nat} (h : w.cell? ⟨b, 0, none⟩ = some v) (hb : w.grownBy w' row) (hne : ∀ k, row = some k → k ≠ b) : w'.cell? ⟨b, 0, none⟩ = some v :=
  hb.cell h (fun e => hne b e.symm rfl)

theorem own_grown {w w' : World} {base e size n : Nat} {v : Value} {xs : List Value} {row : Option Nat} (h : w.ownsRow base e size v n xs) (hb : w.grownBy w' row) (hne : ∀ k, row = some k → k < base ∨ w.heap.size ≤ k) : w'.ownsRow base e size v n xs := by
  refine h.kept hb ?_
  cases hv : v.ownBlock with
  | none => exact .inl rfl
  | some k =>
    refine .inr fun e => ?_
    have h1 := h.lt k hv
    have h2 := hne k e.symm
    omega

theorem below_grown {a w w' : World} {row : Option Nat} (h : Below a.heap.size a w) (hb : w.grownBy w' row) (hne : ∀ k, row = some k → a.heap.size ≤ k) : Below a.heap.size a w' :=
  h.grown hb h.size hne

theorem eqIntsT (A A' : Option Addr) (xs : List Int) (c c' : Nat) (w : World) (hy : xs.length ≤ 1000000000000000)
    (h : Ints w w.heap.size A xs) (h' : Ints w w.heap.size A' xs) :
    Calls Try.prog 23 #[.slice A xs.length c, .slice A' xs.length c'] w fun e w' => e = .returned (.bool true) ∧ Below w.heap.size w w' :=
  (eqInts A A' xs xs c c' w hy h h').mono fun _ _ ⟨he, hb⟩ => ⟨by rw [he]; simp, hb⟩

theorem eqTreeT (A A' : Option Addr) (xs : List Int) (c c' : Nat) (w : World) (hy : xs.length ≤ 1000000000000000)
    (h : Ints w w.heap.size A xs) (h' : Ints w w.heap.size A' xs) :
    Calls Try.prog 22 #[.agg #[.slice A xs.length c], .agg #[.slice A' xs.length c']] w fun e w' => e = .returned (.bool true) ∧ Below w.heap.size w w' :=
  (eqTree A A' xs xs c c' w hy h h').mono fun _ _ ⟨he, hb⟩ => ⟨by rw [he]; simp, hb⟩

/-- what a function of a tree that hands back a list and a code must do, as F says -/
def GivesList (f : Nat) (F : List Int → List Int × Int) : Prop :=
  ∀ (A : Option Addr) (xs : List Int) (c : Nat) (w : World), xs.length ≤ 1048576 → xs.length ≤ c ∧ c ≤ 1000000000000 → Ints w w.heap.size A xs →
    Calls Try.prog f #[.agg #[.slice A xs.length c]] w fun e w' => ∃ A' c', e = .returned (.tuple #[.slice A' (F xs).1.length c', .int .i64 (F xs).2]) ∧
      Own64 w' w.heap.size (.slice A' (F xs).1.length c') (F xs).1 ∧ Below w.heap.size w w'
end Go.Proofs.Ytkcldfliiagloaa

/- What functions of a tree, or of numbers, must do, as F says. -/
namespace Go.Proofs.Ytkcldfliiagloaa
open Go.RowKit

/-- a tree to a tree and a code -/
def GivesTree (f : Nat) (F : List Int → List Int × Int) : Prop :=
  ∀ (A : Option Addr) (xs : List Int) (c : Nat) (w : World), xs.length ≤ 1048576 → xs.length ≤ c ∧ c ≤ 1000000000000 → Ints w w.heap.size A xs →
    Calls Try.prog f #[.agg #[.slice A xs.length c]] w fun e w' => ∃ A' c', e = .returned (.tuple #[.agg #[.slice A' (F xs).1.length c'], .int .i64 (F xs).2]) ∧
      Own64 w' w.heap.size (.slice A' (F xs).1.length c') (F xs).1 ∧ Below w.heap.size w w'
/-- a tree to a number and a code -/
def GivesNum (f : Nat) (F : List Int → Int × Int) : Prop :=
  ∀ (A : Option Addr) (xs : List Int) (c : Nat) (w : World), xs.length ≤ 1048576 → xs.length ≤ c ∧ c ≤ 1000000000000 → Ints w w.heap.size A xs →
    Calls Try.prog f #[.agg #[.slice A xs.length c]] w fun e w' => e = .returned (.tuple #[.int .i64 (F xs).1, .int .i64 (F xs).2]) ∧ Below w.heap.size w w'
/-- what a function of a tree that hands back a text and a code must do, as F says -/
def GivesText (f : Nat) (F : List Int → ByteArray × Int) : Prop :=
  ∀ (A : Option Addr) (xs : List Int) (c : Nat) (w : World), xs.length ≤ 1048576 → xs.length ≤ c ∧ c ≤ 1000000000000 → Ints w w.heap.size A xs →
    Calls Try.prog f #[.agg #[.slice A xs.length c]] w fun e w' => e = .returned (.tuple #[.string (F xs).1, .int .i64 (F xs).2]) ∧ Below w.heap.size w w'
/-- a number to a tree and a code -/
def GivesTreeN1 (f : Nat) (F : Int → List Int × Int) : Prop :=
  ∀ (n : Int) (w : World), -9223372036854775808 ≤ n → n ≤ 9223372036854775807 →
    Calls Try.prog f #[.int .i64 n] w fun e w' => ∃ A' c', e = .returned (.tuple #[.agg #[.slice A' (F n).1.length c'], .int .i64 (F n).2]) ∧ Own64 w' w.heap.size (.slice A' (F n).1.length c') (F n).1 ∧ Below w.heap.size w w'
/-- two numbers to a tree and a code -/
def GivesTreeN2 (f : Nat) (F : Int → Int → List Int × Int) : Prop :=
  ∀ (n r : Int) (w : World), -9223372036854775808 ≤ n → n ≤ 9223372036854775807 → -9223372036854775808 ≤ r → r ≤ 9223372036854775807 →
    Calls Try.prog f #[.int .i64 n, .int .i64 r] w fun e w' => ∃ A' c', e = .returned (.tuple #[.agg #[.slice A' (F n r).1.length c'], .int .i64 (F n r).2]) ∧ Own64 w' w.heap.size (.slice A' (F n r).1.length c') (F n r).1 ∧ Below w.heap.size w w'
/-- a number to a number and a code -/
def GivesNumN1 (f : Nat) (F : Int → Int × Int) : Prop :=
  ∀ (n : Int) (w : World), -9223372036854775808 ≤ n → n ≤ 9223372036854775807 →
    Calls Try.prog f #[.int .i64 n] w fun e w' => e = .returned (.tuple #[.int .i64 (F n).1, .int .i64 (F n).2]) ∧ Below w.heap.size w w'
/-- two numbers to a number and a code -/
def GivesNumN2 (f : Nat) (F : Int → Int → Int × Int) : Prop :=
  ∀ (n r : Int) (w : World), -9223372036854775808 ≤ n → n ≤ 9223372036854775807 → -9223372036854775808 ≤ r → r ≤ 9223372036854775807 →
    Calls Try.prog f #[.int .i64 n, .int .i64 r] w fun e w' => e = .returned (.tuple #[.int .i64 (F n r).1, .int .i64 (F n r).2]) ∧ Below w.heap.size w w'
/-- numbers of a list to a number and a code -/
def GivesNumI (f : Nat) (F : List Int → Int × Int) : Prop :=
  ∀ (A : Option Addr) (xs : List Int) (c : Nat) (w : World), xs.length ≤ 1048576 → xs.length ≤ c ∧ c ≤ 1000000000000 → Ints w w.heap.size A xs → (∀ x ∈ xs, -9223372036854775808 ≤ x ∧ x ≤ 9223372036854775807) →
    Calls Try.prog f #[.slice A xs.length c] w fun e w' => e = .returned (.tuple #[.int .i64 (F xs).1, .int .i64 (F xs).2]) ∧ Below w.heap.size w w'
/-- what a function of a tree and a number that hands back a tree and a code must do, as F says -/
def GivesTree1 (f : Nat) (F : List Int → Int → List Int × Int) : Prop :=
  ∀ (A : Option Addr) (xs : List Int) (c : Nat) (v : Int) (w : World), xs.length ≤ 1048576 → xs.length ≤ c ∧ c ≤ 1000000000000 → Ints w w.heap.size A xs →
    Calls Try.prog f #[.agg #[.slice A xs.length c], .int .i64 v] w fun e w' => ∃ A' c', e = .returned (.tuple #[.agg #[.slice A' (F xs v).1.length c'], .int .i64 (F xs v).2]) ∧
      Own64 w' w.heap.size (.slice A' (F xs v).1.length c') (F xs v).1 ∧ Below w.heap.size w w'
/-- what a function of a tree and a number that hands back a list and a code must do, as F says -/
def GivesList1 (f : Nat) (F : List Int → Int → List Int × Int) : Prop :=
  ∀ (A : Option Addr) (xs : List Int) (c : Nat) (v : Int) (w : World), xs.length ≤ 1048576 → xs.length ≤ c ∧ c ≤ 1000000000000 → Ints w w.heap.size A xs →
    Calls Try.prog f #[.agg #[.slice A xs.length c], .int .i64 v] w fun e w' => ∃ A' c', e = .returned (.tuple #[.slice A' (F xs v).1.length c', .int .i64 (F xs v).2]) ∧
      Own64 w' w.heap.size (.slice A' (F xs v).1.length c') (F xs v).1 ∧ Below w.heap.size w w'
end Go.Proofs.Ytkcldfliiagloaa

/- The walk of the law FnExactGrowingOfRank, from the contracts of the program's function and of the model's: it returns true, and writes into nothing that was there. -/
namespace Go.Proofs.Ytkcldfliiagloaa
open Go.RowKit

set_option maxHeartbeats 4000000 in
set_option maxRecDepth 100000 in
theorem lawGrowingOfRank (F : List Int → Int → List Int × Int) (hS : Hid (GivesList1 24 F)) (hI : Hid (GivesList1 25 F)) (hF : ∀ (xs : List Int) (v : Int), (F xs v).1.length ≤ 1048576)
    (A : Option Addr) (xs : List Int) (c : Nat) (v : Int) (w : World) (hx : xs.length ≤ 9223372036854775807) (h : Ints w w.heap.size A xs) :
    Calls Try.prog 4 #[.agg #[.slice A xs.length c], .int .i64 v] w fun e w' => e = .returned (.bool true) ∧ Below w.heap.size w w' := by
  by_cases hs : xs.length ≤ 1048576
  · have hl : Hid ((if (1048576 : Int) - xs.length < 0 then -1 else (1048576 : Int) - xs.length) = 1048576 - xs.length) := if_neg (by omega)
    have hx' : xs.length ≤ 1000000000000 := by omega
    have hf := hF xs v
    have hl0 : (0 : Int) ≤ 1048576 - (xs.length : Int) := by omega
    clear hF hx
    go_enter Try.func4, Try.ntmps4
    go_wp2_with fail
    refine (szTree A xs.length c 1048576 _ (by omega) (by omega) (by omega)).mono ?_
    rintro e w1 ⟨he, hb⟩
    rw [hl.out] at he
    subst he
    have B := Lib.hid (btr (bal (b0 w) _) hb)
    have cA : w1.cell? ⟨w.heap.size, 0, none⟩ = some (.slice A xs.length c) := cell_be (by simp) hb
    clear hb
    go_wp2_with fail
    -- spec(toTree(aT))
    refine (toTree A xs c _ hx' (h.be B.out)).mono ?_
    rintro e w2 ⟨g2, rfl, o2, hb⟩
    replace B := Lib.hid (btr B.out hb)
    replace cA := cell_be cA hb
    clear hb
    go_wp2_with fail
    refine (hS.out _ xs xs.length v _ hs ⟨Nat.le_refl _, hx'⟩ (ints_of_own o2).2).mono ?_
    rintro e w3 ⟨Aw, cw, rfl, ow, hb⟩
    have Bw := Lib.hid (World.ownsRow.lt ow)
    have z2 := B.out.size
    have Ow := Lib.hid (own_mono (base' := w.heap.size) ow z2)
    replace B := Lib.hid (btr B.out hb)
    replace cA := cell_be cA hb
    have z3 := B.out.size
    have a3 : w.heap.size < w3.heap.size := World.block_lt_of_cell? _ _ cA
    clear hb o2 ow z2
    go_wp2_with fail
    -- x0
    refine (toTree A xs c _ hx' (h.be B.out)).mono ?_
    rintro e w4 ⟨gx, rfl, ox, hb⟩
    have z4 := hb.size
    have gx1 := (World.ownsRow.lt ox gx rfl).1
    have gx2 := (World.ownsRow.lt ox gx rfl).2
    have Wx : Hid (∀ k, (Value.slice Aw (F xs v).1.length cw).ownBlock = some k → k < w4.heap.size ∧ k ≠ gx) := fun k hk => by have := Bw.out k hk; omega
    replace B := Lib.hid (btr B.out hb)
    replace cA := cell_be cA hb
    have Ox := Lib.hid (own_mono (base' := w.heap.size) ox z3)
    replace Ow := Lib.hid (own_be Ow.out hb)
    have gx3 : w.heap.size < gx := by omega
    clear hb ox Bw z4 gx1 a3
    go_wp2_with fail
    -- g0
    refine (hI.out _ xs xs.length v _ hs ⟨Nat.le_refl _, hx'⟩ ((ints_of_own64 Ox.out).al _)).mono ?_
    rintro e w5 ⟨Ag, cg, rfl, og, hb⟩
    replace B := Lib.hid (btr (bal B.out _) hb)
    replace cA := cell_be (cell_al cA _) hb
    have cX : w5.cell? ⟨w4.heap.size, 0, none⟩ = some (.slice (some ⟨gx, 0, none⟩) xs.length xs.length) := cell_be (by simp) hb
    replace Ow := Lib.hid (own_be (Ow.out.alloc _) hb)
    replace Ox := Lib.hid (own_be (Ox.out.alloc _) hb)
    have Og := Lib.hid (own_mono (base' := w4.heap.size + 1) og (by simp))
    clear hb og
    go_wp2_with fail
    refine (eqIntsT _ _ _ _ _ _ (by omega) (ints_of_own64 Og.out) (ints_of_own64 Ow.out)).mono ?_
    rintro e w6 ⟨rfl, hb⟩
    replace B := Lib.hid (btr B.out hb)
    replace cA := cell_be cA hb
    replace cX := cell_be cX hb
    replace Ow := Lib.hid (own_be Ow.out hb)
    replace Ox := Lib.hid (own_be Ox.out hb)
    replace Og := Lib.hid (own_be Og.out hb)
    clear hb
    go_wp2
    have hT : ∀ W, Hid (Below w6.heap.size w6 W) → Calls Try.prog 19 #[.agg #[.slice A xs.length c]] W fun e w' => ∃ g, e = .returned (.agg #[.slice (some ⟨g, 0, none⟩) xs.length xs.length]) ∧
        Hid (Own64 w' W.heap.size (.slice (some ⟨g, 0, none⟩) xs.length xs.length) xs) ∧ Hid (Below w6.heap.size w6 w') := fun W hW =>
      (toTree A xs c W hx' ((h.be B.out).be hW.out)).mono fun e w' ⟨g, he, ho, hb⟩ => ⟨g, he, ho, btr hW.out hb⟩
    have hE : ∀ g B' W, Hid (Below w6.heap.size w6 W) → Hid (Own64 W B' (.slice (some ⟨g, 0, none⟩) xs.length xs.length) xs) →
        Calls Try.prog 22 #[.agg #[.slice (some ⟨gx, 0, none⟩) xs.length xs.length], .agg #[.slice (some ⟨g, 0, none⟩) xs.length xs.length]] W fun e w' => e = .returned (.bool true) ∧ Hid (Below w6.heap.size w6 w') := fun g B' W hW ho =>
      (eqTreeT _ _ xs _ _ W (by omega) ((ints_of_own64 Ox.out).be hW.out) (ints_of_own64 ho.out)).mono fun e w' ⟨he, hb⟩ => ⟨he, btr hW.out hb⟩
    have HT := Lib.hid hT
    have HE := Lib.hid hE
    clear hT hE
    have K0 : Hid (Below w6.heap.size w6 w6.drew) := (Below.refl _ _).drew
    have cA0 : w6.drew.cell? ⟨w.heap.size, 0, none⟩ = some (.slice A xs.length c) := cA
    have cX0 : w6.drew.cell? ⟨w4.heap.size, 0, none⟩ = some (.slice (some ⟨gx, 0, none⟩) xs.length xs.length) := cX
    go_region_held3 (fun w' => w'.cell? ⟨w.heap.size, 0, none⟩ = some (.slice A xs.length c) ∧ w'.cell? ⟨w4.heap.size, 0, none⟩ = some (.slice (some ⟨gx, 0, none⟩) xs.length xs.length) ∧ Hid (Below w6.heap.size w6 w')) (first | exact ⟨cA0, cX0, K0⟩ | exact ⟨(cell_be cA (Hid.out (by assumption))), (cell_be cX (Hid.out (by assumption))), by assumption⟩) (first | (go_at_call 19; refine (HT.out _ (by assumption)).mono ?_; rintro e w7 ⟨g7, rfl, ho7, hb7⟩) | (go_at_call 22; refine (HE.out _ _ _ (by assumption) (by assumption)).mono ?_; rintro e w8 ⟨rfl, hb8⟩))
    have hb : Below w6.heap.size w6 w8 := hb8
    clear HT HE K0 cA0 cX0
    replace B := Lib.hid (btr B.out hb)
    replace cA := cell_be cA hb
    replace cX := cell_be cX hb
    replace Ow := Lib.hid (own_be Ow.out hb)
    replace Ox := Lib.hid (own_be Ox.out hb)
    replace Og := Lib.hid (own_be Og.out hb)
    clear hb hb8 hb7 ho7
    -- the argument is marked
    go_wp2_with fail
    refine (markTree _ xs.length xs.length xs 1 _ _ rfl hx' (by omega) (by omega) Ox.out).mono ?_
    rintro e w9 ⟨rfl, _, hg⟩
    replace B := Lib.hid (below_grown B.out hg (fun k e => by injection e with e; subst e; exact Nat.le_of_lt gx3))
    replace cA := cell_grown cA hg (fun k e => by injection e with e; subst e; exact Nat.ne_of_gt gx3)
    replace Ow := Lib.hid (Ow.out.kept hg (.inr (fun e => (Wx.out gx e).2 rfl)))
    replace Og := Lib.hid (own_grown Og.out hg (fun k e => by injection e with e; subst e; exact .inl (by show gx < _; omega)))
    clear hg cX Ox
    go_wp2_with fail
    refine (eqIntsT _ _ _ _ _ _ (by omega) (ints_of_own64 Og.out) (ints_of_own64 Ow.out)).mono ?_
    rintro e w10 ⟨rfl, hb⟩
    replace B := Lib.hid (btr B.out hb)
    replace cA := cell_be cA hb
    replace Ow := Lib.hid (own_be Ow.out hb)
    replace Og := Lib.hid (own_be Og.out hb)
    clear hb
    -- the result is marked
    go_wp2_with fail
    have Bg := Lib.hid (World.ownsRow.lt Og.out)
    refine (markInts _ _ cg (F xs v).1 1 _ _ rfl (by omega) (by omega) (by omega) Og.out).mono ?_
    rintro e w11 ⟨rfl, og, hg⟩
    replace B := Lib.hid (below_grown B.out hg (fun k e => by have := Bg.out k e; omega))
    replace cA := cell_grown cA hg (fun k e => by have := Bg.out k e; omega)
    replace Ow := Lib.hid (Ow.out.kept hg (by
      cases hv : (Value.slice Aw (F xs v).1.length cw).ownBlock with
      | none => exact .inl rfl
      | some k => exact .inr fun e => by have h1 := Wx.out k hv; have h2 := Bg.out k e.symm; omega))
    replace Og := Lib.hid (own_mono (base' := 0) og (Nat.zero_le _))
    clear hg og Bg
    go_wp2_with fail
    refine (heldInts _ _ cg 1 _ (by omega) (by omega) (by omega) (ints_of_own64 Og.out)).mono ?_
    rintro e w' ⟨rfl, rfl⟩
    go_wp2_with fail
    -- once more
    refine (toTree A xs c _ hx' (h.be B.out)).mono ?_
    rintro e w12 ⟨g2, rfl, o2, hb⟩
    replace B := Lib.hid (btr B.out hb)
    replace Ow := Lib.hid (own_be Ow.out hb)
    replace Og := Lib.hid (own_be Og.out hb)
    clear hb cA
    go_wp2_with fail
    refine (hI.out _ xs xs.length v _ hs ⟨Nat.le_refl _, hx'⟩ (ints_of_own64 o2)).mono ?_
    rintro e w13 ⟨Ah, ch, rfl, oh, hb⟩
    replace B := Lib.hid (btr B.out hb)
    replace Ow := Lib.hid (own_be Ow.out hb)
    replace Og := Lib.hid (own_be Og.out hb)
    have Oh := Lib.hid oh
    clear hb o2 oh
    go_wp2_with fail
    refine (eqIntsT _ _ _ _ _ _ (by omega) (ints_of_own64 Oh.out) (ints_of_own64 Ow.out)).mono ?_
    rintro e w14 ⟨rfl, hb⟩
    replace B := Lib.hid (btr B.out hb)
    replace Og := Lib.hid (own_be Og.out hb)
    clear hb Oh Ow
    go_wp2_with fail
    refine (heldInts _ _ cg 1 _ (by omega) (by omega) (by omega) (ints_of_own64 Og.out)).mono ?_
    rintro e w' ⟨rfl, rfl⟩
    go_wp2
    go_ret
    exact ⟨rfl, B.out⟩
  · have hl : Hid ((if (1048576 : Int) - xs.length < 0 then -1 else (1048576 : Int) - xs.length) = -1) := if_pos (by omega)
    clear hF hS hI
    go_enter Try.func4, Try.ntmps4
    go_wp2_with fail
    refine (szTree A xs.length c 1048576 _ hx (by omega) (by omega)).mono ?_
    rintro e w1 ⟨he, hb1⟩
    rw [hl.out] at he
    subst he
    have B1 := btr (bal (b0 w) _) hb1
    go_wp2
    go_ret
    exact ⟨rfl, B1⟩
end Go.Proofs.Ytkcldfliiagloaa

/- Plain facts on lists of degrees: when they are a tree, by the two loops. No program is named here. -/
namespace Go.Proofs.Ytkcldfliiagloaa.M
/-- the model's loop -/
def isGo : Int → List Int → Bool
  | o, [] => o == 0
  | o, d :: r => if o == 0 || !(decide (0 ≤ d) && decide (d ≤ 24)) then false else isGo (o - 1 + d) r
def isTree (ds : List Int) : Bool := decide (1 ≤ ds.length) && decide (ds.length ≤ 24) && isGo 1 ds
/-- the program's loop -/
def imGo (n : Int) : Int → List Int → Bool
  | m, [] => m == 0
  | m, d :: r => if m == 0 || decide (d < 0) || decide (n ≤ d) then false else imGo n (m + (d - 1)) r
theorem isGo_big : ∀ (r : List Int) (o : Int), (r.length : Int) < o → isGo o r = false := by
  intro r
  induction r with
  | nil => intro o h; simp [isGo] at h ⊢; omega
  | cons d r ih =>
    intro o h
    simp only [isGo]
    split
    · rfl
    · rename_i hc
      simp at hc
      simp only [List.length_cons] at h
      exact ih _ (by omega)
theorem im_is (n : Int) (hn : n ≤ 24) : ∀ (r : List Int) (o : Int), 0 ≤ o → (r.length : Int) ≤ n → imGo n o r = isGo o r := by
  intro r
  induction r with
  | nil => intro o _ _; rfl
  | cons d r ih =>
    intro o ho hl
    simp only [List.length_cons] at hl
    simp only [imGo, isGo]
    by_cases h0 : o = 0
    · simp [h0]
    by_cases h1 : d < 0
    · simp [h1, show ¬ 0 ≤ d by omega]
    by_cases h2 : n ≤ d
    · rw [if_pos (by simp [h2])]
      by_cases h3 : d ≤ 24
      · rw [if_neg (by simp [h0, h3]; omega), isGo_big _ _ (by omega)]
      · rw [if_pos (by simp; omega)]
    · rw [if_neg (by simp [h0]; omega), if_neg (by simp [h0]; omega), ih _ (by omega) (by omega)]
      congr 1; omega
theorem drop_at {xs : List Int} {k : Nat} {x : Int} (h : xs[k]? = some x) : xs.drop k = x :: xs.drop (k + 1) := by
  obtain ⟨hk, rfl⟩ := List.getElem?_eq_some_iff.1 h
  exact List.drop_eq_getElem_cons hk
theorem isGo_stop {xs : List Int} {k : Nat} {x o : Int} (h : xs[k]? = some x) (hs : (o == 0 || !(decide (0 ≤ x) && decide (x ≤ 24))) = true) : isGo o (xs.drop k) = false := by
  rw [drop_at h, isGo, if_pos hs]
theorem isGo_step {xs : List Int} {k : Nat} {x o : Int} (h : xs[k]? = some x) (h0 : o ≠ 0) (h1 : 0 ≤ x) (h2 : x ≤ 24) : isGo o (xs.drop k) = isGo (o - 1 + x) (xs.drop (k + 1)) := by
  rw [drop_at h, isGo, if_neg (by simp [h0, h1, h2])]
theorem imGo_stop {n : Int} {xs : List Int} {k : Nat} {x o : Int} (h : xs[k]? = some x) (hs : (o == 0 || decide (x < 0) || decide (n ≤ x)) = true) : imGo n o (xs.drop k) = false := by
  rw [drop_at h, imGo, if_pos hs]
theorem imGo_step {n : Int} {xs : List Int} {k : Nat} {x o : Int} (h : xs[k]? = some x) (h0 : o ≠ 0) (h1 : 0 ≤ x) (h2 : x < n) : imGo n o (xs.drop k) = imGo n (o + (x - 1)) (xs.drop (k + 1)) := by
  rw [drop_at h, imGo, if_neg (by simp [h0]; omega)]
theorem isTree_im {xs : List Int} (h : 1 ≤ xs.length) (h' : xs.length ≤ 24) : isTree xs = imGo xs.length 1 xs := by
  rw [im_is _ (by omega) _ _ (by omega) (by omega)]
  simp [isTree, h, h']
theorem isTree_is {xs : List Int} (h : 1 ≤ xs.length) (h' : xs.length ≤ 24) : isTree xs = isGo 1 xs := by simp [isTree, h, h']
theorem isTree_no {xs : List Int} (h : ¬ (1 ≤ xs.length ∧ xs.length ≤ 24)) : isTree xs = false := by
  simp only [isTree, Bool.and_eq_false_iff, decide_eq_false_iff_not]
  left; omega

/-- a list for a tree, nothing and the code 1 otherwise -/
def cond (xs l : List Int) : List Int × Int := if isTree xs then (l, 0) else ([], 1)
theorem cond_yes {xs l : List Int} (h : isTree xs = true) : cond xs l = (l, 0) := by simp [cond, h]
theorem cond_no {xs l : List Int} (h : isTree xs = false) : cond xs l = ([], 1) := by simp [cond, h]
theorem tree_len {xs : List Int} (h : isTree xs = true) : 1 ≤ xs.length ∧ xs.length ≤ 24 := by
  simp only [isTree, Bool.and_eq_true, decide_eq_true_eq] at h
  exact h.1
/-- the leaves among the first k nodes -/
def leaves (xs : List Int) : Nat → List Int
  | 0 => []
  | k + 1 => leaves xs k ++ (if xs[k]? = some 0 then [(k : Int)] else [])
theorem leaves_len (xs : List Int) : ∀ k, (leaves xs k).length ≤ k := by
  intro k
  induction k with
  | zero => simp [leaves]
  | succ k ih => simp only [leaves, List.length_append]; split <;> simp <;> omega
theorem leaves_hit {xs : List Int} {k : Nat} (h : xs[k]? = some 0) : leaves xs (k + 1) = leaves xs k ++ [(k : Int)] := by simp [leaves, h]
theorem leaves_miss {xs : List Int} {k : Nat} {x : Int} (h : xs[k]? = some x) (hx : x ≠ 0) : leaves xs (k + 1) = leaves xs k := by simp [leaves, h, hx]

/-- the loop from 'open' on stops within the list, over degrees in range -/
def ok : Int → List Int → Prop
  | o, [] => o ≤ 0
  | o, d :: r => o ≤ 0 ∨ (0 ≤ d ∧ d ≤ 24 ∧ ok (o - 1 + d) r)
/-- how many degrees it takes -/
def span : Int → List Int → Nat
  | _, [] => 0
  | o, d :: r => if o ≤ 0 then 0 else span (o - 1 + d) r + 1
theorem isGo_ok : ∀ (l : List Int) (o o' : Int), isGo o l = true → o' ≤ o → ok o' l := by
  intro l
  induction l with
  | nil => intro o o' h ho; simp [isGo] at h; simp only [ok]; omega
  | cons d r ih =>
    intro o o' h ho
    simp only [isGo] at h
    split at h
    · cases h
    · rename_i hc
      simp at hc
      by_cases h0 : o' ≤ 0
      · exact .inl h0
      · exact .inr ⟨hc.2.1, hc.2.2, ih _ _ h (by omega)⟩
theorem isGo_drop {xs : List Int} (h : isGo 1 xs = true) : ∀ v, v ≤ xs.length → ∃ s : Int, 0 ≤ s ∧ isGo s (xs.drop v) = true ∧ (v < xs.length → 1 ≤ s) := by
  intro v
  induction v with
  | zero => intro _; exact ⟨1, by omega, by simpa using h, fun _ => by omega⟩
  | succ v ih =>
    intro hv
    obtain ⟨s, h0, h1, h2⟩ := ih (by omega)
    have hx : xs[v]? = some xs[v] := List.getElem?_eq_getElem (by omega)
    rw [drop_at hx, isGo] at h1
    split at h1
    · cases h1
    · rename_i hc
      simp at hc
      refine ⟨_, ?_, h1, fun hv' => ?_⟩
      · omega
      · rw [drop_at (List.getElem?_eq_getElem hv'), isGo] at h1
        split at h1
        · cases h1
        · rename_i hc'
          simp at hc'
          omega
theorem tree_go {xs : List Int} (h : isTree xs = true) : isGo 1 xs = true := by
  simp only [isTree, Bool.and_eq_true, decide_eq_true_eq] at h
  exact h.2
theorem tree_ok {xs : List Int} (h : isTree xs = true) {v : Nat} (hv : v < xs.length) : ok 1 (xs.drop v) := by
  obtain ⟨s, _, h1, h2⟩ := isGo_drop (tree_go h) v (by omega)
  exact isGo_ok _ _ _ h1 (h2 hv)
theorem span_le : ∀ (l : List Int) (o : Int), span o l ≤ l.length := by
  intro l
  induction l with
  | nil => intro o; simp [span]
  | cons d r ih => intro o; simp only [span]; split <;> simp; exact ih _
theorem span_stop {o : Int} (h : o ≤ 0) (l : List Int) : span o l = 0 := by cases l <;> simp [span, h]
theorem span_step {xs : List Int} {k : Nat} {x o : Int} (h : xs[k]? = some x) (ho : 0 < o) : span o (xs.drop k) = span (o - 1 + x) (xs.drop (k + 1)) + 1 := by
  rw [drop_at h, span, if_neg (by omega)]
theorem ok_step {xs : List Int} {k : Nat} {x o : Int} (h : xs[k]? = some x) (ho : 0 < o) (hk : ok o (xs.drop k)) : 0 ≤ x ∧ x ≤ 24 ∧ ok (o - 1 + x) (xs.drop (k + 1)) := by
  rw [drop_at h] at hk
  rcases hk with hk | hk
  · omega
  · exact hk
theorem ok_in {xs : List Int} {k : Nat} {o : Int} (ho : 0 < o) (hk : ok o (xs.drop k)) : k < xs.length := by
  rcases Nat.lt_or_ge k xs.length with h | h
  · exact h
  · rw [List.drop_of_length_le h] at hk
    simp only [ok] at hk
    omega
/-- the sizes of the first k subtrees -/
def sizes (xs : List Int) (k : Nat) : List Int := (List.range k).map fun v => (span 1 (xs.drop v) : Int)
theorem sizes_len (xs : List Int) (k : Nat) : (sizes xs k).length = k := by simp [sizes]
theorem sizes_succ (xs : List Int) (k : Nat) : sizes xs (k + 1) = sizes xs k ++ [(span 1 (xs.drop k) : Int)] := by simp [sizes, List.range_succ]
theorem sizes_at (xs : List Int) {n k : Nat} (h : k < n) : (sizes xs n)[k]? = some (span 1 (xs.drop k) : Int) := by simp [sizes, h]

/-- the code of numbers that have to be nodes of a tree of n nodes -/
def codeGo (n : Int) : List Int → Int
  | [] => 0
  | v :: r => if v < 0 ∨ n ≤ v then 2 else codeGo n r
def code (xs ns : List Int) : Int := if isTree xs then codeGo xs.length ns else 1
theorem codeGo_hit {n : Int} {ns : List Int} {k : Nat} {v : Int} (h : ns[k]? = some v) (hv : v < 0 ∨ n ≤ v) : codeGo n (ns.drop k) = 2 := by rw [drop_at h, codeGo, if_pos hv]
theorem codeGo_miss {n : Int} {ns : List Int} {k : Nat} {v : Int} (h : ns[k]? = some v) (h0 : 0 ≤ v) (h1 : v < n) : codeGo n (ns.drop k) = codeGo n (ns.drop (k + 1)) := by rw [drop_at h, codeGo, if_neg (by omega)]

theorem code_tree {xs ns : List Int} (h : code xs ns = 0) : isTree xs = true := by
  cases ht : isTree xs
  · simp [code, ht] at h
  · rfl
theorem code_node {xs : List Int} {v : Int} {r : List Int} (h : code xs (v :: r) = 0) : 0 ≤ v ∧ v.toNat < xs.length ∧ code xs r = 0 := by
  have ht := code_tree h
  simp only [code, ht, if_true, codeGo] at h
  split at h
  · cases h
  · refine ⟨by omega, by omega, ?_⟩
    simp only [code, ht, if_true]
    exact h
/-- is v in the subtree of u -/
def below (xs : List Int) (v u : Int) : Bool := decide (u ≤ v) && decide (v < u + (span 1 (xs.drop u.toNat) : Int))
def isBelow (xs : List Int) (v u : Int) : Bool × Int := if code xs [v, u] = 0 then (below xs v u, 0) else (false, code xs [v, u])
theorem isBelow_yes {xs : List Int} {v u : Int} (h : code xs [v, u] = 0) : isBelow xs v u = (below xs v u, 0) := by simp [isBelow, h]
theorem isBelow_no {xs : List Int} {v u : Int} (h : code xs [v, u] ≠ 0) : isBelow xs v u = (false, code xs [v, u]) := by simp [isBelow, h]

/-- the i-th child of a node: the first stands behind the node, the next one behind the subtree of the one before it -/
def kidAt (xs : List Int) (v : Nat) : Nat → Nat
  | 0 => v + 1
  | i + 1 => kidAt xs v i + span 1 (xs.drop (kidAt xs v i))
/-- the sum of what is announced, less the nodes, over a piece of the list -/
def bal : List Int → Int
  | [] => 0
  | d :: r => (d - 1) + bal r
theorem bal_append (a b : List Int) : bal (a ++ b) = bal a + bal b := by
  induction a with
  | nil => simp [bal]
  | cons d r ih => simp only [List.cons_append, bal, ih]; omega
theorem isGo_bal : ∀ (l : List Int) (o : Int), isGo o l = true → o + bal l = 0 := by
  intro l
  induction l with
  | nil => intro o h; simp [isGo] at h; simp [bal, h]
  | cons d r ih =>
    intro o h
    simp only [isGo] at h
    split at h
    · cases h
    · have := ih _ h; simp only [bal]; omega
theorem isGo_pos : ∀ (l : List Int) (o : Int), isGo o l = true → 0 ≤ o → l ≠ [] → 1 ≤ o := by
  intro l o h h0 hl
  cases l with
  | nil => exact absurd rfl hl
  | cons d r =>
    simp only [isGo] at h
    split at h
    · cases h
    · rename_i hc; simp at hc; omega
theorem span_bal : ∀ (l : List Int) (o : Int), 0 ≤ o → ok o l → o + bal (l.take (span o l)) = 0 := by
  intro l
  induction l with
  | nil => intro o h0 h; simp only [ok] at h; simp [span, bal]; omega
  | cons d r ih =>
    intro o h0 h
    by_cases ho : o ≤ 0
    · rw [span_stop ho]; simp [bal]; omega
    · rcases h with h | ⟨h1, h2, h3⟩
      · omega
      · have := ih _ (by omega) h3
        rw [span, if_neg ho, List.take_succ_cons, bal]
        omega
/-- what is due ahead of node v -/
def due (xs : List Int) (v : Nat) : Int := 1 + bal (xs.take v)
theorem due_drop {xs : List Int} (h : isTree xs = true) (v : Nat) : due xs v + bal (xs.drop v) = 0 := by
  have h1 := isGo_bal _ _ (tree_go h)
  have h2 : bal xs = bal (xs.take v) + bal (xs.drop v) := by rw [← bal_append, List.take_append_drop]
  simp only [due]; omega
theorem due_pos {xs : List Int} (h : isTree xs = true) {v : Nat} (hv : v < xs.length) : 1 ≤ due xs v := by
  obtain ⟨s, h0, h1, h2⟩ := isGo_drop (tree_go h) v (by omega)
  have := isGo_bal _ _ h1
  have := due_drop h v
  have := h2 hv
  omega
theorem due_end {xs : List Int} (h : isTree xs = true) : due xs xs.length = 0 := by
  have := due_drop h xs.length
  simpa [bal] using this
theorem due_lt {xs : List Int} (h : isTree xs = true) {v : Nat} (hv : v ≤ xs.length) (hd : 1 ≤ due xs v) : v < xs.length := by
  rcases Nat.lt_or_eq_of_le hv with h1 | h1
  · exact h1
  · subst h1; have := due_end h; omega
theorem due_succ {xs : List Int} {v : Nat} {x : Int} (h : xs[v]? = some x) : due xs (v + 1) = due xs v + (x - 1) := by
  obtain ⟨hv, rfl⟩ := List.getElem?_eq_some_iff.1 h
  simp only [due]
  rw [List.take_succ_eq_append_getElem hv, bal_append]
  simp [bal]
  omega
theorem due_span {xs : List Int} (h : isTree xs = true) {v : Nat} (hv : v < xs.length) : due xs (v + span 1 (xs.drop v)) = due xs v - 1 := by
  have h1 := span_bal _ 1 (by omega) (tree_ok h hv)
  simp only [due]
  rw [List.take_add, bal_append]
  omega
theorem span_pos {xs : List Int} {v : Nat} (hv : v < xs.length) : 1 ≤ span 1 (xs.drop v) := by
  rw [drop_at (List.getElem?_eq_getElem hv), span, if_neg (by omega)]
  omega
theorem end_le {xs : List Int} {v : Nat} (hv : v ≤ xs.length) : v + span 1 (xs.drop v) ≤ xs.length := by
  have := span_le (xs.drop v) 1
  rw [List.length_drop] at this
  omega
theorem tree_deg {xs : List Int} (h : isTree xs = true) {v : Nat} {x : Int} (hx : xs[v]? = some x) : 0 ≤ x ∧ x ≤ 24 := by
  have hv := (List.getElem?_eq_some_iff.1 hx).1
  have := ok_step hx (by omega) (tree_ok h hv)
  exact ⟨this.1, this.2.1⟩
theorem kid_due {xs : List Int} (h : isTree xs = true) {v : Nat} {x : Int} (hx : xs[v]? = some x) : ∀ i : Nat, (i : Int) ≤ x → kidAt xs v i ≤ xs.length ∧ due xs (kidAt xs v i) = due xs v + (x - 1) - i ∧ v < kidAt xs v i := by
  have hv := (List.getElem?_eq_some_iff.1 hx).1
  have hd := due_pos h hv
  intro i
  induction i with
  | zero => intro _; exact ⟨by simp only [kidAt]; omega, by simp only [kidAt]; rw [due_succ hx]; omega, by simp only [kidAt]; omega⟩
  | succ i ih =>
    intro hi
    obtain ⟨h1, h2, h3⟩ := ih (by omega)
    have h4 : kidAt xs v i < xs.length := due_lt h h1 (by rw [h2]; omega)
    refine ⟨by simp only [kidAt]; exact end_le h1, ?_, by simp only [kidAt]; omega⟩
    simp only [kidAt]
    rw [due_span h h4, h2]
    omega
/-- a child lies within the tree -/
theorem kid_lt {xs : List Int} (h : isTree xs = true) {v : Nat} {x : Int} (hx : xs[v]? = some x) {i : Nat} (hi : (i : Int) < x) : kidAt xs v i < xs.length := by
  have hv := (List.getElem?_eq_some_iff.1 hx).1
  obtain ⟨h1, h2, _⟩ := kid_due h hx i (by omega)
  have := due_pos h hv
  exact due_lt h h1 (by rw [h2]; omega)

/-- the children of a node, as numbers -/
def childs (xs : List Int) (v k : Nat) : List Int := (List.range k).map fun i => (kidAt xs v i : Int)
theorem childs_succ (xs : List Int) (v k : Nat) : childs xs v (k + 1) = childs xs v k ++ [(kidAt xs v k : Int)] := by simp [childs, List.range_succ]
theorem childs_length (xs : List Int) (v k : Nat) : (childs xs v k).length = k := by simp [childs]
def childrenOf (xs : List Int) (v : Int) : List Int × Int := if code xs [v] = 0 then (childs xs v.toNat (xs[v.toNat]?.getD 0).toNat, 0) else ([], code xs [v])
theorem childrenOf_yes {xs : List Int} {v d : Nat} (h : code xs [(v : Int)] = 0) (hd : xs[v]? = some (d : Int)) : childrenOf xs v = (childs xs v d, 0) := by simp [childrenOf, h, hd]
theorem childrenOf_no {xs : List Int} {v : Int} (h : code xs [v] ≠ 0) : childrenOf xs v = ([], code xs [v]) := by simp [childrenOf, h]
theorem tree_degN {xs : List Int} (h : isTree xs = true) {v : Nat} (hv : v < xs.length) : ∃ d : Nat, xs[v]? = some (d : Int) ∧ d ≤ 24 := by
  have hx : xs[v]? = some xs[v] := List.getElem?_eq_getElem hv
  have := tree_deg h hx
  exact ⟨xs[v].toNat, by rw [hx]; congr 1; omega, by omega⟩

/-- the degrees of the subtree of a node -/
def sub (xs : List Int) (v : Nat) : List Int := (xs.drop v).take (span 1 (xs.drop v))
theorem sub_length {xs : List Int} (v : Nat) : (sub xs v).length = span 1 (xs.drop v) := by
  have := span_le (xs.drop v) 1
  simp only [sub, List.length_take]
  omega
def subtreeAt (xs : List Int) (v : Int) : List Int × Int := if code xs [v] = 0 then (sub xs v.toNat, 0) else ([], code xs [v])
theorem subtreeAt_yes {xs : List Int} {v : Nat} (h : code xs [(v : Int)] = 0) : subtreeAt xs v = (sub xs v, 0) := by simp [subtreeAt, h]
theorem subtreeAt_no {xs : List Int} {v : Int} (h : code xs [v] ≠ 0) : subtreeAt xs v = ([], code xs [v]) := by simp [subtreeAt, h]

/-- the way down by the places of an address -/
def nodeGo (xs : List Int) : Nat → List Int → Option Nat
  | v, [] => some v
  | v, a :: r => if xs[v]?.getD 0 ≤ a then none else nodeGo xs (kidAt xs v a.toNat) r
def anyNeg (l : List Int) : Bool := l.any fun x => decide (x < 0)
def nodeAt (xs l : List Int) : Int × Int :=
  if isTree xs = false then (0, 1) else if 24 < l.length ∨ anyNeg l = true then (0, 2) else match nodeGo xs 0 l with | none => (0, 4) | some v => ((v : Int), 0)
theorem nodeAt_no {xs l : List Int} (h : isTree xs = false) : nodeAt xs l = (0, 1) := by simp [nodeAt, h]
theorem nodeAt_range {xs l : List Int} (h : isTree xs = true) (h2 : 24 < l.length ∨ anyNeg l = true) : nodeAt xs l = (0, 2) := by simp only [nodeAt, h, if_pos h2]; simp
theorem nodeAt_go {xs l : List Int} (h : isTree xs = true) (h2 : l.length ≤ 24) (h3 : anyNeg l = false) : nodeAt xs l = (match nodeGo xs 0 l with | none => (0, 4) | some v => ((v : Int), 0)) := by
  simp only [nodeAt, h]
  rw [if_neg (by simp), if_neg (by simp [h3]; omega)]
theorem anyNeg_hit {l : List Int} {k : Nat} {x : Int} (h : l[k]? = some x) (hx : x < 0) : anyNeg l = true := by
  simp only [anyNeg, List.any_eq_true]
  obtain ⟨hk, rfl⟩ := List.getElem?_eq_some_iff.1 h
  exact ⟨_, List.getElem_mem hk, by simp [hx]⟩
theorem anyNeg_take {l : List Int} {k : Nat} {x : Int} (h : l[k]? = some x) (hx : 0 ≤ x) (ht : anyNeg (l.take k) = false) : anyNeg (l.take (k + 1)) = false := by
  obtain ⟨hk, rfl⟩ := List.getElem?_eq_some_iff.1 h
  rw [List.take_succ_eq_append_getElem hk, anyNeg, List.any_append]
  simp only [anyNeg] at ht
  simp [ht, hx]
theorem anyNeg_no {l : List Int} (h : anyNeg l = false) {k : Nat} {x : Int} (hx : l[k]? = some x) : 0 ≤ x := by
  rcases Int.lt_or_le x 0 with h1 | h1
  · have := anyNeg_hit hx h1; rw [h] at this; cases this
  · exact h1
theorem nodeGo_miss {xs l : List Int} {v k : Nat} {a : Int} {d : Nat} (h : l[k]? = some a) (hd : xs[v]? = some (d : Int)) (ha : (d : Int) ≤ a) : nodeGo xs v (l.drop k) = none := by
  rw [drop_at h, nodeGo, if_pos (by simp [hd, ha])]
theorem nodeGo_step {xs l : List Int} {v k : Nat} {a : Int} {d : Nat} (h : l[k]? = some a) (hd : xs[v]? = some (d : Int)) (ha : a < (d : Int)) : nodeGo xs v (l.drop k) = nodeGo xs (kidAt xs v a.toNat) (l.drop (k + 1)) := by
  rw [drop_at h, nodeGo, if_neg (by simp [hd]; omega)]
theorem childs_at (xs : List Int) (v : Nat) {k i : Nat} (h : i < k) : (childs xs v k)[i]? = some (kidAt xs v i : Int) := by simp [childs, h]

def cmpI (x y : Int) : Int := if x < y then -1 else if y < x then 1 else 0
/-- the order of lists of one length -/
def cmpL : List Int → List Int → Int
  | x :: r, y :: s => if x < y then -1 else if y < x then 1 else cmpL r s
  | _, _ => 0
theorem cmpI_lt {x y : Int} (h : x < y) : cmpI x y = -1 := by simp [cmpI, h]
theorem cmpI_gt {x y : Int} (h : y < x) : cmpI x y = 1 := by rw [cmpI, if_neg (by omega), if_pos h]
theorem cmpI_eq {x y : Int} (h : x = y) : cmpI x y = 0 := by rw [cmpI, if_neg (by omega), if_neg (by omega)]
theorem cmpL_lt {xs ys : List Int} {k : Nat} {x y : Int} (h : xs[k]? = some x) (h' : ys[k]? = some y) (hl : x < y) : cmpL (xs.drop k) (ys.drop k) = -1 := by
  rw [drop_at h, drop_at h', cmpL, if_pos hl]
theorem cmpL_gt {xs ys : List Int} {k : Nat} {x y : Int} (h : xs[k]? = some x) (h' : ys[k]? = some y) (hl : y < x) : cmpL (xs.drop k) (ys.drop k) = 1 := by
  rw [drop_at h, drop_at h', cmpL, if_neg (by omega), if_pos hl]
theorem cmpL_eq {xs ys : List Int} {k : Nat} {x y : Int} (h : xs[k]? = some x) (h' : ys[k]? = some y) (hl : x = y) : cmpL (xs.drop k) (ys.drop k) = cmpL (xs.drop (k + 1)) (ys.drop (k + 1)) := by
  rw [drop_at h, drop_at h', cmpL, if_neg (by omega), if_neg (by omega)]
theorem cmpL_end {xs ys : List Int} : cmpL (xs.drop xs.length) ys = 0 := by simp [cmpL]
theorem cmpL_swap : ∀ (xs ys : List Int), cmpL ys xs = - cmpL xs ys := by
  intro xs
  induction xs with
  | nil => intro ys; cases ys <;> simp [cmpL]
  | cons x r ih =>
    intro ys
    cases ys with
    | nil => simp [cmpL]
    | cons y s =>
      simp only [cmpL]
      by_cases h1 : x < y
      · rw [if_neg (by omega), if_pos h1, if_pos h1]; rfl
      · by_cases h2 : y < x
        · rw [if_pos h2, if_neg h1, if_pos h2]
        · rw [if_neg h2, if_neg h1, if_neg h1, if_neg h2]; exact ih s
theorem cmpL_range : ∀ (xs ys : List Int), cmpL xs ys = -1 ∨ cmpL xs ys = 0 ∨ cmpL xs ys = 1 := by
  intro xs
  induction xs with
  | nil => intro ys; cases ys <;> simp [cmpL]
  | cons x r ih =>
    intro ys
    cases ys with
    | nil => simp [cmpL]
    | cons y s => simp only [cmpL]; split; simp; split; simp; exact ih s
/-- the order of trees: by their numbers of nodes, then by their degrees -/
def cmpT (xs ys : List Int) : Int := if xs.length = ys.length then cmpL xs ys else cmpI xs.length ys.length
def compareTrees (xs ys : List Int) : Int × Int := if isTree xs = true ∧ isTree ys = true then (cmpT xs ys, 0) else (0, 1)
theorem compareTrees_yes {xs ys : List Int} (h : isTree xs = true) (h' : isTree ys = true) : compareTrees xs ys = (cmpT xs ys, 0) := by simp [compareTrees, h, h']
theorem compareTrees_no1 {xs ys : List Int} (h : isTree xs = false) : compareTrees xs ys = (0, 1) := by simp [compareTrees, h]
theorem compareTrees_no2 {xs ys : List Int} (h : isTree ys = false) : compareTrees xs ys = (0, 1) := by simp [compareTrees, h]
theorem cmpT_swap (xs ys : List Int) : cmpT ys xs = - cmpT xs ys := by
  simp only [cmpT]
  by_cases h : xs.length = ys.length
  · rw [if_pos h, if_pos h.symm, cmpL_swap]
  · rw [if_neg h, if_neg (fun e => h e.symm)]
    simp only [cmpI]
    by_cases h1 : (xs.length : Int) < ys.length
    · rw [if_neg (by omega), if_pos h1, if_pos h1]; rfl
    · rw [if_pos (by omega), if_neg h1, if_pos (by omega)]
theorem cmpT_range (xs ys : List Int) : cmpT xs ys = -1 ∨ cmpT xs ys = 0 ∨ cmpT xs ys = 1 := by
  simp only [cmpT]
  split
  · exact cmpL_range _ _
  · simp only [cmpI]; split; simp; split <;> simp

/-- one byte read: 'ds' the degrees so far, 'st' the nodes that are open -/
def pstep (ds st : List Int) (c : Int) : Option (List Int × List Int) :=
  if c = 40 then
    (if 0 < st.length then some ((ds.set (st[st.length - 1]?.getD 0).toNat ((ds[(st[st.length - 1]?.getD 0).toNat]?.getD 0) + 1)) ++ [0], st ++ [(ds.length : Int)])
     else if ds = [] then some ([0], [0]) else none)
  else if c = 41 then (if 0 < st.length then some (ds, st.dropLast) else none) else none
def prun : List Int → List Int → List Int → Option (List Int × List Int)
  | ds, st, [] => some (ds, st)
  | ds, st, c :: r => match pstep ds st c with | none => none | some (ds', st') => prun ds' st' r
def parse (l : List Int) : List Int × Int :=
  if 48 < l.length then ([], 6) else match prun [] [] l with | some (ds, []) => (if ds = [] then ([], 6) else (ds, 0)) | _ => ([], 6)
theorem prun_step {l ds st ds' st' : List Int} {k : Nat} {c : Int} (h : l[k]? = some c) (hs : pstep ds st c = some (ds', st')) : prun ds st (l.drop k) = prun ds' st' (l.drop (k + 1)) := by
  rw [drop_at h, prun, hs]
theorem prun_fail {l ds st : List Int} {k : Nat} {c : Int} (h : l[k]? = some c) (hs : pstep ds st c = none) : prun ds st (l.drop k) = none := by
  rw [drop_at h, prun, hs]
theorem parse_long {l : List Int} (h : 48 < l.length) : parse l = ([], 6) := by rw [parse, if_pos h]
theorem parse_fail {l : List Int} (h : prun [] [] l = none) : parse l = ([], 6) := by rw [parse, h]; split <;> rfl
theorem parse_open {l ds st : List Int} (h : prun [] [] l = some (ds, st)) (hs : 0 < st.length) : parse l = ([], 6) := by
  rw [parse, h]
  cases st with
  | nil => simp at hs
  | cons a r => split <;> rfl
theorem parse_empty {l : List Int} (h : prun [] [] l = some ([], [])) : parse l = ([], 6) := by rw [parse, h]; split <;> simp
theorem parse_done {l ds : List Int} (hl : l.length ≤ 48) (h : prun [] [] l = some (ds, [])) (hs : ds ≠ []) : parse l = (ds, 0) := by
  rw [parse, if_neg (by omega), h]
  simp [hs]
theorem pstep_open {ds st : List Int} {p : Int} {d : Int} (hp : st[st.length - 1]? = some p) (hd : ds[p.toNat]? = some d) : pstep ds st 40 = some (ds.set p.toNat (d + 1) ++ [0], st ++ [(ds.length : Int)]) := by
  have hl : 0 < st.length := by have := (List.getElem?_eq_some_iff.1 hp).1; omega
  simp [pstep, hl, hp, hd]
theorem pstep_first : pstep [] [] 40 = some ([0], [0]) := by simp [pstep]
theorem pstep_again {ds : List Int} (h : ds ≠ []) : pstep ds [] 40 = none := by simp [pstep, h]
theorem pstep_close {ds st : List Int} (h : 0 < st.length) : pstep ds st 41 = some (ds, st.dropLast) := by simp [pstep, h]
theorem pstep_none {ds : List Int} {c : Int} (h : ds ≠ [] ∨ c ≠ 40) : pstep ds [] c = none := by
  simp only [pstep]
  split
  · rename_i hc; rw [if_neg (by simp), if_neg (by rcases h with h | h; exact h; exact absurd hc h)]
  · split <;> simp
theorem pstep_other {ds st : List Int} {c : Int} (h : c ≠ 40) (h' : c ≠ 41) : pstep ds st c = none := by simp [pstep, h, h']
/-- what holds of a state: the open nodes are nodes; the degrees are small -/
def pgood (k : Nat) (ds st : List Int) : Prop :=
  ds.length ≤ k ∧ st.length ≤ ds.length ∧ (∀ p ∈ st, 0 ≤ p ∧ p.toNat < ds.length) ∧ (∀ d ∈ ds, 0 ≤ d ∧ d ≤ k)
theorem pgood_nil : pgood 0 [] [] := by simp [pgood]
theorem pgood_open {k : Nat} {ds st : List Int} {p d : Int} (h : pgood k ds st) (hd : ds[p.toNat]? = some d) : pgood (k + 1) (ds.set p.toNat (d + 1) ++ [0]) (st ++ [(ds.length : Int)]) := by
  obtain ⟨h1, h2, h3, h4⟩ := h
  refine ⟨by simp; omega, by simp; omega, fun q hq => ?_, fun e he => ?_⟩
  · simp only [List.length_append, List.length_set, List.length_cons, List.length_nil]
    rcases List.mem_append.1 hq with hq | hq
    · have := h3 q hq; omega
    · simp at hq; subst hq; simp
  · rcases List.mem_append.1 he with he | he
    · rcases List.mem_or_eq_of_mem_set he with he | he
      · have := h4 e he; omega
      · obtain ⟨hk, e1⟩ := List.getElem?_eq_some_iff.1 hd
        have := h4 d (e1 ▸ List.getElem_mem hk)
        omega
    · simp at he; subst he; omega
theorem pgood_first : pgood 1 [0] [0] := by simp [pgood]
theorem pgood_close {k : Nat} {ds st : List Int} (h : pgood k ds st) : pgood (k + 1) ds st.dropLast := by
  obtain ⟨h1, h2, h3, h4⟩ := h
  exact ⟨by omega, by simp; omega, fun q hq => h3 q ((List.dropLast_subset _) hq), fun e he => by have := h4 e he; omega⟩
end Go.Proofs.Ytkcldfliiagloaa.M

/- The order by levels as mathematics: nodes met are never more than the tree has, since their subtrees' sizes add up. -/
namespace Go.Proofs.Ytkcldfliiagloaa.M

theorem span_add : ∀ (l : List Int) (a b : Int), (∀ x ∈ l, 0 ≤ x) → 0 ≤ a → 0 ≤ b → span (a + b) l = span a l + span b (l.drop (span a l)) := by
  intro l
  induction l with
  | nil => intro a b _ _ _; simp [span]
  | cons x r ih =>
    intro a b h ha hb
    have hx := h x (by simp)
    by_cases h0 : a ≤ 0
    · obtain rfl : a = 0 := by omega
      rw [span_stop (Int.le_refl 0)]
      simp
    · have e1 : span (a + b) (x :: r) = span (a + b - 1 + x) r + 1 := by rw [span, if_neg (by omega)]
      have e2 : span a (x :: r) = span (a - 1 + x) r + 1 := by rw [span, if_neg (by omega)]
      have e3 : a + b - 1 + x = (a - 1 + x) + b := by omega
      rw [e1, e2, e3, ih _ _ (fun y hy => h y (by simp [hy])) (by omega) hb]
      simp only [List.drop_succ_cons]
      omega

theorem tree_nonneg {xs : List Int} (h : isTree xs = true) : ∀ x ∈ xs, 0 ≤ x := by
  intro x hx
  obtain ⟨i, hi, e⟩ := List.getElem_of_mem hx
  exact (tree_deg h (v := i) (x := x) (by rw [List.getElem?_eq_getElem hi, e])).1

theorem kid_span {xs : List Int} (h : isTree xs = true) (v : Nat) : ∀ k : Nat, kidAt xs v k = v + 1 + span k (xs.drop (v + 1)) := by
  intro k
  induction k with
  | zero => simp only [kidAt]; rw [span_stop (by simp)]
  | succ k ih =>
    simp only [kidAt]
    have e := span_add (xs.drop (v + 1)) k 1 (fun x hx => tree_nonneg h x (List.mem_of_mem_drop hx)) (by omega) (by omega)
    rw [List.drop_drop] at e
    have e2 : ((k + 1 : Nat) : Int) = (k : Int) + 1 := by omega
    rw [ih, e2, e]
    omega

theorem kid_end {xs : List Int} (h : isTree xs = true) {v d : Nat} (hd : xs[v]? = some (d : Int)) : kidAt xs v d = v + span 1 (xs.drop v) := by
  rw [kid_span h, span_step hd (by omega)]
  have e : (1 : Int) - 1 + d = d := by omega
  rw [e]
  omega

def szs (xs l : List Int) : Nat := (l.map fun v => span 1 (xs.drop v.toNat)).sum
theorem szs_append (xs a b : List Int) : szs xs (a ++ b) = szs xs a + szs xs b := by simp [szs]
theorem szs_childs (xs : List Int) (v k : Nat) : v + 1 + szs xs (childs xs v k) = kidAt xs v k := by
  induction k with
  | zero => simp [childs, szs, kidAt]
  | succ k ih =>
    rw [childs_succ, szs_append]
    simp only [kidAt]
    have : szs xs [(kidAt xs v k : Int)] = span 1 (xs.drop (kidAt xs v k)) := by simp [szs]
    omega
theorem szs_len {xs : List Int} : ∀ l : List Int, (∀ v ∈ l, 0 ≤ v ∧ v.toNat < xs.length) → l.length ≤ szs xs l := by
  intro l
  induction l with
  | nil => intro _; simp
  | cons a r ih =>
    intro h
    have h1 := ih (fun v hv => h v (by simp [hv]))
    have h2 := span_pos (xs := xs) (h a (by simp)).2
    simp only [szs, List.map_cons, List.sum_cons, List.length_cons] at *
    omega

def lev (xs : List Int) : Nat → List Int → Nat → List Int
  | 0, out, _ => out
  | f + 1, out, i => match out[i]? with
    | none => out
    | some v => lev xs f (out ++ childs xs v.toNat (xs[v.toNat]?.getD 0).toNat) (i + 1)
def level (xs : List Int) : List Int := lev xs xs.length [0] 0
def lgood (xs : List Int) (i : Nat) (out : List Int) : Prop := i ≤ out.length ∧ i + szs xs (out.drop i) = xs.length ∧ ∀ v ∈ out, 0 ≤ v ∧ v.toNat < xs.length

theorem lgood_len {xs out : List Int} {i : Nat} (h : lgood xs i out) : out.length ≤ xs.length := by
  obtain ⟨h1, h2, h3⟩ := h
  have := szs_len (xs := xs) (out.drop i) (fun v hv => h3 v (List.mem_of_mem_drop hv))
  simp only [List.length_drop] at this
  omega
theorem childs_in {xs : List Int} (h : isTree xs = true) {v d : Nat} (hd : xs[v]? = some (d : Int)) : ∀ u ∈ childs xs v d, 0 ≤ u ∧ u.toNat < xs.length := by
  intro u hu
  simp only [childs, List.mem_map, List.mem_range] at hu
  obtain ⟨i, hi, rfl⟩ := hu
  exact ⟨by omega, by simpa using kid_lt h hd (i := i) (by omega)⟩
theorem lgood_step {xs out : List Int} {i v d : Nat} (ht : isTree xs = true) (h : lgood xs i out) (hv : out[i]? = some (v : Int)) (hd : xs[v]? = some (d : Int)) : lgood xs (i + 1) (out ++ childs xs v d) := by
  obtain ⟨h1, h2, h3⟩ := h
  have hi := (List.getElem?_eq_some_iff.1 hv).1
  refine ⟨by simp; omega, ?_, fun u hu => ?_⟩
  · rw [List.drop_append_of_le_length (by omega), szs_append]
    rw [drop_at hv] at h2
    have e1 : szs xs ((v : Int) :: out.drop (i + 1)) = span 1 (xs.drop v) + szs xs (out.drop (i + 1)) := by simp [szs]
    have e2 := szs_childs xs v d
    have e3 := kid_end ht hd
    omega
  · rcases List.mem_append.1 hu with hu | hu
    · exact h3 u hu
    · exact childs_in ht hd u hu
theorem lgood_start {xs : List Int} (ht : isTree xs = true) : lgood xs 0 [0] := by
  have hl := (tree_len ht).1
  refine ⟨by simp, ?_, fun v hv => by simp at hv; subst hv; simp; omega⟩
  have h0 : due xs 0 = 1 := by simp [due, bal]
  have h1 := due_span ht (v := 0) hl
  have h2 := end_le (xs := xs) (v := 0) (by omega)
  simp only [List.drop_zero, Nat.zero_add] at h1 h2
  have h3 : ¬ span 1 xs < xs.length := fun hlt => by have := due_pos ht hlt; omega
  simp [szs]
  omega
theorem lev_step {xs out : List Int} {n i v d : Nat} (hn : i < n) (hv : out[i]? = some (v : Int)) (hd : xs[v]? = some (d : Int)) : lev xs (n - i) out i = lev xs (n - (i + 1)) (out ++ childs xs v d) (i + 1) := by
  have e : n - i = (n - (i + 1)) + 1 := by omega
  rw [e, lev, hv]
  simp [hd]
theorem lev_end {xs out : List Int} {f i : Nat} (h : out.length ≤ i) : lev xs f out i = out := by
  cases f with
  | zero => rfl
  | succ f => rw [lev, List.getElem?_eq_none h]
theorem lev_len {xs : List Int} (ht : isTree xs = true) : ∀ (f : Nat) (out : List Int) (i : Nat), lgood xs i out → (lev xs f out i).length ≤ xs.length := by
  intro f
  induction f with
  | zero => intro out i h; exact lgood_len h
  | succ f ih =>
    intro out i h
    rw [lev]
    split
    · exact lgood_len h
    · rename_i v hv
      obtain ⟨h0, h1⟩ := h.2.2 v (List.mem_of_getElem? hv)
      obtain ⟨n, rfl⟩ := Int.eq_ofNat_of_zero_le h0
      obtain ⟨d, hd, _⟩ := tree_degN ht h1
      simp only [Int.toNat_natCast] at hd h1 ⊢
      rw [hd]
      exact ih _ _ (by simpa using lgood_step ht h hv hd)
end Go.Proofs.Ytkcldfliiagloaa.M

/- Parents and meets as mathematics: subtrees are nested, each node but the root is a child of one node, and the meet is the greatest node that has both below it. -/
namespace Go.Proofs.Ytkcldfliiagloaa.M

def fin (xs : List Int) (v : Nat) : Nat := v + span 1 (xs.drop v)
theorem span_min : ∀ (l : List Int) (o : Int) (k : Nat), k < span o l → 1 ≤ o + bal (l.take k) := by
  intro l
  induction l with
  | nil => intro o k h; simp [span] at h
  | cons x r ih =>
    intro o k h
    rw [span] at h
    split at h
    · omega
    · cases k with
      | zero => simp only [List.take_zero, bal]; omega
      | succ k =>
        have := ih (o - 1 + x) k (by omega)
        simp only [List.take_succ_cons, bal]
        omega
theorem due_in {xs : List Int} {v q : Nat} (h1 : v ≤ q) (h2 : q < fin xs v) : due xs v ≤ due xs q := by
  have h := span_min (xs.drop v) 1 (q - v) (by simp only [fin] at h2; omega)
  have e : xs.take q = xs.take v ++ (xs.drop v).take (q - v) := by
    have := List.take_add (l := xs) (i := v) (j := q - v)
    rw [← this]
    congr 1
    omega
  simp only [due]
  rw [e, bal_append]
  omega
theorem fin_gt {xs : List Int} {v : Nat} (h : v < xs.length) : v < fin xs v := by have := span_pos h; simp only [fin]; omega
theorem fin_le {xs : List Int} {v : Nat} (h : v ≤ xs.length) : fin xs v ≤ xs.length := end_le h
theorem fin_root {xs : List Int} (ht : isTree xs = true) : fin xs 0 = xs.length := by
  have := (lgood_start ht).2.1
  simpa [szs, fin] using this
theorem nest {xs : List Int} (ht : isTree xs = true) {v q : Nat} (hv : v < xs.length) (h1 : v ≤ q) (h2 : q < fin xs v) : fin xs q ≤ fin xs v := by
  have hl := fin_le (xs := xs) (v := v) (by omega)
  rcases Nat.lt_or_ge (fin xs v) (fin xs q) with h | h
  · have e1 := due_in (xs := xs) (v := q) (q := fin xs v) (by omega) h
    have e2 := due_span ht hv
    have e3 := due_in h1 h2
    simp only [fin] at e1
    omega
  · exact h
theorem kid_le {xs : List Int} {v i j : Nat} (h : i ≤ j) : kidAt xs v i ≤ kidAt xs v j := by
  induction j with
  | zero => obtain rfl : i = 0 := by omega
            exact Nat.le_refl _
  | succ j ih =>
    rcases Nat.lt_or_ge i (j + 1) with h1 | h1
    · have := ih (by omega)
      simp only [kidAt]
      omega
    · obtain rfl : i = j + 1 := by omega
      exact Nat.le_refl _
theorem kid_tile {xs : List Int} {v at_ : Nat} (h : v < at_) : ∀ i, at_ < kidAt xs v i → ∃ j, j < i ∧ kidAt xs v j ≤ at_ ∧ at_ < kidAt xs v (j + 1) := by
  intro i
  induction i with
  | zero => intro h1; simp only [kidAt] at h1; omega
  | succ i ih =>
    intro h1
    rcases Nat.lt_or_ge at_ (kidAt xs v i) with h2 | h2
    · obtain ⟨j, hj, h3⟩ := ih h2
      exact ⟨j, by omega, h3⟩
    · exact ⟨i, by omega, h2, h1⟩
def IsKid (xs : List Int) (u c : Nat) : Prop := ∃ (d : Nat) (i : Nat), xs[u]? = some (d : Int) ∧ i < d ∧ kidAt xs u i = c
theorem kid_bounds {xs : List Int} (ht : isTree xs = true) {u c : Nat} (h : IsKid xs u c) : u < c ∧ c < fin xs u ∧ c < xs.length := by
  obtain ⟨d, i, hd, hi, rfl⟩ := h
  have h1 := kid_due ht hd i (by omega)
  have h2 := kid_lt ht hd (i := i) (by omega)
  have h3 := kid_end ht hd
  have h4 := kid_le (xs := xs) (v := u) (i := i + 1) (j := d) (by omega)
  have h5 := span_pos h2
  simp only [kidAt] at h4
  simp only [fin]
  omega
theorem kid_up {xs : List Int} (ht : isTree xs = true) {p c r : Nat} (h : IsKid xs p c) (h1 : r < c) (h2 : c < fin xs r) : r ≤ p := by
  obtain ⟨hb1, hb2, hb3⟩ := kid_bounds ht h
  rcases Nat.lt_or_ge p r with hlt | hge
  · obtain ⟨d, i, hd, hi, hk⟩ := h
    have he := kid_end ht hd
    obtain ⟨j, hj, hj1, hj2⟩ := kid_tile (xs := xs) (v := p) (at_ := r) hlt d (by simp only [fin] at hb2; omega)
    have hjl := kid_lt ht hd (i := j) (by omega)
    have hn := nest ht hjl hj1 (by simp only [kidAt] at hj2; exact hj2)
    have hn2 : fin xs (kidAt xs p j) = kidAt xs p (j + 1) := by simp only [fin, kidAt]
    rcases Nat.lt_or_ge i (j + 1) with hij | hij
    · have := kid_le (xs := xs) (v := p) (i := i) (j := j) (by omega)
      omega
    · have := kid_le (xs := xs) (v := p) (i := j + 1) (j := i) hij
      omega
  · exact hge
theorem kid_unique {xs : List Int} (ht : isTree xs = true) {p q c : Nat} (h : IsKid xs p c) (h' : IsKid xs q c) : p = q := by
  have a := kid_bounds ht h
  have b := kid_bounds ht h'
  have := kid_up ht h b.1 b.2.1
  have := kid_up ht h' a.1 a.2.1
  omega
theorem kid_exists {xs : List Int} (ht : isTree xs = true) {c : Nat} (hc : c < xs.length) : ∀ (m u : Nat), c - u ≤ m → u < c → c < fin xs u → ∃ p, IsKid xs p c := by
  intro m
  induction m with
  | zero => intro u h1 h2; omega
  | succ m ih =>
    intro u h1 h2 h3
    obtain ⟨d, hd, _⟩ := tree_degN ht (v := u) (by omega)
    have he := kid_end ht hd
    obtain ⟨j, hj, hj1, hj2⟩ := kid_tile (xs := xs) h2 d (by simp only [fin] at h3; omega)
    rcases Nat.lt_or_ge (kidAt xs u j) c with h4 | h4
    · have h5 := (kid_due ht hd j (by omega)).2.2
      exact ih (kidAt xs u j) (by omega) h4 (by simp only [kidAt] at hj2; exact hj2)
    · exact ⟨u, d, j, hd, hj, by omega⟩
theorem kid_has {xs : List Int} (ht : isTree xs = true) {c : Nat} (h0 : 0 < c) (hc : c < xs.length) : ∃ p, IsKid xs p c :=
  kid_exists ht hc c 0 (by omega) h0 (by rw [fin_root ht]; exact hc)

/-- v stands at u or below it -/
def bel (xs : List Int) (v u : Nat) : Bool := decide (u ≤ v) && decide (v < fin xs u)
theorem bel_iff {xs : List Int} {v u : Nat} : bel xs v u = true ↔ u ≤ v ∧ v < fin xs u := by simp [bel]
def meetDown (xs : List Int) (v w : Nat) : Nat → Nat
  | 0 => 0
  | u + 1 => if bel xs v (u + 1) && bel xs w (u + 1) then u + 1 else meetDown xs v w u
theorem meetDown_hit {xs : List Int} {v w u : Nat} (h : (bel xs v u && bel xs w u) = true) : meetDown xs v w u = u := by
  cases u with
  | zero => rfl
  | succ u => rw [meetDown, if_pos h]
theorem meetDown_miss {xs : List Int} {v w u : Nat} (h : (bel xs v (u + 1) && bel xs w (u + 1)) = false) : meetDown xs v w (u + 1) = meetDown xs v w u := by rw [meetDown, if_neg (by simp [h])]
theorem meetDown_le (xs : List Int) (v w : Nat) : ∀ u, meetDown xs v w u ≤ u := by
  intro u
  induction u with
  | zero => exact Nat.le_refl _
  | succ u ih => rw [meetDown]; split <;> omega
theorem meetDown_bel {xs : List Int} (ht : isTree xs = true) {v w : Nat} (hv : v < xs.length) (hw : w < xs.length) : ∀ u, bel xs v (meetDown xs v w u) = true ∧ bel xs w (meetDown xs v w u) = true := by
  intro u
  induction u with
  | zero => simp only [meetDown, bel_iff, fin_root ht]; omega
  | succ u ih =>
    rw [meetDown]
    split
    · rename_i h; simpa using h
    · exact ih
theorem meetDown_max {xs : List Int} {v w : Nat} : ∀ u r, r ≤ u → bel xs v r = true → bel xs w r = true → r ≤ meetDown xs v w u := by
  intro u
  induction u with
  | zero => intro r h _ _; omega
  | succ u ih =>
    intro r h h1 h2
    rcases Nat.lt_or_ge r (u + 1) with h3 | h3
    · have := ih r (by omega) h1 h2
      rw [meetDown]
      split <;> omega
    · obtain rfl : r = u + 1 := by omega
      rw [meetDown_hit (by simp [h1, h2])]
      exact Nat.le_refl _
def meet (xs : List Int) (v w : Nat) : Nat := meetDown xs v w (min v w)
/-- the model's walk: at the stop -/
theorem meet_stop {xs : List Int} {v w a : Nat} (h1 : bel xs v a = true) (h2 : bel xs w a = true) (h3 : meet xs v w ≤ a) : a = meet xs v w := by
  have b1 := bel_iff.1 h1
  have b2 := bel_iff.1 h2
  have := meetDown_max (xs := xs) (v := v) (w := w) (min v w) a (by omega) h1 h2
  simp only [meet] at *
  omega
/-- the model's walk: a step to the parent -/
theorem meet_step {xs : List Int} (ht : isTree xs = true) {v w a p : Nat} (hv : v < xs.length) (hw : w < xs.length) (h1 : bel xs v a = true) (h2 : bel xs w a = false) (h3 : meet xs v w ≤ a) (hp : IsKid xs p a) :
    bel xs v p = true ∧ meet xs v w ≤ p := by
  obtain ⟨m1, m2⟩ := meetDown_bel ht hv hw (min v w)
  have b1 := bel_iff.1 h1
  have hb := kid_bounds ht hp
  have hn := nest ht (v := p) (q := a) (by omega) (by omega) hb.2.1
  refine ⟨bel_iff.2 (by omega), ?_⟩
  have hm : meet xs v w ≠ a := fun e => by
    rw [← e] at h2
    simp only [meet] at h2
    rw [m2] at h2
    cases h2
  have b2 := bel_iff.1 m1
  exact kid_up ht hp (by omega) (by simp only [meet]; omega)
theorem meet_start {xs : List Int} {v w : Nat} (hv : v < xs.length) : bel xs v v = true ∧ meet xs v w ≤ v := by
  have := meetDown_le xs v w (min v w)
  have h2 := fin_gt hv
  exact ⟨bel_iff.2 ⟨Nat.le_refl _, h2⟩, by simp only [meet]; omega⟩
end Go.Proofs.Ytkcldfliiagloaa.M

/- Growing orders as mathematics: lists of all nodes, each once; orders in which parents come first; labels. No conditions. -/
namespace Go.Proofs.Ytkcldfliiagloaa.M

/-- the numbers below n, each once -/
def isOrd (n : Nat) (l : List Int) : Bool := decide (l.length = n ∧ l.Nodup ∧ ∀ x ∈ l, 0 ≤ x ∧ x < (n : Int))
theorem isOrd_iff {n : Nat} {l : List Int} : isOrd n l = true ↔ l.length = n ∧ l.Nodup ∧ ∀ x ∈ l, 0 ≤ x ∧ x < (n : Int) := by simp [isOrd]
/-- what the first k ones are, if nothing was wrong -/
def OrdTo (n : Nat) (l : List Int) (k : Nat) : Prop := (l.take k).Nodup ∧ ∀ x ∈ l.take k, 0 ≤ x ∧ x < (n : Int)
theorem ordTo_zero (n : Nat) (l : List Int) : OrdTo n l 0 := by simp [OrdTo]
theorem take_add_one {l : List Int} {k : Nat} {x : Int} (hx : l[k]? = some x) : l.take (k + 1) = l.take k ++ [x] := by
  rw [List.take_add_one, hx]; rfl
theorem ordTo_step {n : Nat} {l : List Int} {k : Nat} {x : Int} (h : OrdTo n l k) (hx : l[k]? = some x) (h0 : 0 ≤ x) (h1 : x < (n : Int)) (hm : x ∉ l.take k) : OrdTo n l (k + 1) := by
  obtain ⟨a, b⟩ := h
  rw [OrdTo, take_add_one hx]
  refine ⟨List.nodup_append.2 ⟨a, by simp, ?_⟩, ?_⟩
  · intro y hy z hz
    simp only [List.mem_singleton] at hz
    subst hz
    exact fun e => hm (e ▸ hy)
  · intro y hy
    rcases List.mem_append.1 hy with h | h
    · exact b y h
    · simp only [List.mem_singleton] at h
      subst h
      exact ⟨h0, h1⟩
theorem isOrd_end {n : Nat} {l : List Int} (h : OrdTo n l l.length) : isOrd n l = decide (l.length = n) := by
  rw [OrdTo, List.take_length] at h
  by_cases e : l.length = n
  · rw [decide_eq_true e]; exact isOrd_iff.2 ⟨e, h⟩
  · rw [decide_eq_false e]; exact Bool.eq_false_iff.2 fun h' => e (isOrd_iff.1 h').1
theorem isOrd_out {n : Nat} {l : List Int} {k : Nat} {x : Int} (hx : l[k]? = some x) (h : ¬ (0 ≤ x ∧ x < (n : Int))) : isOrd n l = false :=
  Bool.eq_false_iff.2 fun h' => h ((isOrd_iff.1 h').2.2 x (List.mem_of_getElem? hx))
theorem isOrd_twice {n : Nat} {l : List Int} {k : Nat} {x : Int} (hx : l[k]? = some x) (h : x ∈ l.take k) : isOrd n l = false :=
  Bool.eq_false_iff.2 fun h' => by
    have hn := (isOrd_iff.1 h').2.1
    have e : l = l.take k ++ l.drop k := (List.take_append_drop k l).symm
    rw [e] at hn
    have hk : k < l.length := (List.getElem?_eq_some_iff.1 hx).1
    refine (List.nodup_append.1 hn).2.2 x h x ?_ rfl
    exact List.mem_of_getElem? (i := 0) (by rw [List.getElem?_drop]; simpa using hx)
theorem isOrd_len {n : Nat} {l : List Int} (h : l.length ≠ n) : isOrd n l = false := Bool.eq_false_iff.2 fun h' => h (isOrd_iff.1 h').1

/-- the numbers from 0 on -/
def iota (n : Nat) : List Int := (List.range n).map fun v : Nat => (v : Int)
theorem iota_len (n : Nat) : (iota n).length = n := by simp [iota]
theorem iota_at {n i : Nat} (h : i < n) : (iota n)[i]? = some (i : Int) := by simp [iota, h]
theorem mem_iota {n : Nat} {x : Int} : x ∈ iota n ↔ 0 ≤ x ∧ x < (n : Int) := by
  simp only [iota, List.mem_map, List.mem_range]
  constructor
  · rintro ⟨a, h, rfl⟩; omega
  · rintro ⟨h0, h1⟩; exact ⟨x.toNat, by omega, by omega⟩
theorem iota_nodup (n : Nat) : (iota n).Nodup := by
  refine List.pairwise_map.2 ?_
  refine (List.nodup_range (n := n)).imp ?_
  intro a b h e
  exact h (by omega)
/-- an ascending list of n different numbers below n is the list of all of them -/
theorem asc_low : ∀ (l : List Int) (a : Int), l.Pairwise (· < ·) → (∀ x ∈ l, a ≤ x) → ∀ (i : Nat) x, l[i]? = some x → a + (i : Int) ≤ x := by
  intro l
  induction l with
  | nil => intro a _ _ i x h; simp at h
  | cons y r ih =>
    intro a hp ha i x hx
    obtain ⟨h1, h2⟩ := List.pairwise_cons.1 hp
    cases i with
    | zero =>
      simp only [List.getElem?_cons_zero] at hx
      injection hx with hx
      subst hx
      have := ha y (by simp)
      omega
    | succ i =>
      simp only [List.getElem?_cons_succ] at hx
      have := ih (a + 1) h2 (fun z hz => by have := h1 z hz; have := ha y (by simp); omega) i x hx
      omega
theorem asc_up : ∀ (l : List Int) (b : Int), l.Pairwise (· < ·) → (∀ x ∈ l, x < b) → ∀ (i : Nat) x, l[i]? = some x → x + (l.length : Int) ≤ b + (i : Int) := by
  intro l
  induction l with
  | nil => intro a _ _ i x h; simp at h
  | cons y r ih =>
    intro b hp hb i x hx
    obtain ⟨h1, h2⟩ := List.pairwise_cons.1 hp
    have hy := hb y (by simp)
    cases i with
    | zero =>
      simp only [List.getElem?_cons_zero] at hx
      injection hx with hx
      subst hx
      cases hr : r with
      | nil => simp; omega
      | cons z r' =>
        have h3 := ih b h2 (fun z hz => hb z (by simp [hz])) 0 z (by rw [hr]; rfl)
        have h4 := h1 z (by rw [hr]; simp)
        rw [hr] at h3
        simp only [List.length_cons] at h3 ⊢
        omega
    | succ i =>
      simp only [List.getElem?_cons_succ] at hx
      have := ih b h2 (fun z hz => hb z (by simp [hz])) i x hx
      simp only [List.length_cons]
      omega
theorem asc_iota {l : List Int} {n : Nat} (hl : l.length = n) (hp : l.Pairwise (· < ·)) (hr : ∀ x ∈ l, 0 ≤ x ∧ x < (n : Int)) : l = iota n := by
  refine List.ext_getElem? fun i => ?_
  rcases Nat.lt_or_ge i n with hi | hi
  · have hx : l[i]? = some l[i] := List.getElem?_eq_getElem (by omega)
    have h1 := asc_low l 0 hp (fun x hx => (hr x hx).1) i _ hx
    have h2 := asc_up l n hp (fun x hx => (hr x hx).2) i _ hx
    rw [iota_at hi, hx]
    congr 1
    omega
  · rw [List.getElem?_eq_none (by omega), List.getElem?_eq_none (by rw [iota_len]; omega)]
/-- the list in ascending order -/
def sorted (l : List Int) : List Int := l.mergeSort (fun x y => decide (x ≤ y))
theorem sorted_len (l : List Int) : (sorted l).length = l.length := List.length_mergeSort _
theorem sorted_perm (l : List Int) : (sorted l).Perm l := List.mergeSort_perm _ _
theorem sorted_iff {n : Nat} {l : List Int} (hl : l.length = n) : sorted l = iota n ↔ isOrd n l = true := by
  have hp := sorted_perm l
  constructor
  · intro h
    rw [h] at hp
    refine isOrd_iff.2 ⟨hl, hp.nodup (iota_nodup n), fun x hx => mem_iota.1 (hp.mem_iff.2 hx)⟩
  · intro h
    obtain ⟨_, h1, h2⟩ := isOrd_iff.1 h
    have hs : (sorted l).Pairwise (fun a b => decide (a ≤ b) = true) := List.pairwise_mergeSort (le := fun x y => decide (x ≤ y)) (fun a b c h1 h2 => by simp at *; omega) (fun a b => by simp; omega) l
    have hn : (sorted l).Nodup := hp.symm.nodup h1
    refine asc_iota (by rw [sorted_len, hl]) ?_ fun x hx => h2 x (hp.mem_iff.1 hx)
    have := hs.and hn
    exact this.imp fun {a b} h => by have h3 := of_decide_eq_true h.1; have h4 := h.2; omega

/-- the parent of a node, as the row of parents tells it -/
def parOf (ps : List Int) (v : Int) : Int := ps[v.toNat]?.getD (-1)
/-- each of the first k nodes comes behind its parent -/
def GrowTo (ps l : List Int) (k : Nat) : Prop := ∀ (i : Nat) x, i < k → l[i]? = some x → parOf ps x < 0 ∨ parOf ps x ∈ l.take i
open Classical in
noncomputable def grows (ps l : List Int) : Bool := decide (GrowTo ps l l.length)
theorem grows_iff {ps l : List Int} : grows ps l = true ↔ GrowTo ps l l.length := by simp [grows]
theorem growTo_zero (ps l : List Int) : GrowTo ps l 0 := fun i x h => by omega
theorem growTo_step {ps l : List Int} {k : Nat} {x : Int} (h : GrowTo ps l k) (hx : l[k]? = some x) (hm : parOf ps x < 0 ∨ parOf ps x ∈ l.take k) : GrowTo ps l (k + 1) := fun i y hi hy => by
  rcases Nat.lt_or_ge i k with h1 | h1
  · exact h i y h1 hy
  · obtain rfl : i = k := by omega
    rw [hx] at hy
    injection hy with hy
    subst hy
    exact hm
theorem grows_not {ps l : List Int} {k : Nat} {x : Int} (hx : l[k]? = some x) (h0 : 0 ≤ parOf ps x) (hm : parOf ps x ∉ l.take k) : grows ps l = false :=
  Bool.eq_false_iff.2 fun h => by
    rcases grows_iff.1 h k x (List.getElem?_eq_some_iff.1 hx).1 hx with h1 | h1
    · omega
    · exact hm h1

/-- the labels that the first k places give; 0 where there is none -/
def labTo (n : Nat) (l : List Int) (k : Nat) : List Int := (List.range n).map fun v : Nat => if (v : Int) ∈ l.take k then (l.idxOf (v : Int) : Int) else 0
theorem labTo_len (n : Nat) (l : List Int) (k : Nat) : (labTo n l k).length = n := by simp [labTo]
theorem labTo_zero (n : Nat) (l : List Int) : labTo n l 0 = List.replicate n 0 := by simp [labTo, List.map_const']
theorem idxOf_at {l : List Int} (hn : l.Nodup) {k : Nat} {x : Int} (hx : l[k]? = some x) : l.idxOf x = k := by
  obtain ⟨h1, h2⟩ := List.getElem?_eq_some_iff.1 hx
  have hm : x ∈ l := List.mem_of_getElem? hx
  have h3 : l.idxOf x < l.length := List.idxOf_lt_length_of_mem hm
  have h4 : l[l.idxOf x] = x := List.getElem_idxOf h3
  exact (List.getElem_inj (h₀ := h3) (h₁ := h1) hn).1 (by rw [h4, h2])
theorem labTo_step {n : Nat} {l : List Int} (h : isOrd n l = true) {k v : Nat} (hx : l[k]? = some (v : Int)) : (labTo n l k).set v (k : Int) = labTo n l (k + 1) := by
  obtain ⟨hl, hn, hr⟩ := isOrd_iff.1 h
  have hv := (hr _ (List.mem_of_getElem? hx)).2
  refine List.ext_getElem? fun i => ?_
  rcases Nat.lt_or_ge i n with hi | hi
  · rw [List.getElem?_set]
    simp only [labTo, List.length_map, List.length_range, List.getElem?_map, List.getElem?_range hi, Option.map_some]
    rw [take_add_one hx]
    by_cases hvi : v = i
    · subst hvi
      rw [if_pos rfl, if_pos hi, if_pos (by simp), idxOf_at hn hx]
    · rw [if_neg hvi]
      congr 1
      have : (i : Int) ≠ (v : Int) := by omega
      simp [this]
  · rw [List.getElem?_eq_none (by simp [labTo]; omega), List.getElem?_eq_none (by rw [labTo_len]; omega)]
def labs (n : Nat) (l : List Int) : List Int := labTo n l l.length
/-- a list of all numbers below n has each of them -/
theorem ord_has {n : Nat} {l : List Int} (h : isOrd n l = true) {v : Nat} (hv : v < n) : (v : Int) ∈ l := by
  have := (sorted_iff (isOrd_iff.1 h).1).2 h
  have hm : (v : Int) ∈ sorted l := by rw [this]; exact mem_iota.2 (by omega)
  exact (sorted_perm l).mem_iff.1 hm
theorem labs_at {n : Nat} {l : List Int} (h : isOrd n l = true) {v : Nat} (hv : v < n) : (labs n l)[v]? = some (l.idxOf (v : Int) : Int) := by
  have hm := ord_has h hv
  simp [labs, labTo, hv, hm]
/-- parents and labels: the order grows if no label of a node is less than its parent's -/
def LabOK (n : Nat) (ps l : List Int) (k : Nat) : Prop := ∀ v, 1 ≤ v → v < k → v < n → l.idxOf (parOf ps (v : Int)) ≤ l.idxOf (v : Int)
theorem idxOf_le {x : Int} : ∀ {l : List Int} {i : Nat}, l[i]? = some x → l.idxOf x ≤ i := by
  intro l
  induction l with
  | nil => intro i h; simp at h
  | cons y r ih =>
    intro i h
    rw [List.idxOf_cons]
    cases i with
    | zero =>
      simp only [List.getElem?_cons_zero] at h
      injection h with h
      subst h
      simp
    | succ i =>
      simp only [List.getElem?_cons_succ] at h
      have := ih h
      cases hb : y == x
      · simp; omega
      · simp
theorem mem_take_idx {l : List Int} {x : Int} {k : Nat} (hx : x ∈ l) : x ∈ l.take k ↔ l.idxOf x < k := by
  have h3 : l.idxOf x < l.length := List.idxOf_lt_length_of_mem hx
  have h4 : l[l.idxOf x]? = some x := by rw [List.getElem?_eq_getElem h3, List.getElem_idxOf h3]
  constructor
  · intro h
    rcases Nat.lt_or_ge (l.idxOf x) k with h5 | h5
    · exact h5
    · exfalso
      obtain ⟨i, hi⟩ := List.mem_iff_getElem?.1 h
      have hik : i < k := by
        have := (List.getElem?_eq_some_iff.1 hi).1
        rw [List.length_take] at this
        omega
      rw [List.getElem?_take_of_lt hik] at hi
      have := idxOf_le hi
      omega
  · intro h
    exact List.mem_of_getElem? (by rw [List.getElem?_take_of_lt h]; exact h4)
theorem grows_lab {n : Nat} {ps l : List Int} (h : isOrd n l = true) (hr : ∀ v : Nat, 1 ≤ v → v < n → 0 ≤ parOf ps (v : Int) ∧ parOf ps (v : Int) < (v : Int)) (h0 : parOf ps 0 < 0) : grows ps l = true ↔ LabOK n ps l n := by
  obtain ⟨hl, hn, hm⟩ := isOrd_iff.1 h
  rw [grows_iff]
  constructor
  · intro hg v hv _ hvn
    have hmv := ord_has h hvn
    have h3 : l.idxOf (v : Int) < l.length := List.idxOf_lt_length_of_mem hmv
    have h4 : l[l.idxOf (v : Int)]? = some (v : Int) := by rw [List.getElem?_eq_getElem h3, List.getElem_idxOf h3]
    obtain ⟨a, b⟩ := hr v hv hvn
    have hmp : parOf ps (v : Int) ∈ l := by
      have := ord_has h (v := (parOf ps (v : Int)).toNat) (by omega)
      rwa [Int.toNat_of_nonneg a] at this
    rcases hg _ _ h3 h4 with h5 | h5
    · omega
    · exact Nat.le_of_lt ((mem_take_idx hmp).1 h5)
  · intro hL i x hi hx
    obtain ⟨a, b⟩ := hm x (List.mem_of_getElem? hx)
    obtain ⟨v, rfl⟩ := Int.eq_ofNat_of_zero_le a
    rcases Nat.eq_zero_or_pos v with e | e
    · subst e; exact .inl h0
    · obtain ⟨c, d⟩ := hr v e (by omega)
      have hmp : parOf ps (v : Int) ∈ l := by
        have := ord_has h (v := (parOf ps (v : Int)).toNat) (by omega)
        rwa [Int.toNat_of_nonneg c] at this
      refine .inr ((mem_take_idx hmp).2 ?_)
      have h6 := hL v e (by omega) (by omega)
      have h7 := idxOf_at hn hx
      rcases Nat.lt_or_ge (l.idxOf (parOf ps (v : Int))) i with h8 | h8
      · exact h8
      · exfalso
        have h9 : l.idxOf (parOf ps (v : Int)) = i := by omega
        have h10 : l[i]? = some (parOf ps (v : Int)) := by rw [← h9, List.getElem?_eq_getElem (List.idxOf_lt_length_of_mem hmp), List.getElem_idxOf]
        rw [hx] at h10
        injection h10 with h10
        omega
end Go.Proofs.Ytkcldfliiagloaa.M

/- What can come next behind the first nodes of a growing order, and orders that are gone on with: mathematics. No conditions. -/
namespace Go.Proofs.Ytkcldfliiagloaa.M

/-- the nodes that can come next, ascending -/
def rdyB (ps b : List Int) (v : Nat) : Bool := decide ((v : Int) ∉ b ∧ (v = 0 ∨ parOf ps (v : Int) ∈ b))
def rdyTo (ps b : List Int) (k : Nat) : List Int := ((List.range k).filter (rdyB ps b)).map fun v : Nat => (v : Int)
theorem rdyTo_zero (ps b : List Int) : rdyTo ps b 0 = [] := rfl
theorem rdyTo_hit {ps b : List Int} {k : Nat} (h : rdyB ps b k = true) : rdyTo ps b (k + 1) = rdyTo ps b k ++ [(k : Int)] := by simp [rdyTo, List.range_succ, h]
theorem rdyTo_miss {ps b : List Int} {k : Nat} (h : rdyB ps b k = false) : rdyTo ps b (k + 1) = rdyTo ps b k := by simp [rdyTo, List.range_succ, h]
theorem rdyTo_len (ps b : List Int) (k : Nat) : (rdyTo ps b k).length ≤ k := by
  rw [rdyTo, List.length_map]
  exact Nat.le_trans (List.length_filter_le _ _) (by simp)
theorem mem_rdyTo {ps b : List Int} {k : Nat} {x : Int} : x ∈ rdyTo ps b k ↔ ∃ v : Nat, x = (v : Int) ∧ v < k ∧ rdyB ps b v = true := by
  simp only [rdyTo, List.mem_map, List.mem_filter, List.mem_range]
  constructor
  · rintro ⟨a, ⟨h1, h2⟩, rfl⟩; exact ⟨a, rfl, h1, h2⟩
  · rintro ⟨a, rfl, h1, h2⟩; exact ⟨a, ⟨h1, h2⟩, rfl⟩
theorem rdyTo_asc (ps b : List Int) (k : Nat) : (rdyTo ps b k).Pairwise (· < ·) := by
  refine List.pairwise_map.2 ?_
  refine ((List.pairwise_lt_range (n := k)).filter _).imp ?_
  intro a b h
  omega

/-- the rows of parents that trees have -/
def Parents (n : Nat) (ps : List Int) : Prop := ps.length = n ∧ parOf ps 0 < 0 ∧ ∀ v : Nat, 1 ≤ v → v < n → 0 ≤ parOf ps (v : Int) ∧ parOf ps (v : Int) < (v : Int)
/-- the beginning of a growing order -/
def Bgn (n : Nat) (ps b : List Int) : Prop := b.Nodup ∧ (∀ x ∈ b, 0 ≤ x ∧ x < (n : Int)) ∧ GrowTo ps b b.length
theorem bgn_nil (n : Nat) (ps : List Int) : Bgn n ps [] := ⟨by simp, by simp, growTo_zero _ _⟩
theorem bgn_root {n : Nat} {ps b : List Int} (hp : Parents n ps) (h : Bgn n ps b) (hb : b ≠ []) : (0 : Int) ∈ b := by
  obtain ⟨_, h2, h3⟩ := h
  obtain ⟨y, r, rfl⟩ := List.exists_cons_of_ne_nil hb
  rcases h3 0 y (by simp) rfl with h4 | h4
  · have hy := h2 y (by simp)
    obtain ⟨v, rfl⟩ := Int.eq_ofNat_of_zero_le hy.1
    rcases Nat.eq_zero_or_pos v with e | e
    · subst e; simp
    · have := hp.2.2 v e (by omega); omega
  · simp at h4
theorem bgn_step {n : Nat} {ps b : List Int} (hp : Parents n ps) (h : Bgn n ps b) {x : Int} (hx : x ∈ rdyTo ps b n) : Bgn n ps (b ++ [x]) := by
  obtain ⟨v, rfl, hv, hr⟩ := mem_rdyTo.1 hx
  obtain ⟨h1, h2, h3⟩ := h
  obtain ⟨r1, r2⟩ := of_decide_eq_true hr
  refine ⟨List.nodup_append.2 ⟨h1, by simp, fun y hy z hz e => ?_⟩, fun y hy => ?_, fun i y hi hy => ?_⟩
  · simp only [List.mem_singleton] at hz
    subst hz; subst e; exact r1 hy
  · rcases List.mem_append.1 hy with h | h
    · exact h2 y h
    · simp only [List.mem_singleton] at h; subst h; omega
  · rcases Nat.lt_or_ge i b.length with h5 | h5
    · rw [List.getElem?_append_left h5] at hy
      rw [List.take_append_of_le_length (by omega)]
      exact h3 i y h5 hy
    · simp only [List.length_append, List.length_singleton] at hi
      obtain rfl : i = b.length := by omega
      rw [List.getElem?_append_right (Nat.le_refl _)] at hy
      simp only [Nat.sub_self, List.getElem?_cons_zero] at hy
      injection hy with hy
      subst hy
      rw [List.take_append_of_le_length (Nat.le_refl _), List.take_length]
      rcases r2 with e | e
      · subst e; exact .inl hp.2.1
      · exact .inr e
theorem bgn_take {n : Nat} {ps l : List Int} (h : Bgn n ps l) (k : Nat) : Bgn n ps (l.take k) := by
  obtain ⟨h1, h2, h3⟩ := h
  refine ⟨h1.sublist (List.take_sublist _ _), fun x hx => h2 x (List.mem_of_mem_take hx), fun i y hi hy => ?_⟩
  rw [List.length_take] at hi
  rw [List.getElem?_take_of_lt (by omega)] at hy
  rw [List.take_take, Nat.min_eq_left (by omega)]
  exact h3 i y (by omega) hy
theorem nodup_len {n : Nat} {b : List Int} (h1 : b.Nodup) (h2 : ∀ x ∈ b, 0 ≤ x ∧ x < (n : Int)) : b.length ≤ n := by
  rcases Nat.lt_or_ge n b.length with h3 | h3
  · exfalso
    have hp := sorted_perm b
    have hs : (sorted b).Pairwise (fun a b => decide (a ≤ b) = true) := List.pairwise_mergeSort (le := fun x y => decide (x ≤ y)) (fun a b c h1 h2 => by simp at *; omega) (fun a b => by simp; omega) b
    have hn : (sorted b).Nodup := hp.symm.nodup h1
    have hq : (sorted b).Pairwise (· < ·) := by
      have := hs.and hn
      exact this.imp fun {a b} h => by have h3 := of_decide_eq_true h.1; have h4 := h.2; omega
    have hl := sorted_len b
    obtain ⟨x, hx⟩ : ∃ x, (sorted b)[0]? = some x := ⟨_, List.getElem?_eq_getElem (by omega)⟩
    have h4 := asc_up (sorted b) n hq (fun x hx => (h2 x (hp.mem_iff.1 hx)).2) 0 x hx
    have h5 := (h2 x (hp.mem_iff.1 (List.mem_of_getElem? hx))).1
    omega
  · exact h3
theorem bgn_len {n : Nat} {ps b : List Int} (h : Bgn n ps b) : b.length ≤ n := nodup_len h.1 h.2.1
theorem all_len : ∀ (n : Nat) (b : List Int), (∀ v : Nat, v < n → (v : Int) ∈ b) → n ≤ b.length := by
  intro n
  induction n with
  | zero => intro b _; omega
  | succ n ih =>
    intro b h
    have h1 := h n (by omega)
    have h2 := ih (b.erase (n : Int)) fun v hv => (List.mem_erase_of_ne (by omega)).2 (h v (by omega))
    rw [List.length_erase_of_mem h1] at h2
    have := List.length_pos_of_mem h1
    omega
theorem bgn_ord {n : Nat} {ps b : List Int} (h : Bgn n ps b) (hl : b.length = n) : isOrd n b = true := isOrd_iff.2 ⟨hl, h.1, h.2.1⟩
theorem ord_bgn {n : Nat} {ps l : List Int} (h : isOrd n l = true) (hg : grows ps l = true) : Bgn n ps l := ⟨(isOrd_iff.1 h).2.1, (isOrd_iff.1 h).2.2, grows_iff.1 hg⟩
/-- there is a node to come if not all are there -/
theorem rdy_least {n : Nat} {ps b : List Int} (hp : Parents n ps) : ∀ k, k ≤ n → (∀ v : Nat, v < k → (v : Int) ∈ b) ∨ rdyTo ps b k ≠ [] := by
  intro k
  induction k with
  | zero => intro _; exact .inl fun v h => by omega
  | succ k ih =>
    intro hk
    rcases ih (by omega) with h | h
    · by_cases hb : (k : Int) ∈ b
      · refine .inl fun v hv => ?_
        rcases Nat.lt_or_ge v k with h1 | h1
        · exact h v h1
        · obtain rfl : v = k := by omega
          exact hb
      · refine .inr ?_
        have : rdyB ps b k = true := by
          refine decide_eq_true ⟨hb, ?_⟩
          rcases Nat.eq_zero_or_pos k with e | e
          · exact .inl e
          · obtain ⟨a, c⟩ := hp.2.2 k e (by omega)
            have := h (parOf ps (k : Int)).toNat (by omega)
            rw [Int.toNat_of_nonneg a] at this
            exact .inr this
        rw [rdyTo_hit this]
        simp
    · refine .inr ?_
      cases hb : rdyB ps b k
      · rw [rdyTo_miss hb]; exact h
      · rw [rdyTo_hit hb]; simp
theorem rdy_some {n : Nat} {ps b : List Int} (hp : Parents n ps) (hl : b.length < n) : rdyTo ps b n ≠ [] := by
  rcases rdy_least (b := b) hp n (Nat.le_refl _) with h | h
  · exfalso
    have := all_len n b h
    omega
  · exact h

/-- the first nodes gone on with, m more ones: by the least or by the greatest of those that can come next -/
def pick (least : Bool) (r : List Int) : Int := if least then r[0]?.getD 0 else r[r.length - 1]?.getD 0
def fill (least : Bool) (n : Nat) (ps : List Int) : Nat → List Int → List Int
  | 0, b => b
  | m + 1, b => fill least n ps m (b ++ [pick least (rdyTo ps b n)])
theorem pick_at {least : Bool} {r : List Int} (h : r ≠ []) : ∃ j, j < r.length ∧ r[j]? = some (pick least r) ∧ j = if least then 0 else r.length - 1 := by
  have hl : 0 < r.length := List.length_pos_iff.2 h
  cases least
  · refine ⟨r.length - 1, by omega, ?_, rfl⟩
    simp only [pick]
    rw [List.getElem?_eq_getElem (by omega)]
    simp
  · refine ⟨0, hl, ?_, rfl⟩
    simp only [pick]
    rw [List.getElem?_eq_getElem hl]
    simp
theorem pick_mem {least : Bool} {r : List Int} (h : r ≠ []) : pick least r ∈ r := by
  obtain ⟨j, _, h2, _⟩ := pick_at (least := least) h
  exact List.mem_of_getElem? h2
theorem fill_step {least : Bool} {n : Nat} {ps b : List Int} (h : b.length < n) : fill least n ps (n - b.length) b = fill least n ps (n - (b ++ [pick least (rdyTo ps b n)]).length) (b ++ [pick least (rdyTo ps b n)]) := by
  rw [show n - b.length = (n - (b ++ [pick least (rdyTo ps b n)]).length) + 1 by simp only [List.length_append, List.length_singleton]; omega]
  rfl
theorem fill_done {least : Bool} {n : Nat} {ps b : List Int} (h : b.length = n) : fill least n ps (n - b.length) b = b := by rw [h, Nat.sub_self]; rfl
theorem fill_len {least : Bool} {n : Nat} {ps : List Int} : ∀ m (b : List Int), (fill least n ps m b).length = b.length + m := by
  intro m
  induction m with
  | zero => intro b; rfl
  | succ m ih => intro b; rw [fill, ih]; simp only [List.length_append, List.length_singleton]; omega
/-- the least ones from the beginning on are all nodes in their order -/
theorem iota_succ (k : Nat) : iota (k + 1) = iota k ++ [(k : Int)] := by simp [iota, List.range_succ]
theorem rdy_iota {n k : Nat} {ps : List Int} (hp : Parents n ps) (h : k < n) : pick true (rdyTo ps (iota k) n) = (k : Int) := by
  have h0 : ∀ j, j ≤ k → rdyTo ps (iota k) j = [] := by
    intro j
    induction j with
    | zero => intro _; rfl
    | succ j ih =>
      intro hj
      have : rdyB ps (iota k) j = false := decide_eq_false fun h => h.1 (mem_iota.2 (by omega))
      rw [rdyTo_miss this, ih (by omega)]
  have h1 : rdyB ps (iota k) k = true := by
    refine decide_eq_true ⟨fun h => by have := mem_iota.1 h; omega, ?_⟩
    rcases Nat.eq_zero_or_pos k with e | e
    · exact .inl e
    · have := hp.2.2 k e h
      exact .inr (mem_iota.2 this)
  have h2 : ∀ m, ∃ r, rdyTo ps (iota k) (k + 1 + m) = (k : Int) :: r := by
    intro m
    induction m with
    | zero => exact ⟨[], by rw [Nat.add_zero, rdyTo_hit h1, h0 k (Nat.le_refl _)]; rfl⟩
    | succ m ih =>
      obtain ⟨r, hr⟩ := ih
      rw [show k + 1 + (m + 1) = k + 1 + m + 1 by omega]
      cases hb : rdyB ps (iota k) (k + 1 + m)
      · exact ⟨r, by rw [rdyTo_miss hb, hr]⟩
      · exact ⟨r ++ [((k + 1 + m : Nat) : Int)], by rw [rdyTo_hit hb, hr]; rfl⟩
  obtain ⟨r, hr⟩ := h2 (n - (k + 1))
  rw [show k + 1 + (n - (k + 1)) = n by omega] at hr
  rw [hr]
  simp [pick]
theorem fill_iota {n : Nat} {ps : List Int} (hp : Parents n ps) : ∀ m k, k + m = n → fill true n ps m (iota k) = iota n := by
  intro m
  induction m with
  | zero => intro k h; obtain rfl : k = n := by omega
            rfl
  | succ m ih =>
    intro k h
    rw [fill, rdy_iota hp (by omega), ← iota_succ]
    exact ih (k + 1) (by omega)
end Go.Proofs.Ytkcldfliiagloaa.M

/- The walks of IsTree, the program's and the model's: both return the same Bool of the list of degrees. -/
namespace Go.Proofs.Ytkcldfliiagloaa
open Go.RowKit

theorem inAny (n lo hi : Int) (w : World) (b : Bool) (hb : Hid ((decide (lo ≤ n) && decide (n ≤ hi)) = b)) :
    Calls Try.prog 99 #[.int .i64 n, .int .i64 lo, .int .i64 hi] w fun e w' => e = .returned (.bool b) ∧ w = w' := by
  by_cases h : lo ≤ n
  · have hb' : b = decide (n ≤ hi) := by rw [← hb.out]; simp [h]
    clear hb
    subst hb'
    go_enter Try.func99, Try.ntmps99
    go_wp2
    go_ret
    exact ⟨rfl, rfl⟩
  · have hb' : b = false := by rw [← hb.out]; simp; intro h'; exact absurd h' h
    clear hb
    subst hb'
    have hd : decide (lo ≤ n) = false := decide_eq_false h
    go_enter Try.func99, Try.ntmps99
    go_wp2
    go_ret
    exact ⟨rfl, rfl⟩

theorem l01N (A : Option Addr) (n c : Nat) (w : World) : Calls Try.prog 96 #[.agg #[.slice A n c]] w fun e w' => e = .returned (.int .i64 n) ∧ Below w.heap.size w w' := by
  go_enter Try.func96, Try.ntmps96
  go_wp2
  go_ret
  exact ⟨rfl, bal (b0 w) _⟩

set_option maxHeartbeats 1000000 in
theorem specIs (A : Option Addr) (xs : List Int) (c : Nat) (w : World) (hx : xs.length ≤ 1000000000000) (h : Ints w w.heap.size A xs) :
    Calls Try.prog 95 #[.agg #[.slice A xs.length c]] w fun e w' => e = .returned (.bool (M.isTree xs)) ∧ Below w.heap.size w w' := by
  by_cases hn : 1 ≤ xs.length ∧ xs.length ≤ 24
  · have hd : Hid ((decide ((1 : Int) ≤ (xs.length : Int)) && decide ((xs.length : Int) ≤ 24)) = true) := by simp [Hid]; omega
    have ht := Lib.hid (M.isTree_is hn.1 hn.2)
    obtain ⟨hn1, hn2⟩ := hn
    go_enter Try.func95, Try.ntmps95
    go_wp2_with fail
    refine (l01N A xs.length c _).mono ?_
    rintro e w1 ⟨rfl, hb⟩
    obtain ⟨hc, hf⟩ := bcell hb
    have hB := btr (bal (b0 w) _) hb
    have h1 := (h.al (.cells #[.slice A xs.length c] 28)).be hb
    clear h
    have hsz : w.heap.size < w1.heap.size := by have := hb.size; simp at this; omega
    have hcell : w1.cell? ⟨w.heap.size, 0, none⟩ = some (.slice A xs.length c) := by rw [hc _ _ (by simp)]; simp
    clear hc hf hb
    go_wp2_with (go_at_call 99; refine (inAny _ _ _ _ _ hd).mono ?_; rintro e w' ⟨rfl, rfl⟩)
    go_loop [3, 4] (fun q i => ∃ (k : Nat) (o : Int), k ≤ xs.length ∧ i = .int .i64 k ∧ q = .int .i64 o ∧ 0 ≤ o ∧ o ≤ 1 + 24 * k ∧ Hid (M.isTree xs = M.isGo o (xs.drop k))) (fun _ i => xs.length - (intOf i).toNat)
    case atStart => exact ⟨0, 1, Nat.zero_le _, rfl, rfl, by omega, by omega, ht⟩
    case round =>
      obtain ⟨k, o, hk, rfl, rfl, ho0, ho1, hg⟩ := hrel
      clear ht
      by_cases hlt : k < xs.length
      · obtain ⟨b, off, x, rfl, hbB, g, hX⟩ := h1.at_ hlt
        clear h1
        by_cases ho : o = 0
        · subst ho
          have hs := Lib.hid (hg.out.trans (M.isGo_stop hX.out (by simp)))
          go_wp2_with fail
          go_ret
          exact ⟨by rw [hs.out]; rfl, hB⟩
        · have ho' : (o == 0) = false := by simp [ho]
          have ho2 : 1 ≤ o := by omega
          by_cases hr : 0 ≤ x ∧ x ≤ 24
          · obtain ⟨hr1, hr2⟩ := hr
            have hs := Lib.hid (hg.out.trans (M.isGo_step hX.out ho hr1 hr2))
            have hd2 : Hid ((decide (0 ≤ x) && decide (x ≤ 24)) = true) := by simp [Hid, hr1, hr2]
            clear ho
            go_wp2_with (go_at_call 99; refine (inAny _ _ _ _ _ hd2).mono ?_; rintro e w' ⟨rfl, rfl⟩)
            go_round
            case rel => exact ⟨k + 1, o - 1 + x, by omega, by go_num, rfl, by omega, by omega, hs⟩
            case measure => simp [intOf]; omega
          · have hd2 : Hid ((decide (0 ≤ x) && decide (x ≤ 24)) = false) := by simp [Hid]; omega
            have hs := Lib.hid (hg.out.trans (M.isGo_stop (o := o) hX.out (by rw [hd2.out]; simp)))
            clear ho
            go_wp2_with (go_at_call 99; refine (inAny _ _ _ _ _ hd2).mono ?_; rintro e w' ⟨rfl, rfl⟩)
            go_ret
            exact ⟨by rw [hs.out]; rfl, hB⟩
      · obtain rfl : k = xs.length := by omega
        have hs := hg.out
        rw [List.drop_length] at hs
        have Hs : Hid (M.isTree xs = (o == 0)) := hs
        clear hs hg
        go_wp2
        go_ret
        exact ⟨by rw [Hs.out]; rfl, hB⟩
  · have hd : Hid ((decide ((1 : Int) ≤ (xs.length : Int)) && decide ((xs.length : Int) ≤ 24)) = false) := by simp [Hid]; omega
    have ht := Lib.hid (M.isTree_no hn)
    clear hn
    go_enter Try.func95, Try.ntmps95
    go_wp2_with fail
    refine (l01N A xs.length c _).mono ?_
    rintro e w1 ⟨rfl, hb⟩
    have hB := btr (bal (b0 w) _) hb
    clear h
    go_wp2_with (go_at_call 99; refine (inAny _ _ _ _ _ hd).mono ?_; rintro e w' ⟨rfl, rfl⟩)
    go_ret
    exact ⟨by rw [ht.out]; rfl, hB⟩

set_option maxHeartbeats 1000000 in
theorem implIsTree (A : Option Addr) (xs : List Int) (c : Nat) (w : World) (hx : xs.length ≤ 1000000000000) (h : Ints w w.heap.size A xs) :
    Calls Try.prog 112 #[.agg #[.slice A xs.length c]] w fun e w' => e = .returned (.bool (M.isTree xs)) ∧ Below w.heap.size w w' := by
  by_cases hn : 1 ≤ xs.length
  · have hn' : ¬ ((xs.length : Int) < 1) := by omega
    have hd0 : decide ((xs.length : Int) < 1) = false := decide_eq_false hn'
    by_cases hn2 : xs.length ≤ 24
    · have ht := Lib.hid (M.isTree_im hn hn2)
      have hh := h.al (.cells #[.slice A xs.length c] 28)
      clear h
      go_enter Try.func112, Try.ntmps112
      go_wp2
      go_loop [4, 19] (fun q i => ∃ (k : Nat) (o : Int), k ≤ xs.length ∧ i = .int .i64 k ∧ q = .int .i64 o ∧ 0 ≤ o ∧ o ≤ 1 + 24 * k ∧ Hid (M.isTree xs = M.imGo xs.length o (xs.drop k))) (fun _ i => xs.length - (intOf i).toNat)
      case atStart => exact ⟨0, 1, Nat.zero_le _, rfl, rfl, by omega, by omega, ht⟩
      case round =>
        obtain ⟨k, o, hk, rfl, rfl, ho0, ho1, hg⟩ := hrel
        clear ht
        by_cases hlt : k < xs.length
        · obtain ⟨b, off, x, rfl, hbB, g, hX⟩ := hh.at_ hlt
          clear hh
          by_cases ho : o = 0
          · subst ho
            have hs := Lib.hid (hg.out.trans (M.imGo_stop hX.out (by simp)))
            go_wp2
            go_ret
            exact ⟨by rw [hs.out]; rfl, bal (b0 w) _⟩
          · have ho' : (o == 0) = false := by simp [ho]
            have ho2 : 1 ≤ o := by omega
            by_cases hr : x < 0
            · have hs := Lib.hid (hg.out.trans (M.imGo_stop (n := xs.length) (o := o) hX.out (by simp [hr])))
              clear ho
              go_wp2
              go_ret
              exact ⟨by rw [hs.out]; rfl, bal (b0 w) _⟩
            · have hr' : decide (x < 0) = false := decide_eq_false hr
              have hr0 : 0 ≤ x := by omega
              by_cases hr2 : (xs.length : Int) ≤ x
              · have hs := Lib.hid (hg.out.trans (M.imGo_stop (n := xs.length) (o := o) hX.out (by simp [hr2])))
                clear ho hr
                go_wp2
                go_ret
                exact ⟨by rw [hs.out]; rfl, bal (b0 w) _⟩
              · have hs := Lib.hid (hg.out.trans (M.imGo_step (n := xs.length) hX.out ho hr0 (by omega)))
                have hr3 : x < (xs.length : Int) := by omega
                have hr4 : decide ((xs.length : Int) ≤ x) = false := decide_eq_false hr2
                clear ho hr
                go_wp2
                go_round
                case rel => exact ⟨k + 1, o + (x - 1), by omega, by go_num, rfl, by omega, by omega, hs⟩
                case measure => simp [intOf]; omega
        · obtain rfl : k = xs.length := by omega
          have hs := hg.out
          rw [List.drop_length] at hs
          have Hs : Hid (M.isTree xs = (o == 0)) := hs
          clear hs hg
          go_wp2
          go_ret
          exact ⟨by rw [Hs.out]; rfl, bal (b0 w) _⟩
    · have ht := Lib.hid (M.isTree_no (xs := xs) (by omega))
      have hd1 : (24 : Int) < (xs.length : Int) := by omega
      go_enter Try.func112, Try.ntmps112
      go_wp2
      go_ret
      exact ⟨by rw [ht.out]; rfl, bal (b0 w) _⟩
  · have ht := Lib.hid (M.isTree_no (xs := xs) (by omega))
    have hd1 : (xs.length : Int) < 1 := by omega
    go_enter Try.func112, Try.ntmps112
    go_wp2
    go_ret
    exact ⟨by rw [ht.out]; rfl, bal (b0 w) _⟩
end Go.Proofs.Ytkcldfliiagloaa

/- append of one number to a row of the call's own; an empty row; the codes of trees and nodes. -/
namespace Go.Proofs.Ytkcldfliiagloaa
open Go.RowKit

theorem own64_len {w : World} {B n c : Nat} {A : Option Addr} {zs : List Int} (h : Own64 w B (.slice A n c) zs) : n = zs.length := by
  rcases h.2 with ⟨h1, h2⟩ | ⟨g, cap, cur, hv, _⟩
  · injection h1 with _ h1 _; omega
  · injection hv

theorem push64 {ops : Array Oper} {rest : List Oper} {o : Oper} {a : Act} {Q : Exit → Act → World → Prop} (hgd : o.guard = none) (s x : Operand)
    (ho : o.op = .call { callee := .builtin .append, args := #[s, x], argTypes := #[22, 22] }) (w : World) (B : Nat) (A : Option Addr) (n c : Nat) (zs : List Int) (y : Int)
    (hs : a.eval s = .slice A n c) (hx : a.eval x = .slice (some ⟨w.heap.size, 0, none⟩) 1 1) (hown : Hid (Own64 w B (.slice A n c) zs)) (hB : B ≤ w.heap.size) (hlen : n ≤ 1000000)
    (h : ∀ A' c' w', Hid (Own64 w' B (.slice A' (n + 1) c') (zs ++ [y])) → Hid (Below B w w') → wpList Try.prog ops Q rest (a.put o.dst (.slice A' (n + 1) c')) w') :
    wpList Try.prog ops Q (o :: rest) a (w.alloc (.cells #[.int .i64 y] 2)) := by
  obtain ⟨i0, hi0, hz0, hz1, hz2⟩ := info_parts info64
  have hown := hown.out
  have hn := own64_len hown
  subst hn
  refine wpList_append_own _ hgd s x 22 ho B 2 i0 (.int .i64 0) 1 8 Try.underlying22 hi0 hz0 hz1 hz2 rfl (by decide) _ zs.length (zs.map (Value.int .i64)) hs (hown.alloc _) ⟨w.heap.size, 0, none⟩ 1 1 [.int .i64 y] hx rfl ?_ ?_ ?_ ?_ ?_ ?_
  · intro j u hj
    match j, hj with
    | 0, hj => simp at hj; subst hj; simp [Addr.add]
  · intro u hu; simp at hu; subst hu; rfl
  · unfold maxLen; omega
  · omega
  · simp; omega
  · intro v' w1 hown1 hg1 _
    obtain ⟨A, c, rfl⟩ : ∃ A c, v' = .slice A (zs.length + 1) c := by
      rcases hown1.2 with ⟨rfl, h0⟩ | ⟨g, cap, _, rfl, _⟩
      · omega
      · exact ⟨_, _, rfl⟩
    refine h A c w1 ?_ ?_
    · have e : (zs ++ [y]).length = zs.length + 1 := by simp
      show Own64 _ _ _ _
      unfold Own64
      rw [e]
      simpa using hown1
    · exact ((Below.refl B w).alloc hB _).grown hg1 (by simp; omega) (fun k hk => (hown.lt k hk).1)

/-- '[]int64{}': a row of no numbers -/
theorem own64_empty {w : World} {B : Nat} (hB : B ≤ w.heap.size) : Own64 (w.alloc (.cells #[] 2)) B (.slice (some ⟨w.heap.size, 0, none⟩) 0 0) [] := by
  have := World.ownsRow_made (e := 2) (size := 1) w #[] 0 hB (by simp [maxLen]) (by simp)
  exact this

theorem own64_nil (w : World) (B : Nat) : Own64 w B (.slice none 0 0) [] := World.ownsRow_nil _ _ _ _

theorem own64_eq {w : World} {B : Nat} {v : Value} {zs ys : List Int} (h : Own64 w B v zs) (e : zs = ys) : Own64 w B v ys := e ▸ h

set_option maxHeartbeats 1000000 in
theorem codeOf0 (A : Option Addr) (xs : List Int) (c : Nat) (w : World) (hx : xs.length ≤ 1000000000000) (h : Ints w w.heap.size A xs) (r : Int) (hr : Hid ((if M.isTree xs then 0 else 1) = r)) :
    Calls Try.prog 119 #[.agg #[.slice A xs.length c], .slice none 0 0] w fun e w' => e = .returned (.int .i64 r) ∧ Below w.heap.size w w' := by
  cases ht : M.isTree xs
  all_goals
    rw [ht] at hr
    have hc := (implIsTree A xs c (w.alloc (.cells #[.slice A xs.length c] 28)) hx (h.al _))
    rw [ht] at hc
    have HC := Lib.hid hc
    obtain rfl := hr.out
    clear hc ht hr
    go_enter Try.func119, Try.ntmps119
    go_wp2_with fail
    refine HC.out.mono ?_
    rintro e w1 ⟨rfl, hb⟩
    have hB := btr (bal (b0 w) _) hb
    go_wp2
    first
      | (go_ret; exact ⟨rfl, hB⟩)
      | (refine wp_loop_rounds 1 ?_
         rw [rounds_succ]
         go_wp2
         go_ret
         exact ⟨rfl, hB⟩)
end Go.Proofs.Ytkcldfliiagloaa

/- Where a subtree ends: l01End, partAt, sizeAt: each stops within the list if the loop does. -/
namespace Go.Proofs.Ytkcldfliiagloaa
open Go.RowKit

set_option maxHeartbeats 1000000 in
theorem l01End (A : Option Addr) (xs : List Int) (c v E : Nat) (w : World) (hE : Hid (v + M.span 1 (xs.drop v) = E)) (hx : xs.length ≤ 24) (hk : Hid (M.ok 1 (xs.drop v))) (h : Ints w w.heap.size A xs) :
    Calls Try.prog 160 #[.agg #[.slice A xs.length c], .int .i64 v] w fun e w' => e = .returned (.int .i64 E) ∧ Below w.heap.size w w' := by
  have hv := M.ok_in (by omega) hk.out
  have hh := h.al (.cells #[.slice A xs.length c] 28)
  clear h
  go_enter Try.func160, Try.ntmps160
  go_wp2
  go_loop [1, 5] (fun i q => ∃ (k : Nat) (o : Int), v ≤ k ∧ k ≤ xs.length ∧ i = .int .i64 k ∧ q = .int .i64 o ∧ 0 ≤ o ∧ o ≤ 1 + 24 * k ∧ Hid (M.ok o (xs.drop k)) ∧ Hid (E = k + M.span o (xs.drop k))) (fun i _ => xs.length - (intOf i).toNat)
  case atStart => exact ⟨v, 1, Nat.le_refl _, by omega, rfl, rfl, by omega, by omega, hk, hE.out.symm⟩
  case round =>
    obtain ⟨k, o, hvk, hkn, rfl, rfl, ho0, ho1, hok, hs⟩ := hrel
    clear hk
    by_cases ho : 0 < o
    · have hlt := M.ok_in ho hok.out
      obtain ⟨b, off, x, rfl, hbB, g, hX⟩ := hh.at_ hlt
      have hst := M.ok_step hX.out ho hok.out
      have hx0 := hst.1
      have hx1 := hst.2.1
      have hok' := Lib.hid hst.2.2
      have hs' := Lib.hid (show E = (k + 1) + M.span (o - 1 + x) (xs.drop (k + 1)) by have h1 := M.span_step hX.out ho; have h2 := hs.out; omega)
      clear hst hh hok hs
      go_wp2
      go_round
      case rel => exact ⟨k + 1, o - 1 + x, by omega, by omega, by go_num, rfl, by omega, by omega, hok', hs'⟩
      case measure => simp [intOf]; omega
    · have hs' := hs.out
      rw [M.span_stop (o := o) (by omega) (xs.drop k), Nat.add_zero] at hs'
      have Hs : Hid (E = k) := hs'
      have ho' : o ≤ 0 := by omega
      clear hs hs' hh ho
      go_wp2
      go_ret
      exact ⟨by rw [Hs.out]; rfl, bal (b0 w) _⟩

set_option maxHeartbeats 1000000 in
theorem partAt (A : Option Addr) (xs : List Int) (c v E : Nat) (w : World) (hE : Hid (v + M.span 1 (xs.drop v) = E)) (hx : xs.length ≤ 24) (hc : xs.length ≤ c) (hc' : c ≤ 9223372036854775807) (hk : Hid (M.ok 1 (xs.drop v))) (h : Ints w w.heap.size A xs) :
    Calls Try.prog 219 #[.slice A xs.length c, .int .i64 v] w fun e w' => (∃ b off, A = some ⟨b, off, none⟩ ∧ e = .returned (.slice (some ⟨b, off + v, none⟩) (E - v) (E - v))) ∧ w = w' := by
  have hv := M.ok_in (by omega) hk.out
  obtain ⟨b, off, rfl, hbB, hcell⟩ := h (by omega)
  have Hcell := Lib.hid hcell
  clear h hcell
  go_enter Try.func219, Try.ntmps219
  go_wp2
  go_loop [5, 6] (fun i q => ∃ (k : Nat) (o : Int), v ≤ k ∧ k ≤ xs.length ∧ i = .int .i64 k ∧ q = .int .i64 o ∧ 0 ≤ o ∧ o ≤ 1 + 24 * k ∧ Hid (o = 0 → v < k) ∧ Hid (M.ok o (xs.drop k)) ∧ Hid (E = k + M.span o (xs.drop k))) (fun i _ => xs.length - (intOf i).toNat)
  case atStart => exact ⟨v, 1, Nat.le_refl _, by omega, rfl, rfl, by omega, by omega, by simp [Hid], hk, hE.out.symm⟩
  case round =>
    obtain ⟨k, o, hvk, hkn, rfl, rfl, ho0, ho1, hpos, hok, hs⟩ := hrel
    clear hk
    by_cases ho : 0 < o
    · have hlt := M.ok_in ho hok.out
      have hX : xs[k]? = some xs[k] := List.getElem?_eq_getElem hlt
      have g := Hcell.out k _ hX
      generalize xs[k] = x at hX g
      have hst := M.ok_step hX ho hok.out
      have hx0 := hst.1
      have hx1 := hst.2.1
      have hok' := Lib.hid hst.2.2
      have hs' := Lib.hid (show E = (k + 1) + M.span (o - 1 + x) (xs.drop (k + 1)) by have h1 := M.span_step hX ho; have h2 := hs.out; omega)
      have eo : o - 1 + x = o + (x - 1) := by omega
      rw [eo] at hok' hs'
      clear hst hok hs hX eo hpos
      go_wp2
      go_round
      case rel => exact ⟨k + 1, o + (x - 1), by omega, by omega, by go_num, rfl, by omega, by omega, fun _ => by omega, hok', hs'⟩
      case measure => simp [intOf]; omega
    · have hs' := hs.out
      have ho' : o ≤ 0 := by omega
      have hvk' : v < k := hpos.out (by omega)
      rw [M.span_stop (o := o) ho' (xs.drop k), Nat.add_zero] at hs'
      have Hs : Hid (E = k) := hs'
      have hvc : ¬ v = k := by omega
      have hkv : k - v ≠ 0 := by omega
      clear hs hs' ho
      go_wp2
      go_ret
      rw [Hs.out]
      first | exact ⟨⟨b, off, rfl, rfl⟩, rfl⟩ | exact ⟨⟨b, off, ⟨rfl, rfl⟩, rfl⟩, rfl⟩

theorem sizeAt (A : Option Addr) (xs : List Int) (c v S : Nat) (w : World) (hS : Hid (M.span 1 (xs.drop v) = S)) (hx : xs.length ≤ 24) (hc : xs.length ≤ c) (hc' : c ≤ 9223372036854775807) (hk : Hid (M.ok 1 (xs.drop v))) (h : Ints w w.heap.size A xs) :
    Calls Try.prog 159 #[.slice A xs.length c, .int .i64 v] w fun e w' => e = .returned (.int .i64 S) ∧ w = w' := by
  have hp := partAt A xs c v (v + S) w (by show _ = _; rw [hS.out]) hx hc hc' hk h
  rw [Nat.add_sub_cancel_left] at hp
  have HP := Lib.hid hp
  clear hp
  go_enter Try.func159, Try.ntmps159
  go_wp2_with fail
  refine HP.out.mono ?_
  rintro e w' ⟨⟨b, off, rfl, rfl⟩, rfl⟩
  go_wp2
  go_ret
  exact ⟨rfl, rfl⟩
end Go.Proofs.Ytkcldfliiagloaa

/- eachChild: the iterator over the places and the children of a node: for every loop body that keeps what lay below a block and the box of the degrees. -/
namespace Go.Proofs.Ytkcldfliiagloaa
open Go.RowKit Go.Shelf
attribute [local go_sem] Oper.semAt_some

/-- what a round of a loop over the children must keep: all below n₀, and the box of the degrees -/
def KeepK (n₀ Bd : Nat) (W W' : World) : Prop := Below n₀ W W' ∧ W'.heap[Bd]? = W.heap[Bd]?
theorem KeepK.t {n₀ Bd : Nat} {A B C : World} (h : KeepK n₀ Bd A B) (k : KeepK n₀ Bd B C) : KeepK n₀ Bd A C := ⟨h.1.trans k.1, k.2.trans h.2⟩
theorem KeepK.b {n₀ Bd : Nat} {w : World} (hn : n₀ ≤ w.heap.size) (hB : Bd < w.heap.size) (W : World) (l : Nat) (o o' : Obj) (hl : w.heap.size ≤ l) (h : W.heap[l]? = some o) (h1 : o.isCells = false) (h2 : o.isWalk = false) : KeepK n₀ Bd W (W.putObj l o') :=
  ⟨belowK_b hn W l o o' hl h h1 h2, (grownBy_putObj' W l o').block Bd (by have := (Array.getElem?_eq_some_iff.1 h).1; omega) (fun e => by cases e; omega)⟩

/-- the places and the children that have come behind k rounds -/
def kids (xs : List Int) (v k : Nat) : List (Nat × Nat) := (List.range k).map fun i => (i, M.kidAt xs v i)
theorem kids_succ (xs : List Int) (v k : Nat) : kids xs v (k + 1) = kids xs v k ++ [(k, M.kidAt xs v k)] := by simp [kids, List.range_succ]
theorem kids_length (xs : List Int) (v k : Nat) : (kids xs v k).length = k := by simp [kids]

set_option maxRecDepth 100000 in
set_option maxHeartbeats 2000000 in
theorem each1 {α : Type} (mk : Nat → α) (encs : α → Array Value) (n : Nat) (hn : 1 ≤ n) (l Bv Bd n₀ : Nat) (A : Option Addr) (xs : List Int) (c v d : Nat) (hx : xs.length ≤ 24) (hcl : xs.length ≤ c) (hcu : c ≤ 9223372036854775807) (ht : Hid (M.isTree xs = true)) (hd : Hid (xs[v]? = some (d : Int)))
    (hmk : ∀ k, k < d → encs (mk k) = #[.int .i64 (k : Int), .int .i64 (M.kidAt xs v k : Int)]) (J Jx : List α → World → Prop)
    (hY : ∀ pre x W, J pre W → pre.length < d → YieldAt Fence.wide (n - 1) Try.prog l (encs x) W fun e W' =>
      (e = .returned (.bool true) ∧ J (pre ++ [x]) W' ∧ KeepK n₀ Bd W W') ∨ (e = .returned (.bool false) ∧ Jx (pre ++ [x]) W'))
    (W : World) (hBv : W.cell? ⟨Bv, 0, none⟩ = some (.int .i64 v)) (hBd : Boxed W Bd 22 (.slice A xs.length c)) (hI : Ints W n₀ A xs) (hn0 : n₀ ≤ W.heap.size) (h0 : J [] W) :
    CallsIn Fence.wide n Try.prog 225 #[.func (.yield l) #[] #[], .pointer (some ⟨Bv, 0, none⟩), .pointer (some ⟨Bd, 0, none⟩)] W fun e W' => (∃ u, e = .returned u) ∧
      ((∃ ys, ys = (List.range d).map mk ∧ J ys W') ∨ (∃ pre, (∃ k, k ≤ d ∧ pre = (List.range k).map mk) ∧ Jx pre W')) := by
  have hv : v < xs.length := (List.getElem?_eq_some_iff.1 hd.out).1
  have hd24 : d ≤ 24 := by have := M.tree_deg ht.out hd.out; omega
  obtain ⟨b, off, rfl, hbB, hcells⟩ := hI (by omega)
  have Hcells := Lib.hid hcells
  have hc0 := hcells v _ hd.out
  have hcd := hBd.cell
  have HBd := Lib.hid hBd
  have HI := Lib.hid hI
  clear hcells hI hBd
  refine callsIn_of_wp Try.func225 rfl trivial ?_ rfl
  simp only [Try.ntmps225, List.size_toArray, List.length_cons, List.length_nil, Nat.reduceAdd, Nat.reduceSub, Array.replicate_succ, Array.replicate_zero, List.push_toArray, List.append_toArray, List.nil_append, List.cons_append]
  gi_wp2
  gi_loopw [4, 5, 12] (fun q _ i wr => ∃ k : Nat, k ≤ d ∧ i = .int .i64 k ∧ q = .int .i64 (M.kidAt xs v k) ∧ J ((List.range k).map mk) wr ∧ Hid (KeepK n₀ Bd W wr))
    (fun _ _ i _ => d - (intOf i).toNat)
  case atStart => exact ⟨0, Nat.zero_le _, rfl, by simp [M.kidAt], h0, ⟨Below.refl _ _, rfl⟩⟩
  case round =>
    obtain ⟨k, hk, rfl, rfl, hJs, hnx⟩ := hrel
    clear hc0 hcd
    by_cases hlt : k < d
    · have hYk := hY _ (mk k) wr hJs (by simpa using hlt)
      rw [hmk k hlt] at hYk
      obtain ⟨fn, tmps, assign, body, hy, hR⟩ := hYk
      have hkl := M.kid_lt ht.out hd.out (i := k) (by omega)
      have hsp := M.span_le (xs.drop (M.kidAt xs v k)) 1
      have hsp2 : (xs.drop (M.kidAt xs v k)).length ≤ xs.length := by simp
      have hok := Lib.hid (M.tree_ok ht.out hkl)
      have hks : Hid (M.kidAt xs v (k + 1) = M.kidAt xs v k + M.span 1 (xs.drop (M.kidAt xs v k))) := rfl
      generalize hC : M.kidAt xs v k = C at *
      obtain ⟨S, hS⟩ : ∃ S, Hid (M.span 1 (xs.drop C) = S) := ⟨_, rfl⟩
      have hS2 : S ≤ 24 := by have := hS.out; omega
      have HC := Lib.hid hC
      clear hsp hsp2 hC
      gi_wp2
      refine hR.mono ?_
      rintro e W3 (⟨rfl, hJ3, hk3⟩ | ⟨rfl, hJx3⟩)
      · have hk4 : Hid (KeepK n₀ Bd W W3) := hnx.out.t hk3
        have hbd3 : Boxed W3 Bd 22 (.slice (some ⟨b, off, none⟩) xs.length c) := hk4.out.2.trans HBd.out
        have hc3 := hbd3.cell
        have hI3 := Lib.hid ((HI.out.below hk4.out.1 (Nat.le_refl _)).more (Nat.le_trans hn0 hk4.out.1.size))
        have hK3 := Lib.hid hk3
        clear hk3 hbd3
        gi_wp2_with (refine ⟨trivial, ?_⟩; gi_at_call 159; refine (callsIn_wide.2 (sizeAt _ xs c C S _ hS hx hcl hcu hok hI3.out)).mono ?_; rintro e w' ⟨rfl, rfl⟩)
        have hks2 : Hid (M.kidAt xs v (k + 1) = C + S) := by show _ = _; rw [hks.out, hS.out]
        go_roundw
        case rel => exact ⟨k + 1, by omega, by go_num, by rw [hks2.out]; go_num, by rw [List.range_succ, List.map_append]; exact hJ3, hk4⟩
        case measure => simp [intOf]; omega
      · gi_wp2
        refine bodyPost_ret (results_none rfl _ _ _) rfl ?_
        exact ⟨⟨_, rfl⟩, .inr ⟨_, ⟨k + 1, by omega, by rw [List.range_succ, List.map_append]; rfl⟩, hJx3⟩⟩
    · obtain rfl : k = d := by omega
      gi_wp2
      go_end0
      exact ⟨⟨_, rfl⟩, .inl ⟨_, rfl, hJs⟩⟩

set_option maxHeartbeats 1000000 in
/-- eachChild: both arguments are boxed; the function value captures the boxes -/
theorem eachIn (n : Nat) (A : Option Addr) (m c : Nat) (v : Int) (w : World) :
    CallsIn Fence.wide n Try.prog 172 #[.slice A m c, .int .i64 v] w fun e w' => e = .returned (.func (.func 225) #[] #[.pointer (some ⟨w.heap.size + 1, 0, none⟩), .pointer (some ⟨w.heap.size, 0, none⟩)]) ∧
      w' = (w.alloc (.cells #[.slice A m c] 22)).alloc (.cells #[.int .i64 v] 2) := by
  refine callsIn_of_wp Try.func172 rfl trivial ?_ rfl
  simp only [Try.ntmps172, List.size_toArray, List.length_cons, List.length_nil, Nat.reduceAdd, Nat.reduceSub, Array.replicate_succ, Array.replicate_zero, List.push_toArray, List.append_toArray, List.nil_append, List.cons_append]
  gi_wp2
  go_ret
  exact ⟨rfl, rfl⟩

/-- what a range over the children of v gives: all of them in order, or a beginning where a round has said 'no more'; the elements as the caller names them -/
theorem each_stopsF {α : Type} (mk : Nat → α) (encs : α → Array Value) (n : Nat) (hn : 1 ≤ n) (Bv Bd n₀ : Nat) (A : Option Addr) (xs : List Int) (c v d : Nat) (hx : xs.length ≤ 24) (hcl : xs.length ≤ c) (hcu : c ≤ 9223372036854775807) (ht : Hid (M.isTree xs = true)) (hd : Hid (xs[v]? = some (d : Int)))
    (hmk : ∀ k, k < d → encs (mk k) = #[.int .i64 (k : Int), .int .i64 (M.kidAt xs v k : Int)]) (w : World) (hBv : w.cell? ⟨Bv, 0, none⟩ = some (.int .i64 v)) (hBd : Boxed w Bd 22 (.slice A xs.length c)) (hI : Ints w n₀ A xs) (hn0 : n₀ ≤ w.heap.size) :
    SeqStopsK Fence.wide n Try.prog 225 #[.pointer (some ⟨Bv, 0, none⟩), .pointer (some ⟨Bd, 0, none⟩)] encs (KeepK n₀ Bd)
      (fun ys => ys = (List.range d).map mk) (fun pre => ∃ k, k ≤ d ∧ pre = (List.range k).map mk) d w := fun l J Jx W hW _ _ hY h0 =>
  each1 mk encs n hn l Bv Bd n₀ A xs c v d hx hcl hcu ht hd hmk J Jx hY W ((hW.cell (p := ⟨Bv, 0, none⟩) (World.block_lt_of_cell? _ _ hBv)).trans hBv) ((hW.block Bd hBd.lt).trans hBd) (hI.below hW hn0) (Nat.le_trans hn0 hW.size) h0

/-- what a range over the children of v gives: all of them in order, or a beginning where a round has said 'no more' -/
theorem each_stops (n : Nat) (hn : 1 ≤ n) (Bv Bd n₀ : Nat) (A : Option Addr) (xs : List Int) (c v d : Nat) (hx : xs.length ≤ 24) (hcl : xs.length ≤ c) (hcu : c ≤ 9223372036854775807) (ht : Hid (M.isTree xs = true)) (hd : Hid (xs[v]? = some (d : Int)))
    (w : World) (hBv : w.cell? ⟨Bv, 0, none⟩ = some (.int .i64 v)) (hBd : Boxed w Bd 22 (.slice A xs.length c)) (hI : Ints w n₀ A xs) (hn0 : n₀ ≤ w.heap.size) :
    SeqStopsK Fence.wide n Try.prog 225 #[.pointer (some ⟨Bv, 0, none⟩), .pointer (some ⟨Bd, 0, none⟩)] (fun x : Nat × Nat => #[Value.int .i64 (x.1 : Int), Value.int .i64 (x.2 : Int)]) (KeepK n₀ Bd)
      (fun ys => ys = kids xs v d) (fun pre => ∃ k, k ≤ d ∧ pre = kids xs v k) d w :=
  each_stopsF (fun i => (i, M.kidAt xs v i)) _ n hn Bv Bd n₀ A xs c v d hx hcl hcu ht hd (fun _ _ => rfl) w hBv hBd hI hn0
end Go.Proofs.Ytkcldfliiagloaa

/- childrenIn: the children of a node in a row of its own; l01Children: the same. -/
namespace Go.Proofs.Ytkcldfliiagloaa
open Go.RowKit Go.Shelf
attribute [local go_sem] Oper.semAt_some

/-- the children, as numbers -/
def kidsI (pre : List (Nat × Nat)) : List Int := pre.map fun x => (x.2 : Int)
theorem kidsI_snoc (pre : List (Nat × Nat)) (x : Nat × Nat) : kidsI (pre ++ [x]) = kidsI pre ++ [(x.2 : Int)] := by simp [kidsI]
theorem kidsI_length (pre : List (Nat × Nat)) : (kidsI pre).length = pre.length := by simp [kidsI]

theorem keepK_appended {W w1 : World} {n₀ B Bd : Nat} {tmp : Obj} {v v' : Value} {u : Value} {n : Nat} {xs : List Value} (hB : Below n₀ W (w1.setCell ⟨B, 0, none⟩ v')) (hgrow : (W.alloc tmp).grownBy w1 v.ownBlock)
    (hrow : W.ownsRow n₀ 2 1 v n xs) (hd : Boxed W Bd 22 u) (hne : Bd ≠ B) : KeepK n₀ Bd W (w1.setCell ⟨B, 0, none⟩ v') := by
  have h1 : Boxed w1 Bd 22 u := (hd.alloc tmp).kept hgrow (hd.not_row (by decide) hrow)
  exact ⟨hB, (show Boxed _ Bd _ u from h1.other hne v').trans (show W.heap[Bd]? = _ from hd).symm⟩

set_option maxRecDepth 100000 in
set_option maxHeartbeats 2000000 in
theorem childrenIn_in (A : Option Addr) (xs : List Int) (c v d : Nat) (w : World) (hx : xs.length ≤ 24) (hcl : xs.length ≤ c) (hcu : c ≤ 9223372036854775807) (ht : Hid (M.isTree xs = true)) (hd : Hid (xs[v]? = some (d : Int))) (hI : Ints w w.heap.size A xs) :
    CallsIn Fence.wide 5 Try.prog 202 #[.slice A xs.length c, .int .i64 v] w fun e w' => ∃ u, e = .returned u ∧ w'.ownsRow w.heap.size 2 1 u (kidsI (kids xs v d)).length ((kidsI (kids xs v d)).map (Value.int .i64)) ∧ Below w.heap.size w w' := by
  obtain ⟨i0, hi0, hz0, hz1, hz2⟩ := info_parts info64
  have hd24 : d ≤ 24 := by have := (M.tree_deg ht.out hd.out).2; omega
  refine callsIn_of_wp_marks Try.func202 rfl trivial ?_ rfl
  simp only [Try.ntmps202, List.size_toArray, List.length_cons, List.length_nil, Nat.reduceAdd, Nat.reduceSub, Array.replicate_succ, Array.replicate_zero, List.push_toArray, List.append_toArray, List.nil_append, List.cons_append]
  gi_wp2_with (refine ⟨trivial, ?_⟩; gi_at_call 172; refine (eachIn 4 A xs.length c v _).mono ?_; rintro e w' ⟨rfl, rfl⟩)
  have bO := Boxed.new w 22 (.slice none 0 0)
  have bD := Boxed.new (w.alloc (.cells #[.slice none 0 0] 22)) 22 (.slice A xs.length c)
  have bV := Boxed.new ((w.alloc (.cells #[.slice none 0 0] 22)).alloc (.cells #[.slice A xs.length c] 22)) 2 (.int .i64 v)
  simp only [World.size_alloc] at bD bV
  have hB0 := bal (bal (bal (b0 w) (.cells #[.slice none 0 0] 22)) (.cells #[.slice A xs.length c] 22)) (.cells #[.int .i64 v] 2)
  have hKb := KeepK.b (n₀ := w.heap.size) (Bd := w.heap.size + 1) (w := ((w.alloc (.cells #[.slice none 0 0] 22)).alloc (.cells #[.slice A xs.length c] 22)).alloc (.cells #[.int .i64 v] 2)) (by simp; omega) (by simp)
  have h15 : 1 ≤ 5 := by omega
  refine wpIn_rangeFunc_ownG (α := Nat × Nat) rfl h15 (gf := 225) (lb := #[.pointer (some ⟨w.heap.size + 2, 0, none⟩), .pointer (some ⟨w.heap.size + 1, 0, none⟩)]) rfl trivial (enters_of Try.func225 (by kernel_rfl) rfl)
    (each_stops 4 (by omega) (w.heap.size + 2) (w.heap.size + 1) w.heap.size A xs c v d hx hcl hcu ht hd _ bV.cell (bD.alloc _) (hI.below hB0 (Nat.le_refl _)) (by simp; omega)) (fun h k => h.t k) hKb (Below.refl _ _) (fun _ => rfl)
    (fun pre W => (∃ u, Boxed W w.heap.size 22 u ∧ W.ownsRow w.heap.size 2 1 u (kidsI pre).length ((kidsI pre).map (Value.int .i64)) ∧ True) ∧ Boxed W (w.heap.size + 1) 22 (.slice A xs.length c) ∧ Below w.heap.size w W)
    (fun _ _ _ => False)
    (OwnFrom.and (Own.from (holdsRow_own w.heap.size w.heap.size 22 2 1 (fun pre => (kidsI pre).length) (fun pre => (kidsI pre).map (Value.int .i64)) (fun _ _ => True)) _) (OwnFrom.and (Own.from (boxed_own (w.heap.size + 1) 22 (fun _ => .slice A xs.length c)) _) (ownFrom_below (Nat.le_refl _) (by simp; omega))))
    (fun _ _ _ _ _ hs _ _ => hs)
    ⟨⟨_, (bO.alloc _).alloc _, World.ownsRow_nil _ _ _ _, trivial⟩, bD.alloc _, hB0⟩
    (fun x => { tmps := #[.slice A xs.length c, .int .i64 v, undef, undef, .slice none 0 0, .pointer (some ⟨w.heap.size, 0, none⟩), undef, .int .i64 (x.2 : Int), .slice A xs.length c, .int .i64 v, .func (.func 225) #[] #[.pointer (some ⟨w.heap.size + 2, 0, none⟩), .pointer (some ⟨w.heap.size + 1, 0, none⟩)], .int .i64 (x.1 : Int), .int .i64 (x.2 : Int), undef, undef, undef, undef, undef], defers := [] }) ?assign ?body ?done ?stop
  case assign =>
    intro l x W K hK
    gi_wp2
    exact hK
  case body =>
    rintro l pre x W ⟨⟨u, hu, hrow, _⟩, hbd, hB⟩ hlt
    have hc := hu.cell
    have hpl := kidsI_length pre
    have hpl2 : (kidsI pre).length ≤ 24 := by omega
    clear hpl
    gi_wp2_with (gi_at_builtin; refine wpListIn_append_own _ rfl _ _ 22 rfl w.heap.size 2 i0 (.int .i64 0) 1 8 Try.underlying22 hi0 hz0 hz1 hz2 rfl (by decide) _ _ _ rfl (hrow.alloc _) ⟨W.heap.size, 0, none⟩ 1 1 [.int .i64 (x.2 : Int)] rfl rfl (cell_one_new _ _ _) (by simp [Value.oneCell']) (by unfold maxLen; omega) (by omega) (by have := hB.size; simp; omega) ?_; intro v' w1 hown' hgrow _; obtain ⟨g', cap', rfl⟩ := ownsRow_succ hown'; obtain ⟨hv1, hv2, hr2, hk2, hb2⟩ := hu.appended (by decide) hrow hB.size (Nat.le_refl _) hown' hgrow; have hc1 := hv1.cell; have hf1 := hv1.frozen)
    have hkk := keepK_appended hb2 hgrow hrow hbd (by omega)
    exact ⟨hk2.from _, hkk, ⟨_, hv2, by rw [kidsI_snoc]; simpa using hr2, trivial⟩, hkk.2.trans hbd, hB.trans hb2⟩
  case done =>
    rintro D ys W hD rfl ⟨⟨u, hu, hrow, _⟩, hbd, hB⟩ hK
    have hc := hu.cell
    gi_wp2
    refine ⟨by simp, .inl ⟨_, _, rfl, run_takeDeferred hK, ?_⟩⟩
    exact ⟨_, results_tmp rfl _ _ _, u, rfl, ownsRow_putObj hrow _ hK rfl, hB.trans (belowK_b (w := w) (Nat.le_refl _) W D _ _ (by simp at hD; omega) hK rfl rfl)⟩
  case stop =>
    rintro D c pre W _ _ h _
    exact h.elim

theorem kidsI_kids (xs : List Int) (v k : Nat) : kidsI (kids xs v k) = M.childs xs v k := by simp [kidsI, kids, M.childs]

theorem childrenIn (A : Option Addr) (xs : List Int) (c v d : Nat) (w : World) (hx : xs.length ≤ 24) (hcl : xs.length ≤ c) (hcu : c ≤ 9223372036854775807) (ht : Hid (M.isTree xs = true)) (hd : Hid (xs[v]? = some (d : Int))) (hI : Ints w w.heap.size A xs) :
    Calls Try.prog 202 #[.slice A xs.length c, .int .i64 v] w fun e w' => ∃ A' c', e = .returned (.slice A' d c') ∧ Own64 w' w.heap.size (.slice A' d c') (M.childs xs v d) ∧ Below w.heap.size w w' := by
  refine ((callsIn_wide (n := 5)).1 (childrenIn_in A xs c v d w hx hcl hcu ht hd hI)).mono ?_
  rintro e w' ⟨u, rfl, ho, hb⟩
  rw [kidsI_kids, M.childs_length] at ho
  obtain ⟨A', c', rfl⟩ := own_shape ho
  exact ⟨A', c', rfl, by unfold Own64; rw [M.childs_length]; exact ho, hb⟩

set_option maxHeartbeats 2000000 in
theorem l01Children (A : Option Addr) (xs : List Int) (c v d : Nat) (w : World) (hx : xs.length ≤ 24) (ht : Hid (M.isTree xs = true)) (hd : Hid (xs[v]? = some (d : Int))) (h : Ints w w.heap.size A xs) :
    Calls Try.prog 104 #[.agg #[.slice A xs.length c], .int .i64 v] w fun e w' => ∃ A' c', e = .returned (.slice A' d c') ∧ Own64 w' w.heap.size (.slice A' d c') (M.childs xs v d) ∧ Below w.heap.size w w' := by
  have hv : v < xs.length := (List.getElem?_eq_some_iff.1 hd.out).1
  have hd24 : d ≤ 24 := by have := (M.tree_deg ht.out hd.out).2; omega
  have Hh := Lib.hid h
  obtain ⟨b, off, rfl, hbB, hcells⟩ := h (by omega)
  have hc0 := hcells v _ hd.out
  clear hcells
  go_enter Try.func104, Try.ntmps104
  go_wp2
  go_loopw [5, 6, 7] (fun q at_ i wr => ∃ (k : Nat) (A' : Option Addr) (n c' : Nat), k ≤ d ∧ i = .int .i64 ((d : Int) - k) ∧ at_ = .int .i64 (M.kidAt xs v k) ∧ q = .slice A' n c' ∧ Hid (Own64 wr (w.heap.size + 1) (.slice A' n c') (M.childs xs v k)) ∧ Hid (Below (w.heap.size + 1) (w.alloc (.cells #[.slice (some ⟨b, off, none⟩) xs.length c] 28)) wr)) (fun _ _ i _ => (intOf i).toNat)
  case atStart => exact ⟨0, some ⟨w.heap.size + 1, 0, none⟩, 0, 0, Nat.zero_le _, by go_num, by simp [M.kidAt], rfl, by have := own64_empty (w := w.alloc (.cells #[.slice (some ⟨b, off, none⟩) xs.length c] 28)) (B := w.heap.size + 1) (by simp); exact Lib.hid (by simpa [M.childs] using this), (Below.refl _ _).alloc (by simp) _⟩
  case round =>
    obtain ⟨k, A', n, c', hk, rfl, rfl, rfl, ho, hbr⟩ := hrel
    have hnr : n ≤ 1000000 := by have h1 := own64_len ho.out; rw [M.childs_length] at h1; omega
    clear hc0
    have hB1 := hbr.out.size
    by_cases hlt : k < d
    · have hkl := M.kid_lt ht.out hd.out (i := k) (by omega)
      have hok := Lib.hid (M.tree_ok ht.out hkl)
      have hsp := M.span_le (xs.drop (M.kidAt xs v k)) 1
      have hsp2 : (xs.drop (M.kidAt xs v k)).length ≤ xs.length := by simp
      obtain ⟨C2, hC2e⟩ : ∃ C2, Hid (M.kidAt xs v (k + 1) = C2) := ⟨_, rfl⟩
      have hks : Hid (M.kidAt xs v k + M.span 1 (xs.drop (M.kidAt xs v k)) = C2) := hC2e
      have hcs := Lib.hid (M.childs_succ xs v k)
      generalize M.kidAt xs v k = C at *
      have hC2 : C2 ≤ 48 := by have := hks.out; omega
      clear hsp hsp2
      have hB2 : w.heap.size + 1 ≤ wr.heap.size := by simpa using hB1
      have HbB := Lib.hid hbB
      clear hB1 hbB
      go_wp2_with (at_builtin; refine push64 rfl (.tmp 20) (.tmp 22) rfl wr (w.heap.size + 1) A' n c' (M.childs xs v k) (C : Int) rfl rfl ho hB2 hnr ?_; intro A2 c2 w2 ho2 hb2; have hb3 := Lib.hid (hbr.out.trans hb2.out); have hcell2 := (hb3.out.cell (p := ⟨w.heap.size, 0, none⟩) (Nat.lt_succ_self _)).trans (World.cell?_alloc_new w #[.slice (some ⟨b, off, none⟩) xs.length c] 28 0))
      have hsz2 : w.heap.size ≤ w2.heap.size := by have := hb3.out.size; simp at this; omega
      have hI2 := Lib.hid (((Hh.out.alloc (Nat.le_refl _) (.cells #[.slice (some ⟨b, off, none⟩) xs.length c] 28)).below hb3.out (Nat.le_succ _)).more hsz2)
      refine (l01End _ xs c C C2 _ hks hx hok hI2.out).mono ?_
      rintro e w3 ⟨rfl, hb⟩
      have hb4 := Lib.hid (hb3.out.trans (hb.mono (by have := hb3.out.size; simp at this; omega)))
      have ho4 := Lib.hid (own_be (own64_eq ho2.out hcs.out.symm) hb)
      clear hb
      go_wp2
      go_roundw
      case rel => exact ⟨k + 1, A2, _, c2, by omega, by go_num, by rw [hC2e.out], rfl, ho4, hb4⟩
      case measure => simp [intOf]; omega
    · obtain rfl : k = d := by omega
      go_wp2
      go_ret
      have hn := own64_len ho.out
      rw [M.childs_length] at hn
      subst hn
      exact ⟨A', c', rfl, own_mono ho.out (by omega), (bal (b0 w) _).trans (hbr.out.mono (by omega))⟩
end Go.Proofs.Ytkcldfliiagloaa

/- Two rows of the call's own that share no block: append to one, a store into one, one made shorter. -/
namespace Go.Proofs.Ytkcldfliiagloaa
open Go.RowKit

def Two (w : World) (B : Nat) (v1 v2 : Value) (xs ys : List Int) : Prop :=
  Own64 w B v1 xs ∧ Own64 w B v2 ys ∧ ∀ b, v1.ownBlock = some b → v2.ownBlock ≠ some b
theorem Two.symm {w : World} {B : Nat} {v1 v2 : Value} {xs ys : List Int} (h : Two w B v1 v2 xs ys) : Two w B v2 v1 ys xs := ⟨h.2.1, h.1, fun b h2 h1 => h.2.2 b h1 h2⟩
theorem Two.eq {w : World} {B : Nat} {v1 v2 : Value} {xs ys xs' ys' : List Int} (h : Two w B v1 v2 xs ys) (e : xs = xs') (e' : ys = ys') : Two w B v1 v2 xs' ys' := by subst e; subst e'; exact h
theorem Two.set {w : World} {B g n c : Nat} {v2 : Value} {xs ys : List Int} (h : Two w B (.slice (some ⟨g, 0, none⟩) n c) v2 xs ys) (hn : xs.length = n) (k : Nat) (x : Int) :
    Two (w.setCell ⟨g, k, none⟩ (.int .i64 x)) B (.slice (some ⟨g, 0, none⟩) n c) v2 (xs.set k x) ys :=
  ⟨own64_set h.1 hn k x, ownsRow_setCell_other h.2.1 (a := ⟨g, k, none⟩) (h.2.2 g rfl) _, h.2.2⟩
theorem Two.pop {w : World} {B n c : Nat} {A : Option Addr} {v1 : Value} {xs ys : List Int} (h : Two w B v1 (.slice A n c) xs ys) (hn : 0 < n) : Two w B v1 (.slice A (n - 1) c) xs ys.dropLast := by
  obtain ⟨h1, h2, h3⟩ := h
  refine ⟨h1, ?_, fun b hb => by
    have := h3 b hb
    rcases A with _ | a
    · simp [Value.ownBlock]
    · exact this⟩
  have hl := own64_len h2
  rcases h2.2 with ⟨h0, _⟩ | ⟨g, cap, cur, hv, hg, hh, hnc, hcm, hcs, ht⟩
  · injection h0 with _ e _; omega
  · injection hv with e1 e2 e3
    subst e1
    subst e3
    refine ⟨by simp, .inr ⟨g, c, cur, by rw [hl, List.length_dropLast], hg, hh, ?_, hcm, hcs, ?_⟩⟩
    · rw [List.length_dropLast]; omega
    · have hlen : (ys.map (Value.int .i64)).length = ys.length := by simp
      rw [List.length_dropLast, List.map_dropLast, List.dropLast_eq_take, hlen, ← ht, List.take_take]
      congr 1
      omega
theorem Two.shape {w : World} {B n c : Nat} {A : Option Addr} {v2 : Value} {xs ys : List Int} (h : Two w B (.slice A n c) v2 xs ys) : n = xs.length ∧ (0 < n → ∃ g, A = some ⟨g, 0, none⟩) := by
  have hl := own64_len h.1
  refine ⟨hl, fun hn => ?_⟩
  rcases h.1.2 with ⟨h0, _⟩ | ⟨g, cap, cur, hv, _⟩
  · injection h0 with _ e _; omega
  · injection hv with e1; exact ⟨g, e1⟩
theorem Two.cap {w : World} {B n c : Nat} {A : Option Addr} {v2 : Value} {xs ys : List Int} (h : Two w B (.slice A n c) v2 xs ys) : n ≤ c := by
  rcases h.1.2 with ⟨h0, _⟩ | ⟨g, cap, cur, hv, _, _, hnc, _⟩
  · injection h0 with _ e e'; omega
  · injection hv with _ e e'; omega

set_option maxRecDepth 100000 in
theorem pushTwo {ops : Array Oper} {rest : List Oper} {o : Oper} {a : Act} {Q : Exit → Act → World → Prop} (hgd : o.guard = none) (s x : Operand)
    (ho : o.op = .call { callee := .builtin .append, args := #[s, x], argTypes := #[22, 22] }) (w : World) (B : Nat) (A : Option Addr) (n c : Nat) (v2 : Value) (zs ys : List Int) (y : Int)
    (hs : a.eval s = .slice A n c) (N : Nat) (hx : a.eval x = .slice (some ⟨N, 0, none⟩) 1 1) (hN : N = w.heap.size) (ht : Hid (Two w B (.slice A n c) v2 zs ys)) (hB : B ≤ w.heap.size) (hlen : n ≤ 1000000)
    (h : ∀ A' c' w', Hid (Two w' B (.slice A' (n + 1) c') v2 (zs ++ [y]) ys) → Hid (Below B w w') → wpList Try.prog ops Q rest (a.put o.dst (.slice A' (n + 1) c')) w') :
    wpList Try.prog ops Q (o :: rest) a (w.alloc (.cells #[.int .i64 y] 2)) := by
  obtain ⟨i0, hi0, hz0, hz1, hz2⟩ := info_parts info64
  obtain ⟨hown, hown2, hdis⟩ := ht.out
  have hn := own64_len hown
  subst hn
  subst hN
  refine wpList_append_own_at _ hgd s x 22 ho B 2 i0 (.int .i64 0) 1 8 Try.underlying22 hi0 hz0 hz1 hz2 rfl (by decide) _ zs.length (zs.map (Value.int .i64)) hs (hown.alloc _) ⟨w.heap.size, 0, none⟩ 1 1 [.int .i64 y] hx rfl ?_ ?_ ?_ ?_ ?_ ?_
  · intro j u hj
    match j, hj with
    | 0, hj => simp at hj; subst hj; simp [Addr.add]
  · intro u hu; simp at hu; subst hu; rfl
  · unfold maxLen; omega
  · omega
  · simp; omega
  · intro v' w1 hown1 hg1 _ hat
    obtain ⟨A', c', rfl⟩ : ∃ A' c', v' = .slice A' (zs.length + 1) c' := own_shape hown1
    refine h A' c' w1 ⟨?_, ?_, ?_⟩ ?_
    · have e : (zs ++ [y]).length = zs.length + 1 := by simp
      unfold Own64
      rw [e]
      simpa using hown1
    · refine (hown2.alloc _).kept hg1 ?_
      cases hv : v2.ownBlock with
      | none => exact .inl rfl
      | some k => exact .inr fun e => hdis k e.symm hv
    · intro b hb hb2
      rcases hat with e | e
      · exact hdis b (e ▸ hb) hb2
      · have h1 := hown2.lt b hb2
        rw [hb] at e
        injection e with e
        simp at e
        omega
    · exact ((Below.refl B w).alloc hB _).grown hg1 (by simp; omega) (fun k hk => (hown.lt k hk).1)
end Go.Proofs.Ytkcldfliiagloaa

/- l01Parents: the model's row of parents. -/
namespace Go.Proofs.Ytkcldfliiagloaa
open Go.RowKit

namespace M
def PartP (xs : List Int) (k j : Nat) (ps : List Int) : Prop :=
  ps.length = xs.length ∧ ps[0]? = some (-1) ∧ (∀ p c, p < k → IsKid xs p c → ps[c]? = some (p : Int)) ∧ (∀ i, i < j → ps[kidAt xs k i]? = some (k : Int))
def ParsOK (xs ps : List Int) : Prop := ps.length = xs.length ∧ ps[0]? = some (-1) ∧ ∀ p c, IsKid xs p c → ps[c]? = some (p : Int)
theorem partP_start {xs : List Int} (ht : isTree xs = true) : PartP xs 0 0 ((List.replicate xs.length (0 : Int)).set 0 (-1)) := by
  have := (tree_len ht).1
  refine ⟨by simp, ?_, fun p c h => by omega, fun i h => by omega⟩
  rw [List.getElem?_set_self (by simp; omega)]
theorem partP_step {xs ps : List Int} {k j d : Nat} (ht : isTree xs = true) (h : PartP xs k j ps) (hd : xs[k]? = some (d : Int)) (hj : j < d) : PartP xs k (j + 1) (ps.set (kidAt xs k j) (k : Int)) := by
  obtain ⟨h1, h2, h3, h4⟩ := h
  have hkid : IsKid xs k (kidAt xs k j) := ⟨d, j, hd, hj, rfl⟩
  have hb := kid_bounds ht hkid
  refine ⟨by simp [h1], ?_, fun p c hp hc => ?_, fun i hi => ?_⟩
  · rw [List.getElem?_set_ne (by omega)]; exact h2
  · have hne : kidAt xs k j ≠ c := fun e => by
      subst e
      have := kid_unique ht hc hkid
      omega
    rw [List.getElem?_set_ne hne]
    exact h3 p c hp hc
  · rcases Nat.lt_or_ge i j with h5 | h5
    · have h6 := kid_le (xs := xs) (v := k) (i := i + 1) (j := j) (by omega)
      have h7 := kid_lt ht hd (i := i) (by omega)
      have h8 := span_pos h7
      simp only [kidAt] at h6
      rw [List.getElem?_set_ne (by omega)]
      exact h4 i h5
    · obtain rfl : i = j := by omega
      rw [List.getElem?_set_self (by omega)]
theorem partP_next {xs ps : List Int} {k d : Nat} (h : PartP xs k d ps) (hd : xs[k]? = some (d : Int)) : PartP xs (k + 1) 0 ps := by
  obtain ⟨h1, h2, h3, h4⟩ := h
  refine ⟨h1, h2, fun p c hp hc => ?_, fun i h => by omega⟩
  rcases Nat.lt_or_ge p k with h5 | h5
  · exact h3 p c h5 hc
  · obtain rfl : p = k := by omega
    obtain ⟨d', i, hd', hi, rfl⟩ := hc
    rw [hd] at hd'
    injection hd' with hd'
    exact h4 i (by omega)
theorem partP_done {xs ps : List Int} (ht : isTree xs = true) (h : PartP xs xs.length 0 ps) : ParsOK xs ps :=
  ⟨h.1, h.2.1, fun p c hc => h.2.2.1 p c (by have := kid_bounds ht hc; omega) hc⟩
end M

theorem own64_made_set {w : World} {B n : Nat} (hB : B ≤ w.heap.size) (hn : n ≤ maxLen) (x : Int) :
    Own64 (w.alloc (.cells ((madeCells #[.int .i64 0] n).setIfInBounds 0 (.int .i64 x)) 2)) B (.slice (some ⟨w.heap.size, 0, none⟩) n n) ((List.replicate n 0).set 0 x) := by
  have h := World.ownsRow_lit (e := 2) (size := 1) w ((madeCells #[.int .i64 0] n).setIfInBounds 0 (.int .i64 x)) n hB hn (by simp [size_madeCells])
  rw [Array.toList_setIfInBounds, toList_madeCells_one] at h
  simpa [Own64, List.map_set] using h

set_option maxHeartbeats 4000000 in
set_option maxRecDepth 100000 in
theorem l01Parents (A : Option Addr) (xs : List Int) (c : Nat) (w : World) (ht : Hid (M.isTree xs = true)) (h : Ints w w.heap.size A xs) :
    Calls Try.prog 103 #[.agg #[.slice A xs.length c]] w fun e w' => ∃ A' c' ps, e = .returned (.slice A' xs.length c') ∧ Hid (M.ParsOK xs ps) ∧ Own64 w' w.heap.size (.slice A' xs.length c') ps ∧ Below w.heap.size w w' := by
  have hlen := M.tree_len ht.out
  have hpos : 0 < xs.length := by omega
  have hmk := run_make_row' (P := Try.prog) 22 2 (.int .i64 0) 8 Try.underlying22 info64 rfl .i64 .i64 xs.length (by omega) (by omega)
  go_enter Try.func103, Try.ntmps103
  go_wp2_with fail
  refine (l01N A xs.length c _).mono ?_
  rintro e w1 ⟨rfl, hb⟩
  have hB := Lib.hid (btr (bal (b0 w) _) hb)
  have HcellA := Lib.hid (show w1.cell? ⟨w.heap.size, 0, none⟩ = some (.slice A xs.length c) from cell_be (by simp) hb)
  have h1 := Lib.hid ((h.al _).be hb)
  have z1 := hB.out.size
  have Hstart := Lib.hid (own64_made (w := w1) (B := w1.heap.size) (n := xs.length) (Nat.le_refl _) (by unfold maxLen; omega))
  obtain ⟨c1, c2, _, _⟩ := own64_cell Hstart.out (by simp) (k := 0) (x := 0) (by simp [hpos])
  have ho0 := Lib.hid (own64_made_set (w := w1) (B := w1.heap.size) (n := xs.length) (Nat.le_refl _) (by unfold maxLen; omega) (-1))
  have hp0 := Lib.hid (M.partP_start ht.out)
  have hb0 := Lib.hid (bal (b0 w1) (.cells ((madeCells #[.int .i64 0] xs.length).setIfInBounds 0 (.int .i64 (-1))) 2))
  clear hb h Hstart
  go_wp2
  clear hmk c1 c2
  go_loopw [4, 5, 6] (fun v _ _ wr => ∃ (k : Nat) (ps : List Int), k ≤ xs.length ∧ v = .int .i64 k ∧ Hid (M.PartP xs k 0 ps) ∧ Hid (Own64 wr w1.heap.size (.slice (some ⟨w1.heap.size, 0, none⟩) xs.length xs.length) ps) ∧ Hid (Below w1.heap.size w1 wr)) (fun v _ _ _ => xs.length - (intOf v).toNat)
  case atStart => exact ⟨0, _, Nat.zero_le _, rfl, hp0, ho0, hb0⟩
  case round =>
    obtain ⟨k, ps, hk, rfl, hp, ho, hbr⟩ := hrel
    have hcr := cell_be HcellA.out hbr.out
    clear hp0 ho0 hb0
    by_cases hlt : k < xs.length
    · obtain ⟨d, hd, hd2⟩ := M.tree_degN ht.out hlt
      have Hd := Lib.hid hd
      go_wp2_with fail
      refine (l01N A xs.length c _).mono ?_
      rintro e wn ⟨rfl, hb⟩
      have hbn := Lib.hid (btr hbr.out hb)
      have hon := Lib.hid (own_be ho.out hb)
      have hcn := cell_be hcr hb
      clear hb ho hcr hd
      have I1 := Lib.hid (h1.out.be hbn.out)
      have hgl := World.ownsRow.lt hon.out w1.heap.size rfl
      go_wp2_with fail
      refine (l01Children A xs c k d _ hlen.2 ht Hd I1.out).mono ?_
      rintro e w2 ⟨A2, c2, rfl, o2, hb⟩
      have hb2 := Lib.hid (btr hbn.out hb)
      have ht2 : Hid (Two w2 w1.heap.size (.slice (some ⟨w1.heap.size, 0, none⟩) xs.length xs.length) (.slice A2 d c2) ps (M.childs xs k d)) :=
        ⟨own_be hon.out hb, own_mono o2 hbn.out.size, fun b e e2 => by
          have e1 : b = w1.heap.size := by injection e with e; exact e.symm
          have := (World.ownsRow.lt o2 b e2).1
          omega⟩
      clear hb o2 hon hcn hgl hbn hbr I1
      go_wp2
      go_loopw [6] (fun i wr => ∃ (j : Nat) (ps : List Int), j ≤ d ∧ i = .int .i64 j ∧ Hid (M.PartP xs k j ps) ∧ Hid (Two wr w1.heap.size (.slice (some ⟨w1.heap.size, 0, none⟩) xs.length xs.length) (.slice A2 d c2) ps (M.childs xs k d)) ∧ Hid (Below w1.heap.size w1 wr)) (fun i _ => d - (intOf i).toNat)
      case atStart => exact ⟨0, ps, Nat.zero_le _, rfl, hp, ht2, hb2⟩
      case round =>
        obtain ⟨j, ps, hj, rfl, hp, ht2, hbr⟩ := hrel
        by_cases hjd : j < d
        · obtain ⟨g2, rfl⟩ := ht2.out.symm.shape.2 (by omega)
          have hkl := M.kid_lt ht.out Hd.out (i := j) (by omega)
          have hcat := M.childs_at xs k hjd
          have hpl := hp.out.1
          have hstep := Lib.hid (M.partP_step ht.out hp.out Hd.out hjd)
          have hset := Lib.hid (ht2.out.set hpl (M.kidAt xs k j) (k : Int))
          have gk := (own64_cell ht2.out.2.1 (M.childs_length xs k d) hcat).1
          obtain ⟨c1, c2, _, _⟩ := own64_cell ht2.out.1 hpl (k := M.kidAt xs k j) (x := ps[M.kidAt xs k j]'(by omega)) (List.getElem?_eq_getElem (by omega))
          generalize ps[M.kidAt xs k j]'(by omega) = y at c1
          generalize M.kidAt xs k j = K at *
          clear hcat hpl ht2 hp
          go_wp2
          go_roundw
          case rel => exact ⟨j + 1, _, by omega, by go_num, hstep, hset, below_setCell hbr.out (Nat.le_refl _) _⟩
          case measure => simp [intOf]; omega
        · obtain rfl : j = d := by omega
          have hnx := Lib.hid (M.partP_next hp.out Hd.out)
          clear hp
          go_wp2
          go_roundw
          case rel => exact ⟨k + 1, ps, by omega, by go_num, hnx, ht2.out.1, hbr⟩
          case measure => simp [intOf]; omega
    · obtain rfl : k = xs.length := by omega
      go_wp2_with fail
      refine (l01N A xs.length c _).mono ?_
      rintro e wn ⟨rfl, hb⟩
      have hbn := Lib.hid (btr hbr.out hb)
      have hon := Lib.hid (own_be ho.out hb)
      have hok := Lib.hid (M.partP_done ht.out hp.out)
      clear hb ho hcr hp
      go_wp2
      go_ret
      exact ⟨_, _, ps, rfl, hok, own_mono hon.out z1, btr hB.out hbn.out⟩
end Go.Proofs.Ytkcldfliiagloaa

/- treeCode, labelsIn, nodesOf: the code of a tree, the labels of a list of nodes, all nodes in their order. -/
namespace Go.Proofs.Ytkcldfliiagloaa
open Go.RowKit

namespace M
/-- the first k ones are their own numbers -/
def nodTo (n k : Nat) : List Int := (List.range n).map fun v : Nat => if v < k then (v : Int) else 0
theorem nodTo_len (n k : Nat) : (nodTo n k).length = n := by simp [nodTo]
theorem nodTo_zero (n : Nat) : nodTo n 0 = List.replicate n 0 := by simp [nodTo, List.map_const']
theorem nodTo_done (n : Nat) : nodTo n n = iota n := by
  simp only [nodTo, iota]
  exact List.map_congr_left fun v hv => if_pos (List.mem_range.1 hv)
theorem nodTo_step {n k : Nat} (h : k < n) : (nodTo n k).set k (k : Int) = nodTo n (k + 1) := by
  refine List.ext_getElem? fun i => ?_
  rcases Nat.lt_or_ge i n with hi | hi
  · rw [List.getElem?_set]
    simp only [nodTo, List.length_map, List.length_range, List.getElem?_map, List.getElem?_range hi, Option.map_some]
    by_cases e : k = i
    · subst e; rw [if_pos rfl, if_pos h, if_pos (by omega)]
    · rw [if_neg e]
      congr 1
      by_cases h2 : i < k
      · rw [if_pos h2, if_pos (by omega)]
      · rw [if_neg h2, if_neg (by omega)]
  · rw [List.getElem?_eq_none (by simp [nodTo]; omega), List.getElem?_eq_none (by rw [nodTo_len]; omega)]
end M

set_option maxHeartbeats 1000000 in
theorem treeCode (A A2 : Option Addr) (xs : List Int) (c n2 c2 : Nat) (w : World) (hx : xs.length ≤ 1000000000000) (h : Ints w w.heap.size A xs) (r : Int) (hr : Hid ((if M.isTree xs then 0 else 1) = r)) :
    Calls Try.prog 97 #[.agg #[.slice A xs.length c, .slice A2 n2 c2]] w fun e w' => e = .returned (.int .i64 r) ∧ Below w.heap.size w w' := by
  have HC := Lib.hid (codeOf0 A xs c (w.alloc (.cells #[.slice A xs.length c, .slice A2 n2 c2] 96)) hx (h.al _) r hr)
  go_enter Try.func97, Try.ntmps97
  go_wp2_with fail
  refine HC.out.mono ?_
  rintro e w1 ⟨rfl, hb⟩
  have hB := btr (bal (b0 w) _) hb
  go_wp2
  go_ret
  exact ⟨rfl, hB⟩

set_option maxHeartbeats 2000000 in
set_option maxRecDepth 100000 in
theorem labelsIn (A : Option Addr) (l : List Int) (n c : Nat) (w : World) (hn : n ≤ 24) (ho : Hid (M.isOrd n l = true)) (hl : Hid (l.length = n)) (h : Ints w w.heap.size A l) :
    Calls Try.prog 105 #[.slice A n c] w fun e w' => e = .returned (.slice (some ⟨w.heap.size, 0, none⟩) n n) ∧ Own64 w' w.heap.size (.slice (some ⟨w.heap.size, 0, none⟩) n n) (M.labs n l) ∧ Below w.heap.size w w' := by
  have hmk := run_make_row' (P := Try.prog) 22 2 (.int .i64 0) 8 Try.underlying22 info64 rfl .i64 .i64 n (by omega) (by omega)
  have Hstart := Lib.hid (own64_made (w := w) (B := w.heap.size) (n := n) (Nat.le_refl _) (by unfold maxLen; omega))
  rw [← M.labTo_zero n l] at Hstart
  have h1 := Lib.hid h
  have hB0 := Lib.hid (bal (b0 w) (.cells (madeCells #[.int .i64 0] n) 2))
  clear h
  go_enter Try.func105, Try.ntmps105
  go_wp2
  clear hmk
  go_loopw [4, 5, 11] (fun _ _ i wr => ∃ (k : Nat), k ≤ n ∧ i = .int .i64 (k : Int) ∧ Hid (Own64 wr w.heap.size (.slice (some ⟨w.heap.size, 0, none⟩) n n) (M.labTo n l k)) ∧ Hid (Below w.heap.size w wr)) (fun _ _ i _ => n - (intOf i).toNat)
  case atStart => exact ⟨0, Nat.zero_le _, rfl, Hstart, hB0⟩
  case round =>
    obtain ⟨k, hk, rfl, ho1, hb⟩ := hrel
    clear Hstart
    by_cases hlt : k < n
    · obtain ⟨b, off, x, rfl, hbB, g1, hX⟩ := (h1.out.be hb.out).at_ (k := k) (by rw [hl.out]; exact hlt)
      have hr := (M.isOrd_iff.1 ho.out).2.2 x (List.mem_of_getElem? hX.out)
      obtain ⟨v, rfl⟩ := Int.eq_ofNat_of_zero_le hr.1
      have hv : v < n := by omega
      have hv0 : (0 : Int) ≤ (v : Int) := by omega
      have hv1 : (v : Int) < (n : Int) := hr.2
      have hs := Lib.hid (M.labTo_step ho.out hX.out)
      have hset := Lib.hid (own64_set ho1.out (M.labTo_len n l k) v (k : Int))
      rw [hs.out] at hset
      obtain ⟨y, hy⟩ : ∃ y, (M.labTo n l k)[v]? = some y := ⟨_, List.getElem?_eq_getElem (by rw [M.labTo_len]; exact hv)⟩
      obtain ⟨c3, f3, _, hw3⟩ := own64_cell ho1.out (M.labTo_len n l k) hy
      have hb2 := Lib.hid (below_setCell hb.out (Nat.le_refl _) (k := v) (.int .i64 (k : Int)))
      clear hX hs hr hy
      go_wp2
      go_roundw
      case rel => exact ⟨k + 1, by omega, by go_num, hset, hb2⟩
      case measure => simp [intOf]; omega
    · obtain rfl : k = n := by omega
      have hge : ¬ (k : Int) < (k : Int) := by omega
      have hR : Hid (M.labTo k l k = M.labs k l) := by show _ = _; rw [M.labs, hl.out]
      rw [hR.out] at ho1
      go_wp2
      go_ret
      exact ⟨rfl, ho1.out, hb.out⟩

set_option maxHeartbeats 2000000 in
set_option maxRecDepth 100000 in
theorem nodesOf (A : Option Addr) (n c : Nat) (w : World) (hn : n ≤ 24) :
    Calls Try.prog 223 #[.agg #[.slice A n c]] w fun e w' => ∃ A', e = .returned (.slice A' n n) ∧ Own64 w' w.heap.size (.slice A' n n) (M.iota n) ∧ Below w.heap.size w w' := by
  have hmk := run_make_row' (P := Try.prog) 22 2 (.int .i64 0) 8 Try.underlying22 info64 rfl .i64 .i64 n (by omega) (by omega)
  have Hstart := Lib.hid (own64_made (w := w.alloc (.cells #[.slice A n c] 28)) (B := w.heap.size) (n := n) (by simp) (by unfold maxLen; omega))
  rw [show List.replicate n (0 : Int) = M.nodTo n 0 from (M.nodTo_zero n).symm] at Hstart
  have hB0 := Lib.hid (bal (bal (b0 w) (.cells #[.slice A n c] 28)) (.cells (madeCells #[.int .i64 0] n) 2))
  obtain ⟨g, hg⟩ : ∃ g, g = w.heap.size + 1 := ⟨_, rfl⟩
  simp only [World.size_alloc] at Hstart
  go_enter Try.func223, Try.ntmps223
  go_wp2
  clear hmk
  go_loopw [4, 11] (fun _ i wr => ∃ (k : Nat), k ≤ n ∧ i = .int .i64 (k : Int) ∧ Hid (Own64 wr w.heap.size (.slice (some ⟨w.heap.size + 1, 0, none⟩) n n) (M.nodTo n k)) ∧ Hid (Below w.heap.size w wr)) (fun _ i _ => n - (intOf i).toNat)
  case atStart => exact ⟨0, Nat.zero_le _, rfl, Hstart, hB0⟩
  case round =>
    obtain ⟨k, hk, rfl, ho1, hb⟩ := hrel
    clear Hstart
    by_cases hlt : k < n
    · have hs := Lib.hid (M.nodTo_step hlt)
      have hset := Lib.hid (own64_set ho1.out (M.nodTo_len n k) k (k : Int))
      rw [hs.out] at hset
      obtain ⟨y, hy⟩ : ∃ y, (M.nodTo n k)[k]? = some y := ⟨_, List.getElem?_eq_getElem (by rw [M.nodTo_len]; exact hlt)⟩
      obtain ⟨c3, f3, _, hw3⟩ := own64_cell ho1.out (M.nodTo_len n k) hy
      have hb2 := Lib.hid (below_setCell hb.out (Nat.le_succ _) (k := k) (.int .i64 (k : Int)))
      have hki : (k : Int) < (n : Int) := by omega
      have hk0 : (0 : Int) ≤ (k : Int) := by omega
      clear hs hy
      go_wp2
      go_roundw
      case rel => exact ⟨k + 1, by omega, by go_num, hset, hb2⟩
      case measure => simp [intOf]; omega
    · obtain rfl : k = n := by omega
      have hge : ¬ (k : Int) < (k : Int) := by omega
      have hR := Lib.hid (M.nodTo_done k)
      rw [hR.out] at ho1
      go_wp2
      go_ret
      exact ⟨_, rfl, ho1.out, hb.out⟩

end Go.Proofs.Ytkcldfliiagloaa

/- parentsIn: the program's row of parents: a range over a function inside a loop. -/
namespace Go.Proofs.Ytkcldfliiagloaa
open Go.RowKit Go.Shelf
attribute [local go_sem] Oper.semAt_some

/-- the marks that the rounds' loops have left on the activation: the newest first -/
def Marks (B : Nat) (W : World) : Nat → List Deferred → Prop
  | _, [] => True
  | hi, d :: ds => ∃ D, d = { target := .collected D, args := #[] } ∧ D < hi ∧ B ≤ D ∧ W.heap[D]? = some (.deferred (some [])) ∧ Marks B W D ds
theorem Marks.keep {B : Nat} {W W' : World} : ∀ {ds : List Deferred} {hi : Nat}, Marks B W hi ds → (∀ D, B ≤ D → D < hi → W.heap[D]? = some (.deferred (some [])) → W'.heap[D]? = W.heap[D]?) → Marks B W' hi ds := by
  intro ds
  induction ds with
  | nil => intro hi _ _; trivial
  | cons d ds ih =>
    intro hi ⟨D, e, h1, h2, h3, h4⟩ hk
    exact ⟨D, e, h1, h2, (hk D h2 h1 h3).trans h3, ih h4 fun D' h5 h6 h7 => hk D' h5 (by omega) h7⟩
theorem Marks.mono {B : Nat} {W : World} {ds : List Deferred} {hi hi' : Nat} (h : Marks B W hi ds) (hl : hi ≤ hi') : Marks B W hi' ds := by
  cases ds with
  | nil => trivial
  | cons d ds => obtain ⟨D, e, h1, h2⟩ := h; exact ⟨D, e, by omega, h2⟩
theorem leaves_marks {B : Nat} {F : Fence} {n : Nat} {P : Program} {fn : Func} {tmps : Array Value} {R : Ending → World → Prop} (Pp : World → Prop)
    (hP : ∀ W D, B ≤ D → W.heap[D]? = some (.deferred (some [])) → Pp W → Pp (W.putObj D (.deferred none))) (hend : ∀ W, Pp W → LeavesIn F n P fn tmps R [] .returning W) :
    ∀ (ds : List Deferred) (hi : Nat) (W : World), Marks B W hi ds → Pp W → LeavesInM F n P fn tmps R ds .returning W := by
  intro ds
  induction ds with
  | nil => intro hi W _ h; exact hend W h
  | cons d ds ih =>
    intro hi W ⟨D, e, h1, h2, h3, h4⟩ h
    subst e
    refine ⟨by simp, .inl ⟨_, _, rfl, run_takeDeferred h3, ?_⟩⟩
    refine ih D _ (h4.keep fun D' h5 h6 h7 => ?_) (hP W D h2 h3 h)
    exact (grownBy_putObj' W D _).block D' (Array.getElem?_eq_some_iff.1 h7).1 (fun e => by cases e; omega)

/-- the child at a place, and a node within the list where there is no such place -/
def kidOr (xs : List Int) (v d x : Nat) : Nat := if x < d then M.kidAt xs v x else v

set_option maxRecDepth 100000 in
set_option maxHeartbeats 4000000 in
theorem parentsIn_in (A : Option Addr) (xs : List Int) (c : Nat) (w : World) (hcl : xs.length ≤ c) (hcu : c ≤ 1000000000000) (ht : Hid (M.isTree xs = true)) (hI : Ints w w.heap.size A xs) :
    CallsIn Fence.wide 5 Try.prog 106 #[.slice A xs.length c] w fun e w' => ∃ A' c' ps, e = .returned (.slice A' xs.length c') ∧ Hid (M.ParsOK xs ps) ∧ Own64 w' w.heap.size (.slice A' xs.length c') ps ∧ Below w.heap.size w w' := by
  have hlen := M.tree_len ht.out
  have hx := hlen.2
  have hpos : 0 < xs.length := by omega
  have hmk := run_make_row' (P := Try.prog) 22 2 (.int .i64 0) 8 Try.underlying22 info64 rfl .i64 .i64 xs.length (by omega) (by omega)
  have Hstart := Lib.hid (own64_made (w := w) (B := w.heap.size) (n := xs.length) (Nat.le_refl _) (by unfold maxLen; omega))
  obtain ⟨c1, c2, _, _⟩ := own64_cell Hstart.out (by simp) (k := 0) (x := 0) (by simp [hpos])
  have c3 := cell_al c1 (.cells #[.slice (some ⟨w.heap.size, 0, none⟩) xs.length xs.length] 22)
  have ho0 := Lib.hid (own64_made_set (w := w) (B := w.heap.size) (n := xs.length) (Nat.le_refl _) (by unfold maxLen; omega) (-1))
  have hp0 := Lib.hid (M.partP_start ht.out)
  have bR := Lib.hid (Boxed.new (w.alloc (.cells ((madeCells #[.int .i64 0] xs.length).setIfInBounds 0 (.int .i64 (-1))) 2)) 22 (.slice (some ⟨w.heap.size, 0, none⟩) xs.length xs.length))
  have hB0 := Lib.hid (bal (bal (b0 w) (.cells ((madeCells #[.int .i64 0] xs.length).setIfInBounds 0 (.int .i64 (-1))) 2)) (.cells #[.slice (some ⟨w.heap.size, 0, none⟩) xs.length xs.length] 22))
  refine callsIn_of_wp_marks Try.func106 rfl trivial ?_ rfl
  simp only [Try.ntmps106, List.size_toArray, List.length_cons, List.length_nil, Nat.reduceAdd, Nat.reduceSub, Array.replicate_succ, Array.replicate_zero, List.push_toArray, List.append_toArray, List.nil_append, List.cons_append]
  gi_wp2
  clear hmk c1 c2 c3
  refine wpIn_loop (fun a' wr => ∃ (k : Nat) (ps : List Int) (u4 u15 u16 u17 u18 u19 u26 : Value) (ds : List Deferred), (k ≤ xs.length ∧ Hid (M.PartP xs k 0 ps) ∧ Hid (Own64 wr w.heap.size (.slice (some ⟨w.heap.size, 0, none⟩) xs.length xs.length) ps) ∧
      Hid (Boxed wr (w.heap.size + 1) 22 (.slice (some ⟨w.heap.size, 0, none⟩) xs.length xs.length)) ∧ Hid (Below w.heap.size w wr) ∧ Hid (Marks (w.heap.size + 2) wr wr.heap.size ds)) ∧
      a' = { tmps := #[.slice A xs.length c, undef, .slice none 0 0, .pointer (some ⟨w.heap.size + 1, 0, none⟩), u4, undef, undef, .slice A xs.length c, .int .i64 xs.length, .slice (some ⟨w.heap.size, 0, none⟩) xs.length xs.length, .slice (some ⟨w.heap.size, 0, none⟩) xs.length xs.length,
        .pointer (some ⟨w.heap.size, 0, none⟩), .slice A xs.length c, .int .i64 xs.length, .int .i64 k, u15, u16, u17, u18, u19, undef, undef, undef, undef, undef, undef, u26, undef], defers := ds })
    (fun a' _ => xs.length - (intOf (a'.tmps.getD 14 undef)).toNat) ?_ ?_
  · exact ⟨0, _, _, _, _, _, _, _, _, [], ⟨Nat.zero_le _, hp0, own_be ho0.out ((Below.refl _ _).alloc (Nat.le_refl _) _), Lib.hid (by simpa using bR.out), hB0, trivial⟩, rfl⟩
  · rintro _ wr ⟨k, ps, u4, u15, u16, u17, u18, u19, u26, ds, ⟨hk, hp, ho, hbx, hbr, hmks⟩, rfl⟩
    clear hp0 ho0 bR hB0 Hstart
    by_cases hlt : k < xs.length
    · obtain ⟨d, hd, hd2⟩ := M.tree_degN ht.out hlt
      have Hd := Lib.hid hd
      gi_wp2_with (refine ⟨trivial, ?_⟩; gi_at_call 172; refine (eachIn 4 A xs.length c k _).mono ?_; rintro e w' ⟨rfl, rfl⟩)
      have bV := Boxed.new wr 2 (.int .i64 k)
      have bD := Boxed.new (wr.alloc (.cells #[.int .i64 k] 2)) 22 (.slice A xs.length c)
      have bW := Boxed.new ((wr.alloc (.cells #[.int .i64 k] 2)).alloc (.cells #[.slice A xs.length c] 22)) 2 (.int .i64 k)
      simp only [World.size_alloc] at bD bW
      have hz1 := hbr.out.size
      have hz2 := hbx.out.lt
      have hB0 := bal (bal (bal hbr.out (.cells #[.int .i64 k] 2)) (.cells #[.slice A xs.length c] 22)) (.cells #[.int .i64 k] 2)
      have hKb := KeepK.b (n₀ := w.heap.size) (Bd := wr.heap.size + 1) (w := ((wr.alloc (.cells #[.int .i64 k] 2)).alloc (.cells #[.slice A xs.length c] 22)).alloc (.cells #[.int .i64 k] 2)) (by simp; omega) (by simp)
      have h15 : 1 ≤ 5 := by omega
      have hK : ∀ x, kidOr xs k d x < xs.length := fun x => by
        unfold kidOr
        split
        · exact M.kid_lt ht.out Hd.out (by omega)
        · exact hlt
      refine wpIn_rangeFunc_ownG (α := Nat) rfl h15 (gf := 225) (lb := #[.pointer (some ⟨wr.heap.size + 2, 0, none⟩), .pointer (some ⟨wr.heap.size + 1, 0, none⟩)]) rfl trivial (enters_of Try.func225 (by kernel_rfl) rfl)
        (each_stopsF (fun i => i) (fun x => #[.int .i64 (x : Int), .int .i64 (kidOr xs k d x : Int)]) 4 (by omega) (wr.heap.size + 2) (wr.heap.size + 1) w.heap.size A xs c k d hx hcl (by omega) ht Hd (fun i hi => by simp [kidOr, hi]) _ bW.cell (bD.alloc _) (hI.below hB0 (Nat.le_refl _)) (by simp; omega)) (fun h k => h.t k) hKb (Below.refl _ _) (fun _ => rfl)
        (fun pre W => ∃ ps, (ps.length = xs.length ∧ (pre = List.range pre.length → pre.length ≤ d → M.PartP xs k pre.length ps)) ∧ Own64 W w.heap.size (.slice (some ⟨w.heap.size, 0, none⟩) xs.length xs.length) ps ∧
          Boxed W (w.heap.size + 1) 22 (.slice (some ⟨w.heap.size, 0, none⟩) xs.length xs.length) ∧ Boxed W wr.heap.size 2 (.int .i64 k) ∧ Below w.heap.size w W ∧ Marks (w.heap.size + 2) W wr.heap.size ds)
        (fun _ _ _ => False)
        (fun s X Y row hs hg hr => by
          obtain ⟨ps, h1, h2, h3, h4, h5, h6⟩ := hs
          have hne : ∀ r, row = some r → wr.heap.size + 3 ≤ r := fun r e => by have := (hr r e).1; simp at this; omega
          exact ⟨ps, h1, h2.kept hg (.inr fun e => by have := hne w.heap.size e.symm; omega), h3.kept hg (fun e => by have := hne _ e.symm; omega), h4.kept hg (fun e => by have := hne _ e.symm; omega), h5.grown hg h5.size (fun r e => by have := hne _ e; omega),
            h6.keep fun D _ hD hD3 => hg.block D (Array.getElem?_eq_some_iff.1 hD3).1 (fun e => by have := hne _ e.symm; omega)⟩)
        (fun _ _ _ _ _ hs _ _ => hs)
        ⟨ps, ⟨hp.out.1, fun _ _ => hp.out⟩, ((ho.out.alloc _).alloc _).alloc _, ((hbx.out.alloc _).alloc _).alloc _, (bV.alloc _).alloc _, hB0, hmks.out.keep fun D _ hD hD3 => by
          have h1 := Below.heap_alloc wr (.cells #[.int .i64 k] 2) D hD
          have h2 := Below.heap_alloc (wr.alloc (.cells #[.int .i64 k] 2)) (.cells #[.slice A xs.length c] 22) D (by simp; omega)
          have h3 := Below.heap_alloc ((wr.alloc (.cells #[.int .i64 k] 2)).alloc (.cells #[.slice A xs.length c] 22)) (.cells #[.int .i64 k] 2) D (by simp; omega)
          exact h3.trans (h2.trans h1)⟩
        (fun x => { tmps := #[.slice A xs.length c, undef, .slice none 0 0, .pointer (some ⟨w.heap.size + 1, 0, none⟩), .pointer (some ⟨wr.heap.size, 0, none⟩), undef, .int .i64 (kidOr xs k d x : Int), .slice A xs.length c, .int .i64 xs.length, .slice (some ⟨w.heap.size, 0, none⟩) xs.length xs.length, .slice (some ⟨w.heap.size, 0, none⟩) xs.length xs.length,
          .pointer (some ⟨w.heap.size, 0, none⟩), .slice A xs.length c, .int .i64 xs.length, .int .i64 k, .bool true, .int .i64 k, .slice A xs.length c, .int .i64 k, .func (.func 225) #[] #[.pointer (some ⟨wr.heap.size + 2, 0, none⟩), .pointer (some ⟨wr.heap.size + 1, 0, none⟩)], .int .i64 (x : Int), .int .i64 (kidOr xs k d x : Int), undef, undef, undef, undef, u26, undef], defers := [] }) ?assign ?body ?done ?stop
      case assign =>
        intro l x W K hK
        gi_wp2
        exact hK
      case body =>
        rintro l pre x W ⟨ps, ⟨hl, hpp⟩, h2, h3, h4, h5, h6⟩ hpl
        have hkx := hK x
        have c3 := h3.cell
        have c4 := h4.cell
        obtain ⟨c1, c2, _, _⟩ := own64_cell h2 hl (k := kidOr xs k d x) (x := ps[kidOr xs k d x]'(by omega)) (List.getElem?_eq_getElem (by omega))
        generalize ps[kidOr xs k d x]'(by omega) = y at c1
        have hnext : Hid (pre ++ [x] = List.range (pre ++ [x]).length → (pre ++ [x]).length ≤ d → M.PartP xs k (pre ++ [x]).length (ps.set (kidOr xs k d x) (k : Int))) := fun e hd' => by
          simp only [List.length_append, List.length_cons, List.length_nil, Nat.zero_add] at e hd' ⊢
          rw [List.range_succ] at e
          obtain ⟨e1, e2⟩ := List.append_inj' e rfl
          injection e2 with e2
          have h7 := M.partP_step ht.out (hpp e1 (by omega)) Hd.out (by omega)
          have e3 : kidOr xs k d x = M.kidAt xs k pre.length := by rw [e2]; simp only [kidOr]; rw [if_pos (by omega)]
          rw [e3]
          exact h7
        have hset := Lib.hid (own64_set h2 hl (kidOr xs k d x) (k : Int))
        have hl2 : Hid ((ps.set (kidOr xs k d x) (k : Int)).length = xs.length) := by show _ = _; simpa using hl
        clear hpp
        generalize kidOr xs k d x = C at *
        gi_wp2
        have hkk : KeepK w.heap.size (wr.heap.size + 1) W (W.setCell ⟨w.heap.size, C, none⟩ (.int .i64 k)) := ⟨below_setCell (Below.refl _ _) (Nat.le_refl _) _, heap_setCell_other _ _ _ _ (show wr.heap.size + 1 ≠ w.heap.size by omega)⟩
        exact ⟨(KeepsOthers.setCell W _ _).from _, hkk, _, ⟨hl2.out, hnext.out⟩, hset.out, (heap_setCell_other _ _ _ _ (show w.heap.size + 1 ≠ w.heap.size by omega)).trans h3, (heap_setCell_other _ _ _ _ (show wr.heap.size ≠ w.heap.size by omega)).trans h4, below_setCell h5 (Nat.le_refl _) _, h6.keep fun D hD _ _ => heap_setCell_other _ _ _ _ (show D ≠ w.heap.size by omega)⟩
      case done =>
        rintro D ys W hD rfl ⟨ps, ⟨hl, hpp⟩, h2, h3, h4, h5, h6⟩ hKd
        have hnx0 := hpp (by simp) (by simp)
        simp only [List.length_map, List.length_range] at hnx0
        have hnx := Lib.hid (M.partP_next hnx0 Hd.out)
        clear hnx0 hpp
        have hDl := (Array.getElem?_eq_some_iff.1 hKd).1
        simp at hD
        gi_wp2
        refine ⟨⟨k + 1, ps, _, _, _, _, _, _, _, { target := .collected D, args := #[] } :: ds, ⟨by omega, hnx, h2, h3, h5, (show Marks _ _ _ _ from ⟨D, rfl, hDl, by omega, hKd, h6.mono (by omega)⟩)⟩, rfl⟩, ?_⟩
        simp [intOf]
        omega
      case stop =>
        rintro D c pre W _ _ h _
        exact h.elim
    · obtain rfl : k = xs.length := by omega
      have hok := Lib.hid (M.partP_done ht.out hp.out)
      have hc := hbx.out.cell
      clear hp
      gi_wp2
      refine leaves_marks (B := w.heap.size + 2) (fun W => Own64 W w.heap.size (.slice (some ⟨w.heap.size, 0, none⟩) xs.length xs.length) ps ∧ Below w.heap.size w W) (fun W D hD h3 h => ⟨ownsRow_putObj h.1 _ h3 rfl, h.2.trans ((Below.refl _ W).grown (grownBy_putObj' W D _) h.2.size (fun k e => by cases e; omega))⟩) (fun W h => ?_) ds _ _ hmks.out ⟨ho.out, hbr.out⟩
      exact ⟨_, results_tmp rfl _ _ _, _, _, ps, rfl, hok, h.1, h.2⟩
end Go.Proofs.Ytkcldfliiagloaa

/- ParentsOf, the program's and the model's: the parents, or a code. -/
namespace Go.Proofs.Ytkcldfliiagloaa
open Go.RowKit

namespace M
theorem parsOK_unique {xs ps qs : List Int} (ht : isTree xs = true) (h : ParsOK xs ps) (h' : ParsOK xs qs) : ps = qs := by
  refine List.ext_getElem? fun i => ?_
  rcases Nat.lt_or_ge i xs.length with hi | hi
  · rcases Nat.eq_zero_or_pos i with h0 | h0
    · subst h0; rw [h.2.1, h'.2.1]
    · obtain ⟨p, hp⟩ := kid_has ht h0 hi
      rw [h.2.2 p i hp, h'.2.2 p i hp]
  · rw [List.getElem?_eq_none (by rw [h.1]; exact hi), List.getElem?_eq_none (by rw [h'.1]; exact hi)]
open Classical in
noncomputable def parents (xs : List Int) : List Int := if h : ∃ ps, ParsOK xs ps then h.choose else []
theorem parents_eq {xs ps : List Int} (ht : isTree xs = true) (h : ParsOK xs ps) : parents xs = ps := by
  have hx : ∃ ps, ParsOK xs ps := ⟨ps, h⟩
  rw [parents, dif_pos hx]
  exact parsOK_unique ht hx.choose_spec h
theorem parents_len {xs : List Int} : (parents xs).length ≤ xs.length := by
  rw [parents]
  split
  · rename_i h; exact Nat.le_of_eq h.choose_spec.1
  · exact Nat.zero_le _
end M

noncomputable def F_ParentsOf (xs : List Int) : List Int × Int := M.cond xs (M.parents xs)
theorem F_ParentsOf_len (xs : List Int) : (F_ParentsOf xs).1.length ≤ 1048576 := by
  cases ht : M.isTree xs
  · rw [F_ParentsOf, M.cond_no ht]; simp
  · rw [F_ParentsOf, M.cond_yes ht]
    have h1 := M.parents_len (xs := xs)
    have h2 := (M.tree_len ht).2
    show (M.parents xs).length ≤ _
    omega

end Go.Proofs.Ytkcldfliiagloaa

/- Depths, their mathematics: what a row of depths must say, that there is one such row at most, and the steps by which both programs make it. -/
namespace Go.Proofs.Ytkcldfliiagloaa.M
/-- ds is the row of depths -/
def DepsOK (xs ds : List Int) : Prop := ds.length = xs.length ∧ ds[0]? = some 0 ∧ ∀ p c, IsKid xs p c → ∃ x, ds[p]? = some x ∧ ds[c]? = some (x + 1)
/-- the children of the nodes below k, and the first j of k's, have theirs -/
def PartD (xs : List Int) (k j : Nat) (ds : List Int) : Prop :=
  ds.length = xs.length ∧ ds[0]? = some 0 ∧ (∀ p c, p < k → IsKid xs p c → ∃ x, ds[p]? = some x ∧ ds[c]? = some (x + 1)) ∧ (∀ i, i < j → ∃ x, ds[k]? = some x ∧ ds[kidAt xs k i]? = some (x + 1))
theorem partD_start {xs : List Int} (ht : isTree xs = true) : PartD xs 0 0 (List.replicate xs.length (0 : Int)) := by
  have := (tree_len ht).1
  refine ⟨by simp, ?_, fun p c h => by omega, fun i h => by omega⟩
  rw [List.getElem?_replicate, if_pos (by omega)]
theorem partD_step {xs ds : List Int} {k j d : Nat} {y : Int} (ht : isTree xs = true) (h : PartD xs k j ds) (hd : xs[k]? = some (d : Int)) (hj : j < d) (hy : ds[k]? = some y) : PartD xs k (j + 1) (ds.set (kidAt xs k j) (y + 1)) := by
  obtain ⟨h1, h2, h3, h4⟩ := h
  have hkid : IsKid xs k (kidAt xs k j) := ⟨d, j, hd, hj, rfl⟩
  have hb := kid_bounds ht hkid
  refine ⟨by simp [h1], ?_, fun p c hp hc => ?_, fun i hi => ?_⟩
  · rw [List.getElem?_set_ne (by omega)]; exact h2
  · have hne : kidAt xs k j ≠ c := fun e => by
      subst e
      have := kid_unique ht hc hkid
      omega
    rw [List.getElem?_set_ne hne, List.getElem?_set_ne (by omega)]
    exact h3 p c hp hc
  · rw [List.getElem?_set_ne (show kidAt xs k j ≠ k by omega)]
    rcases Nat.lt_or_ge i j with h5 | h5
    · have h6 := kid_le (xs := xs) (v := k) (i := i + 1) (j := j) (by omega)
      have h7 := kid_lt ht hd (i := i) (by omega)
      have h8 := span_pos h7
      simp only [kidAt] at h6
      rw [List.getElem?_set_ne (show kidAt xs k j ≠ kidAt xs k i by omega)]
      exact h4 i h5
    · obtain rfl : i = j := by omega
      rw [List.getElem?_set_self (by omega)]
      exact ⟨y, hy, rfl⟩
theorem partD_next {xs ds : List Int} {k d : Nat} (h : PartD xs k d ds) (hd : xs[k]? = some (d : Int)) : PartD xs (k + 1) 0 ds := by
  obtain ⟨h1, h2, h3, h4⟩ := h
  refine ⟨h1, h2, fun p c hp hc => ?_, fun i h => by omega⟩
  rcases Nat.lt_or_ge p k with h5 | h5
  · exact h3 p c h5 hc
  · obtain rfl : p = k := by omega
    obtain ⟨d', i, hd', hi, rfl⟩ := hc
    rw [hd] at hd'
    injection hd' with hd'
    exact h4 i (by omega)
theorem partD_done {xs ds : List Int} (ht : isTree xs = true) (h : PartD xs xs.length 0 ds) : DepsOK xs ds :=
  ⟨h.1, h.2.1, fun p c hc => h.2.2.1 p c (by have := kid_bounds ht hc; omega) hc⟩

/-- the model's loop: the nodes below v have their depths -/
def PartE (xs : List Int) (v : Nat) (ds : List Int) : Prop := ds.length = xs.length ∧ ds[0]? = some 0 ∧ ∀ p c, c < v → IsKid xs p c → ∃ x, ds[p]? = some x ∧ ds[c]? = some (x + 1)
theorem partE_start {xs : List Int} (ht : isTree xs = true) : PartE xs 1 (List.replicate xs.length (0 : Int)) := by
  have := (tree_len ht).1
  refine ⟨by simp, ?_, fun p c h hc => by have := kid_bounds ht hc; omega⟩
  rw [List.getElem?_replicate, if_pos (by omega)]
theorem partE_step {xs ds : List Int} {v p : Nat} {y : Int} (ht : isTree xs = true) (h : PartE xs v ds) (hv0 : 0 < v) (hv : v < xs.length) (hp : IsKid xs p v) (hy : ds[p]? = some y) : PartE xs (v + 1) (ds.set v (y + 1)) := by
  obtain ⟨h1, h2, h3⟩ := h
  refine ⟨by simp [h1], ?_, fun q c hc hq => ?_⟩
  · rw [List.getElem?_set_ne (by omega)]; exact h2
  · have hb := kid_bounds ht hq
    rcases Nat.lt_or_ge c v with h5 | h5
    · rw [List.getElem?_set_ne (by omega), List.getElem?_set_ne (by omega)]
      exact h3 q c h5 hq
    · obtain rfl : c = v := by omega
      obtain rfl := kid_unique ht hq hp
      rw [List.getElem?_set_ne (by omega), List.getElem?_set_self (by omega)]
      exact ⟨y, hy, rfl⟩
theorem partE_done {xs ds : List Int} (ht : isTree xs = true) (h : PartE xs xs.length ds) : DepsOK xs ds :=
  ⟨h.1, h.2.1, fun p c hc => h.2.2 p c (by have := kid_bounds ht hc; omega) hc⟩

theorem depsOK_unique {xs ds es : List Int} (ht : isTree xs = true) (h : DepsOK xs ds) (h' : DepsOK xs es) : ds = es := by
  have key : ∀ (n i : Nat), i < n → i < xs.length → ds[i]? = es[i]? := by
    intro n
    induction n with
    | zero => intro i hi; omega
    | succ n ih =>
      intro i hi hx
      rcases Nat.eq_zero_or_pos i with h0 | h0
      · subst h0; rw [h.2.1, h'.2.1]
      · obtain ⟨p, hp⟩ := kid_has ht h0 hx
        have hb := kid_bounds ht hp
        obtain ⟨x, hx1, hx2⟩ := h.2.2 p i hp
        obtain ⟨y, hy1, hy2⟩ := h'.2.2 p i hp
        have := ih p (by omega) (by omega)
        rw [hx1, hy1] at this
        injection this with this
        rw [hx2, hy2, this]
  refine List.ext_getElem? fun i => ?_
  rcases Nat.lt_or_ge i xs.length with hi | hi
  · exact key (i + 1) i (by omega) hi
  · rw [List.getElem?_eq_none (by rw [h.1]; exact hi), List.getElem?_eq_none (by rw [h'.1]; exact hi)]
/-- a depth is not negative, and not more than the node -/
theorem depsOK_le {xs ds : List Int} (ht : isTree xs = true) (h : DepsOK xs ds) : ∀ (n i : Nat) (x : Int), i < n → ds[i]? = some x → 0 ≤ x ∧ x ≤ i := by
  intro n
  induction n with
  | zero => intro i x hi; omega
  | succ n ih =>
    intro i x hi hx
    have hil := (List.getElem?_eq_some_iff.1 hx).1
    rcases Nat.eq_zero_or_pos i with h0 | h0
    · subst h0
      rw [h.2.1] at hx
      injection hx with hx
      omega
    · obtain ⟨p, hp⟩ := kid_has ht h0 (by rw [← h.1]; exact hil)
      have hb := kid_bounds ht hp
      obtain ⟨y, hy1, hy2⟩ := h.2.2 p i hp
      have := ih p y (by omega) hy1
      rw [hx] at hy2
      injection hy2 with hy2
      omega
open Classical in
noncomputable def depths (xs : List Int) : List Int := if h : ∃ ds, DepsOK xs ds then h.choose else []
theorem depths_eq {xs ds : List Int} (ht : isTree xs = true) (h : DepsOK xs ds) : depths xs = ds := by
  have hx : ∃ ds, DepsOK xs ds := ⟨ds, h⟩
  rw [depths, dif_pos hx]
  exact depsOK_unique ht hx.choose_spec h
theorem depths_len {xs : List Int} : (depths xs).length ≤ xs.length := by
  rw [depths]
  split
  · rename_i h; exact Nat.le_of_eq h.choose_spec.1
  · exact Nat.zero_le _
end Go.Proofs.Ytkcldfliiagloaa.M

/- Ways between two nodes, their mathematics: both go up to the meet; how long they are; least places of a list; sums. No program is named here. -/
namespace Go.Proofs.Ytkcldfliiagloaa
namespace M
/-- the nodes on the way up from v to m, without m -/
def up (ps : List Int) (m : Nat) : Nat → Nat → List Int
  | 0, _ => []
  | k + 1, v => if v ≤ m then [] else (v : Int) :: up ps m k (ps[v]?.getD 0).toNat
theorem up_end (ps : List Int) {m v : Nat} (h : v ≤ m) : ∀ k, up ps m k v = []
  | 0 => rfl
  | k + 1 => by rw [up, if_pos h]
theorem par_has {xs ps : List Int} (ht : isTree xs = true) (hp : ParsOK xs ps) {v : Nat} (h0 : 0 < v) (hv : v < xs.length) : ∃ p : Nat, ps[v]? = some (p : Int) ∧ p < v ∧ IsKid xs p v := by
  obtain ⟨p, h⟩ := kid_has ht h0 hv
  exact ⟨p, hp.2.2 p v h, (kid_bounds ht h).1, h⟩
theorem up_fuel {xs ps : List Int} (ht : isTree xs = true) (hp : ParsOK xs ps) {m : Nat} : ∀ {k k' v : Nat}, v < xs.length → v ≤ k → v ≤ k' → up ps m k v = up ps m k' v := by
  intro k
  induction k with
  | zero => intro k' v _ h _; obtain rfl : v = 0 := by omega
            rw [up_end ps (Nat.zero_le _), up_end ps (Nat.zero_le _)]
  | succ k ih =>
    intro k' v hv h h'
    by_cases hm : v ≤ m
    · rw [up_end ps hm, up_end ps hm]
    · cases k' with
      | zero => omega
      | succ k' =>
        rw [up, up, if_neg hm, if_neg hm]
        obtain ⟨p, h1, h2, _⟩ := par_has ht hp (show 0 < v by omega) hv
        rw [h1]
        simp only [Option.getD_some, Int.toNat_natCast]
        rw [ih (k' := k') (by omega) (by omega) (by omega)]
def upTo (ps : List Int) (m v : Nat) : List Int := up ps m v v
theorem upTo_end (ps : List Int) {m v : Nat} (h : v ≤ m) : upTo ps m v = [] := up_end ps h v
theorem upTo_step {xs ps : List Int} (ht : isTree xs = true) (hp : ParsOK xs ps) {m v p : Nat} (hm : m < v) (hv : v < xs.length) (hq : ps[v]? = some (p : Int)) : upTo ps m v = (v : Int) :: upTo ps m p := by
  obtain ⟨p', h1, h2, _⟩ := par_has ht hp (show 0 < v by omega) hv
  rw [hq] at h1
  injection h1 with h1
  obtain ⟨k, hk⟩ : ∃ k, v = k + 1 := ⟨v - 1, by omega⟩
  rw [upTo, hk, up, if_neg (by omega), ← hk, hq]
  simp only [Option.getD_some, Int.toNat_natCast]
  rw [upTo, up_fuel ht hp (k := k) (k' := p) (by omega) (by omega) (by omega)]
/-- a node a above v (or v) and not above m, with the nodes that have been met -/
def Climb (xs ps : List Int) (v m a : Nat) (acc : List Int) : Prop := a < xs.length ∧ bel xs v a = true ∧ m ≤ a ∧ acc ++ upTo ps m a = upTo ps m v
theorem climb_start {xs ps : List Int} {v m : Nat} (hv : v < xs.length) (hm : bel xs v m = true) : Climb xs ps v m v [] :=
  ⟨hv, bel_iff.2 ⟨Nat.le_refl _, fin_gt hv⟩, (bel_iff.1 hm).1, rfl⟩
theorem climb_step {xs ps : List Int} (ht : isTree xs = true) (hp : ParsOK xs ps) {v m a : Nat} {acc : List Int} (hm : bel xs v m = true) (h : Climb xs ps v m a acc) (hlt : m < a) :
    ∃ p : Nat, ps[a]? = some (p : Int) ∧ p < a ∧ Climb xs ps v m p (acc ++ [(a : Int)]) := by
  obtain ⟨h1, h2, h3, h4⟩ := h
  obtain ⟨p, hp1, hp2, hp3⟩ := par_has ht hp (show 0 < a by omega) h1
  have b1 := bel_iff.1 h2
  have bm := bel_iff.1 hm
  have hb := kid_bounds ht hp3
  have hn := nest ht (v := p) (q := a) (by omega) (by omega) hb.2.1
  refine ⟨p, hp1, hp2, by omega, bel_iff.2 (by omega), kid_up ht hp3 hlt (by omega), ?_⟩
  rw [List.append_assoc, List.singleton_append, ← upTo_step ht hp hlt h1 hp1]
  exact h4
theorem climb_end {xs ps : List Int} {v m : Nat} {acc : List Int} (h : Climb xs ps v m m acc) : acc = upTo ps m v := by
  have := h.2.2.2
  rwa [upTo_end ps (Nat.le_refl m), List.append_nil] at this
theorem meet_bel {xs : List Int} (ht : isTree xs = true) {v w : Nat} (hv : v < xs.length) (hw : w < xs.length) : bel xs v (meet xs v w) = true ∧ bel xs w (meet xs v w) = true := meetDown_bel ht hv hw _
theorem meet_lt {xs : List Int} {v w : Nat} (hv : v < xs.length) : meet xs v w < xs.length := by
  have := meetDown_le xs v w (min v w)
  simp only [meet]
  omega
/-- both climb: they meet at the meet alone -/
theorem climb_meet {xs ps : List Int} {v w a : Nat} {l r : List Int} (h1 : Climb xs ps v (meet xs v w) a l) (h2 : Climb xs ps w (meet xs v w) a r) : a = meet xs v w :=
  meet_stop h1.2.1 h2.2.1 h1.2.2.1
/-- the one with the greater number is not at the meet -/
theorem climb_left {xs ps : List Int} {v w a b : Nat} {l r : List Int} (_h1 : Climb xs ps v (meet xs v w) a l) (h2 : Climb xs ps w (meet xs v w) b r) (h : b < a) : meet xs v w < a := by
  have := h2.2.2.1; omega
theorem climb_right {xs ps : List Int} {v w a b : Nat} {l r : List Int} (h1 : Climb xs ps v (meet xs v w) a l) (_h2 : Climb xs ps w (meet xs v w) b r) (h : a < b) : meet xs v w < b := by
  have := h1.2.2.1; omega
theorem climb_len {xs ps : List Int} (ht : isTree xs = true) (hp : ParsOK xs ps) {m : Nat} : ∀ {v : Nat}, v < xs.length → bel xs v m = true → (upTo ps m v).length ≤ v - m := by
  intro v
  induction v using Nat.strongRecOn with
  | _ v ih =>
    intro hv hb
    have b1 := bel_iff.1 hb
    by_cases hm : m < v
    · obtain ⟨p, h1, h2, h3⟩ := par_has ht hp (show 0 < v by omega) hv
      have hk := kid_up ht h3 hm b1.2
      rw [upTo_step ht hp hm hv h1, List.length_cons]
      have := ih p h2 (by omega) (bel_iff.2 (by omega))
      omega
    · rw [upTo_end ps (by omega)]; simp
/-- the depths tell how long a way up is -/
theorem up_depth {xs ps ds : List Int} (ht : isTree xs = true) (hp : ParsOK xs ps) (hd : DepsOK xs ds) {m : Nat} {y : Int} (hm : ds[m]? = some y) : ∀ {v : Nat} {x : Int}, v < xs.length → bel xs v m = true → ds[v]? = some x → x = y + (upTo ps m v).length := by
  intro v
  induction v using Nat.strongRecOn with
  | _ v ih =>
    intro x hv hb hx
    have b1 := bel_iff.1 hb
    by_cases hmv : m < v
    · obtain ⟨p, h1, h2, h3⟩ := par_has ht hp (show 0 < v by omega) hv
      have hk := kid_up ht h3 hmv b1.2
      obtain ⟨z, hz1, hz2⟩ := hd.2.2 p v h3
      have := ih p h2 (by omega) (bel_iff.2 (by omega)) hz1
      rw [hx] at hz2
      injection hz2 with hz2
      rw [upTo_step ht hp hmv hv h1, List.length_cons]
      omega
    · obtain rfl : v = m := by omega
      rw [upTo_end ps (Nat.le_refl _)]
      rw [hm] at hx
      injection hx with hx
      simp; omega
open Classical in
theorem pars_ex {xs : List Int} (ht : isTree xs = true) : ∃ ps, ParsOK xs ps := by
  have hl := tree_len ht
  refine ⟨(List.range xs.length).map fun i => if h : ∃ p, IsKid xs p i then (h.choose : Int) else -1, by simp, ?_, fun p c h => ?_⟩
  · have h0 : ¬ ∃ p, IsKid xs p 0 := fun ⟨p, h⟩ => by have := kid_bounds ht h; omega
    rw [List.getElem?_map, List.getElem?_range (by omega)]
    simp only [Option.map_some, dif_neg h0]
  · have hb := kid_bounds ht h
    have hx : ∃ p, IsKid xs p c := ⟨p, h⟩
    rw [List.getElem?_map, List.getElem?_range hb.2.2]
    simp only [Option.map_some, dif_pos hx]
    rw [kid_unique ht hx.choose_spec h]
/-- the way from v to w -/
noncomputable def way (xs : List Int) (v w : Nat) : List Int := upTo (parents xs) (meet xs v w) v ++ [(meet xs v w : Int)] ++ (upTo (parents xs) (meet xs v w) w).reverse
theorem way_mk {xs ps : List Int} (ht : isTree xs = true) (hp : ParsOK xs ps) {v w : Nat} {l r : List Int} {m : Nat} (hm : meet xs v w = m) (hl : Climb xs ps v m m l) (hr : Climb xs ps w m m r) : l ++ [(m : Int)] ++ r.reverse = way xs v w := by
  rw [way, hm, parents_eq ht hp, climb_end hl, climb_end hr]
theorem way_len {xs : List Int} (ht : isTree xs = true) (hE : ∃ ps, ParsOK xs ps) {v w : Nat} (hv : v < xs.length) (hw : w < xs.length) : 1 ≤ (way xs v w).length ∧ (way xs v w).length ≤ 47 := by
  obtain ⟨ps, hp⟩ := hE
  have hm := meet_bel ht hv hw
  have h1 := climb_len ht hp hv hm.1
  have h2 := climb_len ht hp hw hm.2
  have h3 := (tree_len ht).2
  rw [way, parents_eq ht hp]
  simp only [List.length_append, List.length_singleton, List.length_reverse]
  omega
noncomputable def dist (xs : List Int) (v w : Nat) : Nat := (way xs v w).length - 1
theorem dist_le {xs : List Int} (ht : isTree xs = true) (hE : ∃ ps, ParsOK xs ps) {v w : Nat} (hv : v < xs.length) (hw : w < xs.length) : dist xs v w ≤ 46 := by
  have := way_len ht hE hv hw
  simp only [dist]; omega
theorem dist_depths {xs ps ds : List Int} (ht : isTree xs = true) (hp : ParsOK xs ps) (hd : DepsOK xs ds) {v w : Nat} {x y z : Int} (hv : v < xs.length) (hw : w < xs.length) (hx : ds[v]? = some x) (hy : ds[w]? = some y) (hz : ds[meet xs v w]? = some z) :
    (dist xs v w : Int) = x + y - 2 * z := by
  have hm := meet_bel ht hv hw
  have h1 := up_depth ht hp hd hz hv hm.1 hx
  have h2 := up_depth ht hp hd hz hw hm.2 hy
  simp only [dist, way, parents_eq ht hp, List.length_append, List.length_singleton, List.length_reverse]
  omega
noncomputable def wayBetween (xs : List Int) (v w : Int) : List Int × Int := if code xs [v, w] = 0 then (way xs v.toNat w.toNat, 0) else ([], code xs [v, w])
theorem wayBetween_yes {xs : List Int} {v w : Nat} (h : code xs [(v : Int), (w : Int)] = 0) : wayBetween xs v w = (way xs v w, 0) := by simp [wayBetween, h]
theorem wayBetween_no {xs : List Int} {v w : Int} (h : code xs [v, w] ≠ 0) : wayBetween xs v w = ([], code xs [v, w]) := by simp [wayBetween, h]
noncomputable def stepsBetween (xs : List Int) (v w : Int) : Int × Int := if code xs [v, w] = 0 then ((dist xs v.toNat w.toNat : Int), 0) else (0, code xs [v, w])
theorem stepsBetween_yes {xs : List Int} {v w : Nat} (h : code xs [(v : Int), (w : Int)] = 0) : stepsBetween xs v w = ((dist xs v w : Int), 0) := by simp [stepsBetween, h]
theorem stepsBetween_no {xs : List Int} {v w : Int} (h : code xs [v, w] ≠ 0) : stepsBetween xs v w = (0, code xs [v, w]) := by simp [stepsBetween, h]
end M
end Go.Proofs.Ytkcldfliiagloaa
