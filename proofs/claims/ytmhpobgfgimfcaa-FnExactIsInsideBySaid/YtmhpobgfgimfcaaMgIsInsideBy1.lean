/- Words for slices of int64 in memory, and small lemmas on worlds: what the walks of this seat share. No conditions. -/
import Derived.Test.YtmhpobgfgimfcaaRows
import Derived.WalkKit
import Derived.OwnWalk
import Derived.Lib.Hide
import Derived.Outline
import Derived.LoopTactic
import Derived.Deep.QuietTactic
import Derived.BigQuiet
import Derived.Deep.Draws
import Derived.Deep.OwnRows
import Derived.Maps.AppendAt
import Derived.Deep.RegionHeld3
import Derived.RangeFuncBox
import Derived.RangeFuncNested
import Derived.RangeFuncBound
import Derived.RangeFuncCalls
import Derived.RangeFuncLeaves
import Derived.Shelf.Abstract
import Derived.OwnWalkIn
import Derived.TacticsInMore
import Derived.LoopNIn
import Derived.LoopIn
import Derived.Laws.AppendOwnNone
import Derived.WalkSpells
import Derived.RangeFuncRecord
namespace Go.Proofs.Ytmhpobgfgimfcaa
open Go.RowKit

/-- The slice value '.slice A zs.length c' reads as zs, below block B. -/
def Ints (w : World) (B : Nat) (A : Option Addr) (zs : List Int) : Prop :=
  0 < zs.length → ∃ b off, A = some ⟨b, off, none⟩ ∧ b < B ∧ ∀ j x, zs[j]? = some x → w.cell? ⟨b, off + j, none⟩ = some (.int .i64 x)

theorem Ints.nil_ (w : World) (B : Nat) (A : Option Addr) : Ints w B A [] := fun h => absurd h (by simp)

theorem Ints.at_ {w : World} {B : Nat} {A : Option Addr} {zs : List Int} (h : Ints w B A zs) {k : Nat} (hk : k < zs.length) :
    ∃ b off x, A = some ⟨b, off, none⟩ ∧ b < B ∧ w.cell? ⟨b, off + k, none⟩ = some (.int .i64 x) ∧ Hid (zs[k]? = some x) := by
  obtain ⟨b, off, e, hb, hc⟩ := h (by omega)
  exact ⟨b, off, zs[k], e, hb, hc k _ (List.getElem?_eq_getElem hk), List.getElem?_eq_getElem hk⟩

theorem Ints.keep {w w' : World} {B : Nat} {A : Option Addr} {zs : List Int} (h : Ints w B A zs) (hk : ∀ p : Addr, p.block < B → w'.cell? p = w.cell? p) : Ints w' B A zs := fun hn => by
  obtain ⟨b, off, e, hb, hc⟩ := h hn
  exact ⟨b, off, e, hb, fun j x hx => (hk ⟨b, off + j, none⟩ hb).trans (hc j x hx)⟩

theorem Ints.more {w : World} {B B' : Nat} {A : Option Addr} {zs : List Int} (h : Ints w B A zs) (hB : B ≤ B') : Ints w B' A zs := fun hn => by
  obtain ⟨b, off, e, hb, hc⟩ := h hn
  exact ⟨b, off, e, by omega, hc⟩

theorem Ints.below {w w' : World} {B B' : Nat} {A : Option Addr} {zs : List Int} (h : Ints w B A zs) (hb : Below B' w w') (hB : B ≤ B') : Ints w' B A zs :=
  h.keep fun p hp => hb.cell (p := p) (by omega)

theorem Ints.alloc {w : World} {B : Nat} {A : Option Addr} {zs : List Int} (h : Ints w B A zs) (hB : B ≤ w.heap.size) (o : Obj) : Ints (w.alloc o) B A zs :=
  h.keep fun p hp => World.cell?_alloc_lt w o p (by omega)

theorem Ints.al {w : World} {A : Option Addr} {zs : List Int} (h : Ints w w.heap.size A zs) (o : Obj) : Ints (w.alloc o) (w.alloc o).heap.size A zs :=
  (h.alloc (Nat.le_refl _) o).more (by simp)

theorem Ints.be {w w' : World} {A : Option Addr} {zs : List Int} (h : Ints w w.heap.size A zs) (hb : Below w.heap.size w w') : Ints w' w'.heap.size A zs :=
  (h.below hb (Nat.le_refl _)).more hb.size

theorem Ints.drewN {w : World} {B : Nat} {A : Option Addr} {zs : List Int} (h : Ints w B A zs) (n : Nat) : Ints (w.drewN n) B A zs := h

theorem below_drewN {B : Nat} {a w : World} (h : Below B a w) (n : Nat) : Below B a (w.drewN n) := ⟨h.os, h.tape, h.output, h.size, h.block⟩

theorem ints_of_own {w : World} {base e n c : Nat} {A : Option Addr} {zs : List Int} (h : w.ownsRow base e 1 (.slice A n c) n (zs.map (Value.int .i64))) : n = zs.length ∧ Ints w w.heap.size A zs := by
  have hn : n = zs.length := by have := h.1; simpa using this.symm
  refine ⟨hn, fun hz => ?_⟩
  rcases h.2 with ⟨_, h0⟩ | ⟨g, cap, cur, hv, _, hg, _⟩
  · omega
  · injection hv with h1 h2 h3
    subst h1
    refine ⟨g, 0, rfl, (Array.getElem?_eq_some_iff.1 hg).1, fun j x hx => ?_⟩
    have := h.cells (g := g) rfl j (.int .i64 x) (by simp [hx])
    have ha : (⟨g, 0, none⟩ : Addr).add j = ⟨g, j, none⟩ := by unfold Addr.add; split <;> simp_all
    rw [ha] at this
    rw [Nat.zero_add]
    exact this


/-- The element type of the slices: int64. -/
theorem info64 : (Try.prog.info? 2).map (fun i => (i.zero, i.size, i.bytes)) = some (some (.int .i64 0), 1, 8) := by kernel_rfl

/-- the slice value v owns a row that reads zs -/
abbrev Own64 (w : World) (B : Nat) (v : Value) (zs : List Int) : Prop := w.ownsRow B 2 1 v zs.length (zs.map (Value.int .i64))

theorem ints_of_own64 {w : World} {B n c : Nat} {A : Option Addr} {zs : List Int} (h : Own64 w B (.slice A n c) zs) : Ints w w.heap.size A zs := by
  have hn : n = zs.length := by
    rcases h.2 with ⟨h1, h2⟩ | ⟨g, cap, cur, hv, _⟩
    · injection h1 with _ h1 _; omega
    · injection hv
  subst hn
  exact (ints_of_own h).2

theorem cell_al {w : World} {b : Nat} {v : Value} (h : w.cell? ⟨b, 0, none⟩ = some v) (o : Obj) : (w.alloc o).cell? ⟨b, 0, none⟩ = some v :=
  (World.cell?_alloc_lt w o ⟨b, 0, none⟩ (World.block_lt_of_cell? _ _ h)).trans h

theorem own64_made {w : World} {B n : Nat} (hB : B ≤ w.heap.size) (hn : n ≤ maxLen) :
    Own64 (w.alloc (.cells (madeCells #[.int .i64 0] n) 2)) B (.slice (some ⟨w.heap.size, 0, none⟩) n n) (List.replicate n 0) := by
  have h := World.ownsRow_lit (e := 2) (size := 1) w (madeCells #[.int .i64 0] n) n hB hn (by simp [size_madeCells])
  rw [toList_madeCells_one] at h
  simpa [Own64] using h

theorem own64_set {w : World} {B g n c : Nat} {zs : List Int} (h : Own64 w B (.slice (some ⟨g, 0, none⟩) n c) zs) (hn : zs.length = n) (k : Nat) (x : Int) :
    Own64 (w.setCell ⟨g, k, none⟩ (.int .i64 x)) B (.slice (some ⟨g, 0, none⟩) n c) (zs.set k x) := by
  subst hn
  have := (World.ownsRow.stored h k (.int .i64 x)).1
  simpa [Own64, List.map_set] using this

theorem own64_cell {w : World} {B g n c : Nat} {zs : List Int} (h : Own64 w B (.slice (some ⟨g, 0, none⟩) n c) zs) (hn : zs.length = n) {k : Nat} {x : Int} (hx : zs[k]? = some x) :
    w.cell? ⟨g, k, none⟩ = some (.int .i64 x) ∧ w.frozen? ⟨g, k, none⟩ = false ∧ B ≤ g ∧ g < w.heap.size := by
  subst hn
  have hk : k < zs.length := (List.getElem?_eq_some_iff.1 hx).1
  have hl := World.ownsRow.lt h g rfl
  exact ⟨(World.ownsRow.cellAt h k (by omega)).trans (by simp [hx]), World.ownsRow.frozenAt h k, hl.1, hl.2⟩

theorem own_mono {w : World} {base base' e size n : Nat} {v : Value} {xs : List Value} (h : w.ownsRow base e size v n xs) (hB : base' ≤ base) : w.ownsRow base' e size v n xs := by
  refine ⟨h.1, ?_⟩
  rcases h.2 with h2 | ⟨g, cap, cur, hv, hg, r⟩
  · exact .inl h2
  · exact .inr ⟨g, cap, cur, hv, by omega, r⟩

theorem own_far {w : World} {base e size n g k : Nat} {v : Value} {xs : List Value} (h : w.ownsRow base e size v n xs) (hg : g < base) (u : Value) : (w.setCell ⟨g, k, none⟩ u).ownsRow base e size v n xs :=
  ownsRow_setCell_below h (a := ⟨g, k, none⟩) hg u

theorem own_below {w w' : World} {B base e size n : Nat} {v : Value} {xs : List Value} (h : w.ownsRow base e size v n xs) (hb : Below B w w') (hB : w.heap.size ≤ B) : w'.ownsRow base e size v n xs := by
  refine ⟨h.1, ?_⟩
  rcases h.2 with h2 | ⟨g, cap, cur, hv, hg, hh, r⟩
  · exact .inl h2
  · exact .inr ⟨g, cap, cur, hv, hg, (hb.block g (by have := (Array.getElem?_eq_some_iff.1 hh).1; omega)).trans hh, r⟩

/-- 'Below' from a world's own size on, with no side conditions: a new block, a call, a draw -/
theorem b0 (a : World) : Below a.heap.size a a := Below.refl _ _
theorem bal {a w : World} (h : Below a.heap.size a w) (o : Obj) : Below a.heap.size a (w.alloc o) := h.alloc h.size o
theorem btr {a W w : World} (h : Below a.heap.size a W) (k : Below W.heap.size W w) : Below a.heap.size a w := h.trans (k.mono h.size)

theorem below_setCell {B : Nat} {a w : World} (h : Below B a w) {g k : Nat} (hg : B ≤ g) (u : Value) : Below B a (w.setCell ⟨g, k, none⟩ u) := h.setCell (p := ⟨g, k, none⟩) hg u

end Go.Proofs.Ytmhpobgfgimfcaa

/- The walks of the laws' own helpers over slices of int64: szInt64S, eqInt64S, toInt64S, markInt64S, heldInt64S. No conditions but lengths. -/
namespace Go.Proofs.Ytmhpobgfgimfcaa
open Go.RowKit

theorem szInts (A : Option Addr) (n c : Nat) (left : Int) (w : World) (hn : n ≤ 9223372036854775807) (hl : left ≤ 1048576) (hl0 : 0 ≤ left) :
    Calls Try.prog 59 #[.slice A n c, .int .i64 left] w fun e w' => e = .returned (.int .i64 (if left - n < 0 then -1 else left - n)) ∧ w = w' := by
  by_cases h : left - (n : Int) < 0
  · go_enter Try.func59, Try.ntmps59
    go_wp2
    go_ret
    exact ⟨rfl, rfl⟩
  · go_enter Try.func59, Try.ntmps59
    go_wp2
    go_ret
    exact ⟨rfl, rfl⟩

theorem take_eq_succ {xs ys : List Int} {k : Nat} {x : Int} (hx : Hid (xs[k]? = some x)) (hy : Hid (ys[k]? = some x)) (h : Hid (xs.take k = ys.take k)) : Hid (xs.take (k + 1) = ys.take (k + 1)) := by
  have hx' : xs[k]? = some x := hx
  have hy' : ys[k]? = some x := hy
  have h' : xs.take k = ys.take k := h
  show xs.take (k + 1) = ys.take (k + 1)
  rw [List.take_add_one, List.take_add_one, h', hx', hy']
theorem ne_of_at {xs ys : List Int} {k : Nat} {x y : Int} (hx : Hid (xs[k]? = some x)) (hy : Hid (ys[k]? = some y)) (he : x ≠ y) : ¬ xs = ys := fun e => by
  have hx' : xs[k]? = some x := hx
  have hy' : ys[k]? = some y := hy
  rw [e, hy'] at hx'
  injection hx' with h
  exact he h.symm

set_option maxHeartbeats 400000 in
theorem eqInts (A A' : Option Addr) (xs ys : List Int) (c c' : Nat) (w : World) (hy : ys.length ≤ 1000000000000000)
    (h : Ints w w.heap.size A xs) (h' : Ints w w.heap.size A' ys) :
    Calls Try.prog 25 #[.slice A xs.length c, .slice A' ys.length c'] w fun e w' => e = .returned (.bool (decide (xs = ys))) ∧ Below w.heap.size w w' := by
  by_cases hl : xs.length = ys.length
  · have hl' : ((xs.length : Int) != (ys.length : Int)) = false := by simp [hl]
    have Hl := Lib.hid hl
    have hl1 : xs.length ≤ ys.length := by omega
    clear hl
    go_enter Try.func25, Try.ntmps25
    go_wp2
    go_loopw [5] (fun i wr => ∃ k : Nat, k ≤ xs.length ∧ i = .int .i64 k ∧ Hid (xs.take k = ys.take k) ∧ Below w.heap.size w wr) (fun i _ => xs.length - (intOf i).toNat)
    case atStart => exact ⟨0, Nat.zero_le _, rfl, rfl, Below.refl _ _⟩
    case round =>
      obtain ⟨k, hk, rfl, he, hb⟩ := hrel
      by_cases hlt : k < xs.length
      · obtain ⟨b, off, x, rfl, hbB, g, hX⟩ := (h.below hb (Nat.le_refl _)).at_ hlt
        obtain ⟨b', off', y, rfl, hbB', g', hY⟩ := (h'.below hb (Nat.le_refl _)).at_ (k := k) (by omega)
        clear h h'
        by_cases hq : x = y
        · subst hq
          have hs := take_eq_succ hX hY he
          go_wp2
          go_quiet (fail)
          go_wp2
          go_roundw
          case rel => exact ⟨k + 1, by omega, by go_num, hs, below_drewN hb _⟩
          case measure => simp [intOf]; omega
        · have hq' : (x != y) = true := by simp [hq]
          have hs := ne_of_at hX hY hq
          clear hq
          go_wp2
          go_quiet (fail)
          go_wp2
          go_ret
          exact ⟨by simp [hs], below_drewN hb _⟩
      · obtain rfl : k = xs.length := by omega
        have hs : xs = ys := by
          have := he.out
          rw [List.take_length, Hl.out, List.take_length] at this
          exact this
        have Hs := Lib.hid hs
        clear hs
        go_wp2
        go_ret
        exact ⟨by simp [Hs.out], hb⟩
  · have hl' : ((xs.length : Int) != (ys.length : Int)) = true := by simp; omega
    go_enter Try.func25, Try.ntmps25
    go_wp2
    go_ret
    refine ⟨?_, Below.refl _ _⟩
    have : ¬ xs = ys := fun e => hl (by rw [e])
    simp [this]

theorem take_set_succ {xs ys : List Int} {k : Nat} {x : Int} (hl : Hid (ys.length = xs.length)) (hx : Hid (xs[k]? = some x)) (h : Hid (ys.take k = xs.take k)) : Hid ((ys.set k x).take (k + 1) = xs.take (k + 1)) := by
  have hl' : ys.length = xs.length := hl
  have hx' : xs[k]? = some x := hx
  have h' : ys.take k = xs.take k := h
  have hk : k < ys.length := by rw [hl']; exact (List.getElem?_eq_some_iff.1 hx').1
  show (ys.set k x).take (k + 1) = xs.take (k + 1)
  rw [List.take_add_one, List.take_add_one, hx', List.getElem?_set_self hk, List.take_set_of_le (Nat.le_refl _), h']

set_option maxHeartbeats 400000 in
theorem toInts (A : Option Addr) (xs : List Int) (c : Nat) (w : World) (hx : xs.length ≤ 1000000000000) (h : Ints w w.heap.size A xs) :
    Calls Try.prog 48 #[.slice A xs.length c] w fun e w' => ∃ g, e = .returned (.slice (some ⟨g, 0, none⟩) xs.length xs.length) ∧
      Own64 w' w.heap.size (.slice (some ⟨g, 0, none⟩) xs.length xs.length) xs ∧ Below w.heap.size w w' := by
  have hmk := run_make_row' (P := Try.prog) 23 2 (.int .i64 0) 8 Try.underlying23 info64 rfl .i64 .i64 xs.length (by omega) (by omega)
  have hstart := own64_made (w := w) (B := w.heap.size) (n := xs.length) (Nat.le_refl _) (by unfold maxLen; omega)
  go_enter Try.func48, Try.ntmps48
  go_wp2
  clear hmk
  go_loopw [4] (fun i wr => ∃ (k : Nat) (ys : List Int), k ≤ xs.length ∧ i = .int .i64 k ∧ Hid (ys.length = xs.length) ∧ Hid (ys.take k = xs.take k) ∧
      Hid (Own64 wr w.heap.size (.slice (some ⟨w.heap.size, 0, none⟩) xs.length xs.length) ys) ∧ Below w.heap.size w wr) (fun i _ => xs.length - (intOf i).toNat)
  case atStart => exact ⟨0, List.replicate xs.length 0, Nat.zero_le _, rfl, by simp [Hid], rfl, hstart, (Below.refl _ _).alloc (Nat.le_refl _) _⟩
  case round =>
    obtain ⟨k, ys, hk, rfl, hly, he, ho, hb⟩ := hrel
    clear hstart
    by_cases hlt : k < xs.length
    · obtain ⟨b, off, x, rfl, hbB, g, hX⟩ := (h.below hb (Nat.le_refl _)).at_ hlt
      clear h
      have hly' : ys.length = xs.length := hly
      obtain ⟨c1, c2, c3, c4⟩ := own64_cell ho.out hly' (k := k) (x := ys[k]) (List.getElem?_eq_getElem (by omega))
      have hs := take_set_succ hly hX he
      have ho' : Hid (Own64 _ _ _ _) := own64_set ho.out hly' k x
      generalize ys[k] = y at c1
      clear hly'
      go_wp2
      go_roundw
      case rel => exact ⟨k + 1, ys.set k x, by omega, by go_num, by simp [Hid]; exact hly.out, hs, ho', below_setCell hb (Nat.le_refl _) _⟩
      case measure => simp [intOf]; omega
    · obtain rfl : k = xs.length := by omega
      have hys : ys = xs := by
        have := he.out
        rw [← hly.out, List.take_length, hly.out, List.take_length] at this
        exact this
      have Hs := Lib.hid hys
      clear hys
      go_wp2
      go_ret
      exact ⟨_, rfl, by rw [← Hs.out]; have := ho.out; rw [← hly.out] at this; exact this, hb⟩

/-- the marks that the laws write: k, k + 1, .. -/
def marks (k : Int) (n : Nat) : List Int := (List.range n).map fun (i : Nat) => k + (i : Int)
theorem marks_length (k : Int) (n : Nat) : (marks k n).length = n := by simp [marks]
theorem marks_at (k : Int) {n i : Nat} (h : i < n) : (marks k n)[i]? = some (k + i) := by simp [marks, h]

theorem take_marks_succ {ys : List Int} {k : Int} {n i : Nat} (hl : Hid (ys.length = n)) (hi : i < n) (h : Hid (ys.take i = (marks k n).take i)) : Hid ((ys.set i (k + i)).take (i + 1) = (marks k n).take (i + 1)) :=
  take_set_succ (xs := marks k n) (by show ys.length = _; rw [marks_length]; exact hl) (marks_at k hi) h

theorem grown_set {a w : World} {g : Nat} (h : a.grownBy w (some g)) (k : Nat) (u : Value) : a.grownBy (w.setCell ⟨g, k, none⟩ u) (some g) :=
  ⟨h.os, h.tape, h.output, by simpa [World.setCell] using h.size, fun i hi hne => (Below.heap_setCell w ⟨g, k, none⟩ u i (fun e => hne (by rw [e]))).trans (h.block i hi hne)⟩

set_option maxHeartbeats 400000 in
theorem markInts (A : Option Addr) (n c : Nat) (zs : List Int) (m : Int) (B : Nat) (w : World) (hn : zs.length = n) (hn' : n ≤ 1000000000000) (hm : 0 ≤ m) (hm' : m ≤ 1000000000000) (ho : Own64 w B (.slice A n c) zs) :
    Calls Try.prog 27 #[.slice A n c, .int .i64 m] w fun e w' => e = .returned (.int .i64 (m + n)) ∧ Own64 w' B (.slice A n c) (marks m n) ∧ w.grownBy w' (Value.slice A n c).ownBlock := by
  rcases Nat.eq_zero_or_pos n with h0 | h0
  · subst h0
    obtain rfl : zs = [] := List.eq_nil_of_length_eq_zero hn
    clear hn
    go_enter Try.func27, Try.ntmps27
    go_wp2
    refine wp_loop_rounds 1 ?_
    rw [rounds_succ]
    go_wp2
    go_ret
    exact ⟨by simp, by simpa [marks] using ho, World.grownBy.refl _ _⟩
  · obtain ⟨g, rfl⟩ : ∃ g, A = some ⟨g, 0, none⟩ := by
      rcases ho.2 with ⟨_, h⟩ | ⟨g, _, _, h, _⟩
      · omega
      · injection h with h; exact ⟨g, h⟩
    have Hn := Lib.hid hn
    clear hn
    go_enter Try.func27, Try.ntmps27
    go_wp2
    go_loopw [1, 5] (fun q i wr => ∃ (k : Nat) (ys : List Int), k ≤ n ∧ i = .int .i64 k ∧ q = .int .i64 (m + k) ∧ Hid (ys.length = n) ∧ Hid (ys.take k = (marks m n).take k) ∧
        Hid (Own64 wr B (.slice (some ⟨g, 0, none⟩) n c) ys) ∧ w.grownBy wr (some g)) (fun _ i _ => n - (intOf i).toNat)
    case atStart => exact ⟨0, zs, Nat.zero_le _, rfl, by simp, Hn, rfl, ho, World.grownBy.refl _ _⟩
    case round =>
      obtain ⟨k, ys, hk, rfl, rfl, hly, he, ho', hb⟩ := hrel
      clear ho
      by_cases hlt : k < n
      · have hly' : ys.length = n := hly
        obtain ⟨c1, c2, c3, c4⟩ := own64_cell ho'.out hly' (k := k) (x := ys[k]) (List.getElem?_eq_getElem (by omega))
        have hs := take_marks_succ hly hlt he
        have ho2 : Hid (Own64 _ _ _ _) := own64_set ho'.out hly' k (m + k)
        generalize ys[k] = y at c1
        clear hly'
        go_wp2
        go_roundw
        case rel => exact ⟨k + 1, ys.set k (m + k), by omega, by go_num, by go_num, by simp [Hid]; exact hly.out, hs, ho2, grown_set hb _ _⟩
        case measure => simp [intOf]; omega
      · obtain rfl : k = n := by omega
        have hys : ys = marks m k := by
          have h1 := he.out
          have h2 := hly.out
          rw [← h2, List.take_length, h2] at h1
          rw [h1, List.take_of_length_le (by rw [marks_length]; exact Nat.le_refl _)]
        have Hs := Lib.hid hys
        clear hys
        go_wp2
        go_ret
        exact ⟨rfl, by rw [← Hs.out]; exact ho'.out, hb⟩

set_option maxHeartbeats 400000 in
theorem heldInts (A : Option Addr) (n c : Nat) (m : Int) (w : World) (hn' : n ≤ 1000000000000) (hm : 0 ≤ m) (hm' : m ≤ 1000000000000) (h : Ints w w.heap.size A (marks m n)) :
    Calls Try.prog 28 #[.slice A n c, .int .i64 m] w fun e w' => e = .returned (.int .i64 (m + n)) ∧ w = w' := by
  go_enter Try.func28, Try.ntmps28
  go_wp2
  go_loop [1, 5] (fun q i => ∃ (k : Nat), k ≤ n ∧ i = .int .i64 k ∧ q = .int .i64 (m + k)) (fun _ i => n - (intOf i).toNat)
  case atStart => exact ⟨0, Nat.zero_le _, rfl, by simp⟩
  case round =>
    obtain ⟨k, hk, rfl, rfl⟩ := hrel
    by_cases hlt : k < n
    · obtain ⟨b, off, x, rfl, hbB, g, hX⟩ := h.at_ (k := k) (by rw [marks_length]; exact hlt)
      clear h
      obtain rfl : x = m + k := by
        have h1 := hX.out
        rw [marks_at m hlt] at h1
        injection h1 with h1
        exact h1.symm
      go_wp2
      go_round
      case rel => exact ⟨k + 1, by omega, by go_num, by go_num⟩
      case measure => simp [intOf]; omega
    · obtain rfl : k = n := by omega
      go_wp2
      go_ret
      exact ⟨rfl, rfl⟩
end Go.Proofs.Ytmhpobgfgimfcaa

/- The walks of the laws' own helpers over trees (structs of one slice): szTree, toTree, eqTree, markTree, heldTree. No conditions but lengths. -/
namespace Go.Proofs.Ytmhpobgfgimfcaa
open Go.RowKit

theorem bcell {W w1 : World} (hb : Below W.heap.size W w1) : (∀ b o, b < W.heap.size → w1.cell? ⟨b, o, none⟩ = W.cell? ⟨b, o, none⟩) ∧ (∀ b o, b < W.heap.size → w1.frozen? ⟨b, o, none⟩ = W.frozen? ⟨b, o, none⟩) :=
  ⟨fun b o h => hb.cell (p := ⟨b, o, none⟩) h, fun b o h => hb.frozen (p := ⟨b, o, none⟩) h⟩

theorem szTree (A : Option Addr) (n c : Nat) (left : Int) (w : World) (hn : n ≤ 9223372036854775807) (hl : left ≤ 1048576) (hl0 : 0 ≤ left) :
    Calls Try.prog 18 #[.agg #[.slice A n c], .int .i64 left] w fun e w' => e = .returned (.int .i64 (if left - n < 0 then -1 else left - n)) ∧ Below w.heap.size w w' := by
  by_cases h : left - (n : Int) < 0
  · go_enter Try.func18, Try.ntmps18
    go_wp2_with (go_at_call 59; refine (szInts _ _ _ _ _ hn hl hl0).mono ?_; rintro e w' ⟨rfl, rfl⟩)
    go_ret
    exact ⟨rfl, (Below.refl _ _).alloc (Nat.le_refl _) _⟩
  · go_enter Try.func18, Try.ntmps18
    go_wp2_with (go_at_call 59; refine (szInts _ _ _ _ _ hn hl hl0).mono ?_; rintro e w' ⟨rfl, rfl⟩)
    go_ret
    exact ⟨rfl, (Below.refl _ _).alloc (Nat.le_refl _) _⟩

set_option maxHeartbeats 400000 in
theorem toTree (A : Option Addr) (xs : List Int) (c : Nat) (w : World) (hx : xs.length ≤ 1000000000000) (h : Ints w w.heap.size A xs) :
    Calls Try.prog 20 #[.agg #[.slice A xs.length c]] w fun e w' => ∃ g, e = .returned (.agg #[.slice (some ⟨g, 0, none⟩) xs.length xs.length]) ∧
      Own64 w' w.heap.size (.slice (some ⟨g, 0, none⟩) xs.length xs.length) xs ∧ Below w.heap.size w w' := by
  go_enter Try.func20, Try.ntmps20
  go_wp2_with fail
  refine (toInts A xs c _ hx (((h.al _).al _).al _)).mono ?_
  rintro e w1 ⟨g, rfl, ho, hb⟩
  obtain ⟨hc, hf⟩ := bcell hb
  have hB := btr (bal (bal (bal (b0 w) _) _) _) hb
  have ho' : Own64 w1 (w.heap.size + 3) (.slice (some ⟨g, 0, none⟩) xs.length xs.length) xs := own_mono ho (by simp)
  clear ho h
  go_wp2
  refine bodyPost_ret (v := .agg #[.slice (some ⟨g, 0, none⟩) xs.length xs.length]) (by simp [results, Try.results20, go_sem, hc]) rfl ?_
  exact ⟨g, rfl, own_mono (own_far (own_far ho' (by omega) _) (by omega) _) (by omega), below_setCell (below_setCell hB (by omega) _) (by omega) _⟩

set_option maxHeartbeats 400000 in
theorem eqTree (A A' : Option Addr) (xs ys : List Int) (c c' : Nat) (w : World) (hy : ys.length ≤ 1000000000000000)
    (h : Ints w w.heap.size A xs) (h' : Ints w w.heap.size A' ys) :
    Calls Try.prog 22 #[.agg #[.slice A xs.length c], .agg #[.slice A' ys.length c']] w fun e w' => e = .returned (.bool (decide (xs = ys))) ∧ Below w.heap.size w w' := by
  have C := eqInts A A' xs ys c c' _ hy ((h.al (.cells #[.slice A xs.length c] 29)).al (.cells #[.slice A' ys.length c'] 29)) ((h'.al _).al _)
  generalize decide (xs = ys) = d at C ⊢
  have HC := Lib.hid C
  clear C
  cases d
  all_goals
    go_enter Try.func22, Try.ntmps22
    go_wp2_with fail
    refine HC.out.mono ?_
    rintro e w1 ⟨rfl, hb⟩
    have hB := btr (bal (bal (b0 w) _) _) hb
    go_wp2
    go_ret
    exact ⟨rfl, hB⟩

set_option maxHeartbeats 400000 in
theorem markTree (A : Option Addr) (n c : Nat) (zs : List Int) (m : Int) (B : Nat) (w : World) (hn : zs.length = n) (hn' : n ≤ 1000000000000) (hm : 0 ≤ m) (hm' : m ≤ 1000000000000) (ho : Own64 w B (.slice A n c) zs) :
    Calls Try.prog 26 #[.agg #[.slice A n c], .int .i64 m] w fun e w' => e = .returned (.int .i64 (m + n)) ∧ Own64 w' B (.slice A n c) (marks m n) ∧ w.grownBy w' (Value.slice A n c).ownBlock := by
  have Hn := Lib.hid hn
  clear hn
  go_enter Try.func26, Try.ntmps26
  go_wp2_with fail
  refine (markInts A n c zs m B _ Hn.out hn' hm hm' (ho.alloc _)).mono ?_
  rintro e w1 ⟨rfl, ho1, hg⟩
  go_wp2
  go_ret
  exact ⟨rfl, ho1, (World.grownBy_alloc w _ _).trans hg⟩

set_option maxHeartbeats 400000 in
theorem heldTree (A : Option Addr) (n c : Nat) (m : Int) (w : World) (hn' : n ≤ 1000000000000) (hm : 0 ≤ m) (hm' : m ≤ 1000000000000) (h : Ints w w.heap.size A (marks m n)) :
    Calls Try.prog 38 #[.agg #[.slice A n c], .int .i64 m] w fun e w' => e = .returned (.int .i64 (m + n)) ∧ Below w.heap.size w w' := by
  go_enter Try.func38, Try.ntmps38
  go_wp2_with (go_at_call 28; refine (heldInts A n c m _ hn' hm hm' (h.al _)).mono ?_; rintro e w' ⟨rfl, rfl⟩)
  go_ret
  exact ⟨rfl, (Below.refl _ _).alloc (Nat.le_refl _) _⟩

theorem own_shape {w : World} {B e : Nat} {v : Value} {n : Nat} {zs : List Value} (h : w.ownsRow B e 1 v n zs) : ∃ A c, v = .slice A n c := by
  rcases h.2 with ⟨rfl, rfl⟩ | ⟨g, cap, _, rfl, _⟩
  · exact ⟨none, 0, rfl⟩
  · exact ⟨_, _, rfl⟩

/-- a step that keeps all that was there: what a law knows of its own memory stays -/
theorem own_be {w w' : World} {base e size n : Nat} {v : Value} {xs : List Value} (h : w.ownsRow base e size v n xs) (hb : Below w.heap.size w w') : w'.ownsRow base e size v n xs := own_below h hb (Nat.le_refl _)

theorem cell_be {w w' : World} {b : Nat} {v : Value} (h : w.cell? ⟨b, 0, none⟩ = some v) (hb : Below w.heap.size w w') : w'.cell? ⟨b, 0, none⟩ = some v :=
  ((bcell hb).1 _ _ (World.block_lt_of_cell? _ _ h)).trans h

theorem cell_grown {w w' : World} {b : Nat} {v : Value} {row : Option Nat} (h : w.cell? ⟨b, 0, none⟩ = some v) (hb : w.grownBy w' row) (hne : ∀ k, row = some k → k ≠ b) : w'.cell? ⟨b, 0, none⟩ = some v :=
  hb.cell h (fun e => hne b e.symm rfl)

theorem own_grown {w w' : World} {base e size n : Nat} {v : Value} {xs : List Value} {row : Option Nat} (h : w.ownsRow base e size v n xs) (hb : w.grownBy w' row) (hne : ∀ k, row = some k → k < base ∨ w.heap.size ≤ k) : w'.ownsRow base e size v n xs := by
  refine h.kept hb ?_
  cases hv : v.ownBlock with
  | none => exact .inl rfl
  | some k =>
    refine .inr fun e => ?_
    have h1 := h.lt k hv
    have h2 := hne k e.symm
    omega

theorem below_grown {a w w' : World} {row : Option Nat} (h : Below a.heap.size a w) (hb : w.grownBy w' row) (hne : ∀ k, row = some k → a.heap.size ≤ k) : Below a.heap.size a w' :=
  h.grown hb h.size hne

theorem eqIntsT (A A' : Option Addr) (xs : List Int) (c c' : Nat) (w : World) (hy : xs.length ≤ 1000000000000000)
    (h : Ints w w.heap.size A xs) (h' : Ints w w.heap.size A' xs) :
    Calls Try.prog 25 #[.slice A xs.length c, .slice A' xs.length c'] w fun e w' => e = .returned (.bool true) ∧ Below w.heap.size w w' :=
  (eqInts A A' xs xs c c' w hy h h').mono fun _ _ ⟨he, hb⟩ => ⟨by rw [he]; simp, hb⟩

theorem eqTreeT (A A' : Option Addr) (xs : List Int) (c c' : Nat) (w : World) (hy : xs.length ≤ 1000000000000000)
    (h : Ints w w.heap.size A xs) (h' : Ints w w.heap.size A' xs) :
    Calls Try.prog 22 #[.agg #[.slice A xs.length c], .agg #[.slice A' xs.length c']] w fun e w' => e = .returned (.bool true) ∧ Below w.heap.size w w' :=
  (eqTree A A' xs xs c c' w hy h h').mono fun _ _ ⟨he, hb⟩ => ⟨by rw [he]; simp, hb⟩

/-- what a function of a tree that hands back a list and a code must do, as F says -/
def GivesList (f : Nat) (F : List Int → List Int × Int) : Prop :=
  ∀ (A : Option Addr) (xs : List Int) (c : Nat) (w : World), xs.length ≤ 1048576 → xs.length ≤ c ∧ c ≤ 1000000000000 → Ints w w.heap.size A xs →
    Calls Try.prog f #[.agg #[.slice A xs.length c]] w fun e w' => ∃ A' c', e = .returned (.tuple #[.slice A' (F xs).1.length c', .int .i64 (F xs).2]) ∧
      Own64 w' w.heap.size (.slice A' (F xs).1.length c') (F xs).1 ∧ Below w.heap.size w w'
end Go.Proofs.Ytmhpobgfgimfcaa

/- Plain facts on lists of degrees: when they are a tree, by the two loops. No program is named here. -/
namespace Go.Proofs.Ytmhpobgfgimfcaa.M
/-- the model's loop -/
def isGo : Int → List Int → Bool
  | o, [] => o == 0
  | o, d :: r => if o == 0 || !(decide (0 ≤ d) && decide (d ≤ 24)) then false else isGo (o - 1 + d) r
def isTree (ds : List Int) : Bool := decide (1 ≤ ds.length) && decide (ds.length ≤ 24) && isGo 1 ds
/-- the program's loop -/
def imGo (n : Int) : Int → List Int → Bool
  | m, [] => m == 0
  | m, d :: r => if m == 0 || decide (d < 0) || decide (n ≤ d) then false else imGo n (m + (d - 1)) r
theorem isGo_big : ∀ (r : List Int) (o : Int), (r.length : Int) < o → isGo o r = false := by
  intro r
  induction r with
  | nil => intro o h; simp [isGo] at h ⊢; omega
  | cons d r ih =>
    intro o h
    simp only [isGo]
    split
    · rfl
    · rename_i hc
      simp at hc
      simp only [List.length_cons] at h
      exact ih _ (by omega)
theorem im_is (n : Int) (hn : n ≤ 24) : ∀ (r : List Int) (o : Int), 0 ≤ o → (r.length : Int) ≤ n → imGo n o r = isGo o r := by
  intro r
  induction r with
  | nil => intro o _ _; rfl
  | cons d r ih =>
    intro o ho hl
    simp only [List.length_cons] at hl
    simp only [imGo, isGo]
    by_cases h0 : o = 0
    · simp [h0]
    by_cases h1 : d < 0
    · simp [h1, show ¬ 0 ≤ d by omega]
    by_cases h2 : n ≤ d
    · rw [if_pos (by simp [h2])]
      by_cases h3 : d ≤ 24
      · rw [if_neg (by simp [h0, h3]; omega), isGo_big _ _ (by omega)]
      · rw [if_pos (by simp; omega)]
    · rw [if_neg (by simp [h0]; omega), if_neg (by simp [h0]; omega), ih _ (by omega) (by omega)]
      congr 1; omega
theorem drop_at {xs : List Int} {k : Nat} {x : Int} (h : xs[k]? = some x) : xs.drop k = x :: xs.drop (k + 1) := by
  obtain ⟨hk, rfl⟩ := List.getElem?_eq_some_iff.1 h
  exact List.drop_eq_getElem_cons hk
theorem isGo_stop {xs : List Int} {k : Nat} {x o : Int} (h : xs[k]? = some x) (hs : (o == 0 || !(decide (0 ≤ x) && decide (x ≤ 24))) = true) : isGo o (xs.drop k) = false := by
  rw [drop_at h, isGo, if_pos hs]
theorem isGo_step {xs : List Int} {k : Nat} {x o : Int} (h : xs[k]? = some x) (h0 : o ≠ 0) (h1 : 0 ≤ x) (h2 : x ≤ 24) : isGo o (xs.drop k) = isGo (o - 1 + x) (xs.drop (k + 1)) := by
  rw [drop_at h, isGo, if_neg (by simp [h0, h1, h2])]
theorem imGo_stop {n : Int} {xs : List Int} {k : Nat} {x o : Int} (h : xs[k]? = some x) (hs : (o == 0 || decide (x < 0) || decide (n ≤ x)) = true) : imGo n o (xs.drop k) = false := by
  rw [drop_at h, imGo, if_pos hs]
theorem imGo_step {n : Int} {xs : List Int} {k : Nat} {x o : Int} (h : xs[k]? = some x) (h0 : o ≠ 0) (h1 : 0 ≤ x) (h2 : x < n) : imGo n o (xs.drop k) = imGo n (o + (x - 1)) (xs.drop (k + 1)) := by
  rw [drop_at h, imGo, if_neg (by simp [h0]; omega)]
theorem isTree_im {xs : List Int} (h : 1 ≤ xs.length) (h' : xs.length ≤ 24) : isTree xs = imGo xs.length 1 xs := by
  rw [im_is _ (by omega) _ _ (by omega) (by omega)]
  simp [isTree, h, h']
theorem isTree_is {xs : List Int} (h : 1 ≤ xs.length) (h' : xs.length ≤ 24) : isTree xs = isGo 1 xs := by simp [isTree, h, h']
theorem isTree_no {xs : List Int} (h : ¬ (1 ≤ xs.length ∧ xs.length ≤ 24)) : isTree xs = false := by
  simp only [isTree, Bool.and_eq_false_iff, decide_eq_false_iff_not]
  left; omega

/-- a list for a tree, nothing and the code 1 otherwise -/
def cond (xs l : List Int) : List Int × Int := if isTree xs then (l, 0) else ([], 1)
theorem cond_yes {xs l : List Int} (h : isTree xs = true) : cond xs l = (l, 0) := by simp [cond, h]
theorem cond_no {xs l : List Int} (h : isTree xs = false) : cond xs l = ([], 1) := by simp [cond, h]
theorem tree_len {xs : List Int} (h : isTree xs = true) : 1 ≤ xs.length ∧ xs.length ≤ 24 := by
  simp only [isTree, Bool.and_eq_true, decide_eq_true_eq] at h
  exact h.1
/-- the leaves among the first k nodes -/
def leaves (xs : List Int) : Nat → List Int
  | 0 => []
  | k + 1 => leaves xs k ++ (if xs[k]? = some 0 then [(k : Int)] else [])
theorem leaves_len (xs : List Int) : ∀ k, (leaves xs k).length ≤ k := by
  intro k
  induction k with
  | zero => simp [leaves]
  | succ k ih => simp only [leaves, List.length_append]; split <;> simp <;> omega
theorem leaves_hit {xs : List Int} {k : Nat} (h : xs[k]? = some 0) : leaves xs (k + 1) = leaves xs k ++ [(k : Int)] := by simp [leaves, h]
theorem leaves_miss {xs : List Int} {k : Nat} {x : Int} (h : xs[k]? = some x) (hx : x ≠ 0) : leaves xs (k + 1) = leaves xs k := by simp [leaves, h, hx]

/-- the loop from 'open' on stops within the list, over degrees in range -/
def ok : Int → List Int → Prop
  | o, [] => o ≤ 0
  | o, d :: r => o ≤ 0 ∨ (0 ≤ d ∧ d ≤ 24 ∧ ok (o - 1 + d) r)
/-- how many degrees it takes -/
def span : Int → List Int → Nat
  | _, [] => 0
  | o, d :: r => if o ≤ 0 then 0 else span (o - 1 + d) r + 1
theorem isGo_ok : ∀ (l : List Int) (o o' : Int), isGo o l = true → o' ≤ o → ok o' l := by
  intro l
  induction l with
  | nil => intro o o' h ho; simp [isGo] at h; simp only [ok]; omega
  | cons d r ih =>
    intro o o' h ho
    simp only [isGo] at h
    split at h
    · cases h
    · rename_i hc
      simp at hc
      by_cases h0 : o' ≤ 0
      · exact .inl h0
      · exact .inr ⟨hc.2.1, hc.2.2, ih _ _ h (by omega)⟩
theorem isGo_drop {xs : List Int} (h : isGo 1 xs = true) : ∀ v, v ≤ xs.length → ∃ s : Int, 0 ≤ s ∧ isGo s (xs.drop v) = true ∧ (v < xs.length → 1 ≤ s) := by
  intro v
  induction v with
  | zero => intro _; exact ⟨1, by omega, by simpa using h, fun _ => by omega⟩
  | succ v ih =>
    intro hv
    obtain ⟨s, h0, h1, h2⟩ := ih (by omega)
    have hx : xs[v]? = some xs[v] := List.getElem?_eq_getElem (by omega)
    rw [drop_at hx, isGo] at h1
    split at h1
    · cases h1
    · rename_i hc
      simp at hc
      refine ⟨_, ?_, h1, fun hv' => ?_⟩
      · omega
      · rw [drop_at (List.getElem?_eq_getElem hv'), isGo] at h1
        split at h1
        · cases h1
        · rename_i hc'
          simp at hc'
          omega
theorem tree_go {xs : List Int} (h : isTree xs = true) : isGo 1 xs = true := by
  simp only [isTree, Bool.and_eq_true, decide_eq_true_eq] at h
  exact h.2
theorem tree_ok {xs : List Int} (h : isTree xs = true) {v : Nat} (hv : v < xs.length) : ok 1 (xs.drop v) := by
  obtain ⟨s, _, h1, h2⟩ := isGo_drop (tree_go h) v (by omega)
  exact isGo_ok _ _ _ h1 (h2 hv)
theorem span_le : ∀ (l : List Int) (o : Int), span o l ≤ l.length := by
  intro l
  induction l with
  | nil => intro o; simp [span]
  | cons d r ih => intro o; simp only [span]; split <;> simp; exact ih _
theorem span_stop {o : Int} (h : o ≤ 0) (l : List Int) : span o l = 0 := by cases l <;> simp [span, h]
theorem span_step {xs : List Int} {k : Nat} {x o : Int} (h : xs[k]? = some x) (ho : 0 < o) : span o (xs.drop k) = span (o - 1 + x) (xs.drop (k + 1)) + 1 := by
  rw [drop_at h, span, if_neg (by omega)]
theorem ok_step {xs : List Int} {k : Nat} {x o : Int} (h : xs[k]? = some x) (ho : 0 < o) (hk : ok o (xs.drop k)) : 0 ≤ x ∧ x ≤ 24 ∧ ok (o - 1 + x) (xs.drop (k + 1)) := by
  rw [drop_at h] at hk
  rcases hk with hk | hk
  · omega
  · exact hk
theorem ok_in {xs : List Int} {k : Nat} {o : Int} (ho : 0 < o) (hk : ok o (xs.drop k)) : k < xs.length := by
  rcases Nat.lt_or_ge k xs.length with h | h
  · exact h
  · rw [List.drop_of_length_le h] at hk
    simp only [ok] at hk
    omega
/-- the sizes of the first k subtrees -/
def sizes (xs : List Int) (k : Nat) : List Int := (List.range k).map fun v => (span 1 (xs.drop v) : Int)
theorem sizes_len (xs : List Int) (k : Nat) : (sizes xs k).length = k := by simp [sizes]
theorem sizes_succ (xs : List Int) (k : Nat) : sizes xs (k + 1) = sizes xs k ++ [(span 1 (xs.drop k) : Int)] := by simp [sizes, List.range_succ]
theorem sizes_at (xs : List Int) {n k : Nat} (h : k < n) : (sizes xs n)[k]? = some (span 1 (xs.drop k) : Int) := by simp [sizes, h]

/-- the code of numbers that have to be nodes of a tree of n nodes -/
def codeGo (n : Int) : List Int → Int
  | [] => 0
  | v :: r => if v < 0 ∨ n ≤ v then 2 else codeGo n r
def code (xs ns : List Int) : Int := if isTree xs then codeGo xs.length ns else 1
theorem codeGo_hit {n : Int} {ns : List Int} {k : Nat} {v : Int} (h : ns[k]? = some v) (hv : v < 0 ∨ n ≤ v) : codeGo n (ns.drop k) = 2 := by rw [drop_at h, codeGo, if_pos hv]
theorem codeGo_miss {n : Int} {ns : List Int} {k : Nat} {v : Int} (h : ns[k]? = some v) (h0 : 0 ≤ v) (h1 : v < n) : codeGo n (ns.drop k) = codeGo n (ns.drop (k + 1)) := by rw [drop_at h, codeGo, if_neg (by omega)]

theorem code_tree {xs ns : List Int} (h : code xs ns = 0) : isTree xs = true := by
  cases ht : isTree xs
  · simp [code, ht] at h
  · rfl
theorem code_node {xs : List Int} {v : Int} {r : List Int} (h : code xs (v :: r) = 0) : 0 ≤ v ∧ v.toNat < xs.length ∧ code xs r = 0 := by
  have ht := code_tree h
  simp only [code, ht, if_true, codeGo] at h
  split at h
  · cases h
  · refine ⟨by omega, by omega, ?_⟩
    simp only [code, ht, if_true]
    exact h
/-- is v in the subtree of u -/
def below (xs : List Int) (v u : Int) : Bool := decide (u ≤ v) && decide (v < u + (span 1 (xs.drop u.toNat) : Int))
def isBelow (xs : List Int) (v u : Int) : Bool × Int := if code xs [v, u] = 0 then (below xs v u, 0) else (false, code xs [v, u])
theorem isBelow_yes {xs : List Int} {v u : Int} (h : code xs [v, u] = 0) : isBelow xs v u = (below xs v u, 0) := by simp [isBelow, h]
theorem isBelow_no {xs : List Int} {v u : Int} (h : code xs [v, u] ≠ 0) : isBelow xs v u = (false, code xs [v, u]) := by simp [isBelow, h]

/-- the i-th child of a node: the first stands behind the node, the next one behind the subtree of the one before it -/
def kidAt (xs : List Int) (v : Nat) : Nat → Nat
  | 0 => v + 1
  | i + 1 => kidAt xs v i + span 1 (xs.drop (kidAt xs v i))
/-- the sum of what is announced, less the nodes, over a piece of the list -/
def bal : List Int → Int
  | [] => 0
  | d :: r => (d - 1) + bal r
theorem bal_append (a b : List Int) : bal (a ++ b) = bal a + bal b := by
  induction a with
  | nil => simp [bal]
  | cons d r ih => simp only [List.cons_append, bal, ih]; omega
theorem isGo_bal : ∀ (l : List Int) (o : Int), isGo o l = true → o + bal l = 0 := by
  intro l
  induction l with
  | nil => intro o h; simp [isGo] at h; simp [bal, h]
  | cons d r ih =>
    intro o h
    simp only [isGo] at h
    split at h
    · cases h
    · have := ih _ h; simp only [bal]; omega
theorem isGo_pos : ∀ (l : List Int) (o : Int), isGo o l = true → 0 ≤ o → l ≠ [] → 1 ≤ o := by
  intro l o h h0 hl
  cases l with
  | nil => exact absurd rfl hl
  | cons d r =>
    simp only [isGo] at h
    split at h
    · cases h
    · rename_i hc; simp at hc; omega
theorem span_bal : ∀ (l : List Int) (o : Int), 0 ≤ o → ok o l → o + bal (l.take (span o l)) = 0 := by
  intro l
  induction l with
  | nil => intro o h0 h; simp only [ok] at h; simp [span, bal]; omega
  | cons d r ih =>
    intro o h0 h
    by_cases ho : o ≤ 0
    · rw [span_stop ho]; simp [bal]; omega
    · rcases h with h | ⟨h1, h2, h3⟩
      · omega
      · have := ih _ (by omega) h3
        rw [span, if_neg ho, List.take_succ_cons, bal]
        omega
/-- what is due ahead of node v -/
def due (xs : List Int) (v : Nat) : Int := 1 + bal (xs.take v)
theorem due_drop {xs : List Int} (h : isTree xs = true) (v : Nat) : due xs v + bal (xs.drop v) = 0 := by
  have h1 := isGo_bal _ _ (tree_go h)
  have h2 : bal xs = bal (xs.take v) + bal (xs.drop v) := by rw [← bal_append, List.take_append_drop]
  simp only [due]; omega
theorem due_pos {xs : List Int} (h : isTree xs = true) {v : Nat} (hv : v < xs.length) : 1 ≤ due xs v := by
  obtain ⟨s, h0, h1, h2⟩ := isGo_drop (tree_go h) v (by omega)
  have := isGo_bal _ _ h1
  have := due_drop h v
  have := h2 hv
  omega
theorem due_end {xs : List Int} (h : isTree xs = true) : due xs xs.length = 0 := by
  have := due_drop h xs.length
  simpa [bal] using this
theorem due_lt {xs : List Int} (h : isTree xs = true) {v : Nat} (hv : v ≤ xs.length) (hd : 1 ≤ due xs v) : v < xs.length := by
  rcases Nat.lt_or_eq_of_le hv with h1 | h1
  · exact h1
  · subst h1; have := due_end h; omega
theorem due_succ {xs : List Int} {v : Nat} {x : Int} (h : xs[v]? = some x) : due xs (v + 1) = due xs v + (x - 1) := by
  obtain ⟨hv, rfl⟩ := List.getElem?_eq_some_iff.1 h
  simp only [due]
  rw [List.take_succ_eq_append_getElem hv, bal_append]
  simp [bal]
  omega
theorem due_span {xs : List Int} (h : isTree xs = true) {v : Nat} (hv : v < xs.length) : due xs (v + span 1 (xs.drop v)) = due xs v - 1 := by
  have h1 := span_bal _ 1 (by omega) (tree_ok h hv)
  simp only [due]
  rw [List.take_add, bal_append]
  omega
theorem span_pos {xs : List Int} {v : Nat} (hv : v < xs.length) : 1 ≤ span 1 (xs.drop v) := by
  rw [drop_at (List.getElem?_eq_getElem hv), span, if_neg (by omega)]
  omega
theorem end_le {xs : List Int} {v : Nat} (hv : v ≤ xs.length) : v + span 1 (xs.drop v) ≤ xs.length := by
  have := span_le (xs.drop v) 1
  rw [List.length_drop] at this
  omega
theorem tree_deg {xs : List Int} (h : isTree xs = true) {v : Nat} {x : Int} (hx : xs[v]? = some x) : 0 ≤ x ∧ x ≤ 24 := by
  have hv := (List.getElem?_eq_some_iff.1 hx).1
  have := ok_step hx (by omega) (tree_ok h hv)
  exact ⟨this.1, this.2.1⟩
theorem kid_due {xs : List Int} (h : isTree xs = true) {v : Nat} {x : Int} (hx : xs[v]? = some x) : ∀ i : Nat, (i : Int) ≤ x → kidAt xs v i ≤ xs.length ∧ due xs (kidAt xs v i) = due xs v + (x - 1) - i ∧ v < kidAt xs v i := by
  have hv := (List.getElem?_eq_some_iff.1 hx).1
  have hd := due_pos h hv
  intro i
  induction i with
  | zero => intro _; exact ⟨by simp only [kidAt]; omega, by simp only [kidAt]; rw [due_succ hx]; omega, by simp only [kidAt]; omega⟩
  | succ i ih =>
    intro hi
    obtain ⟨h1, h2, h3⟩ := ih (by omega)
    have h4 : kidAt xs v i < xs.length := due_lt h h1 (by rw [h2]; omega)
    refine ⟨by simp only [kidAt]; exact end_le h1, ?_, by simp only [kidAt]; omega⟩
    simp only [kidAt]
    rw [due_span h h4, h2]
    omega
/-- a child lies within the tree -/
theorem kid_lt {xs : List Int} (h : isTree xs = true) {v : Nat} {x : Int} (hx : xs[v]? = some x) {i : Nat} (hi : (i : Int) < x) : kidAt xs v i < xs.length := by
  have hv := (List.getElem?_eq_some_iff.1 hx).1
  obtain ⟨h1, h2, _⟩ := kid_due h hx i (by omega)
  have := due_pos h hv
  exact due_lt h h1 (by rw [h2]; omega)

/-- the children of a node, as numbers -/
def childs (xs : List Int) (v k : Nat) : List Int := (List.range k).map fun i => (kidAt xs v i : Int)
theorem childs_succ (xs : List Int) (v k : Nat) : childs xs v (k + 1) = childs xs v k ++ [(kidAt xs v k : Int)] := by simp [childs, List.range_succ]
theorem childs_length (xs : List Int) (v k : Nat) : (childs xs v k).length = k := by simp [childs]
def childrenOf (xs : List Int) (v : Int) : List Int × Int := if code xs [v] = 0 then (childs xs v.toNat (xs[v.toNat]?.getD 0).toNat, 0) else ([], code xs [v])
theorem childrenOf_yes {xs : List Int} {v d : Nat} (h : code xs [(v : Int)] = 0) (hd : xs[v]? = some (d : Int)) : childrenOf xs v = (childs xs v d, 0) := by simp [childrenOf, h, hd]
theorem childrenOf_no {xs : List Int} {v : Int} (h : code xs [v] ≠ 0) : childrenOf xs v = ([], code xs [v]) := by simp [childrenOf, h]
theorem tree_degN {xs : List Int} (h : isTree xs = true) {v : Nat} (hv : v < xs.length) : ∃ d : Nat, xs[v]? = some (d : Int) ∧ d ≤ 24 := by
  have hx : xs[v]? = some xs[v] := List.getElem?_eq_getElem hv
  have := tree_deg h hx
  exact ⟨xs[v].toNat, by rw [hx]; congr 1; omega, by omega⟩

/-- the degrees of the subtree of a node -/
def sub (xs : List Int) (v : Nat) : List Int := (xs.drop v).take (span 1 (xs.drop v))
theorem sub_length {xs : List Int} (v : Nat) : (sub xs v).length = span 1 (xs.drop v) := by
  have := span_le (xs.drop v) 1
  simp only [sub, List.length_take]
  omega
def subtreeAt (xs : List Int) (v : Int) : List Int × Int := if code xs [v] = 0 then (sub xs v.toNat, 0) else ([], code xs [v])
theorem subtreeAt_yes {xs : List Int} {v : Nat} (h : code xs [(v : Int)] = 0) : subtreeAt xs v = (sub xs v, 0) := by simp [subtreeAt, h]
theorem subtreeAt_no {xs : List Int} {v : Int} (h : code xs [v] ≠ 0) : subtreeAt xs v = ([], code xs [v]) := by simp [subtreeAt, h]

/-- the way down by the places of an address -/
def nodeGo (xs : List Int) : Nat → List Int → Option Nat
  | v, [] => some v
  | v, a :: r => if xs[v]?.getD 0 ≤ a then none else nodeGo xs (kidAt xs v a.toNat) r
def anyNeg (l : List Int) : Bool := l.any fun x => decide (x < 0)
def nodeAt (xs l : List Int) : Int × Int :=
  if isTree xs = false then (0, 1) else if 24 < l.length ∨ anyNeg l = true then (0, 2) else match nodeGo xs 0 l with | none => (0, 4) | some v => ((v : Int), 0)
theorem nodeAt_no {xs l : List Int} (h : isTree xs = false) : nodeAt xs l = (0, 1) := by simp [nodeAt, h]
theorem nodeAt_range {xs l : List Int} (h : isTree xs = true) (h2 : 24 < l.length ∨ anyNeg l = true) : nodeAt xs l = (0, 2) := by simp only [nodeAt, h, if_pos h2]; simp
theorem nodeAt_go {xs l : List Int} (h : isTree xs = true) (h2 : l.length ≤ 24) (h3 : anyNeg l = false) : nodeAt xs l = (match nodeGo xs 0 l with | none => (0, 4) | some v => ((v : Int), 0)) := by
  simp only [nodeAt, h]
  rw [if_neg (by simp), if_neg (by simp [h3]; omega)]
theorem anyNeg_hit {l : List Int} {k : Nat} {x : Int} (h : l[k]? = some x) (hx : x < 0) : anyNeg l = true := by
  simp only [anyNeg, List.any_eq_true]
  obtain ⟨hk, rfl⟩ := List.getElem?_eq_some_iff.1 h
  exact ⟨_, List.getElem_mem hk, by simp [hx]⟩
theorem anyNeg_take {l : List Int} {k : Nat} {x : Int} (h : l[k]? = some x) (hx : 0 ≤ x) (ht : anyNeg (l.take k) = false) : anyNeg (l.take (k + 1)) = false := by
  obtain ⟨hk, rfl⟩ := List.getElem?_eq_some_iff.1 h
  rw [List.take_succ_eq_append_getElem hk, anyNeg, List.any_append]
  simp only [anyNeg] at ht
  simp [ht, hx]
theorem anyNeg_no {l : List Int} (h : anyNeg l = false) {k : Nat} {x : Int} (hx : l[k]? = some x) : 0 ≤ x := by
  rcases Int.lt_or_le x 0 with h1 | h1
  · have := anyNeg_hit hx h1; rw [h] at this; cases this
  · exact h1
theorem nodeGo_miss {xs l : List Int} {v k : Nat} {a : Int} {d : Nat} (h : l[k]? = some a) (hd : xs[v]? = some (d : Int)) (ha : (d : Int) ≤ a) : nodeGo xs v (l.drop k) = none := by
  rw [drop_at h, nodeGo, if_pos (by simp [hd, ha])]
theorem nodeGo_step {xs l : List Int} {v k : Nat} {a : Int} {d : Nat} (h : l[k]? = some a) (hd : xs[v]? = some (d : Int)) (ha : a < (d : Int)) : nodeGo xs v (l.drop k) = nodeGo xs (kidAt xs v a.toNat) (l.drop (k + 1)) := by
  rw [drop_at h, nodeGo, if_neg (by simp [hd]; omega)]
theorem childs_at (xs : List Int) (v : Nat) {k i : Nat} (h : i < k) : (childs xs v k)[i]? = some (kidAt xs v i : Int) := by simp [childs, h]

def cmpI (x y : Int) : Int := if x < y then -1 else if y < x then 1 else 0
/-- the order of lists of one length -/
def cmpL : List Int → List Int → Int
  | x :: r, y :: s => if x < y then -1 else if y < x then 1 else cmpL r s
  | _, _ => 0
theorem cmpI_lt {x y : Int} (h : x < y) : cmpI x y = -1 := by simp [cmpI, h]
theorem cmpI_gt {x y : Int} (h : y < x) : cmpI x y = 1 := by rw [cmpI, if_neg (by omega), if_pos h]
theorem cmpI_eq {x y : Int} (h : x = y) : cmpI x y = 0 := by rw [cmpI, if_neg (by omega), if_neg (by omega)]
theorem cmpL_lt {xs ys : List Int} {k : Nat} {x y : Int} (h : xs[k]? = some x) (h' : ys[k]? = some y) (hl : x < y) : cmpL (xs.drop k) (ys.drop k) = -1 := by
  rw [drop_at h, drop_at h', cmpL, if_pos hl]
theorem cmpL_gt {xs ys : List Int} {k : Nat} {x y : Int} (h : xs[k]? = some x) (h' : ys[k]? = some y) (hl : y < x) : cmpL (xs.drop k) (ys.drop k) = 1 := by
  rw [drop_at h, drop_at h', cmpL, if_neg (by omega), if_pos hl]
theorem cmpL_eq {xs ys : List Int} {k : Nat} {x y : Int} (h : xs[k]? = some x) (h' : ys[k]? = some y) (hl : x = y) : cmpL (xs.drop k) (ys.drop k) = cmpL (xs.drop (k + 1)) (ys.drop (k + 1)) := by
  rw [drop_at h, drop_at h', cmpL, if_neg (by omega), if_neg (by omega)]
theorem cmpL_end {xs ys : List Int} : cmpL (xs.drop xs.length) ys = 0 := by simp [cmpL]
theorem cmpL_swap : ∀ (xs ys : List Int), cmpL ys xs = - cmpL xs ys := by
  intro xs
  induction xs with
  | nil => intro ys; cases ys <;> simp [cmpL]
  | cons x r ih =>
    intro ys
    cases ys with
    | nil => simp [cmpL]
    | cons y s =>
      simp only [cmpL]
      by_cases h1 : x < y
      · rw [if_neg (by omega), if_pos h1, if_pos h1]; rfl
      · by_cases h2 : y < x
        · rw [if_pos h2, if_neg h1, if_pos h2]
        · rw [if_neg h2, if_neg h1, if_neg h1, if_neg h2]; exact ih s
theorem cmpL_range : ∀ (xs ys : List Int), cmpL xs ys = -1 ∨ cmpL xs ys = 0 ∨ cmpL xs ys = 1 := by
  intro xs
  induction xs with
  | nil => intro ys; cases ys <;> simp [cmpL]
  | cons x r ih =>
    intro ys
    cases ys with
    | nil => simp [cmpL]
    | cons y s => simp only [cmpL]; split; simp; split; simp; exact ih s
/-- the order of trees: by their numbers of nodes, then by their degrees -/
def cmpT (xs ys : List Int) : Int := if xs.length = ys.length then cmpL xs ys else cmpI xs.length ys.length
def compareTrees (xs ys : List Int) : Int × Int := if isTree xs = true ∧ isTree ys = true then (cmpT xs ys, 0) else (0, 1)
theorem compareTrees_yes {xs ys : List Int} (h : isTree xs = true) (h' : isTree ys = true) : compareTrees xs ys = (cmpT xs ys, 0) := by simp [compareTrees, h, h']
theorem compareTrees_no1 {xs ys : List Int} (h : isTree xs = false) : compareTrees xs ys = (0, 1) := by simp [compareTrees, h]
theorem compareTrees_no2 {xs ys : List Int} (h : isTree ys = false) : compareTrees xs ys = (0, 1) := by simp [compareTrees, h]
theorem cmpT_swap (xs ys : List Int) : cmpT ys xs = - cmpT xs ys := by
  simp only [cmpT]
  by_cases h : xs.length = ys.length
  · rw [if_pos h, if_pos h.symm, cmpL_swap]
  · rw [if_neg h, if_neg (fun e => h e.symm)]
    simp only [cmpI]
    by_cases h1 : (xs.length : Int) < ys.length
    · rw [if_neg (by omega), if_pos h1, if_pos h1]; rfl
    · rw [if_pos (by omega), if_neg h1, if_pos (by omega)]
theorem cmpT_range (xs ys : List Int) : cmpT xs ys = -1 ∨ cmpT xs ys = 0 ∨ cmpT xs ys = 1 := by
  simp only [cmpT]
  split
  · exact cmpL_range _ _
  · simp only [cmpI]; split; simp; split <;> simp

/-- one byte read: 'ds' the degrees so far, 'st' the nodes that are open -/
def pstep (ds st : List Int) (c : Int) : Option (List Int × List Int) :=
  if c = 40 then
    (if 0 < st.length then some ((ds.set (st[st.length - 1]?.getD 0).toNat ((ds[(st[st.length - 1]?.getD 0).toNat]?.getD 0) + 1)) ++ [0], st ++ [(ds.length : Int)])
     else if ds = [] then some ([0], [0]) else none)
  else if c = 41 then (if 0 < st.length then some (ds, st.dropLast) else none) else none
def prun : List Int → List Int → List Int → Option (List Int × List Int)
  | ds, st, [] => some (ds, st)
  | ds, st, c :: r => match pstep ds st c with | none => none | some (ds', st') => prun ds' st' r
def parse (l : List Int) : List Int × Int :=
  if 48 < l.length then ([], 6) else match prun [] [] l with | some (ds, []) => (if ds = [] then ([], 6) else (ds, 0)) | _ => ([], 6)
theorem prun_step {l ds st ds' st' : List Int} {k : Nat} {c : Int} (h : l[k]? = some c) (hs : pstep ds st c = some (ds', st')) : prun ds st (l.drop k) = prun ds' st' (l.drop (k + 1)) := by
  rw [drop_at h, prun, hs]
theorem prun_fail {l ds st : List Int} {k : Nat} {c : Int} (h : l[k]? = some c) (hs : pstep ds st c = none) : prun ds st (l.drop k) = none := by
  rw [drop_at h, prun, hs]
theorem parse_long {l : List Int} (h : 48 < l.length) : parse l = ([], 6) := by rw [parse, if_pos h]
theorem parse_fail {l : List Int} (h : prun [] [] l = none) : parse l = ([], 6) := by rw [parse, h]; split <;> rfl
theorem parse_open {l ds st : List Int} (h : prun [] [] l = some (ds, st)) (hs : 0 < st.length) : parse l = ([], 6) := by
  rw [parse, h]
  cases st with
  | nil => simp at hs
  | cons a r => split <;> rfl
theorem parse_empty {l : List Int} (h : prun [] [] l = some ([], [])) : parse l = ([], 6) := by rw [parse, h]; split <;> simp
theorem parse_done {l ds : List Int} (hl : l.length ≤ 48) (h : prun [] [] l = some (ds, [])) (hs : ds ≠ []) : parse l = (ds, 0) := by
  rw [parse, if_neg (by omega), h]
  simp [hs]
theorem pstep_open {ds st : List Int} {p : Int} {d : Int} (hp : st[st.length - 1]? = some p) (hd : ds[p.toNat]? = some d) : pstep ds st 40 = some (ds.set p.toNat (d + 1) ++ [0], st ++ [(ds.length : Int)]) := by
  have hl : 0 < st.length := by have := (List.getElem?_eq_some_iff.1 hp).1; omega
  simp [pstep, hl, hp, hd]
theorem pstep_first : pstep [] [] 40 = some ([0], [0]) := by simp [pstep]
theorem pstep_again {ds : List Int} (h : ds ≠ []) : pstep ds [] 40 = none := by simp [pstep, h]
theorem pstep_close {ds st : List Int} (h : 0 < st.length) : pstep ds st 41 = some (ds, st.dropLast) := by simp [pstep, h]
theorem pstep_none {ds : List Int} {c : Int} (h : ds ≠ [] ∨ c ≠ 40) : pstep ds [] c = none := by
  simp only [pstep]
  split
  · rename_i hc; rw [if_neg (by simp), if_neg (by rcases h with h | h; exact h; exact absurd hc h)]
  · split <;> simp
theorem pstep_other {ds st : List Int} {c : Int} (h : c ≠ 40) (h' : c ≠ 41) : pstep ds st c = none := by simp [pstep, h, h']
/-- what holds of a state: the open nodes are nodes; the degrees are small -/
def pgood (k : Nat) (ds st : List Int) : Prop :=
  ds.length ≤ k ∧ st.length ≤ ds.length ∧ (∀ p ∈ st, 0 ≤ p ∧ p.toNat < ds.length) ∧ (∀ d ∈ ds, 0 ≤ d ∧ d ≤ k)
theorem pgood_nil : pgood 0 [] [] := by simp [pgood]
theorem pgood_open {k : Nat} {ds st : List Int} {p d : Int} (h : pgood k ds st) (hd : ds[p.toNat]? = some d) : pgood (k + 1) (ds.set p.toNat (d + 1) ++ [0]) (st ++ [(ds.length : Int)]) := by
  obtain ⟨h1, h2, h3, h4⟩ := h
  refine ⟨by simp; omega, by simp; omega, fun q hq => ?_, fun e he => ?_⟩
  · simp only [List.length_append, List.length_set, List.length_cons, List.length_nil]
    rcases List.mem_append.1 hq with hq | hq
    · have := h3 q hq; omega
    · simp at hq; subst hq; simp
  · rcases List.mem_append.1 he with he | he
    · rcases List.mem_or_eq_of_mem_set he with he | he
      · have := h4 e he; omega
      · obtain ⟨hk, e1⟩ := List.getElem?_eq_some_iff.1 hd
        have := h4 d (e1 ▸ List.getElem_mem hk)
        omega
    · simp at he; subst he; omega
theorem pgood_first : pgood 1 [0] [0] := by simp [pgood]
theorem pgood_close {k : Nat} {ds st : List Int} (h : pgood k ds st) : pgood (k + 1) ds st.dropLast := by
  obtain ⟨h1, h2, h3, h4⟩ := h
  exact ⟨by omega, by simp; omega, fun q hq => h3 q ((List.dropLast_subset _) hq), fun e he => by have := h4 e he; omega⟩
end Go.Proofs.Ytmhpobgfgimfcaa.M

/- The walks of IsTree, the program's and the model's: both return the same Bool of the list of degrees. -/
namespace Go.Proofs.Ytmhpobgfgimfcaa
open Go.RowKit

theorem inAny (n lo hi : Int) (w : World) (b : Bool) (hb : Hid ((decide (lo ≤ n) && decide (n ≤ hi)) = b)) :
    Calls Try.prog 88 #[.int .i64 n, .int .i64 lo, .int .i64 hi] w fun e w' => e = .returned (.bool b) ∧ w = w' := by
  by_cases h : lo ≤ n
  · have hb' : b = decide (n ≤ hi) := by rw [← hb.out]; simp [h]
    clear hb
    subst hb'
    go_enter Try.func88, Try.ntmps88
    go_wp2
    go_ret
    exact ⟨rfl, rfl⟩
  · have hb' : b = false := by rw [← hb.out]; simp; intro h'; exact absurd h' h
    clear hb
    subst hb'
    have hd : decide (lo ≤ n) = false := decide_eq_false h
    go_enter Try.func88, Try.ntmps88
    go_wp2
    go_ret
    exact ⟨rfl, rfl⟩

theorem l01N (A : Option Addr) (n c : Nat) (w : World) : Calls Try.prog 89 #[.agg #[.slice A n c]] w fun e w' => e = .returned (.int .i64 n) ∧ Below w.heap.size w w' := by
  go_enter Try.func89, Try.ntmps89
  go_wp2
  go_ret
  exact ⟨rfl, bal (b0 w) _⟩

set_option maxHeartbeats 1000000 in
theorem specIs (A : Option Addr) (xs : List Int) (c : Nat) (w : World) (hx : xs.length ≤ 1000000000000) (h : Ints w w.heap.size A xs) :
    Calls Try.prog 73 #[.agg #[.slice A xs.length c]] w fun e w' => e = .returned (.bool (M.isTree xs)) ∧ Below w.heap.size w w' := by
  by_cases hn : 1 ≤ xs.length ∧ xs.length ≤ 24
  · have hd : Hid ((decide ((1 : Int) ≤ (xs.length : Int)) && decide ((xs.length : Int) ≤ 24)) = true) := by simp [Hid]; omega
    have ht := Lib.hid (M.isTree_is hn.1 hn.2)
    obtain ⟨hn1, hn2⟩ := hn
    go_enter Try.func73, Try.ntmps73
    go_wp2_with fail
    refine (l01N A xs.length c _).mono ?_
    rintro e w1 ⟨rfl, hb⟩
    obtain ⟨hc, hf⟩ := bcell hb
    have hB := btr (bal (b0 w) _) hb
    have h1 := (h.al (.cells #[.slice A xs.length c] 29)).be hb
    clear h
    have hsz : w.heap.size < w1.heap.size := by have := hb.size; simp at this; omega
    have hcell : w1.cell? ⟨w.heap.size, 0, none⟩ = some (.slice A xs.length c) := by rw [hc _ _ (by simp)]; simp
    clear hc hf hb
    go_wp2_with (go_at_call 88; refine (inAny _ _ _ _ _ hd).mono ?_; rintro e w' ⟨rfl, rfl⟩)
    go_loop [3, 4] (fun q i => ∃ (k : Nat) (o : Int), k ≤ xs.length ∧ i = .int .i64 k ∧ q = .int .i64 o ∧ 0 ≤ o ∧ o ≤ 1 + 24 * k ∧ Hid (M.isTree xs = M.isGo o (xs.drop k))) (fun _ i => xs.length - (intOf i).toNat)
    case atStart => exact ⟨0, 1, Nat.zero_le _, rfl, rfl, by omega, by omega, ht⟩
    case round =>
      obtain ⟨k, o, hk, rfl, rfl, ho0, ho1, hg⟩ := hrel
      clear ht
      by_cases hlt : k < xs.length
      · obtain ⟨b, off, x, rfl, hbB, g, hX⟩ := h1.at_ hlt
        clear h1
        by_cases ho : o = 0
        · subst ho
          have hs := Lib.hid (hg.out.trans (M.isGo_stop hX.out (by simp)))
          go_wp2_with fail
          go_ret
          exact ⟨by rw [hs.out]; rfl, hB⟩
        · have ho' : (o == 0) = false := by simp [ho]
          have ho2 : 1 ≤ o := by omega
          by_cases hr : 0 ≤ x ∧ x ≤ 24
          · obtain ⟨hr1, hr2⟩ := hr
            have hs := Lib.hid (hg.out.trans (M.isGo_step hX.out ho hr1 hr2))
            have hd2 : Hid ((decide (0 ≤ x) && decide (x ≤ 24)) = true) := by simp [Hid, hr1, hr2]
            clear ho
            go_wp2_with (go_at_call 88; refine (inAny _ _ _ _ _ hd2).mono ?_; rintro e w' ⟨rfl, rfl⟩)
            go_round
            case rel => exact ⟨k + 1, o - 1 + x, by omega, by go_num, rfl, by omega, by omega, hs⟩
            case measure => simp [intOf]; omega
          · have hd2 : Hid ((decide (0 ≤ x) && decide (x ≤ 24)) = false) := by simp [Hid]; omega
            have hs := Lib.hid (hg.out.trans (M.isGo_stop (o := o) hX.out (by rw [hd2.out]; simp)))
            clear ho
            go_wp2_with (go_at_call 88; refine (inAny _ _ _ _ _ hd2).mono ?_; rintro e w' ⟨rfl, rfl⟩)
            go_ret
            exact ⟨by rw [hs.out]; rfl, hB⟩
      · obtain rfl : k = xs.length := by omega
        have hs := hg.out
        rw [List.drop_length] at hs
        have Hs : Hid (M.isTree xs = (o == 0)) := hs
        clear hs hg
        go_wp2
        go_ret
        exact ⟨by rw [Hs.out]; rfl, hB⟩
  · have hd : Hid ((decide ((1 : Int) ≤ (xs.length : Int)) && decide ((xs.length : Int) ≤ 24)) = false) := by simp [Hid]; omega
    have ht := Lib.hid (M.isTree_no hn)
    clear hn
    go_enter Try.func73, Try.ntmps73
    go_wp2_with fail
    refine (l01N A xs.length c _).mono ?_
    rintro e w1 ⟨rfl, hb⟩
    have hB := btr (bal (b0 w) _) hb
    clear h
    go_wp2_with (go_at_call 88; refine (inAny _ _ _ _ _ hd).mono ?_; rintro e w' ⟨rfl, rfl⟩)
    go_ret
    exact ⟨by rw [ht.out]; rfl, hB⟩

set_option maxHeartbeats 1000000 in
theorem implIsTree (A : Option Addr) (xs : List Int) (c : Nat) (w : World) (hx : xs.length ≤ 1000000000000) (h : Ints w w.heap.size A xs) :
    Calls Try.prog 77 #[.agg #[.slice A xs.length c]] w fun e w' => e = .returned (.bool (M.isTree xs)) ∧ Below w.heap.size w w' := by
  by_cases hn : 1 ≤ xs.length
  · have hn' : ¬ ((xs.length : Int) < 1) := by omega
    have hd0 : decide ((xs.length : Int) < 1) = false := decide_eq_false hn'
    by_cases hn2 : xs.length ≤ 24
    · have ht := Lib.hid (M.isTree_im hn hn2)
      have hh := h.al (.cells #[.slice A xs.length c] 29)
      clear h
      go_enter Try.func77, Try.ntmps77
      go_wp2
      go_loop [4, 19] (fun q i => ∃ (k : Nat) (o : Int), k ≤ xs.length ∧ i = .int .i64 k ∧ q = .int .i64 o ∧ 0 ≤ o ∧ o ≤ 1 + 24 * k ∧ Hid (M.isTree xs = M.imGo xs.length o (xs.drop k))) (fun _ i => xs.length - (intOf i).toNat)
      case atStart => exact ⟨0, 1, Nat.zero_le _, rfl, rfl, by omega, by omega, ht⟩
      case round =>
        obtain ⟨k, o, hk, rfl, rfl, ho0, ho1, hg⟩ := hrel
        clear ht
        by_cases hlt : k < xs.length
        · obtain ⟨b, off, x, rfl, hbB, g, hX⟩ := hh.at_ hlt
          clear hh
          by_cases ho : o = 0
          · subst ho
            have hs := Lib.hid (hg.out.trans (M.imGo_stop hX.out (by simp)))
            go_wp2
            go_ret
            exact ⟨by rw [hs.out]; rfl, bal (b0 w) _⟩
          · have ho' : (o == 0) = false := by simp [ho]
            have ho2 : 1 ≤ o := by omega
            by_cases hr : x < 0
            · have hs := Lib.hid (hg.out.trans (M.imGo_stop (n := xs.length) (o := o) hX.out (by simp [hr])))
              clear ho
              go_wp2
              go_ret
              exact ⟨by rw [hs.out]; rfl, bal (b0 w) _⟩
            · have hr' : decide (x < 0) = false := decide_eq_false hr
              have hr0 : 0 ≤ x := by omega
              by_cases hr2 : (xs.length : Int) ≤ x
              · have hs := Lib.hid (hg.out.trans (M.imGo_stop (n := xs.length) (o := o) hX.out (by simp [hr2])))
                clear ho hr
                go_wp2
                go_ret
                exact ⟨by rw [hs.out]; rfl, bal (b0 w) _⟩
              · have hs := Lib.hid (hg.out.trans (M.imGo_step (n := xs.length) hX.out ho hr0 (by omega)))
                have hr3 : x < (xs.length : Int) := by omega
                have hr4 : decide ((xs.length : Int) ≤ x) = false := decide_eq_false hr2
                clear ho hr
                go_wp2
                go_round
                case rel => exact ⟨k + 1, o + (x - 1), by omega, by go_num, rfl, by omega, by omega, hs⟩
                case measure => simp [intOf]; omega
        · obtain rfl : k = xs.length := by omega
          have hs := hg.out
          rw [List.drop_length] at hs
          have Hs : Hid (M.isTree xs = (o == 0)) := hs
          clear hs hg
          go_wp2
          go_ret
          exact ⟨by rw [Hs.out]; rfl, bal (b0 w) _⟩
    · have ht := Lib.hid (M.isTree_no (xs := xs) (by omega))
      have hd1 : (24 : Int) < (xs.length : Int) := by omega
      go_enter Try.func77, Try.ntmps77
      go_wp2
      go_ret
      exact ⟨by rw [ht.out]; rfl, bal (b0 w) _⟩
  · have ht := Lib.hid (M.isTree_no (xs := xs) (by omega))
    have hd1 : (xs.length : Int) < 1 := by omega
    go_enter Try.func77, Try.ntmps77
    go_wp2
    go_ret
    exact ⟨by rw [ht.out]; rfl, bal (b0 w) _⟩
end Go.Proofs.Ytmhpobgfgimfcaa

/- append of one number to a row of the call's own; an empty row; the codes of trees and nodes. -/
namespace Go.Proofs.Ytmhpobgfgimfcaa
open Go.RowKit

theorem own64_len {w : World} {B n c : Nat} {A : Option Addr} {zs : List Int} (h : Own64 w B (.slice A n c) zs) : n = zs.length := by
  rcases h.2 with ⟨h1, h2⟩ | ⟨g, cap, cur, hv, _⟩
  · injection h1 with _ h1 _; omega
  · injection hv

theorem push64 {ops : Array Oper} {rest : List Oper} {o : Oper} {a : Act} {Q : Exit → Act → World → Prop} (hgd : o.guard = none) (s x : Operand)
    (ho : o.op = .call { callee := .builtin .append, args := #[s, x], argTypes := #[23, 23] }) (w : World) (B : Nat) (A : Option Addr) (n c : Nat) (zs : List Int) (y : Int)
    (hs : a.eval s = .slice A n c) (hx : a.eval x = .slice (some ⟨w.heap.size, 0, none⟩) 1 1) (hown : Hid (Own64 w B (.slice A n c) zs)) (hB : B ≤ w.heap.size) (hlen : n ≤ 1000000)
    (h : ∀ A' c' w', Hid (Own64 w' B (.slice A' (n + 1) c') (zs ++ [y])) → Hid (Below B w w') → wpList Try.prog ops Q rest (a.put o.dst (.slice A' (n + 1) c')) w') :
    wpList Try.prog ops Q (o :: rest) a (w.alloc (.cells #[.int .i64 y] 2)) := by
  obtain ⟨i0, hi0, hz0, hz1, hz2⟩ := info_parts info64
  have hown := hown.out
  have hn := own64_len hown
  subst hn
  refine wpList_append_own _ hgd s x 23 ho B 2 i0 (.int .i64 0) 1 8 Try.underlying23 hi0 hz0 hz1 hz2 rfl (by decide) _ zs.length (zs.map (Value.int .i64)) hs (hown.alloc _) ⟨w.heap.size, 0, none⟩ 1 1 [.int .i64 y] hx rfl ?_ ?_ ?_ ?_ ?_ ?_
  · intro j u hj
    match j, hj with
    | 0, hj => simp at hj; subst hj; simp [Addr.add]
  · intro u hu; simp at hu; subst hu; rfl
  · unfold maxLen; omega
  · omega
  · simp; omega
  · intro v' w1 hown1 hg1 _
    obtain ⟨A, c, rfl⟩ : ∃ A c, v' = .slice A (zs.length + 1) c := by
      rcases hown1.2 with ⟨rfl, h0⟩ | ⟨g, cap, _, rfl, _⟩
      · omega
      · exact ⟨_, _, rfl⟩
    refine h A c w1 ?_ ?_
    · have e : (zs ++ [y]).length = zs.length + 1 := by simp
      show Own64 _ _ _ _
      unfold Own64
      rw [e]
      simpa using hown1
    · exact ((Below.refl B w).alloc hB _).grown hg1 (by simp; omega) (fun k hk => (hown.lt k hk).1)

/-- '[]int64{}': a row of no numbers -/
theorem own64_empty {w : World} {B : Nat} (hB : B ≤ w.heap.size) : Own64 (w.alloc (.cells #[] 2)) B (.slice (some ⟨w.heap.size, 0, none⟩) 0 0) [] := by
  have := World.ownsRow_made (e := 2) (size := 1) w #[] 0 hB (by simp [maxLen]) (by simp)
  exact this

theorem own64_nil (w : World) (B : Nat) : Own64 w B (.slice none 0 0) [] := World.ownsRow_nil _ _ _ _

theorem own64_eq {w : World} {B : Nat} {v : Value} {zs ys : List Int} (h : Own64 w B v zs) (e : zs = ys) : Own64 w B v ys := e ▸ h

set_option maxHeartbeats 1000000 in
theorem codeOf0 (A : Option Addr) (xs : List Int) (c : Nat) (w : World) (hx : xs.length ≤ 1000000000000) (h : Ints w w.heap.size A xs) (r : Int) (hr : Hid ((if M.isTree xs then 0 else 1) = r)) :
    Calls Try.prog 101 #[.agg #[.slice A xs.length c], .slice none 0 0] w fun e w' => e = .returned (.int .i64 r) ∧ Below w.heap.size w w' := by
  cases ht : M.isTree xs
  all_goals
    rw [ht] at hr
    have hc := (implIsTree A xs c (w.alloc (.cells #[.slice A xs.length c] 29)) hx (h.al _))
    rw [ht] at hc
    have HC := Lib.hid hc
    obtain rfl := hr.out
    clear hc ht hr
    go_enter Try.func101, Try.ntmps101
    go_wp2_with fail
    refine HC.out.mono ?_
    rintro e w1 ⟨rfl, hb⟩
    have hB := btr (bal (b0 w) _) hb
    go_wp2
    first
      | (go_ret; exact ⟨rfl, hB⟩)
      | (refine wp_loop_rounds 1 ?_
         rw [rounds_succ]
         go_wp2
         go_ret
         exact ⟨rfl, hB⟩)
end Go.Proofs.Ytmhpobgfgimfcaa

/- Where a subtree ends: l01End, partAt, sizeAt: each stops within the list if the loop does. -/
namespace Go.Proofs.Ytmhpobgfgimfcaa
open Go.RowKit

set_option maxHeartbeats 1000000 in
theorem l01End (A : Option Addr) (xs : List Int) (c v E : Nat) (w : World) (hE : Hid (v + M.span 1 (xs.drop v) = E)) (hx : xs.length ≤ 24) (hk : Hid (M.ok 1 (xs.drop v))) (h : Ints w w.heap.size A xs) :
    Calls Try.prog 112 #[.agg #[.slice A xs.length c], .int .i64 v] w fun e w' => e = .returned (.int .i64 E) ∧ Below w.heap.size w w' := by
  have hv := M.ok_in (by omega) hk.out
  have hh := h.al (.cells #[.slice A xs.length c] 29)
  clear h
  go_enter Try.func112, Try.ntmps112
  go_wp2
  go_loop [1, 5] (fun i q => ∃ (k : Nat) (o : Int), v ≤ k ∧ k ≤ xs.length ∧ i = .int .i64 k ∧ q = .int .i64 o ∧ 0 ≤ o ∧ o ≤ 1 + 24 * k ∧ Hid (M.ok o (xs.drop k)) ∧ Hid (E = k + M.span o (xs.drop k))) (fun i _ => xs.length - (intOf i).toNat)
  case atStart => exact ⟨v, 1, Nat.le_refl _, by omega, rfl, rfl, by omega, by omega, hk, hE.out.symm⟩
  case round =>
    obtain ⟨k, o, hvk, hkn, rfl, rfl, ho0, ho1, hok, hs⟩ := hrel
    clear hk
    by_cases ho : 0 < o
    · have hlt := M.ok_in ho hok.out
      obtain ⟨b, off, x, rfl, hbB, g, hX⟩ := hh.at_ hlt
      have hst := M.ok_step hX.out ho hok.out
      have hx0 := hst.1
      have hx1 := hst.2.1
      have hok' := Lib.hid hst.2.2
      have hs' := Lib.hid (show E = (k + 1) + M.span (o - 1 + x) (xs.drop (k + 1)) by have h1 := M.span_step hX.out ho; have h2 := hs.out; omega)
      clear hst hh hok hs
      go_wp2
      go_round
      case rel => exact ⟨k + 1, o - 1 + x, by omega, by omega, by go_num, rfl, by omega, by omega, hok', hs'⟩
      case measure => simp [intOf]; omega
    · have hs' := hs.out
      rw [M.span_stop (o := o) (by omega) (xs.drop k), Nat.add_zero] at hs'
      have Hs : Hid (E = k) := hs'
      have ho' : o ≤ 0 := by omega
      clear hs hs' hh ho
      go_wp2
      go_ret
      exact ⟨by rw [Hs.out]; rfl, bal (b0 w) _⟩

set_option maxHeartbeats 1000000 in
theorem partAt (A : Option Addr) (xs : List Int) (c v E : Nat) (w : World) (hE : Hid (v + M.span 1 (xs.drop v) = E)) (hx : xs.length ≤ 24) (hc : xs.length ≤ c) (hc' : c ≤ 9223372036854775807) (hk : Hid (M.ok 1 (xs.drop v))) (h : Ints w w.heap.size A xs) :
    Calls Try.prog 71 #[.slice A xs.length c, .int .i64 v] w fun e w' => (∃ b off, A = some ⟨b, off, none⟩ ∧ e = .returned (.slice (some ⟨b, off + v, none⟩) (E - v) (E - v))) ∧ w = w' := by
  have hv := M.ok_in (by omega) hk.out
  obtain ⟨b, off, rfl, hbB, hcell⟩ := h (by omega)
  have Hcell := Lib.hid hcell
  clear h hcell
  go_enter Try.func71, Try.ntmps71
  go_wp2
  go_loop [5, 6] (fun i q => ∃ (k : Nat) (o : Int), v ≤ k ∧ k ≤ xs.length ∧ i = .int .i64 k ∧ q = .int .i64 o ∧ 0 ≤ o ∧ o ≤ 1 + 24 * k ∧ Hid (o = 0 → v < k) ∧ Hid (M.ok o (xs.drop k)) ∧ Hid (E = k + M.span o (xs.drop k))) (fun i _ => xs.length - (intOf i).toNat)
  case atStart => exact ⟨v, 1, Nat.le_refl _, by omega, rfl, rfl, by omega, by omega, by simp [Hid], hk, hE.out.symm⟩
  case round =>
    obtain ⟨k, o, hvk, hkn, rfl, rfl, ho0, ho1, hpos, hok, hs⟩ := hrel
    clear hk
    by_cases ho : 0 < o
    · have hlt := M.ok_in ho hok.out
      have hX : xs[k]? = some xs[k] := List.getElem?_eq_getElem hlt
      have g := Hcell.out k _ hX
      generalize xs[k] = x at hX g
      have hst := M.ok_step hX ho hok.out
      have hx0 := hst.1
      have hx1 := hst.2.1
      have hok' := Lib.hid hst.2.2
      have hs' := Lib.hid (show E = (k + 1) + M.span (o - 1 + x) (xs.drop (k + 1)) by have h1 := M.span_step hX ho; have h2 := hs.out; omega)
      have eo : o - 1 + x = o + (x - 1) := by omega
      rw [eo] at hok' hs'
      clear hst hok hs hX eo hpos
      go_wp2
      go_round
      case rel => exact ⟨k + 1, o + (x - 1), by omega, by omega, by go_num, rfl, by omega, by omega, fun _ => by omega, hok', hs'⟩
      case measure => simp [intOf]; omega
    · have hs' := hs.out
      have ho' : o ≤ 0 := by omega
      have hvk' : v < k := hpos.out (by omega)
      rw [M.span_stop (o := o) ho' (xs.drop k), Nat.add_zero] at hs'
      have Hs : Hid (E = k) := hs'
      have hvc : ¬ v = k := by omega
      have hkv : k - v ≠ 0 := by omega
      clear hs hs' ho
      go_wp2
      go_ret
      rw [Hs.out]
      first | exact ⟨⟨b, off, rfl, rfl⟩, rfl⟩ | exact ⟨⟨b, off, ⟨rfl, rfl⟩, rfl⟩, rfl⟩

theorem sizeAt (A : Option Addr) (xs : List Int) (c v S : Nat) (w : World) (hS : Hid (M.span 1 (xs.drop v) = S)) (hx : xs.length ≤ 24) (hc : xs.length ≤ c) (hc' : c ≤ 9223372036854775807) (hk : Hid (M.ok 1 (xs.drop v))) (h : Ints w w.heap.size A xs) :
    Calls Try.prog 132 #[.slice A xs.length c, .int .i64 v] w fun e w' => e = .returned (.int .i64 S) ∧ w = w' := by
  have hp := partAt A xs c v (v + S) w (by show _ = _; rw [hS.out]) hx hc hc' hk h
  rw [Nat.add_sub_cancel_left] at hp
  have HP := Lib.hid hp
  clear hp
  go_enter Try.func132, Try.ntmps132
  go_wp2_with fail
  refine HP.out.mono ?_
  rintro e w' ⟨⟨b, off, rfl, rfl⟩, rfl⟩
  go_wp2
  go_ret
  exact ⟨rfl, rfl⟩
end Go.Proofs.Ytmhpobgfgimfcaa

/- eachChild: the iterator over the places and the children of a node: for every loop body that keeps what lay below a block and the box of the degrees. -/
namespace Go.Proofs.Ytmhpobgfgimfcaa
open Go.RowKit Go.Shelf
attribute [local go_sem] Oper.semAt_some

/-- what a round of a loop over the children must keep: all below n₀, and the box of the degrees -/
def KeepK (n₀ Bd : Nat) (W W' : World) : Prop := Below n₀ W W' ∧ W'.heap[Bd]? = W.heap[Bd]?
theorem KeepK.t {n₀ Bd : Nat} {A B C : World} (h : KeepK n₀ Bd A B) (k : KeepK n₀ Bd B C) : KeepK n₀ Bd A C := ⟨h.1.trans k.1, k.2.trans h.2⟩
theorem KeepK.b {n₀ Bd : Nat} {w : World} (hn : n₀ ≤ w.heap.size) (hB : Bd < w.heap.size) (W : World) (l : Nat) (o o' : Obj) (hl : w.heap.size ≤ l) (h : W.heap[l]? = some o) (h1 : o.isCells = false) (h2 : o.isWalk = false) : KeepK n₀ Bd W (W.putObj l o') :=
  ⟨belowK_b hn W l o o' hl h h1 h2, (grownBy_putObj' W l o').block Bd (by have := (Array.getElem?_eq_some_iff.1 h).1; omega) (fun e => by cases e; omega)⟩

/-- the places and the children that have come behind k rounds -/
def kids (xs : List Int) (v k : Nat) : List (Nat × Nat) := (List.range k).map fun i => (i, M.kidAt xs v i)
theorem kids_succ (xs : List Int) (v k : Nat) : kids xs v (k + 1) = kids xs v k ++ [(k, M.kidAt xs v k)] := by simp [kids, List.range_succ]
theorem kids_length (xs : List Int) (v k : Nat) : (kids xs v k).length = k := by simp [kids]

set_option maxRecDepth 100000 in
set_option maxHeartbeats 2000000 in
theorem each1 {α : Type} (mk : Nat → α) (encs : α → Array Value) (n : Nat) (hn : 1 ≤ n) (l Bv Bd n₀ : Nat) (A : Option Addr) (xs : List Int) (c v d : Nat) (hx : xs.length ≤ 24) (hcl : xs.length ≤ c) (hcu : c ≤ 9223372036854775807) (ht : Hid (M.isTree xs = true)) (hd : Hid (xs[v]? = some (d : Int)))
    (hmk : ∀ k, k < d → encs (mk k) = #[.int .i64 (k : Int), .int .i64 (M.kidAt xs v k : Int)]) (J Jx : List α → World → Prop)
    (hY : ∀ pre x W, J pre W → pre.length < d → YieldAt Fence.wide (n - 1) Try.prog l (encs x) W fun e W' =>
      (e = .returned (.bool true) ∧ J (pre ++ [x]) W' ∧ KeepK n₀ Bd W W') ∨ (e = .returned (.bool false) ∧ Jx (pre ++ [x]) W'))
    (W : World) (hBv : W.cell? ⟨Bv, 0, none⟩ = some (.int .i64 v)) (hBd : Boxed W Bd 23 (.slice A xs.length c)) (hI : Ints W n₀ A xs) (hn0 : n₀ ≤ W.heap.size) (h0 : J [] W) :
    CallsIn Fence.wide n Try.prog 131 #[.func (.yield l) #[] #[], .pointer (some ⟨Bv, 0, none⟩), .pointer (some ⟨Bd, 0, none⟩)] W fun e W' => (∃ u, e = .returned u) ∧
      ((∃ ys, ys = (List.range d).map mk ∧ J ys W') ∨ (∃ pre, (∃ k, k ≤ d ∧ pre = (List.range k).map mk) ∧ Jx pre W')) := by
  have hv : v < xs.length := (List.getElem?_eq_some_iff.1 hd.out).1
  have hd24 : d ≤ 24 := by have := M.tree_deg ht.out hd.out; omega
  obtain ⟨b, off, rfl, hbB, hcells⟩ := hI (by omega)
  have Hcells := Lib.hid hcells
  have hc0 := hcells v _ hd.out
  have hcd := hBd.cell
  have HBd := Lib.hid hBd
  have HI := Lib.hid hI
  clear hcells hI hBd
  refine callsIn_of_wp Try.func131 rfl trivial ?_ rfl
  simp only [Try.ntmps131, List.size_toArray, List.length_cons, List.length_nil, Nat.reduceAdd, Nat.reduceSub, Array.replicate_succ, Array.replicate_zero, List.push_toArray, List.append_toArray, List.nil_append, List.cons_append]
  gi_wp2
  gi_loopw [4, 5, 12] (fun q _ i wr => ∃ k : Nat, k ≤ d ∧ i = .int .i64 k ∧ q = .int .i64 (M.kidAt xs v k) ∧ J ((List.range k).map mk) wr ∧ Hid (KeepK n₀ Bd W wr))
    (fun _ _ i _ => d - (intOf i).toNat)
  case atStart => exact ⟨0, Nat.zero_le _, rfl, by simp [M.kidAt], h0, ⟨Below.refl _ _, rfl⟩⟩
  case round =>
    obtain ⟨k, hk, rfl, rfl, hJs, hnx⟩ := hrel
    clear hc0 hcd
    by_cases hlt : k < d
    · have hYk := hY _ (mk k) wr hJs (by simpa using hlt)
      rw [hmk k hlt] at hYk
      obtain ⟨fn, tmps, assign, body, hy, hR⟩ := hYk
      have hkl := M.kid_lt ht.out hd.out (i := k) (by omega)
      have hsp := M.span_le (xs.drop (M.kidAt xs v k)) 1
      have hsp2 : (xs.drop (M.kidAt xs v k)).length ≤ xs.length := by simp
      have hok := Lib.hid (M.tree_ok ht.out hkl)
      have hks : Hid (M.kidAt xs v (k + 1) = M.kidAt xs v k + M.span 1 (xs.drop (M.kidAt xs v k))) := rfl
      generalize hC : M.kidAt xs v k = C at *
      obtain ⟨S, hS⟩ : ∃ S, Hid (M.span 1 (xs.drop C) = S) := ⟨_, rfl⟩
      have hS2 : S ≤ 24 := by have := hS.out; omega
      have HC := Lib.hid hC
      clear hsp hsp2 hC
      gi_wp2
      refine hR.mono ?_
      rintro e W3 (⟨rfl, hJ3, hk3⟩ | ⟨rfl, hJx3⟩)
      · have hk4 : Hid (KeepK n₀ Bd W W3) := hnx.out.t hk3
        have hbd3 : Boxed W3 Bd 23 (.slice (some ⟨b, off, none⟩) xs.length c) := hk4.out.2.trans HBd.out
        have hc3 := hbd3.cell
        have hI3 := Lib.hid ((HI.out.below hk4.out.1 (Nat.le_refl _)).more (Nat.le_trans hn0 hk4.out.1.size))
        have hK3 := Lib.hid hk3
        clear hk3 hbd3
        gi_wp2_with (refine ⟨trivial, ?_⟩; gi_at_call 132; refine (callsIn_wide.2 (sizeAt _ xs c C S _ hS hx hcl hcu hok hI3.out)).mono ?_; rintro e w' ⟨rfl, rfl⟩)
        have hks2 : Hid (M.kidAt xs v (k + 1) = C + S) := by show _ = _; rw [hks.out, hS.out]
        go_roundw
        case rel => exact ⟨k + 1, by omega, by go_num, by rw [hks2.out]; go_num, by rw [List.range_succ, List.map_append]; exact hJ3, hk4⟩
        case measure => simp [intOf]; omega
      · gi_wp2
        refine bodyPost_ret (results_none rfl _ _ _) rfl ?_
        exact ⟨⟨_, rfl⟩, .inr ⟨_, ⟨k + 1, by omega, by rw [List.range_succ, List.map_append]; rfl⟩, hJx3⟩⟩
    · obtain rfl : k = d := by omega
      gi_wp2
      go_end0
      exact ⟨⟨_, rfl⟩, .inl ⟨_, rfl, hJs⟩⟩

set_option maxHeartbeats 1000000 in
/-- eachChild: both arguments are boxed; the function value captures the boxes -/
theorem eachIn (n : Nat) (A : Option Addr) (m c : Nat) (v : Int) (w : World) :
    CallsIn Fence.wide n Try.prog 114 #[.slice A m c, .int .i64 v] w fun e w' => e = .returned (.func (.func 131) #[] #[.pointer (some ⟨w.heap.size + 1, 0, none⟩), .pointer (some ⟨w.heap.size, 0, none⟩)]) ∧
      w' = (w.alloc (.cells #[.slice A m c] 23)).alloc (.cells #[.int .i64 v] 2) := by
  refine callsIn_of_wp Try.func114 rfl trivial ?_ rfl
  simp only [Try.ntmps114, List.size_toArray, List.length_cons, List.length_nil, Nat.reduceAdd, Nat.reduceSub, Array.replicate_succ, Array.replicate_zero, List.push_toArray, List.append_toArray, List.nil_append, List.cons_append]
  gi_wp2
  go_ret
  exact ⟨rfl, rfl⟩

/-- what a range over the children of v gives: all of them in order, or a beginning where a round has said 'no more'; the elements as the caller names them -/
theorem each_stopsF {α : Type} (mk : Nat → α) (encs : α → Array Value) (n : Nat) (hn : 1 ≤ n) (Bv Bd n₀ : Nat) (A : Option Addr) (xs : List Int) (c v d : Nat) (hx : xs.length ≤ 24) (hcl : xs.length ≤ c) (hcu : c ≤ 9223372036854775807) (ht : Hid (M.isTree xs = true)) (hd : Hid (xs[v]? = some (d : Int)))
    (hmk : ∀ k, k < d → encs (mk k) = #[.int .i64 (k : Int), .int .i64 (M.kidAt xs v k : Int)]) (w : World) (hBv : w.cell? ⟨Bv, 0, none⟩ = some (.int .i64 v)) (hBd : Boxed w Bd 23 (.slice A xs.length c)) (hI : Ints w n₀ A xs) (hn0 : n₀ ≤ w.heap.size) :
    SeqStopsK Fence.wide n Try.prog 131 #[.pointer (some ⟨Bv, 0, none⟩), .pointer (some ⟨Bd, 0, none⟩)] encs (KeepK n₀ Bd)
      (fun ys => ys = (List.range d).map mk) (fun pre => ∃ k, k ≤ d ∧ pre = (List.range k).map mk) d w := fun l J Jx W hW _ _ hY h0 =>
  each1 mk encs n hn l Bv Bd n₀ A xs c v d hx hcl hcu ht hd hmk J Jx hY W ((hW.cell (p := ⟨Bv, 0, none⟩) (World.block_lt_of_cell? _ _ hBv)).trans hBv) ((hW.block Bd hBd.lt).trans hBd) (hI.below hW hn0) (Nat.le_trans hn0 hW.size) h0

/-- what a range over the children of v gives: all of them in order, or a beginning where a round has said 'no more' -/
theorem each_stops (n : Nat) (hn : 1 ≤ n) (Bv Bd n₀ : Nat) (A : Option Addr) (xs : List Int) (c v d : Nat) (hx : xs.length ≤ 24) (hcl : xs.length ≤ c) (hcu : c ≤ 9223372036854775807) (ht : Hid (M.isTree xs = true)) (hd : Hid (xs[v]? = some (d : Int)))
    (w : World) (hBv : w.cell? ⟨Bv, 0, none⟩ = some (.int .i64 v)) (hBd : Boxed w Bd 23 (.slice A xs.length c)) (hI : Ints w n₀ A xs) (hn0 : n₀ ≤ w.heap.size) :
    SeqStopsK Fence.wide n Try.prog 131 #[.pointer (some ⟨Bv, 0, none⟩), .pointer (some ⟨Bd, 0, none⟩)] (fun x : Nat × Nat => #[Value.int .i64 (x.1 : Int), Value.int .i64 (x.2 : Int)]) (KeepK n₀ Bd)
      (fun ys => ys = kids xs v d) (fun pre => ∃ k, k ≤ d ∧ pre = kids xs v k) d w :=
  each_stopsF (fun i => (i, M.kidAt xs v i)) _ n hn Bv Bd n₀ A xs c v d hx hcl hcu ht hd (fun _ _ => rfl) w hBv hBd hI hn0
end Go.Proofs.Ytmhpobgfgimfcaa

/- childrenIn: the children of a node in a row of its own; l01Children: the same. -/
namespace Go.Proofs.Ytmhpobgfgimfcaa
open Go.RowKit Go.Shelf
attribute [local go_sem] Oper.semAt_some

/-- the children, as numbers -/
def kidsI (pre : List (Nat × Nat)) : List Int := pre.map fun x => (x.2 : Int)
theorem kidsI_snoc (pre : List (Nat × Nat)) (x : Nat × Nat) : kidsI (pre ++ [x]) = kidsI pre ++ [(x.2 : Int)] := by simp [kidsI]
theorem kidsI_length (pre : List (Nat × Nat)) : (kidsI pre).length = pre.length := by simp [kidsI]

theorem keepK_appended {W w1 : World} {n₀ B Bd : Nat} {tmp : Obj} {v v' : Value} {u : Value} {n : Nat} {xs : List Value} (hB : Below n₀ W (w1.setCell ⟨B, 0, none⟩ v')) (hgrow : (W.alloc tmp).grownBy w1 v.ownBlock)
    (hrow : W.ownsRow n₀ 2 1 v n xs) (hd : Boxed W Bd 23 u) (hne : Bd ≠ B) : KeepK n₀ Bd W (w1.setCell ⟨B, 0, none⟩ v') := by
  have h1 : Boxed w1 Bd 23 u := (hd.alloc tmp).kept hgrow (hd.not_row (by decide) hrow)
  exact ⟨hB, (show Boxed _ Bd _ u from h1.other hne v').trans (show W.heap[Bd]? = _ from hd).symm⟩

theorem kidsI_kids (xs : List Int) (v k : Nat) : kidsI (kids xs v k) = M.childs xs v k := by simp [kidsI, kids, M.childs]

set_option maxHeartbeats 2000000 in
theorem l01Children (A : Option Addr) (xs : List Int) (c v d : Nat) (w : World) (hx : xs.length ≤ 24) (ht : Hid (M.isTree xs = true)) (hd : Hid (xs[v]? = some (d : Int))) (h : Ints w w.heap.size A xs) :
    Calls Try.prog 100 #[.agg #[.slice A xs.length c], .int .i64 v] w fun e w' => ∃ A' c', e = .returned (.slice A' d c') ∧ Own64 w' w.heap.size (.slice A' d c') (M.childs xs v d) ∧ Below w.heap.size w w' := by
  have hv : v < xs.length := (List.getElem?_eq_some_iff.1 hd.out).1
  have hd24 : d ≤ 24 := by have := (M.tree_deg ht.out hd.out).2; omega
  have Hh := Lib.hid h
  obtain ⟨b, off, rfl, hbB, hcells⟩ := h (by omega)
  have hc0 := hcells v _ hd.out
  clear hcells
  go_enter Try.func100, Try.ntmps100
  go_wp2
  go_loopw [5, 6, 7] (fun q at_ i wr => ∃ (k : Nat) (A' : Option Addr) (n c' : Nat), k ≤ d ∧ i = .int .i64 ((d : Int) - k) ∧ at_ = .int .i64 (M.kidAt xs v k) ∧ q = .slice A' n c' ∧ Hid (Own64 wr (w.heap.size + 1) (.slice A' n c') (M.childs xs v k)) ∧ Hid (Below (w.heap.size + 1) (w.alloc (.cells #[.slice (some ⟨b, off, none⟩) xs.length c] 29)) wr)) (fun _ _ i _ => (intOf i).toNat)
  case atStart => exact ⟨0, some ⟨w.heap.size + 1, 0, none⟩, 0, 0, Nat.zero_le _, by go_num, by simp [M.kidAt], rfl, by have := own64_empty (w := w.alloc (.cells #[.slice (some ⟨b, off, none⟩) xs.length c] 29)) (B := w.heap.size + 1) (by simp); exact Lib.hid (by simpa [M.childs] using this), (Below.refl _ _).alloc (by simp) _⟩
  case round =>
    obtain ⟨k, A', n, c', hk, rfl, rfl, rfl, ho, hbr⟩ := hrel
    have hnr : n ≤ 1000000 := by have h1 := own64_len ho.out; rw [M.childs_length] at h1; omega
    clear hc0
    have hB1 := hbr.out.size
    by_cases hlt : k < d
    · have hkl := M.kid_lt ht.out hd.out (i := k) (by omega)
      have hok := Lib.hid (M.tree_ok ht.out hkl)
      have hsp := M.span_le (xs.drop (M.kidAt xs v k)) 1
      have hsp2 : (xs.drop (M.kidAt xs v k)).length ≤ xs.length := by simp
      obtain ⟨C2, hC2e⟩ : ∃ C2, Hid (M.kidAt xs v (k + 1) = C2) := ⟨_, rfl⟩
      have hks : Hid (M.kidAt xs v k + M.span 1 (xs.drop (M.kidAt xs v k)) = C2) := hC2e
      have hcs := Lib.hid (M.childs_succ xs v k)
      generalize M.kidAt xs v k = C at *
      have hC2 : C2 ≤ 48 := by have := hks.out; omega
      clear hsp hsp2
      have hB2 : w.heap.size + 1 ≤ wr.heap.size := by simpa using hB1
      have HbB := Lib.hid hbB
      clear hB1 hbB
      go_wp2_with (at_builtin; refine push64 rfl (.tmp 20) (.tmp 22) rfl wr (w.heap.size + 1) A' n c' (M.childs xs v k) (C : Int) rfl rfl ho hB2 hnr ?_; intro A2 c2 w2 ho2 hb2; have hb3 := Lib.hid (hbr.out.trans hb2.out); have hcell2 := (hb3.out.cell (p := ⟨w.heap.size, 0, none⟩) (Nat.lt_succ_self _)).trans (World.cell?_alloc_new w #[.slice (some ⟨b, off, none⟩) xs.length c] 29 0))
      have hsz2 : w.heap.size ≤ w2.heap.size := by have := hb3.out.size; simp at this; omega
      have hI2 := Lib.hid (((Hh.out.alloc (Nat.le_refl _) (.cells #[.slice (some ⟨b, off, none⟩) xs.length c] 29)).below hb3.out (Nat.le_succ _)).more hsz2)
      refine (l01End _ xs c C C2 _ hks hx hok hI2.out).mono ?_
      rintro e w3 ⟨rfl, hb⟩
      have hb4 := Lib.hid (hb3.out.trans (hb.mono (by have := hb3.out.size; simp at this; omega)))
      have ho4 := Lib.hid (own_be (own64_eq ho2.out hcs.out.symm) hb)
      clear hb
      go_wp2
      go_roundw
      case rel => exact ⟨k + 1, A2, _, c2, by omega, by go_num, by rw [hC2e.out], rfl, ho4, hb4⟩
      case measure => simp [intOf]; omega
    · obtain rfl : k = d := by omega
      go_wp2
      go_ret
      have hn := own64_len ho.out
      rw [M.childs_length] at hn
      subst hn
      exact ⟨A', c', rfl, own_mono ho.out (by omega), (bal (b0 w) _).trans (hbr.out.mono (by omega))⟩
end Go.Proofs.Ytmhpobgfgimfcaa

/- Two rows of the call's own that share no block: append to one, a store into one, one made shorter. -/
namespace Go.Proofs.Ytmhpobgfgimfcaa
open Go.RowKit

def Two (w : World) (B : Nat) (v1 v2 : Value) (xs ys : List Int) : Prop :=
  Own64 w B v1 xs ∧ Own64 w B v2 ys ∧ ∀ b, v1.ownBlock = some b → v2.ownBlock ≠ some b
theorem Two.symm {w : World} {B : Nat} {v1 v2 : Value} {xs ys : List Int} (h : Two w B v1 v2 xs ys) : Two w B v2 v1 ys xs := ⟨h.2.1, h.1, fun b h2 h1 => h.2.2 b h1 h2⟩
theorem Two.eq {w : World} {B : Nat} {v1 v2 : Value} {xs ys xs' ys' : List Int} (h : Two w B v1 v2 xs ys) (e : xs = xs') (e' : ys = ys') : Two w B v1 v2 xs' ys' := by subst e; subst e'; exact h
theorem Two.set {w : World} {B g n c : Nat} {v2 : Value} {xs ys : List Int} (h : Two w B (.slice (some ⟨g, 0, none⟩) n c) v2 xs ys) (hn : xs.length = n) (k : Nat) (x : Int) :
    Two (w.setCell ⟨g, k, none⟩ (.int .i64 x)) B (.slice (some ⟨g, 0, none⟩) n c) v2 (xs.set k x) ys :=
  ⟨own64_set h.1 hn k x, ownsRow_setCell_other h.2.1 (a := ⟨g, k, none⟩) (h.2.2 g rfl) _, h.2.2⟩
theorem Two.pop {w : World} {B n c : Nat} {A : Option Addr} {v1 : Value} {xs ys : List Int} (h : Two w B v1 (.slice A n c) xs ys) (hn : 0 < n) : Two w B v1 (.slice A (n - 1) c) xs ys.dropLast := by
  obtain ⟨h1, h2, h3⟩ := h
  refine ⟨h1, ?_, fun b hb => by
    have := h3 b hb
    rcases A with _ | a
    · simp [Value.ownBlock]
    · exact this⟩
  have hl := own64_len h2
  rcases h2.2 with ⟨h0, _⟩ | ⟨g, cap, cur, hv, hg, hh, hnc, hcm, hcs, ht⟩
  · injection h0 with _ e _; omega
  · injection hv with e1 e2 e3
    subst e1
    subst e3
    refine ⟨by simp, .inr ⟨g, c, cur, by rw [hl, List.length_dropLast], hg, hh, ?_, hcm, hcs, ?_⟩⟩
    · rw [List.length_dropLast]; omega
    · have hlen : (ys.map (Value.int .i64)).length = ys.length := by simp
      rw [List.length_dropLast, List.map_dropLast, List.dropLast_eq_take, hlen, ← ht, List.take_take]
      congr 1
      omega
theorem Two.shape {w : World} {B n c : Nat} {A : Option Addr} {v2 : Value} {xs ys : List Int} (h : Two w B (.slice A n c) v2 xs ys) : n = xs.length ∧ (0 < n → ∃ g, A = some ⟨g, 0, none⟩) := by
  have hl := own64_len h.1
  refine ⟨hl, fun hn => ?_⟩
  rcases h.1.2 with ⟨h0, _⟩ | ⟨g, cap, cur, hv, _⟩
  · injection h0 with _ e _; omega
  · injection hv with e1; exact ⟨g, e1⟩
theorem Two.cap {w : World} {B n c : Nat} {A : Option Addr} {v2 : Value} {xs ys : List Int} (h : Two w B (.slice A n c) v2 xs ys) : n ≤ c := by
  rcases h.1.2 with ⟨h0, _⟩ | ⟨g, cap, cur, hv, _, _, hnc, _⟩
  · injection h0 with _ e e'; omega
  · injection hv with _ e e'; omega

set_option maxRecDepth 100000 in
theorem pushTwo {ops : Array Oper} {rest : List Oper} {o : Oper} {a : Act} {Q : Exit → Act → World → Prop} (hgd : o.guard = none) (s x : Operand)
    (ho : o.op = .call { callee := .builtin .append, args := #[s, x], argTypes := #[23, 23] }) (w : World) (B : Nat) (A : Option Addr) (n c : Nat) (v2 : Value) (zs ys : List Int) (y : Int)
    (hs : a.eval s = .slice A n c) (N : Nat) (hx : a.eval x = .slice (some ⟨N, 0, none⟩) 1 1) (hN : N = w.heap.size) (ht : Hid (Two w B (.slice A n c) v2 zs ys)) (hB : B ≤ w.heap.size) (hlen : n ≤ 1000000)
    (h : ∀ A' c' w', Hid (Two w' B (.slice A' (n + 1) c') v2 (zs ++ [y]) ys) → Hid (Below B w w') → wpList Try.prog ops Q rest (a.put o.dst (.slice A' (n + 1) c')) w') :
    wpList Try.prog ops Q (o :: rest) a (w.alloc (.cells #[.int .i64 y] 2)) := by
  obtain ⟨i0, hi0, hz0, hz1, hz2⟩ := info_parts info64
  obtain ⟨hown, hown2, hdis⟩ := ht.out
  have hn := own64_len hown
  subst hn
  subst hN
  refine wpList_append_own_at _ hgd s x 23 ho B 2 i0 (.int .i64 0) 1 8 Try.underlying23 hi0 hz0 hz1 hz2 rfl (by decide) _ zs.length (zs.map (Value.int .i64)) hs (hown.alloc _) ⟨w.heap.size, 0, none⟩ 1 1 [.int .i64 y] hx rfl ?_ ?_ ?_ ?_ ?_ ?_
  · intro j u hj
    match j, hj with
    | 0, hj => simp at hj; subst hj; simp [Addr.add]
  · intro u hu; simp at hu; subst hu; rfl
  · unfold maxLen; omega
  · omega
  · simp; omega
  · intro v' w1 hown1 hg1 _ hat
    obtain ⟨A', c', rfl⟩ : ∃ A' c', v' = .slice A' (zs.length + 1) c' := own_shape hown1
    refine h A' c' w1 ⟨?_, ?_, ?_⟩ ?_
    · have e : (zs ++ [y]).length = zs.length + 1 := by simp
      unfold Own64
      rw [e]
      simpa using hown1
    · refine (hown2.alloc _).kept hg1 ?_
      cases hv : v2.ownBlock with
      | none => exact .inl rfl
      | some k => exact .inr fun e => hdis k e.symm hv
    · intro b hb hb2
      rcases hat with e | e
      · exact hdis b (e ▸ hb) hb2
      · have h1 := hown2.lt b hb2
        rw [hb] at e
        injection e with e
        simp at e
        omega
    · exact ((Below.refl B w).alloc hB _).grown hg1 (by simp; omega) (fun k hk => (hown.lt k hk).1)
end Go.Proofs.Ytmhpobgfgimfcaa

/- The order by levels as mathematics: nodes met are never more than the tree has, since their subtrees' sizes add up. -/
namespace Go.Proofs.Ytmhpobgfgimfcaa.M

theorem span_add : ∀ (l : List Int) (a b : Int), (∀ x ∈ l, 0 ≤ x) → 0 ≤ a → 0 ≤ b → span (a + b) l = span a l + span b (l.drop (span a l)) := by
  intro l
  induction l with
  | nil => intro a b _ _ _; simp [span]
  | cons x r ih =>
    intro a b h ha hb
    have hx := h x (by simp)
    by_cases h0 : a ≤ 0
    · obtain rfl : a = 0 := by omega
      rw [span_stop (Int.le_refl 0)]
      simp
    · have e1 : span (a + b) (x :: r) = span (a + b - 1 + x) r + 1 := by rw [span, if_neg (by omega)]
      have e2 : span a (x :: r) = span (a - 1 + x) r + 1 := by rw [span, if_neg (by omega)]
      have e3 : a + b - 1 + x = (a - 1 + x) + b := by omega
      rw [e1, e2, e3, ih _ _ (fun y hy => h y (by simp [hy])) (by omega) hb]
      simp only [List.drop_succ_cons]
      omega

theorem tree_nonneg {xs : List Int} (h : isTree xs = true) : ∀ x ∈ xs, 0 ≤ x := by
  intro x hx
  obtain ⟨i, hi, e⟩ := List.getElem_of_mem hx
  exact (tree_deg h (v := i) (x := x) (by rw [List.getElem?_eq_getElem hi, e])).1

theorem kid_span {xs : List Int} (h : isTree xs = true) (v : Nat) : ∀ k : Nat, kidAt xs v k = v + 1 + span k (xs.drop (v + 1)) := by
  intro k
  induction k with
  | zero => simp only [kidAt]; rw [span_stop (by simp)]
  | succ k ih =>
    simp only [kidAt]
    have e := span_add (xs.drop (v + 1)) k 1 (fun x hx => tree_nonneg h x (List.mem_of_mem_drop hx)) (by omega) (by omega)
    rw [List.drop_drop] at e
    have e2 : ((k + 1 : Nat) : Int) = (k : Int) + 1 := by omega
    rw [ih, e2, e]
    omega

theorem kid_end {xs : List Int} (h : isTree xs = true) {v d : Nat} (hd : xs[v]? = some (d : Int)) : kidAt xs v d = v + span 1 (xs.drop v) := by
  rw [kid_span h, span_step hd (by omega)]
  have e : (1 : Int) - 1 + d = d := by omega
  rw [e]
  omega

def szs (xs l : List Int) : Nat := (l.map fun v => span 1 (xs.drop v.toNat)).sum
theorem szs_append (xs a b : List Int) : szs xs (a ++ b) = szs xs a + szs xs b := by simp [szs]
theorem szs_childs (xs : List Int) (v k : Nat) : v + 1 + szs xs (childs xs v k) = kidAt xs v k := by
  induction k with
  | zero => simp [childs, szs, kidAt]
  | succ k ih =>
    rw [childs_succ, szs_append]
    simp only [kidAt]
    have : szs xs [(kidAt xs v k : Int)] = span 1 (xs.drop (kidAt xs v k)) := by simp [szs]
    omega
theorem szs_len {xs : List Int} : ∀ l : List Int, (∀ v ∈ l, 0 ≤ v ∧ v.toNat < xs.length) → l.length ≤ szs xs l := by
  intro l
  induction l with
  | nil => intro _; simp
  | cons a r ih =>
    intro h
    have h1 := ih (fun v hv => h v (by simp [hv]))
    have h2 := span_pos (xs := xs) (h a (by simp)).2
    simp only [szs, List.map_cons, List.sum_cons, List.length_cons] at *
    omega

def lev (xs : List Int) : Nat → List Int → Nat → List Int
  | 0, out, _ => out
  | f + 1, out, i => match out[i]? with
    | none => out
    | some v => lev xs f (out ++ childs xs v.toNat (xs[v.toNat]?.getD 0).toNat) (i + 1)
def level (xs : List Int) : List Int := lev xs xs.length [0] 0
def lgood (xs : List Int) (i : Nat) (out : List Int) : Prop := i ≤ out.length ∧ i + szs xs (out.drop i) = xs.length ∧ ∀ v ∈ out, 0 ≤ v ∧ v.toNat < xs.length

theorem lgood_len {xs out : List Int} {i : Nat} (h : lgood xs i out) : out.length ≤ xs.length := by
  obtain ⟨h1, h2, h3⟩ := h
  have := szs_len (xs := xs) (out.drop i) (fun v hv => h3 v (List.mem_of_mem_drop hv))
  simp only [List.length_drop] at this
  omega
theorem childs_in {xs : List Int} (h : isTree xs = true) {v d : Nat} (hd : xs[v]? = some (d : Int)) : ∀ u ∈ childs xs v d, 0 ≤ u ∧ u.toNat < xs.length := by
  intro u hu
  simp only [childs, List.mem_map, List.mem_range] at hu
  obtain ⟨i, hi, rfl⟩ := hu
  exact ⟨by omega, by simpa using kid_lt h hd (i := i) (by omega)⟩
theorem lgood_step {xs out : List Int} {i v d : Nat} (ht : isTree xs = true) (h : lgood xs i out) (hv : out[i]? = some (v : Int)) (hd : xs[v]? = some (d : Int)) : lgood xs (i + 1) (out ++ childs xs v d) := by
  obtain ⟨h1, h2, h3⟩ := h
  have hi := (List.getElem?_eq_some_iff.1 hv).1
  refine ⟨by simp; omega, ?_, fun u hu => ?_⟩
  · rw [List.drop_append_of_le_length (by omega), szs_append]
    rw [drop_at hv] at h2
    have e1 : szs xs ((v : Int) :: out.drop (i + 1)) = span 1 (xs.drop v) + szs xs (out.drop (i + 1)) := by simp [szs]
    have e2 := szs_childs xs v d
    have e3 := kid_end ht hd
    omega
  · rcases List.mem_append.1 hu with hu | hu
    · exact h3 u hu
    · exact childs_in ht hd u hu
theorem lgood_start {xs : List Int} (ht : isTree xs = true) : lgood xs 0 [0] := by
  have hl := (tree_len ht).1
  refine ⟨by simp, ?_, fun v hv => by simp at hv; subst hv; simp; omega⟩
  have h0 : due xs 0 = 1 := by simp [due, bal]
  have h1 := due_span ht (v := 0) hl
  have h2 := end_le (xs := xs) (v := 0) (by omega)
  simp only [List.drop_zero, Nat.zero_add] at h1 h2
  have h3 : ¬ span 1 xs < xs.length := fun hlt => by have := due_pos ht hlt; omega
  simp [szs]
  omega
theorem lev_step {xs out : List Int} {n i v d : Nat} (hn : i < n) (hv : out[i]? = some (v : Int)) (hd : xs[v]? = some (d : Int)) : lev xs (n - i) out i = lev xs (n - (i + 1)) (out ++ childs xs v d) (i + 1) := by
  have e : n - i = (n - (i + 1)) + 1 := by omega
  rw [e, lev, hv]
  simp [hd]
theorem lev_end {xs out : List Int} {f i : Nat} (h : out.length ≤ i) : lev xs f out i = out := by
  cases f with
  | zero => rfl
  | succ f => rw [lev, List.getElem?_eq_none h]
theorem lev_len {xs : List Int} (ht : isTree xs = true) : ∀ (f : Nat) (out : List Int) (i : Nat), lgood xs i out → (lev xs f out i).length ≤ xs.length := by
  intro f
  induction f with
  | zero => intro out i h; exact lgood_len h
  | succ f ih =>
    intro out i h
    rw [lev]
    split
    · exact lgood_len h
    · rename_i v hv
      obtain ⟨h0, h1⟩ := h.2.2 v (List.mem_of_getElem? hv)
      obtain ⟨n, rfl⟩ := Int.eq_ofNat_of_zero_le h0
      obtain ⟨d, hd, _⟩ := tree_degN ht h1
      simp only [Int.toNat_natCast] at hd h1 ⊢
      rw [hd]
      exact ih _ _ (by simpa using lgood_step ht h hv hd)
end Go.Proofs.Ytmhpobgfgimfcaa.M

/- Parents and meets as mathematics: subtrees are nested, each node but the root is a child of one node, and the meet is the greatest node that has both below it. -/
namespace Go.Proofs.Ytmhpobgfgimfcaa.M

def fin (xs : List Int) (v : Nat) : Nat := v + span 1 (xs.drop v)
theorem span_min : ∀ (l : List Int) (o : Int) (k : Nat), k < span o l → 1 ≤ o + bal (l.take k) := by
  intro l
  induction l with
  | nil => intro o k h; simp [span] at h
  | cons x r ih =>
    intro o k h
    rw [span] at h
    split at h
    · omega
    · cases k with
      | zero => simp only [List.take_zero, bal]; omega
      | succ k =>
        have := ih (o - 1 + x) k (by omega)
        simp only [List.take_succ_cons, bal]
        omega
theorem due_in {xs : List Int} {v q : Nat} (h1 : v ≤ q) (h2 : q < fin xs v) : due xs v ≤ due xs q := by
  have h := span_min (xs.drop v) 1 (q - v) (by simp only [fin] at h2; omega)
  have e : xs.take q = xs.take v ++ (xs.drop v).take (q - v) := by
    have := List.take_add (l := xs) (i := v) (j := q - v)
    rw [← this]
    congr 1
    omega
  simp only [due]
  rw [e, bal_append]
  omega
theorem fin_gt {xs : List Int} {v : Nat} (h : v < xs.length) : v < fin xs v := by have := span_pos h; simp only [fin]; omega
theorem fin_le {xs : List Int} {v : Nat} (h : v ≤ xs.length) : fin xs v ≤ xs.length := end_le h
theorem fin_root {xs : List Int} (ht : isTree xs = true) : fin xs 0 = xs.length := by
  have := (lgood_start ht).2.1
  simpa [szs, fin] using this
theorem nest {xs : List Int} (ht : isTree xs = true) {v q : Nat} (hv : v < xs.length) (h1 : v ≤ q) (h2 : q < fin xs v) : fin xs q ≤ fin xs v := by
  have hl := fin_le (xs := xs) (v := v) (by omega)
  rcases Nat.lt_or_ge (fin xs v) (fin xs q) with h | h
  · have e1 := due_in (xs := xs) (v := q) (q := fin xs v) (by omega) h
    have e2 := due_span ht hv
    have e3 := due_in h1 h2
    simp only [fin] at e1
    omega
  · exact h
theorem kid_le {xs : List Int} {v i j : Nat} (h : i ≤ j) : kidAt xs v i ≤ kidAt xs v j := by
  induction j with
  | zero => obtain rfl : i = 0 := by omega
            exact Nat.le_refl _
  | succ j ih =>
    rcases Nat.lt_or_ge i (j + 1) with h1 | h1
    · have := ih (by omega)
      simp only [kidAt]
      omega
    · obtain rfl : i = j + 1 := by omega
      exact Nat.le_refl _
theorem kid_tile {xs : List Int} {v at_ : Nat} (h : v < at_) : ∀ i, at_ < kidAt xs v i → ∃ j, j < i ∧ kidAt xs v j ≤ at_ ∧ at_ < kidAt xs v (j + 1) := by
  intro i
  induction i with
  | zero => intro h1; simp only [kidAt] at h1; omega
  | succ i ih =>
    intro h1
    rcases Nat.lt_or_ge at_ (kidAt xs v i) with h2 | h2
    · obtain ⟨j, hj, h3⟩ := ih h2
      exact ⟨j, by omega, h3⟩
    · exact ⟨i, by omega, h2, h1⟩
def IsKid (xs : List Int) (u c : Nat) : Prop := ∃ (d : Nat) (i : Nat), xs[u]? = some (d : Int) ∧ i < d ∧ kidAt xs u i = c
theorem kid_bounds {xs : List Int} (ht : isTree xs = true) {u c : Nat} (h : IsKid xs u c) : u < c ∧ c < fin xs u ∧ c < xs.length := by
  obtain ⟨d, i, hd, hi, rfl⟩ := h
  have h1 := kid_due ht hd i (by omega)
  have h2 := kid_lt ht hd (i := i) (by omega)
  have h3 := kid_end ht hd
  have h4 := kid_le (xs := xs) (v := u) (i := i + 1) (j := d) (by omega)
  have h5 := span_pos h2
  simp only [kidAt] at h4
  simp only [fin]
  omega
theorem kid_up {xs : List Int} (ht : isTree xs = true) {p c r : Nat} (h : IsKid xs p c) (h1 : r < c) (h2 : c < fin xs r) : r ≤ p := by
  obtain ⟨hb1, hb2, hb3⟩ := kid_bounds ht h
  rcases Nat.lt_or_ge p r with hlt | hge
  · obtain ⟨d, i, hd, hi, hk⟩ := h
    have he := kid_end ht hd
    obtain ⟨j, hj, hj1, hj2⟩ := kid_tile (xs := xs) (v := p) (at_ := r) hlt d (by simp only [fin] at hb2; omega)
    have hjl := kid_lt ht hd (i := j) (by omega)
    have hn := nest ht hjl hj1 (by simp only [kidAt] at hj2; exact hj2)
    have hn2 : fin xs (kidAt xs p j) = kidAt xs p (j + 1) := by simp only [fin, kidAt]
    rcases Nat.lt_or_ge i (j + 1) with hij | hij
    · have := kid_le (xs := xs) (v := p) (i := i) (j := j) (by omega)
      omega
    · have := kid_le (xs := xs) (v := p) (i := j + 1) (j := i) hij
      omega
  · exact hge
theorem kid_unique {xs : List Int} (ht : isTree xs = true) {p q c : Nat} (h : IsKid xs p c) (h' : IsKid xs q c) : p = q := by
  have a := kid_bounds ht h
  have b := kid_bounds ht h'
  have := kid_up ht h b.1 b.2.1
  have := kid_up ht h' a.1 a.2.1
  omega
theorem kid_exists {xs : List Int} (ht : isTree xs = true) {c : Nat} (hc : c < xs.length) : ∀ (m u : Nat), c - u ≤ m → u < c → c < fin xs u → ∃ p, IsKid xs p c := by
  intro m
  induction m with
  | zero => intro u h1 h2; omega
  | succ m ih =>
    intro u h1 h2 h3
    obtain ⟨d, hd, _⟩ := tree_degN ht (v := u) (by omega)
    have he := kid_end ht hd
    obtain ⟨j, hj, hj1, hj2⟩ := kid_tile (xs := xs) h2 d (by simp only [fin] at h3; omega)
    rcases Nat.lt_or_ge (kidAt xs u j) c with h4 | h4
    · have h5 := (kid_due ht hd j (by omega)).2.2
      exact ih (kidAt xs u j) (by omega) h4 (by simp only [kidAt] at hj2; exact hj2)
    · exact ⟨u, d, j, hd, hj, by omega⟩
theorem kid_has {xs : List Int} (ht : isTree xs = true) {c : Nat} (h0 : 0 < c) (hc : c < xs.length) : ∃ p, IsKid xs p c :=
  kid_exists ht hc c 0 (by omega) h0 (by rw [fin_root ht]; exact hc)

/-- v stands at u or below it -/
def bel (xs : List Int) (v u : Nat) : Bool := decide (u ≤ v) && decide (v < fin xs u)
theorem bel_iff {xs : List Int} {v u : Nat} : bel xs v u = true ↔ u ≤ v ∧ v < fin xs u := by simp [bel]
def meetDown (xs : List Int) (v w : Nat) : Nat → Nat
  | 0 => 0
  | u + 1 => if bel xs v (u + 1) && bel xs w (u + 1) then u + 1 else meetDown xs v w u
theorem meetDown_hit {xs : List Int} {v w u : Nat} (h : (bel xs v u && bel xs w u) = true) : meetDown xs v w u = u := by
  cases u with
  | zero => rfl
  | succ u => rw [meetDown, if_pos h]
theorem meetDown_miss {xs : List Int} {v w u : Nat} (h : (bel xs v (u + 1) && bel xs w (u + 1)) = false) : meetDown xs v w (u + 1) = meetDown xs v w u := by rw [meetDown, if_neg (by simp [h])]
theorem meetDown_le (xs : List Int) (v w : Nat) : ∀ u, meetDown xs v w u ≤ u := by
  intro u
  induction u with
  | zero => exact Nat.le_refl _
  | succ u ih => rw [meetDown]; split <;> omega
theorem meetDown_bel {xs : List Int} (ht : isTree xs = true) {v w : Nat} (hv : v < xs.length) (hw : w < xs.length) : ∀ u, bel xs v (meetDown xs v w u) = true ∧ bel xs w (meetDown xs v w u) = true := by
  intro u
  induction u with
  | zero => simp only [meetDown, bel_iff, fin_root ht]; omega
  | succ u ih =>
    rw [meetDown]
    split
    · rename_i h; simpa using h
    · exact ih
theorem meetDown_max {xs : List Int} {v w : Nat} : ∀ u r, r ≤ u → bel xs v r = true → bel xs w r = true → r ≤ meetDown xs v w u := by
  intro u
  induction u with
  | zero => intro r h _ _; omega
  | succ u ih =>
    intro r h h1 h2
    rcases Nat.lt_or_ge r (u + 1) with h3 | h3
    · have := ih r (by omega) h1 h2
      rw [meetDown]
      split <;> omega
    · obtain rfl : r = u + 1 := by omega
      rw [meetDown_hit (by simp [h1, h2])]
      exact Nat.le_refl _
def meet (xs : List Int) (v w : Nat) : Nat := meetDown xs v w (min v w)
/-- the model's walk: at the stop -/
theorem meet_stop {xs : List Int} {v w a : Nat} (h1 : bel xs v a = true) (h2 : bel xs w a = true) (h3 : meet xs v w ≤ a) : a = meet xs v w := by
  have b1 := bel_iff.1 h1
  have b2 := bel_iff.1 h2
  have := meetDown_max (xs := xs) (v := v) (w := w) (min v w) a (by omega) h1 h2
  simp only [meet] at *
  omega
/-- the model's walk: a step to the parent -/
theorem meet_step {xs : List Int} (ht : isTree xs = true) {v w a p : Nat} (hv : v < xs.length) (hw : w < xs.length) (h1 : bel xs v a = true) (h2 : bel xs w a = false) (h3 : meet xs v w ≤ a) (hp : IsKid xs p a) :
    bel xs v p = true ∧ meet xs v w ≤ p := by
  obtain ⟨m1, m2⟩ := meetDown_bel ht hv hw (min v w)
  have b1 := bel_iff.1 h1
  have hb := kid_bounds ht hp
  have hn := nest ht (v := p) (q := a) (by omega) (by omega) hb.2.1
  refine ⟨bel_iff.2 (by omega), ?_⟩
  have hm : meet xs v w ≠ a := fun e => by
    rw [← e] at h2
    simp only [meet] at h2
    rw [m2] at h2
    cases h2
  have b2 := bel_iff.1 m1
  exact kid_up ht hp (by omega) (by simp only [meet]; omega)
theorem meet_start {xs : List Int} {v w : Nat} (hv : v < xs.length) : bel xs v v = true ∧ meet xs v w ≤ v := by
  have := meetDown_le xs v w (min v w)
  have h2 := fin_gt hv
  exact ⟨bel_iff.2 ⟨Nat.le_refl _, h2⟩, by simp only [meet]; omega⟩
end Go.Proofs.Ytmhpobgfgimfcaa.M

/- l01Parents: the model's row of parents. -/
namespace Go.Proofs.Ytmhpobgfgimfcaa
open Go.RowKit

namespace M
def PartP (xs : List Int) (k j : Nat) (ps : List Int) : Prop :=
  ps.length = xs.length ∧ ps[0]? = some (-1) ∧ (∀ p c, p < k → IsKid xs p c → ps[c]? = some (p : Int)) ∧ (∀ i, i < j → ps[kidAt xs k i]? = some (k : Int))
def ParsOK (xs ps : List Int) : Prop := ps.length = xs.length ∧ ps[0]? = some (-1) ∧ ∀ p c, IsKid xs p c → ps[c]? = some (p : Int)
theorem partP_start {xs : List Int} (ht : isTree xs = true) : PartP xs 0 0 ((List.replicate xs.length (0 : Int)).set 0 (-1)) := by
  have := (tree_len ht).1
  refine ⟨by simp, ?_, fun p c h => by omega, fun i h => by omega⟩
  rw [List.getElem?_set_self (by simp; omega)]
theorem partP_step {xs ps : List Int} {k j d : Nat} (ht : isTree xs = true) (h : PartP xs k j ps) (hd : xs[k]? = some (d : Int)) (hj : j < d) : PartP xs k (j + 1) (ps.set (kidAt xs k j) (k : Int)) := by
  obtain ⟨h1, h2, h3, h4⟩ := h
  have hkid : IsKid xs k (kidAt xs k j) := ⟨d, j, hd, hj, rfl⟩
  have hb := kid_bounds ht hkid
  refine ⟨by simp [h1], ?_, fun p c hp hc => ?_, fun i hi => ?_⟩
  · rw [List.getElem?_set_ne (by omega)]; exact h2
  · have hne : kidAt xs k j ≠ c := fun e => by
      subst e
      have := kid_unique ht hc hkid
      omega
    rw [List.getElem?_set_ne hne]
    exact h3 p c hp hc
  · rcases Nat.lt_or_ge i j with h5 | h5
    · have h6 := kid_le (xs := xs) (v := k) (i := i + 1) (j := j) (by omega)
      have h7 := kid_lt ht hd (i := i) (by omega)
      have h8 := span_pos h7
      simp only [kidAt] at h6
      rw [List.getElem?_set_ne (by omega)]
      exact h4 i h5
    · obtain rfl : i = j := by omega
      rw [List.getElem?_set_self (by omega)]
theorem partP_next {xs ps : List Int} {k d : Nat} (h : PartP xs k d ps) (hd : xs[k]? = some (d : Int)) : PartP xs (k + 1) 0 ps := by
  obtain ⟨h1, h2, h3, h4⟩ := h
  refine ⟨h1, h2, fun p c hp hc => ?_, fun i h => by omega⟩
  rcases Nat.lt_or_ge p k with h5 | h5
  · exact h3 p c h5 hc
  · obtain rfl : p = k := by omega
    obtain ⟨d', i, hd', hi, rfl⟩ := hc
    rw [hd] at hd'
    injection hd' with hd'
    exact h4 i (by omega)
theorem partP_done {xs ps : List Int} (ht : isTree xs = true) (h : PartP xs xs.length 0 ps) : ParsOK xs ps :=
  ⟨h.1, h.2.1, fun p c hc => h.2.2.1 p c (by have := kid_bounds ht hc; omega) hc⟩
end M

theorem own64_made_set {w : World} {B n : Nat} (hB : B ≤ w.heap.size) (hn : n ≤ maxLen) (x : Int) :
    Own64 (w.alloc (.cells ((madeCells #[.int .i64 0] n).setIfInBounds 0 (.int .i64 x)) 2)) B (.slice (some ⟨w.heap.size, 0, none⟩) n n) ((List.replicate n 0).set 0 x) := by
  have h := World.ownsRow_lit (e := 2) (size := 1) w ((madeCells #[.int .i64 0] n).setIfInBounds 0 (.int .i64 x)) n hB hn (by simp [size_madeCells])
  rw [Array.toList_setIfInBounds, toList_madeCells_one] at h
  simpa [Own64, List.map_set] using h

end Go.Proofs.Ytmhpobgfgimfcaa

/- Trees inside others by lists of nodes: by parents, and by the tree of the nodes that are left. The mathematics. -/
namespace Go.Proofs.Ytmhpobgfgimfcaa
namespace M
/-- the place, below k, of the deepest node of a list above x, or -1 -/
def pl (u : List Int) (f : Nat → Nat) (x : Nat) : Nat → Int
  | 0 => -1
  | k + 1 => if bel u x (f k) then (k : Int) else pl u f x k
theorem pl_hit {u : List Int} {f : Nat → Nat} {x k : Nat} (h : bel u x (f k) = true) : pl u f x (k + 1) = k := by rw [pl, if_pos h]
theorem pl_miss {u : List Int} {f : Nat → Nat} {x k : Nat} (h : bel u x (f k) = false) : pl u f x (k + 1) = pl u f x k := by rw [pl, if_neg (by rw [h]; decide)]
theorem pl_skip {u : List Int} {f : Nat → Nat} {x : Nat} : ∀ {i a : Nat}, a ≤ i → (∀ j, a ≤ j → j < i → bel u x (f j) = false) → pl u f x i = pl u f x a := by
  intro i
  induction i with
  | zero => intro a h _; have : a = 0 := by omega
            rw [this]
  | succ i ih =>
    intro a h h2
    by_cases e : a = i + 1
    · rw [e]
    · rw [pl_miss (h2 i (by omega) (by omega))]
      exact ih (by omega) (fun j h3 h4 => h2 j h3 (by omega))
theorem pl_at {u : List Int} {f : Nat → Nat} {x i a : Nat} (h : a < i) (hb : bel u x (f a) = true) (h2 : ∀ j, a < j → j < i → bel u x (f j) = false) : pl u f x i = a := by
  rw [pl_skip (a := a + 1) h (fun j h3 h4 => h2 j (by omega) h4), pl_hit hb]
theorem pl_none {u : List Int} {f : Nat → Nat} {x i : Nat} (h2 : ∀ j, j < i → bel u x (f j) = false) : pl u f x i = -1 := by
  rw [pl_skip (a := 0) (Nat.zero_le _) (fun j _ h4 => h2 j h4)]; rfl
theorem pl_cases (u : List Int) (f : Nat → Nat) (x : Nat) : ∀ i, (pl u f x i = -1 ∧ ∀ j, j < i → bel u x (f j) = false) ∨ ∃ a, a < i ∧ pl u f x i = (a : Int) ∧ bel u x (f a) = true ∧ ∀ j, a < j → j < i → bel u x (f j) = false := by
  intro i
  induction i with
  | zero => exact .inl ⟨rfl, fun j h => by omega⟩
  | succ i ih =>
    cases hb : bel u x (f i)
    · rw [pl_miss hb]
      have one : ∀ j, j = i → bel u x (f j) = false := fun j e => by rw [e]; exact hb
      rcases ih with ⟨h1, h2⟩ | ⟨a, h1, h2, h3, h4⟩
      · exact .inl ⟨h1, fun j h => if e : j = i then one j e else h2 j (by omega)⟩
      · exact .inr ⟨a, by omega, h2, h3, fun j h5 h6 => if e : j = i then one j e else h4 j h5 (by omega)⟩
    · exact .inr ⟨i, by omega, pl_hit hb, hb, fun j h5 h6 => by omega⟩
/-- the parent, as a place, of the i-th node of a list -/
def pa (u : List Int) (f : Nat → Nat) (i : Nat) : Int := pl u f (f i) i
/-- the degrees of the nodes that are left, before the i-th -/
def degs (u : List Int) (f : Nat → Nat) (i : Nat) : List Int := (List.range i).map fun (j : Nat) => (((List.range i).countP (fun q => pa u f q == (j : Int)) : Nat) : Int)
theorem degs_len (u : List Int) (f : Nat → Nat) (i : Nat) : (degs u f i).length = i := by simp [degs]
theorem degs_at {u : List Int} {f : Nat → Nat} {i j : Nat} (h : j < i) : (degs u f i)[j]? = some (((List.range i).countP (fun q => pa u f q == (j : Int)) : Nat) : Int) := by simp [degs, h]
theorem pa_lt (u : List Int) (f : Nat → Nat) (i : Nat) : pa u f i < i := by
  rcases pl_cases u f (f i) i with ⟨h, _⟩ | ⟨a, h1, h2, _⟩
  · rw [pa, h]; omega
  · rw [pa, h2]; omega
theorem cnt_succ (p : Nat → Bool) (i : Nat) : (List.range (i + 1)).countP p = (List.range i).countP p + if p i then 1 else 0 := by
  rw [List.range_succ, List.countP_append, List.countP_singleton]
theorem cnt_none (p : Nat → Bool) (i : Nat) (h : ∀ q, q < i → p q = false) : (List.range i).countP p = 0 := by
  rw [List.countP_eq_zero]
  intro q hq
  rw [h q (List.mem_range.1 hq)]
  decide
/-- a new node has no children -/
theorem degs_new {u : List Int} {f : Nat → Nat} {i : Nat} (h : pa u f i = -1) : degs u f (i + 1) = degs u f i ++ [0] := by
  rw [degs, degs, List.range_succ, List.map_append]
  congr 1
  · refine List.map_congr_left fun j hj => ?_
    have hj := List.mem_range.1 hj
    have e : (pa u f i == (j : Int)) = false := beq_eq_false_iff_ne.2 (by rw [h]; omega)
    rw [← List.range_succ, cnt_succ, e]
    simp
  · rw [← List.range_succ]
    simp only [List.map_cons, List.map_nil]
    rw [cnt_none]
    · rfl
    · intro q hq
      have := pa_lt u f q
      exact beq_eq_false_iff_ne.2 (by omega)
theorem degs_under {u : List Int} {f : Nat → Nat} {i a : Nat} (h : pa u f i = (a : Int)) (ha : a < i) : degs u f (i + 1) = (degs u f i ++ [0]).set a (((degs u f i)[a]?.getD 0) + 1) := by
  apply List.ext_getElem?
  intro j
  rcases Nat.lt_trichotomy j i with hj | hj | hj
  · rw [degs_at (by omega), cnt_succ]
    by_cases e : a = j
    · subst e
      rw [List.getElem?_set_self (by simp [degs_len]; omega), degs_at ha, h]
      simp
    · rw [List.getElem?_set_ne e, List.getElem?_append_left (by rw [degs_len]; exact hj), degs_at hj]
      have e2 : (pa u f i == (j : Int)) = false := beq_eq_false_iff_ne.2 (by rw [h]; omega)
      rw [e2]
      simp
  · subst hj
    rw [degs_at (by omega), List.getElem?_set_ne (by omega), List.getElem?_append_right (by rw [degs_len]; omega), degs_len]
    rw [cnt_none]
    · simp
    · intro q hq
      have := pa_lt u f q
      exact beq_eq_false_iff_ne.2 (by omega)
  · rw [List.getElem?_eq_none (by rw [degs_len]; omega), List.getElem?_eq_none (by simp [degs_len]; omega)]
theorem cnt_one {p q : Nat → Bool} {a : Nat} : ∀ m, a < m → p a = false → (∀ i, q i = (p i || i == a)) → (List.range m).countP q = (List.range m).countP p + 1 := by
  intro m
  induction m with
  | zero => intro h; omega
  | succ m ih =>
    intro h hp hq
    rw [cnt_succ, cnt_succ]
    by_cases e : a = m
    · subst e
      have : (List.range a).countP q = (List.range a).countP p := List.countP_congr fun i hi => by
        have := List.mem_range.1 hi
        rw [hq i]
        have : (i == a) = false := beq_eq_false_iff_ne.2 (by omega)
        rw [this, Bool.or_false]
      rw [this, hq a, hp]
      simp
    · rw [ih (by omega) hp hq, hq m]
      have : (m == a) = false := beq_eq_false_iff_ne.2 (by omega)
      rw [this, Bool.or_false]
      omega
theorem cnt_le (p : Nat → Bool) {i m : Nat} (h : i ≤ m) : (List.range i).countP p ≤ (List.range m).countP p := by
  obtain ⟨k, rfl⟩ := Nat.le.dest h
  induction k with
  | zero => exact Nat.le_refl _
  | succ k ih => rw [show i + (k + 1) = (i + k) + 1 by omega, cnt_succ]; have := ih (by omega); omega
theorem cnt_lt {p : Nat → Bool} {i m : Nat} (h : i < m) (hp : p i = true) : (List.range i).countP p < (List.range m).countP p := by
  have h1 := cnt_le p (show i + 1 ≤ m from h)
  rw [cnt_succ, hp] at h1
  simp at h1
  omega
theorem cnt_stop {p : Nat → Bool} {i m : Nat} (h : i ≤ m) (hp : ∀ q, i ≤ q → q < m → p q = false) : (List.range m).countP p = (List.range i).countP p := by
  obtain ⟨k, rfl⟩ := Nat.le.dest h
  induction k with
  | zero => rfl
  | succ k ih => rw [show i + (k + 1) = (i + k) + 1 by omega, cnt_succ, ih (by omega) (fun q h1 h2 => hp q h1 (by omega)), hp (i + k) (by omega) (by omega)]; simp
theorem kid_lt_kid {xs : List Int} (ht : isTree xs = true) {v d i j : Nat} (hd : xs[v]? = some (d : Int)) (hj : j ≤ d) (h : i < j) : kidAt xs v i < kidAt xs v j := by
  have h1 := kid_lt ht hd (i := i) (by omega)
  have h2 := span_pos h1
  have h3 := kid_le (xs := xs) (v := v) (i := i + 1) (j := j) (by omega)
  simp only [kidAt] at h3
  omega
theorem kids_cnt {xs : List Int} (ht : isTree xs = true) {v d : Nat} (hd : xs[v]? = some (d : Int)) : ∀ k, k ≤ d → (List.range xs.length).countP (fun i => decide (∃ j, j < k ∧ kidAt xs v j = i)) = k := by
  intro k
  induction k with
  | zero => intro _; exact cnt_none _ _ fun q _ => decide_eq_false fun ⟨j, h, _⟩ => by omega
  | succ k ih =>
    intro hk
    rw [cnt_one (p := fun i => decide (∃ j, j < k ∧ kidAt xs v j = i)) (a := kidAt xs v k) xs.length (kid_lt ht hd (by omega)) ?_ ?_, ih (by omega)]
    · exact decide_eq_false fun ⟨j, h, e⟩ => by have := kid_lt_kid ht hd (i := j) (j := k) (by omega) h; omega
    · intro i
      by_cases h1 : ∃ j, j < k ∧ kidAt xs v j = i
      · rw [decide_eq_true h1, Bool.true_or]
        obtain ⟨j, h, e⟩ := h1
        exact decide_eq_true ⟨j, by omega, e⟩
      · rw [decide_eq_false h1, Bool.false_or]
        by_cases h2 : i = kidAt xs v k
        · rw [h2, beq_self_eq_true]
          exact decide_eq_true ⟨k, by omega, rfl⟩
        · rw [beq_eq_false_iff_ne.2 h2]
          refine decide_eq_false fun ⟨j, h, e⟩ => ?_
          rcases Nat.lt_or_ge j k with h3 | h3
          · exact h1 ⟨j, h3, e⟩
          · have : j = k := by omega
            rw [this] at e
            exact h2 e.symm
theorem par_kid {xs ps : List Int} (ht : isTree xs = true) (hp : ParsOK xs ps) {i j : Nat} (hi : i < xs.length) : ps[i]?.getD 0 = (j : Int) ↔ IsKid xs j i := by
  constructor
  · intro h
    rcases Nat.eq_zero_or_pos i with h0 | h0
    · subst h0
      rw [hp.2.1] at h
      simp at h
    · obtain ⟨p, hk⟩ := kid_has ht h0 hi
      rw [hp.2.2 p i hk] at h
      have : p = j := by simp at h; omega
      rw [← this]; exact hk
  · intro h
    rw [hp.2.2 j i h]; rfl
theorem par_cnt {xs ps : List Int} (ht : isTree xs = true) (hp : ParsOK xs ps) {v d : Nat} (hd : xs[v]? = some (d : Int)) : (List.range xs.length).countP (fun i => ps[i]?.getD 0 == (v : Int)) = d := by
  rw [← kids_cnt ht hd d (Nat.le_refl _)]
  refine List.countP_congr fun i hi => ?_
  have hi := List.mem_range.1 hi
  rw [beq_iff_eq, par_kid ht hp hi, decide_eq_true_iff]
  constructor
  · rintro ⟨d', k, h1, h2, h3⟩
    rw [hd] at h1
    injection h1 with h1
    exact ⟨k, by omega, h3⟩
  · rintro ⟨k, h1, h2⟩
    exact ⟨d, k, hd, h1, h2⟩
/-- both ways to tell that a tree is inside another one by a list say the same -/
theorem inside_iff {t u ps : List Int} {f : Nat → Nat} (ht : isTree t = true) (hp : ParsOK t ps) (hasc : ∀ i j, i < j → j < t.length → f i < f j) :
    (∀ i, i < t.length → pa u f i = ps[i]?.getD 0) ↔ ((∀ i, 0 < i → i < t.length → pa u f i ≠ -1) ∧ degs u f t.length = t) := by
  constructor
  · intro h
    refine ⟨fun i h0 hi e => ?_, ?_⟩
    · obtain ⟨p, hk⟩ := kid_has ht h0 hi
      have := h i hi
      rw [hp.2.2 p i hk, e] at this
      simp at this
    · apply List.ext_getElem?
      intro j
      rcases Nat.lt_or_ge j t.length with hj | hj
      · obtain ⟨d, hd, _⟩ := tree_degN ht hj
        rw [degs_at hj, hd, ← par_cnt ht hp hd]
        congr 2
        refine List.countP_congr fun i hi => ?_
        rw [h i (List.mem_range.1 hi)]
      · rw [List.getElem?_eq_none (by rw [degs_len]; exact hj), List.getElem?_eq_none hj]
  · rintro ⟨h1, h2⟩ i
    have hcnt : ∀ j d : Nat, t[j]? = some (d : Int) → (List.range t.length).countP (fun q => pa u f q == (j : Int)) = d := fun j d hd => by
      have hj := (List.getElem?_eq_some_iff.1 hd).1
      have := degs_at (u := u) (f := f) hj
      rw [h2, hd] at this
      injection this with this
      omega
    induction i using Nat.strongRecOn with
    | ind i ih =>
      intro hi
      rcases Nat.eq_zero_or_pos i with h0 | h0
      · subst h0; rw [hp.2.1]; rfl
      · obtain ⟨b, hk⟩ := kid_has ht h0 hi
        have hkb := kid_bounds ht hk
        rw [hp.2.2 b i hk]
        show pa u f i = (b : Int)
        rcases pl_cases u f (f i) i with ⟨h3, _⟩ | ⟨a, h3, h4, h5, h6⟩
        · exact absurd h3 (h1 i h0 hi)
        · rw [show pa u f i = (a : Int) from h4]
          have hih : ∀ j : Nat, (List.range i).countP (fun q => pa u f q == (j : Int)) = (List.range i).countP (fun q => ps[q]?.getD 0 == (j : Int)) := fun j => List.countP_congr fun q hq => by
            have := List.mem_range.1 hq
            rw [ih q this (by omega)]
          rcases Nat.lt_trichotomy a b with h7 | h7 | h7
          · exfalso
            obtain ⟨d, hd, _⟩ := tree_degN ht (v := b) (by omega)
            have e1 := hcnt b d hd
            have e2 := par_cnt ht hp hd
            have e3 := cnt_lt (p := fun q => ps[q]?.getD 0 == (b : Int)) hi (beq_iff_eq.2 ((par_kid ht hp hi).2 hk))
            have hnb := h6 b h7 hkb.1
            have hfb : fin u (f b) ≤ f i := by
              have := hasc b i hkb.1 hi
              have h8 : ¬ (f b ≤ f i ∧ f i < fin u (f b)) := fun h => by rw [bel_iff.2 h] at hnb; cases hnb
              omega
            have e4 := cnt_stop (p := fun q => pa u f q == (b : Int)) (i := i) (m := t.length) (by omega) (fun q h8 h9 => by
              refine beq_eq_false_iff_ne.2 fun e => ?_
              rcases pl_cases u f (f q) q with ⟨g1, _⟩ | ⟨c, g1, g2, g3, _⟩
              · rw [pa, g1] at e; omega
              · rw [pa, g2] at e
                have : c = b := by omega
                subst this
                have g4 := (bel_iff.1 g3).2
                have g5 : f i ≤ f q := by
                  rcases Nat.eq_or_lt_of_le h8 with h | h
                  · rw [h]; exact Nat.le_refl _
                  · exact Nat.le_of_lt (hasc i q h h9)
                omega)
            rw [hih b] at e4
            omega
          · rw [h7]
          · exfalso
            obtain ⟨d, hd, _⟩ := tree_degN ht (v := a) (by omega)
            have e1 := hcnt a d hd
            have e2 := par_cnt ht hp hd
            have e3 := cnt_lt (p := fun q => pa u f q == (a : Int)) hi (beq_iff_eq.2 h4)
            have hfa : fin t a ≤ i := by
              refine Nat.le_of_not_lt fun h => ?_
              have := kid_up ht hk h3 h
              omega
            have e4 := cnt_stop (p := fun q => ps[q]?.getD 0 == (a : Int)) (i := i) (m := t.length) (by omega) (fun q h8 h9 => by
              refine beq_eq_false_iff_ne.2 fun e => ?_
              have := kid_bounds ht ((par_kid ht hp h9).1 e)
              omega)
            rw [hih a] at e3
            omega
end M
end Go.Proofs.Ytmhpobgfgimfcaa

/- The nodes of a list above the one at hand, as a stack: the mathematics. -/
namespace Go.Proofs.Ytmhpobgfgimfcaa
namespace M
/-- the places below k whose nodes have the node y in their subtrees -/
def stk (u : List Int) (f : Nat → Nat) (y k : Nat) : List Nat := (List.range k).filter fun j => decide (y < fin u (f j))
theorem stk_zero (u : List Int) (f : Nat → Nat) (y : Nat) : stk u f y 0 = [] := rfl
theorem stk_succ (u : List Int) (f : Nat → Nat) (y k : Nat) : stk u f y (k + 1) = stk u f y k ++ if y < fin u (f k) then [k] else [] := by
  rw [stk, stk, List.range_succ, List.filter_append]
  congr 1
  by_cases h : y < fin u (f k)
  · rw [if_pos h, List.filter_cons_of_pos (by simp [h])]; rfl
  · rw [if_neg h, List.filter_cons_of_neg (by simp [h])]; rfl
theorem stk_len (u : List Int) (f : Nat → Nat) (y k : Nat) : (stk u f y k).length ≤ k := by
  have := List.length_filter_le (fun j => decide (y < fin u (f j))) (List.range k)
  rw [List.length_range] at this
  exact this
theorem stk_last (u : List Int) (f : Nat → Nat) (y : Nat) : ∀ k, (stk u f y k = [] ∧ ∀ j, j < k → fin u (f j) ≤ y) ∨ ∃ j, j < k ∧ y < fin u (f j) ∧ stk u f y k = stk u f y j ++ [j] ∧ ∀ q, j < q → q < k → fin u (f q) ≤ y := by
  intro k
  induction k with
  | zero => exact .inl ⟨rfl, fun j h => by omega⟩
  | succ k ih =>
    rw [stk_succ]
    by_cases h : y < fin u (f k)
    · rw [if_pos h]
      exact .inr ⟨k, by omega, h, rfl, fun q h1 h2 => by omega⟩
    · rw [if_neg h, List.append_nil]
      have one : ∀ j, j = k → fin u (f j) ≤ y := fun j e => by rw [e]; omega
      rcases ih with ⟨h1, h2⟩ | ⟨j, h1, h2, h3, h4⟩
      · exact .inl ⟨h1, fun j hj => if e : j = k then one j e else h2 j (by omega)⟩
      · exact .inr ⟨j, by omega, h2, h3, fun q h5 h6 => if e : q = k then one q e else h4 q h5 (by omega)⟩
/-- what the search for the parent of the i-th node has: the stack below k -/
def StkAt (u : List Int) (f : Nat → Nat) (i : Nat) (st : List Nat) : Prop :=
  ∃ k y, k ≤ i ∧ st = stk u f y k ∧ (∀ q, k ≤ q → q < i → fin u (f q) ≤ f i) ∧ (0 < i → y < f i ∧ ∀ j, j < i → f j ≤ y)
theorem stk_start {u : List Int} {f : Nat → Nat} : StkAt u f 0 [] := ⟨0, 0, Nat.le_refl _, rfl, fun q h1 h2 => by omega, fun h => by omega⟩
theorem stk_round {u : List Int} {f : Nat → Nat} {i : Nat} (hasc : ∀ j q, j < q → q ≤ i + 1 → f j < f q) : StkAt u f (i + 1) (stk u f (f i) (i + 1)) :=
  ⟨i + 1, f i, Nat.le_refl _, rfl, fun q h1 h2 => by omega, fun _ => ⟨hasc i (i + 1) (by omega) (by omega), fun j hj => by
    rcases Nat.lt_or_ge j i with h | h
    · exact Nat.le_of_lt (hasc j i h (by omega))
    · have : j = i := by omega
      rw [this]; exact Nat.le_refl _⟩⟩
theorem stk_pop {u : List Int} {f : Nat → Nat} {i j : Nat} {st : List Nat} (h : StkAt u f i (st ++ [j])) (hj : fin u (f j) ≤ f i) : StkAt u f i st := by
  obtain ⟨k, y, h1, h2, h3, h4⟩ := h
  rcases stk_last u f y k with ⟨e, _⟩ | ⟨q, g1, g2, g3, g4⟩
  · rw [e] at h2; simp at h2
  · rw [g3] at h2
    have := List.append_inj' h2 rfl
    have e1 : j = q := by simpa using this.2
    subst e1
    refine ⟨j, y, by omega, this.1, fun q h5 h6 => ?_, h4⟩
    rcases Nat.eq_or_lt_of_le h5 with e | h7
    · rw [← e]; exact hj
    · rcases Nat.lt_or_ge q k with h8 | h8
      · have := g4 q h7 h8
        have := (h4 (by omega)).1
        omega
      · exact h3 q h8 h6
theorem stk_empty {u : List Int} {f : Nat → Nat} {i : Nat} (h : StkAt u f i []) : pa u f i = -1 := by
  obtain ⟨k, y, h1, h2, h3, h4⟩ := h
  rcases stk_last u f y k with ⟨_, e⟩ | ⟨q, g1, g2, g3, g4⟩
  · refine pl_none fun j hj => ?_
    have hf : fin u (f j) ≤ f i := by
      rcases Nat.lt_or_ge j k with h8 | h8
      · have := e j h8
        have := (h4 (by omega)).1
        omega
      · exact h3 j h8 hj
    cases hb : bel u (f i) (f j)
    · rfl
    · have := (bel_iff.1 hb).2; omega
  · rw [g3] at h2; simp at h2
theorem stk_found {u : List Int} {f : Nat → Nat} {i j : Nat} {st : List Nat} (ht : isTree u = true) (hu : ∀ q, q ≤ i → f q < u.length) (hasc : ∀ j q, j < q → q ≤ i → f j < f q) (h : StkAt u f i (st ++ [j])) (hj : f i < fin u (f j)) :
    j < i ∧ pa u f i = (j : Int) ∧ stk u f (f i) (i + 1) = st ++ [j] ++ [i] := by
  obtain ⟨k, y, h1, h2, h3, h4⟩ := h
  rcases stk_last u f y k with ⟨e, _⟩ | ⟨q, g1, g2, g3, g4⟩
  · rw [e] at h2; simp at h2
  · have h2' := h2
    rw [g3] at h2
    have := List.append_inj' h2 rfl
    have e1 : j = q := by simpa using this.2
    subst e1
    have hji : j < i := by omega
    obtain ⟨y1, y2⟩ := h4 (by omega)
    have hbig : ∀ q, j < q → q < i → fin u (f q) ≤ f i := fun q h7 h6 => by
      rcases Nat.lt_or_ge q k with h8 | h8
      · have := g4 q h7 h8; omega
      · exact h3 q h8 h6
    refine ⟨hji, pl_at hji (bel_iff.2 ⟨Nat.le_of_lt (hasc j i hji (Nat.le_refl _)), hj⟩) (fun q h7 h6 => ?_), ?_⟩
    · cases hb : bel u (f i) (f q)
      · rfl
      · have := (bel_iff.1 hb).2; have := hbig q h7 h6; omega
    · rw [stk_succ, if_pos (fin_gt (hu i (Nat.le_refl _)))]
      congr 1
      rw [h2', g3]
      have hlow : ∀ a, a ≤ j → stk u f (f i) a = stk u f y a := fun a ha => by
        refine List.filter_congr fun b hb => ?_
        have hb := List.mem_range.1 hb
        rw [decide_eq_decide]
        constructor
        · intro h; omega
        · intro h
          have hn := nest ht (hu b (by omega)) (q := f j) (Nat.le_of_lt (hasc b j (by omega) (by omega))) (by have := y2 j hji; omega)
          omega
      have hup : ∀ n, j + n < i → stk u f (f i) (j + 1 + n) = stk u f (f i) (j + 1) := fun n => by
        induction n with
        | zero => intro _; rfl
        | succ n ih =>
          intro hn
          rw [show j + 1 + (n + 1) = (j + 1 + n) + 1 by omega, stk_succ, ih (by omega), if_neg (by have := hbig (j + 1 + n) (by omega) (by omega); omega), List.append_nil]
      have := hup (i - j - 1) (by omega)
      rw [show j + 1 + (i - j - 1) = i by omega] at this
      rw [this, stk_succ, if_pos hj, hlow j (Nat.le_refl _)]
theorem stk_alone {u : List Int} {f : Nat → Nat} (hu : f 0 < u.length) : stk u f (f 0) 1 = [0] := by rw [stk_succ, if_pos (fin_gt hu)]; rfl
theorem stk_lt {u : List Int} {f : Nat → Nat} {i j : Nat} {st : List Nat} (h : StkAt u f i (st ++ [j])) : j < i := by
  obtain ⟨k, y, h1, h2, h3, h4⟩ := h
  have : j ∈ stk u f y k := by rw [← h2]; simp
  have := List.mem_range.1 (List.mem_filter.1 this).1
  omega
theorem stk_most {u : List Int} {f : Nat → Nat} {i : Nat} {st : List Nat} (h : StkAt u f i st) : st.length ≤ i := by
  obtain ⟨k, y, h1, h2, h3, h4⟩ := h
  have := stk_len u f y k
  rw [h2]; omega
end M
end Go.Proofs.Ytmhpobgfgimfcaa

/- The code of a tree and of numbers that have to be its nodes: codeOf and l01Nodes return the same number. -/
namespace Go.Proofs.Ytmhpobgfgimfcaa
open Go.RowKit

set_option maxHeartbeats 1000000 in
theorem codeOf (A An : Option Addr) (xs ns : List Int) (c cn : Nat) (w : World) (hx : xs.length ≤ 1000000000000) (hns : ns.length ≤ 1000) (h : Ints w w.heap.size A xs) (hn : Ints w w.heap.size An ns) (r : Int) (hr : Hid (M.code xs ns = r)) :
    Calls Try.prog 101 #[.agg #[.slice A xs.length c], .slice An ns.length cn] w fun e w' => e = .returned (.int .i64 r) ∧ Below w.heap.size w w' := by
  have hc := implIsTree A xs c (w.alloc (.cells #[.slice A xs.length c] 29)) hx (h.al _)
  cases ht : M.isTree xs
  · rw [ht] at hc
    have HC := Lib.hid hc
    have hr' : r = 1 := by rw [← hr.out]; simp [M.code, ht]
    subst hr'
    clear hc ht hr h hn
    go_enter Try.func101, Try.ntmps101
    go_wp2_with fail
    refine HC.out.mono ?_
    rintro e w1 ⟨rfl, hb⟩
    have hB := btr (bal (b0 w) _) hb
    go_wp2
    go_ret
    exact ⟨rfl, hB⟩
  · rw [ht] at hc
    have HC := Lib.hid hc
    have hr' : Hid (M.codeGo xs.length ns = r) := by show _ = _; rw [← hr.out]; simp [M.code, ht]
    have hlen := (M.tree_len ht).2
    clear hc ht hr
    go_enter Try.func101, Try.ntmps101
    go_wp2_with fail
    refine HC.out.mono ?_
    rintro e w1 ⟨rfl, hb⟩
    have hB := btr (bal (b0 w) _) hb
    have hcell : w1.cell? ⟨w.heap.size, 0, none⟩ = some (.slice A xs.length c) := cell_be (by simp) hb
    have h1 := (hn.al _).be hb
    clear hb h hn HC
    go_wp2
    go_loop [6, 12] (fun _ i => ∃ (k : Nat), k ≤ ns.length ∧ i = .int .i64 k ∧ Hid (M.codeGo xs.length (ns.drop k) = r)) (fun _ i => ns.length - (intOf i).toNat)
    case atStart => exact ⟨0, Nat.zero_le _, rfl, hr'⟩
    case round =>
      obtain ⟨k, hk, rfl, hg⟩ := hrel
      clear hr'
      by_cases hlt : k < ns.length
      · obtain ⟨b, off, v, rfl, hbB, g, hX⟩ := h1.at_ hlt
        clear h1
        by_cases hv0 : v < 0
        · have hs : Hid (r = 2) := hg.out.symm.trans (M.codeGo_hit hX.out (.inl hv0))
          go_wp2
          go_ret
          exact ⟨by rw [hs.out]; rfl, hB⟩
        · have hd0 : decide (v < 0) = false := decide_eq_false hv0
          have hv1 : 0 ≤ v := by omega
          by_cases hv2 : (xs.length : Int) ≤ v
          · have hs : Hid (r = 2) := hg.out.symm.trans (M.codeGo_hit hX.out (.inr hv2))
            clear hv0
            go_wp2
            go_ret
            exact ⟨by rw [hs.out]; rfl, hB⟩
          · have hs : Hid (M.codeGo xs.length (ns.drop (k + 1)) = r) := (M.codeGo_miss hX.out hv1 (by omega)).symm.trans hg.out
            have hd1 : decide ((xs.length : Int) ≤ v) = false := decide_eq_false hv2
            have hv3 : v < (xs.length : Int) := by omega
            clear hv0 hv2
            go_wp2
            go_round
            case rel => exact ⟨k + 1, by omega, by go_num, hs⟩
            case measure => simp [intOf]; omega
      · obtain rfl : k = ns.length := by omega
        have hs := hg.out
        rw [List.drop_length] at hs
        have Hs : Hid (r = 0) := hs.symm
        clear hs hg
        go_wp2
        go_ret
        exact ⟨by rw [Hs.out]; rfl, hB⟩

set_option maxHeartbeats 400000 in
set_option maxRecDepth 100000 in
theorem l01Nodes (A An : Option Addr) (xs ns : List Int) (c cn : Nat) (w : World) (hx : xs.length ≤ 1000000000000) (hns : ns.length ≤ 1000) (h : Ints w w.heap.size A xs) (hn : Ints w w.heap.size An ns) (r : Int) (hr : Hid (M.code xs ns = r)) :
    Calls Try.prog 109 #[.agg #[.slice A xs.length c], .slice An ns.length cn] w fun e w' => e = .returned (.int .i64 r) ∧ Below w.heap.size w w' := by
  have hc := specIs A xs c (w.alloc (.cells #[.slice A xs.length c] 29)) hx (h.al _)
  cases ht : M.isTree xs
  · rw [ht] at hc
    have HC := Lib.hid hc
    have hr' : r = 1 := by rw [← hr.out]; simp [M.code, ht]
    subst hr'
    clear hc ht hr h hn
    go_enter Try.func109, Try.ntmps109
    go_wp2_with fail
    refine HC.out.mono ?_
    rintro e w1 ⟨rfl, hb⟩
    have hB := btr (bal (b0 w) _) hb
    go_wp2
    go_ret
    exact ⟨rfl, hB⟩
  · rw [ht] at hc
    have HC := Lib.hid hc
    have hr' : Hid (M.codeGo xs.length ns = r) := by show _ = _; rw [← hr.out]; simp [M.code, ht]
    have hlen := (M.tree_len ht).2
    clear hc ht hr
    go_enter Try.func109, Try.ntmps109
    go_wp2_with fail
    refine HC.out.mono ?_
    rintro e w1 ⟨rfl, hb⟩
    have hB := btr (bal (b0 w) _) hb
    have hcell : w1.cell? ⟨w.heap.size, 0, none⟩ = some (.slice A xs.length c) := cell_be (by simp) hb
    have HcellA := Lib.hid hcell
    have h1 := (hn.al _).be hb
    clear hb h hn HC
    go_wp2
    clear hcell
    go_loopw [5] (fun i wr => ∃ (k : Nat), k ≤ ns.length ∧ i = .int .i64 k ∧ Hid (M.codeGo xs.length (ns.drop k) = r) ∧ Hid (Below w1.heap.size w1 wr)) (fun i _ => ns.length - (intOf i).toNat)
    case atStart => exact ⟨0, Nat.zero_le _, rfl, hr', b0 w1⟩
    case round =>
      obtain ⟨k, hk, rfl, hg, hbr⟩ := hrel
      clear hr'
      by_cases hlt : k < ns.length
      · obtain ⟨b, off, v, rfl, hbB, g, hX⟩ := (h1.be hbr.out).at_ hlt
        clear h1
        have hki : (k : Int) < (ns.length : Int) := by omega
        have hki0 : (0 : Int) ≤ (k : Int) := by omega
        have hcr := cell_be HcellA.out hbr.out
        have hN : ∀ W, Hid (Below wr.heap.size wr W) → Calls Try.prog 89 #[.agg #[.slice A xs.length c]] W fun e w' => e = .returned (.int .i64 xs.length) ∧ Hid (Below wr.heap.size wr w') := fun W hW =>
          (l01N A xs.length c W).mono fun e w' ⟨he, hb⟩ => ⟨he, btr hW.out hb⟩
        have HN := Lib.hid hN
        clear hN
        obtain ⟨bv, hbv⟩ : ∃ bv, Hid ((decide ((0 : Int) ≤ v) && decide (v ≤ (xs.length : Int) - 1)) = bv) := ⟨_, rfl⟩
        have hkeep : ∀ W, Hid (Below wr.heap.size wr W) → W.cell? ⟨b, off + k, none⟩ = some (.int .i64 v) ∧ W.cell? ⟨w.heap.size, 0, none⟩ = some (.slice A xs.length c) := fun W hW =>
          ⟨(hW.out.cell (p := ⟨b, off + k, none⟩) hbB).trans g, cell_be hcr hW.out⟩
        have HK := Lib.hid hkeep
        clear hkeep
        go_wp2
        have hK0 : Hid (Below wr.heap.size wr wr.drew) := (Below.refl _ _).drew
        have g0 : wr.drew.cell? ⟨b, off + k, none⟩ = some (.int .i64 v) := g
        have hcr0 : wr.drew.cell? ⟨w.heap.size, 0, none⟩ = some (.slice A xs.length c) := hcr
        have hwrap : IntKind.i64.wrap ((xs.length : Int) - 1) = (xs.length : Int) - 1 := IntWalk.i64_in _ (by omega)
        go_region_held3 (fun w' => w'.cell? ⟨b, off + k, none⟩ = some (.int .i64 v) ∧ w'.cell? ⟨w.heap.size, 0, none⟩ = some (.slice A xs.length c) ∧ Hid (Below wr.heap.size wr w')) (first | exact ⟨g0, hcr0, hK0⟩ | exact ⟨(HK.out _ (by assumption)).1, (HK.out _ (by assumption)).2, by assumption⟩) (first | (go_at_call 89; refine (HN.out _ (by assumption)).mono ?_; rintro e w7 ⟨rfl, hb7⟩) | (go_at_call 88; refine (inAny _ _ _ _ bv hbv).mono ?_; rintro e w8 ⟨rfl, rfl⟩))
        clear hwrap g0 hcr0 hK0 HN HK
        have hbw : Hid (Below w1.heap.size w1 w7) := btr hbr.out hb7.out
        cases bv
        · have hs : Hid (r = 2) := hg.out.symm.trans (M.codeGo_hit hX.out (by have := hbv.out; simp at this; omega))
          go_wp2
          go_ret
          exact ⟨by rw [hs.out]; rfl, btr hB hbw.out⟩
        · have hv := hbv.out
          simp only [Bool.and_eq_true, decide_eq_true_eq] at hv
          have hs : Hid (M.codeGo xs.length (ns.drop (k + 1)) = r) := (M.codeGo_miss hX.out hv.1 (by omega)).symm.trans hg.out
          clear hv
          go_wp2
          go_roundw
          case rel => exact ⟨k + 1, by omega, by go_num, hs, hbw⟩
          case measure => simp [intOf]; omega
      · obtain rfl : k = ns.length := by omega
        have hs := hg.out
        rw [List.drop_length] at hs
        have Hs : Hid (r = 0) := hs.symm
        clear hs hg
        go_wp2
        go_ret
        exact ⟨by rw [Hs.out]; rfl, btr hB hbr.out⟩

theorem ints_new (w : World) (cs : Array Value) (zs : List Int) (h : cs.toList = zs.map (Value.int .i64)) : Ints (w.alloc (.cells cs 2)) (w.alloc (.cells cs 2)).heap.size (some ⟨w.heap.size, 0, none⟩) zs := fun _ =>
  ⟨w.heap.size, 0, rfl, by simp, fun j x hx => by
    rw [Nat.zero_add, World.cell?_alloc_new]
    rw [← Array.getElem?_toList, h, List.getElem?_map, hx]
    rfl⟩
end Go.Proofs.Ytmhpobgfgimfcaa

/- IsBelow, the program's and the model's: is a node in the subtree of another one. -/
namespace Go.Proofs.Ytmhpobgfgimfcaa
open Go.RowKit

set_option maxHeartbeats 1000000 in
theorem isIn (A : Option Addr) (xs : List Int) (c : Nat) (v u : Int) (w : World) (hx : xs.length ≤ 24) (hc : xs.length ≤ c) (hc' : c ≤ 9223372036854775807) (hu0 : 0 ≤ u) (hu : u.toNat < xs.length) (hk : Hid (M.ok 1 (xs.drop u.toNat))) (h : Ints w w.heap.size A xs) (b : Bool) (hb : Hid (M.below xs v u = b)) :
    Calls Try.prog 135 #[.slice A xs.length c, .int .i64 v, .int .i64 u] w fun e w' => e = .returned (.bool b) ∧ w = w' := by
  obtain ⟨n, rfl⟩ := Int.eq_ofNat_of_zero_le hu0
  simp only [Int.toNat_natCast] at hu hk
  by_cases hv : (n : Int) ≤ v
  · obtain ⟨S, hS⟩ : ∃ S, Hid (M.span 1 (xs.drop n) = S) := ⟨_, rfl⟩
    have hS2 : S ≤ 24 := by have h1 := M.span_le (xs.drop n) 1; have h2 : (xs.drop n).length ≤ xs.length := by simp
                            have h3 := hS.out; omega
    have hb' : b = decide (v < (n : Int) + (S : Int)) := by rw [← hb.out, ← hS.out]; simp [M.below, hv]
    clear hb
    subst hb'
    go_enter Try.func135, Try.ntmps135
    go_wp2_with (go_at_call 132; refine (sizeAt A xs c n S _ hS hx hc hc' hk h).mono ?_; rintro e w' ⟨rfl, rfl⟩)
    go_ret
    exact ⟨rfl, rfl⟩
  · have hb' : b = false := by rw [← hb.out]; simp [M.below, hv]
    have hd : decide ((n : Int) ≤ v) = false := decide_eq_false hv
    clear hb
    subst hb'
    go_enter Try.func135, Try.ntmps135
    go_wp2
    go_ret
    exact ⟨rfl, rfl⟩

/-- what a function of a tree and two numbers that hands back a bool and a code must do, as F says -/
def GivesBool2 (f : Nat) (F : List Int → Int → Int → Bool × Int) : Prop :=
  ∀ (A : Option Addr) (xs : List Int) (c : Nat) (v u : Int) (w : World), xs.length ≤ 1048576 → xs.length ≤ c ∧ c ≤ 1000000000000 → Ints w w.heap.size A xs →
    Calls Try.prog f #[.agg #[.slice A xs.length c], .int .i64 v, .int .i64 u] w fun e w' => e = .returned (.tuple #[.bool (F xs v u).1, .int .i64 (F xs v u).2]) ∧ Below w.heap.size w w'

end Go.Proofs.Ytmhpobgfgimfcaa

/- append of a whole slice to a row of the call's own. -/
namespace Go.Proofs.Ytmhpobgfgimfcaa
open Go.RowKit

set_option maxRecDepth 100000 in
theorem appendInts {ops : Array Oper} {rest : List Oper} {o : Oper} {a : Act} {Q : Exit → Act → World → Prop} (hgd : o.guard = none) (s x : Operand)
    (ho : o.op = .call { callee := .builtin .append, args := #[s, x], argTypes := #[23, 23] }) (w : World) (B : Nat) (A : Option Addr) (n c : Nat) (zs : List Int) (A2 : Option Addr) (m c2 : Nat) (ys : List Int)
    (hs : a.eval s = .slice A n c) (hx : a.eval x = .slice A2 m c2) (hown : Hid (Own64 w B (.slice A n c) zs)) (hsrc : Hid (Ints w w.heap.size A2 ys)) (hm : Hid (ys.length = m)) (hz : Hid (A2 = none → c2 = 0)) (hB : B ≤ w.heap.size) (hlen : n ≤ 1000000) (hlen2 : m ≤ 1000000)
    (h : ∀ A' c' w', Hid (Own64 w' B (.slice A' (n + m) c') (zs ++ ys)) → Hid (Below B w w') → wpList Try.prog ops Q rest (a.put o.dst (.slice A' (n + m) c')) w') :
    wpList Try.prog ops Q (o :: rest) a w := by
  obtain ⟨i0, hi0, hz0, hz1, hz2⟩ := info_parts info64
  have hown := hown.out
  have hn := own64_len hown
  subst hn
  have hm := hm.out
  subst hm
  rcases A2 with _ | ad
  · have hy : ys = [] := by
      rcases Nat.eq_zero_or_pos ys.length with h0 | h0
      · exact List.eq_nil_of_length_eq_zero h0
      · obtain ⟨_, _, e, _⟩ := hsrc.out h0
        cases e
    subst hy
    have hc2 := hz.out rfl
    subst hc2
    refine wpList_append_own_none hgd s x 23 ho B 2 i0 1 Try.underlying23 hi0 _ zs.length (zs.map (Value.int .i64)) hs hown hx ?_
    have := h A c w (by simpa using Lib.hid hown) (Below.refl _ _)
    simpa using this
  · refine wpList_append_own _ hgd s x 23 ho B 2 i0 (.int .i64 0) 1 8 Try.underlying23 hi0 hz0 hz1 hz2 rfl (by decide) _ zs.length (zs.map (Value.int .i64)) hs hown ad ys.length c2 (ys.map (Value.int .i64)) hx (by simp) ?_ ?_ ?_ ?_ hB ?_
    · intro j u hj
      rw [List.getElem?_map] at hj
      obtain ⟨y, hy, rfl⟩ := Option.map_eq_some_iff.1 hj
      obtain ⟨b, off, e, _, hc⟩ := hsrc.out (by have := (List.getElem?_eq_some_iff.1 hy).1; omega)
      injection e with e
      subst e
      have ha : (⟨b, off, none⟩ : Addr).add j = ⟨b, off + j, none⟩ := by unfold Addr.add; split <;> simp_all
      rw [ha]
      exact hc j y hy
    · intro u hu
      obtain ⟨y, _, rfl⟩ := List.mem_map.1 hu
      rfl
    · unfold maxLen; omega
    · omega
    · intro v' w1 hown1 hg1 _
      obtain ⟨A', c', rfl⟩ : ∃ A' c', v' = .slice A' (zs.length + ys.length) c' := own_shape hown1
      refine h A' c' w1 ?_ ?_
      · show Own64 _ _ _ _
        unfold Own64
        rw [List.length_append, List.map_append]
        exact hown1
      · exact (Below.refl B w).grown hg1 hB (fun k hk => (hown.lt k hk).1)

theorem own64_z {w : World} {B n c : Nat} {A : Option Addr} {zs : List Int} (h : Own64 w B (.slice A n c) zs) : A = none → c = 0 := by
  intro e
  subst e
  rcases h.2 with ⟨h1, _⟩ | ⟨g, cap, cur, hv, _⟩
  · injection h1
  · cases hv

set_option maxRecDepth 100000 in
/-- the same at a step of a region that draws its order -/
theorem stepInts {ops : Array Oper} {o : Oper} {a : Act} {K : Act → World → Prop} {Q : Exit → Act → World → Prop} {E : Prop} (hgd : o.guard = none) (s x : Operand)
    (ho : o.op = .call { callee := .builtin .append, args := #[s, x], argTypes := #[23, 23] }) (w : World) (B : Nat) (A : Option Addr) (n c : Nat) (zs : List Int) (A2 : Option Addr) (m c2 : Nat) (ys : List Int)
    (hs : a.eval s = .slice A n c) (hx : a.eval x = .slice A2 m c2) (hown : Hid (Own64 w B (.slice A n c) zs)) (hsrc : Hid (Ints w w.heap.size A2 ys)) (hm : Hid (ys.length = m)) (hz : Hid (A2 = none → c2 = 0)) (hB : B ≤ w.heap.size) (hlen : n ≤ 1000000) (hlen2 : m ≤ 1000000)
    (h : ∀ A' c' w', Hid (Own64 w' B (.slice A' (n + m) c') (zs ++ ys)) → Hid (Below B w w') → K (a.put o.dst (.slice A' (n + m) c')) w') :
    if Region.wanted o (yielded ops a.tmps) = true then Oper.wp Try.prog o a w K Q else E := by
  have hw : Region.wanted o (yielded ops a.tmps) = true := by simp [Region.wanted, hgd]
  rw [if_pos hw]
  obtain ⟨i0, hi0, hz0, hz1, hz2⟩ := info_parts info64
  have hown := hown.out
  have hn := own64_len hown
  subst hn
  have hm := hm.out
  subst hm
  rcases A2 with _ | ad
  · have hy : ys = [] := by
      rcases Nat.eq_zero_or_pos ys.length with h0 | h0
      · exact List.eq_nil_of_length_eq_zero h0
      · obtain ⟨_, _, e, _⟩ := hsrc.out h0
        cases e
    subst hy
    have hc2 := hz.out rfl
    subst hc2
    have hrun := run_append_owned_none (P := Try.prog) (w := w) B 23 o.type 2 i0 1 Try.underlying23 hi0 _ zs.length (zs.map (Value.int .i64)) hown
    have := h A c w (by simpa using Lib.hid hown) (Below.refl _ _)
    simp only [List.length_nil] at hx
    unfold Oper.wp execOp
    simp only [ho, resolve, invoke, builtin, Sem.run_bind, Sem.run_pure, Result.andThen_ok, List.map_toArray, List.map_cons, List.map_nil, hs, hx, hrun]
    exact this
  · obtain ⟨v', w1, hr, hown1, hg1, _⟩ := run_append_own (P := Try.prog) (w := w) B 23 o.type 2 i0 (.int .i64 0) 1 8 Try.underlying23 hi0 hz0 hz1 hz2 rfl (by decide) _ zs.length (zs.map (Value.int .i64)) hown ad ys.length c2 (ys.map (Value.int .i64)) (by simp)
      (by
        intro j u hj
        rw [List.getElem?_map] at hj
        obtain ⟨y, hy, rfl⟩ := Option.map_eq_some_iff.1 hj
        obtain ⟨b, off, e, _, hc⟩ := hsrc.out (by have := (List.getElem?_eq_some_iff.1 hy).1; omega)
        injection e with e
        subst e
        have ha : (⟨b, off, none⟩ : Addr).add j = ⟨b, off + j, none⟩ := by unfold Addr.add; split <;> simp_all
        rw [ha]
        exact hc j y hy)
      (by
        intro u hu
        obtain ⟨y, _, rfl⟩ := List.mem_map.1 hu
        rfl) (by unfold maxLen; omega) (by omega) hB
    obtain ⟨A', c', rfl⟩ : ∃ A' c', v' = .slice A' (zs.length + ys.length) c' := own_shape hown1
    have := h A' c' w1 (by
        show Own64 _ _ _ _
        unfold Own64
        rw [List.length_append, List.map_append]
        exact hown1) ((Below.refl B w).grown hg1 hB (fun k hk => (hown.lt k hk).1))
    unfold Oper.wp execOp
    simp only [ho, resolve, invoke, builtin, Sem.run_bind, Sem.run_pure, Result.andThen_ok, List.map_toArray, List.map_cons, List.map_nil, hs, hx, hr]
    exact this
end Go.Proofs.Ytmhpobgfgimfcaa

/- copies of slices: l01Own, slices.Clone, l01Make. -/
namespace Go.Proofs.Ytmhpobgfgimfcaa
open Go.RowKit

set_option maxHeartbeats 400000 in
theorem l01Own (A : Option Addr) (xs : List Int) (m c : Nat) (w : World) (hm : Hid (xs.length = m)) (hx : m ≤ 1000000) (hz : Hid (A = none → c = 0)) (h : Hid (Ints w w.heap.size A xs)) :
    Calls Try.prog 124 #[.slice A m c] w fun e w' => ∃ A' c', e = .returned (.slice A' m c') ∧ Own64 w' w.heap.size (.slice A' m c') xs ∧ Below w.heap.size w w' := by
  have hs : Hid (Own64 (w.alloc (.cells #[] 2)) w.heap.size (.slice (some ⟨w.heap.size, 0, none⟩) 0 0) []) := own64_empty (Nat.le_refl _)
  have hi : Hid (Ints (w.alloc (.cells #[] 2)) (w.alloc (.cells #[] 2)).heap.size A xs) := h.out.al _
  have hB : w.heap.size ≤ (w.alloc (.cells #[] 2)).heap.size := by simp
  go_enter Try.func124, Try.ntmps124
  go_wp2_with (at_builtin; refine appendInts rfl (.tmp 3) (.tmp 4) rfl _ w.heap.size (some ⟨w.heap.size, 0, none⟩) 0 0 [] A m c xs rfl rfl hs hi hm hz hB (Nat.zero_le _) hx ?_; intro A2 c2 w2 ho2 hb2)
  go_ret
  exact ⟨A2, c2, by simp, by have := ho2.out; simpa using this, ((Below.refl _ _).alloc (Nat.le_refl _) _).trans hb2.out⟩

set_option maxHeartbeats 400000 in
set_option maxRecDepth 100000 in
theorem clone (ad : Addr) (xs : List Int) (m c : Nat) (w : World) (hm : Hid (xs.length = m)) (hx : m ≤ 1000000) (h : Hid (Ints w w.heap.size (some ad) xs)) :
    Calls Try.prog 98 #[.slice (some ad) m c] w fun e w' => ∃ A' c', e = .returned (.slice A' m c') ∧ Own64 w' w.heap.size (.slice A' m c') xs ∧ Below w.heap.size w w' := by
  have hs : Hid (Own64 (w.alloc (.cells #[] 2)) w.heap.size (.slice (some ⟨w.heap.size, 0, none⟩) 0 0) []) := own64_empty (Nat.le_refl _)
  have hi : Hid (Ints (w.alloc (.cells #[] 2)) (w.alloc (.cells #[] 2)).heap.size (some ad) xs) := h.out.al _
  have hB : w.heap.size ≤ (w.alloc (.cells #[] 2)).heap.size := by simp
  have hz : Hid ((some ad : Option Addr) = none → c = 0) := fun e => by cases e
  have heq := fun W => Lib.run_eql_slice_nil (P := Try.prog) W 23 2 (some ad) m c 0 0 Try.underlying23
  go_enter Try.func98, Try.ntmps98
  go_wp2_with (at_builtin; refine appendInts rfl (.tmp 5) (.tmp 6) rfl _ w.heap.size (some ⟨w.heap.size, 0, none⟩) 0 0 [] (some ad) m c xs rfl rfl hs hi hm hz hB (Nat.zero_le _) hx ?_; intro A2 c2 w2 ho2 hb2)
  go_ret
  exact ⟨A2, c2, by simp, by have := ho2.out; simpa using this, ((Below.refl _ _).alloc (Nat.le_refl _) _).trans hb2.out⟩

set_option maxHeartbeats 400000 in
theorem l01Make (A : Option Addr) (xs : List Int) (m c : Nat) (w : World) (hm : Hid (xs.length = m)) (hx : m ≤ 1000000) (hz : Hid (A = none → c = 0)) (h : Hid (Ints w w.heap.size A xs)) :
    Calls Try.prog 111 #[.slice A m c] w fun e w' => ∃ A' c', e = .returned (.agg #[.slice A' m c']) ∧ Own64 w' w.heap.size (.slice A' m c') xs ∧ Below w.heap.size w w' := by
  go_enter Try.func111, Try.ntmps111
  go_wp2_with fail
  refine (l01Own A xs m c _ hm hx hz (h.out.al _)).mono ?_
  rintro e w1 ⟨A', c', rfl, ho, hb⟩
  obtain ⟨hc, hf⟩ := bcell hb
  have hB := btr (bal (b0 w) _) hb
  have Ho := Lib.hid (own_mono (base' := w.heap.size + 1) ho (by simp))
  clear ho
  go_wp2
  refine bodyPost_ret (v := .agg #[.slice A' m c']) (by simp [results, Try.results111, go_sem, hc]) rfl ?_
  exact ⟨A', c', rfl, own_mono (own_far Ho.out (Nat.lt_succ_self _) _) (Nat.le_succ _), below_setCell hB (Nat.le_refl _) _⟩
end Go.Proofs.Ytmhpobgfgimfcaa

/- What functions of a tree, or of numbers, must do, as F says. -/
namespace Go.Proofs.Ytmhpobgfgimfcaa
open Go.RowKit

/-- a tree to a tree and a code -/
def GivesTree (f : Nat) (F : List Int → List Int × Int) : Prop :=
  ∀ (A : Option Addr) (xs : List Int) (c : Nat) (w : World), xs.length ≤ 1048576 → xs.length ≤ c ∧ c ≤ 1000000000000 → Ints w w.heap.size A xs →
    Calls Try.prog f #[.agg #[.slice A xs.length c]] w fun e w' => ∃ A' c', e = .returned (.tuple #[.agg #[.slice A' (F xs).1.length c'], .int .i64 (F xs).2]) ∧
      Own64 w' w.heap.size (.slice A' (F xs).1.length c') (F xs).1 ∧ Below w.heap.size w w'
/-- a tree to a number and a code -/
def GivesNum (f : Nat) (F : List Int → Int × Int) : Prop :=
  ∀ (A : Option Addr) (xs : List Int) (c : Nat) (w : World), xs.length ≤ 1048576 → xs.length ≤ c ∧ c ≤ 1000000000000 → Ints w w.heap.size A xs →
    Calls Try.prog f #[.agg #[.slice A xs.length c]] w fun e w' => e = .returned (.tuple #[.int .i64 (F xs).1, .int .i64 (F xs).2]) ∧ Below w.heap.size w w'
/-- what a function of a tree that hands back a text and a code must do, as F says -/
def GivesText (f : Nat) (F : List Int → ByteArray × Int) : Prop :=
  ∀ (A : Option Addr) (xs : List Int) (c : Nat) (w : World), xs.length ≤ 1048576 → xs.length ≤ c ∧ c ≤ 1000000000000 → Ints w w.heap.size A xs →
    Calls Try.prog f #[.agg #[.slice A xs.length c]] w fun e w' => e = .returned (.tuple #[.string (F xs).1, .int .i64 (F xs).2]) ∧ Below w.heap.size w w'
/-- a number to a tree and a code -/
def GivesTreeN1 (f : Nat) (F : Int → List Int × Int) : Prop :=
  ∀ (n : Int) (w : World), -9223372036854775808 ≤ n → n ≤ 9223372036854775807 →
    Calls Try.prog f #[.int .i64 n] w fun e w' => ∃ A' c', e = .returned (.tuple #[.agg #[.slice A' (F n).1.length c'], .int .i64 (F n).2]) ∧ Own64 w' w.heap.size (.slice A' (F n).1.length c') (F n).1 ∧ Below w.heap.size w w'
/-- two numbers to a tree and a code -/
def GivesTreeN2 (f : Nat) (F : Int → Int → List Int × Int) : Prop :=
  ∀ (n r : Int) (w : World), -9223372036854775808 ≤ n → n ≤ 9223372036854775807 → -9223372036854775808 ≤ r → r ≤ 9223372036854775807 →
    Calls Try.prog f #[.int .i64 n, .int .i64 r] w fun e w' => ∃ A' c', e = .returned (.tuple #[.agg #[.slice A' (F n r).1.length c'], .int .i64 (F n r).2]) ∧ Own64 w' w.heap.size (.slice A' (F n r).1.length c') (F n r).1 ∧ Below w.heap.size w w'
/-- a number to a number and a code -/
def GivesNumN1 (f : Nat) (F : Int → Int × Int) : Prop :=
  ∀ (n : Int) (w : World), -9223372036854775808 ≤ n → n ≤ 9223372036854775807 →
    Calls Try.prog f #[.int .i64 n] w fun e w' => e = .returned (.tuple #[.int .i64 (F n).1, .int .i64 (F n).2]) ∧ Below w.heap.size w w'
/-- two numbers to a number and a code -/
def GivesNumN2 (f : Nat) (F : Int → Int → Int × Int) : Prop :=
  ∀ (n r : Int) (w : World), -9223372036854775808 ≤ n → n ≤ 9223372036854775807 → -9223372036854775808 ≤ r → r ≤ 9223372036854775807 →
    Calls Try.prog f #[.int .i64 n, .int .i64 r] w fun e w' => e = .returned (.tuple #[.int .i64 (F n r).1, .int .i64 (F n r).2]) ∧ Below w.heap.size w w'
/-- numbers of a list to a number and a code -/
def GivesNumI (f : Nat) (F : List Int → Int × Int) : Prop :=
  ∀ (A : Option Addr) (xs : List Int) (c : Nat) (w : World), xs.length ≤ 1048576 → xs.length ≤ c ∧ c ≤ 1000000000000 → Ints w w.heap.size A xs → (∀ x ∈ xs, -9223372036854775808 ≤ x ∧ x ≤ 9223372036854775807) →
    Calls Try.prog f #[.slice A xs.length c] w fun e w' => e = .returned (.tuple #[.int .i64 (F xs).1, .int .i64 (F xs).2]) ∧ Below w.heap.size w w'
/-- what a function of a tree and a number that hands back a tree and a code must do, as F says -/
def GivesTree1 (f : Nat) (F : List Int → Int → List Int × Int) : Prop :=
  ∀ (A : Option Addr) (xs : List Int) (c : Nat) (v : Int) (w : World), xs.length ≤ 1048576 → xs.length ≤ c ∧ c ≤ 1000000000000 → Ints w w.heap.size A xs →
    Calls Try.prog f #[.agg #[.slice A xs.length c], .int .i64 v] w fun e w' => ∃ A' c', e = .returned (.tuple #[.agg #[.slice A' (F xs v).1.length c'], .int .i64 (F xs v).2]) ∧
      Own64 w' w.heap.size (.slice A' (F xs v).1.length c') (F xs v).1 ∧ Below w.heap.size w w'
/-- what a function of a tree and a number that hands back a list and a code must do, as F says -/
def GivesList1 (f : Nat) (F : List Int → Int → List Int × Int) : Prop :=
  ∀ (A : Option Addr) (xs : List Int) (c : Nat) (v : Int) (w : World), xs.length ≤ 1048576 → xs.length ≤ c ∧ c ≤ 1000000000000 → Ints w w.heap.size A xs →
    Calls Try.prog f #[.agg #[.slice A xs.length c], .int .i64 v] w fun e w' => ∃ A' c', e = .returned (.tuple #[.slice A' (F xs v).1.length c', .int .i64 (F xs v).2]) ∧
      Own64 w' w.heap.size (.slice A' (F xs v).1.length c') (F xs v).1 ∧ Below w.heap.size w w'
end Go.Proofs.Ytmhpobgfgimfcaa

/- appendFirst: the first list of so many trees, appended; tests of ranges. -/
namespace Go.Proofs.Ytmhpobgfgimfcaa
open Go.RowKit

namespace M
def firstTo (m t i : Nat) : List Int := (List.range m).map fun j => if t ≤ j + 1 ∧ j < i then 1 else 0
/-- so many trees of so many nodes together, the first list: all but the last one are single nodes, and the last one is a path -/
def firstL (m t : Nat) : List Int := firstTo m t (m - 1)
theorem firstTo_len (m t i : Nat) : (firstTo m t i).length = m := by simp [firstTo]
theorem firstL_len (m t : Nat) : (firstL m t).length = m := firstTo_len _ _ _
theorem firstTo_start (m t : Nat) (ht : 1 ≤ t) : firstTo m t (t - 1) = List.replicate m 0 := by
  apply List.ext_getElem?
  intro j
  simp only [firstTo, List.getElem?_map, List.getElem?_replicate]
  by_cases hj : j < m
  · rw [List.getElem?_range hj, if_pos hj]
    simp only [Option.map_some]
    rw [if_neg (by omega)]
  · rw [List.getElem?_eq_none (by simp; omega), if_neg hj]; rfl
theorem firstTo_step (m t i : Nat) (h1 : t ≤ i + 1) : (firstTo m t i).set i 1 = firstTo m t (i + 1) := by
  apply List.ext_getElem?
  intro j
  by_cases hj : j < m
  · by_cases hji : i = j
    · subst hji
      rw [List.getElem?_set_self (by rw [firstTo_len]; exact hj)]
      simp only [firstTo, List.getElem?_map]
      rw [List.getElem?_range hj]
      simp only [Option.map_some]
      rw [if_pos (by omega)]
    · rw [List.getElem?_set_ne hji]
      simp only [firstTo, List.getElem?_map]
      rw [List.getElem?_range hj]
      simp only [Option.map_some]
      congr 1
      by_cases h3 : t ≤ j + 1 ∧ j < i
      · rw [if_pos h3, if_pos (by omega)]
      · rw [if_neg h3, if_neg (by omega)]
  · rw [List.getElem?_eq_none (by simp [firstTo_len]; omega), List.getElem?_eq_none (by rw [firstTo_len]; omega)]
theorem firstTo_end {m t i : Nat} (h1 : t ≤ i + 1) (h2 : m ≤ i + 1) (h3 : i < m ∨ i = t - 1) (ht : 1 ≤ t) : firstTo m t i = firstL m t := by
  rcases Nat.lt_or_ge i m with h4 | h4
  · obtain rfl : i = m - 1 := by omega
    rfl
  · have e : i = t - 1 := by omega
    subst e
    rw [firstTo_start m t ht]
    apply List.ext_getElem?
    intro j
    simp only [firstL, firstTo, List.getElem?_map, List.getElem?_replicate]
    by_cases hj : j < m
    · rw [List.getElem?_range hj, if_pos hj]
      simp only [Option.map_some]
      rw [if_neg (by omega)]
    · rw [List.getElem?_eq_none (by simp; omega), if_neg hj]; rfl
theorem firstTo_at {m t i : Nat} (h : i < m) : ∃ y, (firstTo m t i)[i]? = some y := ⟨_, List.getElem?_eq_getElem (by rw [firstTo_len]; exact h)⟩
end M

theorem withinAny (n lo hi : Int) (w : World) (b : Bool) (hb : Hid ((decide (lo ≤ n) && decide (n ≤ hi)) = b)) :
    Calls Try.prog 117 #[.int .i64 n, .int .i64 lo, .int .i64 hi] w fun e w' => e = .returned (.bool b) ∧ w = w' := by
  by_cases h : lo ≤ n
  · have hb' : b = decide (n ≤ hi) := by rw [← hb.out]; simp [h]
    clear hb
    subst hb'
    go_enter Try.func117, Try.ntmps117
    go_wp2
    go_ret
    exact ⟨rfl, rfl⟩
  · have hb' : b = false := by rw [← hb.out]; simp; intro h'; exact absurd h' h
    have hd : decide (lo ≤ n) = false := decide_eq_false h
    clear hb
    subst hb'
    go_enter Try.func117, Try.ntmps117
    go_wp2
    go_ret
    exact ⟨rfl, rfl⟩

set_option maxRecDepth 100000 in
set_option maxHeartbeats 1000000 in
theorem appendFirst (A : Option Addr) (n c : Nat) (zs : List Int) (m t : Nat) (w : World) (B : Nat) (hm1 : 1 ≤ m) (hm : m ≤ 24) (ht1 : 1 ≤ t) (ht : t ≤ 100) (hn : n ≤ 1000) (hown : Hid (Own64 w B (.slice A n c) zs)) (hB : B ≤ w.heap.size) :
    Calls Try.prog 119 #[.slice A n c, .int .i64 m, .int .i64 t] w fun e w' => ∃ A' c', e = .returned (.slice A' (n + m) c') ∧ Own64 w' B (.slice A' (n + m) c') (zs ++ M.firstL m t) ∧ Below B w w' := by
  have hmk := run_make_row' (P := Try.prog) 23 2 (.int .i64 0) 8 Try.underlying23 info64 rfl .i64 .i64 m (by omega) (by omega)
  have ht2 : Hid (Two (w.alloc (.cells (madeCells #[.int .i64 0] m) 2)) B (.slice (some ⟨w.heap.size, 0, none⟩) m m) (.slice A n c) (M.firstTo m t (t - 1)) zs) := by
    rw [M.firstTo_start m t ht1]
    exact ⟨own_mono (own64_made (w := w) (B := w.heap.size) (n := m) (Nat.le_refl _) (by unfold maxLen; omega)) hB, hown.out.alloc _, fun b e e2 => by
      have e1 : b = w.heap.size := by injection e with e; exact e.symm
      have := (World.ownsRow.lt hown.out b e2).2
      omega⟩
  have hb0 : Hid (Below B w (w.alloc (.cells (madeCells #[.int .i64 0] m) 2))) := (Below.refl _ _).alloc hB _
  clear hown
  go_enter Try.func119, Try.ntmps119
  go_wp2
  clear hmk
  go_loopw [8] (fun i wr => ∃ (k : Nat), t ≤ k + 1 ∧ (k < m ∨ k = t - 1) ∧ i = .int .i64 k ∧ Hid (Two wr B (.slice (some ⟨w.heap.size, 0, none⟩) m m) (.slice A n c) (M.firstTo m t k) zs) ∧ Hid (Below B w wr)) (fun i _ => 200 - (intOf i).toNat)
  case atStart => exact ⟨t - 1, by omega, .inr rfl, by go_num, ht2, hb0⟩
  case round =>
    obtain ⟨k, hk1, hk2, rfl, ho, hbr⟩ := hrel
    clear ht2 hb0
    by_cases hlt : k + 1 < m
    · obtain ⟨y, hy⟩ := M.firstTo_at (m := m) (t := t) (i := k) (by omega)
      obtain ⟨c1, c2, _, _⟩ := own64_cell ho.out.1 (M.firstTo_len _ _ _) hy
      have hset := ho.out.set (M.firstTo_len _ _ _) k 1
      rw [M.firstTo_step m t k hk1] at hset
      have hset := Lib.hid hset
      have hlt2 : (k : Int) < (m : Int) - 1 := by omega
      clear hy ho
      go_wp2
      go_roundw
      case rel => exact ⟨k + 1, by omega, .inl (by omega), by go_num, hset, below_setCell hbr.out hB _⟩
      case measure => simp [intOf]; omega
    · have he := Lib.hid (M.firstTo_end (m := m) (t := t) (i := k) hk1 (by omega) hk2 ht1)
      have hge : ¬ (k : Int) < (m : Int) - 1 := by omega
      have hO := Lib.hid ho.out.2.1
      have hI : Hid (Ints wr wr.heap.size (some ⟨w.heap.size, 0, none⟩) (M.firstTo m t k)) := ints_of_own64 ho.out.1
      have hml : Hid ((M.firstTo m t k).length = m) := M.firstTo_len _ _ _
      have hz : Hid ((some ⟨w.heap.size, 0, none⟩ : Option Addr) = none → m = 0) := fun e => by cases e
      have hBr : B ≤ wr.heap.size := Nat.le_trans hB hbr.out.size
      have hn' : n ≤ 1000000 := by omega
      have hm' : m ≤ 1000000 := by omega
      go_wp2_with (at_builtin; refine appendInts rfl (.tmp 22) (.tmp 23) rfl wr B A n c zs (some ⟨w.heap.size, 0, none⟩) m m (M.firstTo m t k) rfl rfl hO hI hml hz hBr hn' hm' ?_; intro A2 c2 w2 ho2 hb2)
      go_ret
      exact ⟨A2, c2, rfl, by rw [← he.out]; exact ho2.out, hbr.out.trans hb2.out⟩
end Go.Proofs.Ytmhpobgfgimfcaa

/- parentsIn: the program's row of parents: a range over a function inside a loop. -/
namespace Go.Proofs.Ytmhpobgfgimfcaa
open Go.RowKit Go.Shelf
attribute [local go_sem] Oper.semAt_some

/-- the marks that the rounds' loops have left on the activation: the newest first -/
def Marks (B : Nat) (W : World) : Nat → List Deferred → Prop
  | _, [] => True
  | hi, d :: ds => ∃ D, d = { target := .collected D, args := #[] } ∧ D < hi ∧ B ≤ D ∧ W.heap[D]? = some (.deferred (some [])) ∧ Marks B W D ds
theorem Marks.keep {B : Nat} {W W' : World} : ∀ {ds : List Deferred} {hi : Nat}, Marks B W hi ds → (∀ D, B ≤ D → D < hi → W.heap[D]? = some (.deferred (some [])) → W'.heap[D]? = W.heap[D]?) → Marks B W' hi ds := by
  intro ds
  induction ds with
  | nil => intro hi _ _; trivial
  | cons d ds ih =>
    intro hi ⟨D, e, h1, h2, h3, h4⟩ hk
    exact ⟨D, e, h1, h2, (hk D h2 h1 h3).trans h3, ih h4 fun D' h5 h6 h7 => hk D' h5 (by omega) h7⟩
theorem Marks.mono {B : Nat} {W : World} {ds : List Deferred} {hi hi' : Nat} (h : Marks B W hi ds) (hl : hi ≤ hi') : Marks B W hi' ds := by
  cases ds with
  | nil => trivial
  | cons d ds => obtain ⟨D, e, h1, h2⟩ := h; exact ⟨D, e, by omega, h2⟩
theorem leaves_marks {B : Nat} {F : Fence} {n : Nat} {P : Program} {fn : Func} {tmps : Array Value} {R : Ending → World → Prop} (Pp : World → Prop)
    (hP : ∀ W D, B ≤ D → W.heap[D]? = some (.deferred (some [])) → Pp W → Pp (W.putObj D (.deferred none))) (hend : ∀ W, Pp W → LeavesIn F n P fn tmps R [] .returning W) :
    ∀ (ds : List Deferred) (hi : Nat) (W : World), Marks B W hi ds → Pp W → LeavesInM F n P fn tmps R ds .returning W := by
  intro ds
  induction ds with
  | nil => intro hi W _ h; exact hend W h
  | cons d ds ih =>
    intro hi W ⟨D, e, h1, h2, h3, h4⟩ h
    subst e
    refine ⟨by simp, .inl ⟨_, _, rfl, run_takeDeferred h3, ?_⟩⟩
    refine ih D _ (h4.keep fun D' h5 h6 h7 => ?_) (hP W D h2 h3 h)
    exact (grownBy_putObj' W D _).block D' (Array.getElem?_eq_some_iff.1 h7).1 (fun e => by cases e; omega)

/-- the child at a place, and a node within the list where there is no such place -/
def kidOr (xs : List Int) (v d x : Nat) : Nat := if x < d then M.kidAt xs v x else v

set_option maxRecDepth 100000 in
set_option maxHeartbeats 4000000 in
theorem parentsIn_in (A : Option Addr) (xs : List Int) (c : Nat) (w : World) (hcl : xs.length ≤ c) (hcu : c ≤ 1000000000000) (ht : Hid (M.isTree xs = true)) (hI : Ints w w.heap.size A xs) :
    CallsIn Fence.wide 5 Try.prog 92 #[.slice A xs.length c] w fun e w' => ∃ A' c' ps, e = .returned (.slice A' xs.length c') ∧ Hid (M.ParsOK xs ps) ∧ Own64 w' w.heap.size (.slice A' xs.length c') ps ∧ Below w.heap.size w w' := by
  have hlen := M.tree_len ht.out
  have hx := hlen.2
  have hpos : 0 < xs.length := by omega
  have hmk := run_make_row' (P := Try.prog) 23 2 (.int .i64 0) 8 Try.underlying23 info64 rfl .i64 .i64 xs.length (by omega) (by omega)
  have Hstart := Lib.hid (own64_made (w := w) (B := w.heap.size) (n := xs.length) (Nat.le_refl _) (by unfold maxLen; omega))
  obtain ⟨c1, c2, _, _⟩ := own64_cell Hstart.out (by simp) (k := 0) (x := 0) (by simp [hpos])
  have c3 := cell_al c1 (.cells #[.slice (some ⟨w.heap.size, 0, none⟩) xs.length xs.length] 23)
  have ho0 := Lib.hid (own64_made_set (w := w) (B := w.heap.size) (n := xs.length) (Nat.le_refl _) (by unfold maxLen; omega) (-1))
  have hp0 := Lib.hid (M.partP_start ht.out)
  have bR := Lib.hid (Boxed.new (w.alloc (.cells ((madeCells #[.int .i64 0] xs.length).setIfInBounds 0 (.int .i64 (-1))) 2)) 23 (.slice (some ⟨w.heap.size, 0, none⟩) xs.length xs.length))
  have hB0 := Lib.hid (bal (bal (b0 w) (.cells ((madeCells #[.int .i64 0] xs.length).setIfInBounds 0 (.int .i64 (-1))) 2)) (.cells #[.slice (some ⟨w.heap.size, 0, none⟩) xs.length xs.length] 23))
  refine callsIn_of_wp_marks Try.func92 rfl trivial ?_ rfl
  simp only [Try.ntmps92, List.size_toArray, List.length_cons, List.length_nil, Nat.reduceAdd, Nat.reduceSub, Array.replicate_succ, Array.replicate_zero, List.push_toArray, List.append_toArray, List.nil_append, List.cons_append]
  gi_wp2
  clear hmk c1 c2 c3
  refine wpIn_loop (fun a' wr => ∃ (k : Nat) (ps : List Int) (u4 u15 u16 u17 u18 u19 u26 : Value) (ds : List Deferred), (k ≤ xs.length ∧ Hid (M.PartP xs k 0 ps) ∧ Hid (Own64 wr w.heap.size (.slice (some ⟨w.heap.size, 0, none⟩) xs.length xs.length) ps) ∧
      Hid (Boxed wr (w.heap.size + 1) 23 (.slice (some ⟨w.heap.size, 0, none⟩) xs.length xs.length)) ∧ Hid (Below w.heap.size w wr) ∧ Hid (Marks (w.heap.size + 2) wr wr.heap.size ds)) ∧
      a' = { tmps := #[.slice A xs.length c, undef, .slice none 0 0, .pointer (some ⟨w.heap.size + 1, 0, none⟩), u4, undef, undef, .slice A xs.length c, .int .i64 xs.length, .slice (some ⟨w.heap.size, 0, none⟩) xs.length xs.length, .slice (some ⟨w.heap.size, 0, none⟩) xs.length xs.length,
        .pointer (some ⟨w.heap.size, 0, none⟩), .slice A xs.length c, .int .i64 xs.length, .int .i64 k, u15, u16, u17, u18, u19, undef, undef, undef, undef, undef, undef, u26, undef], defers := ds })
    (fun a' _ => xs.length - (intOf (a'.tmps.getD 14 undef)).toNat) ?_ ?_
  · exact ⟨0, _, _, _, _, _, _, _, _, [], ⟨Nat.zero_le _, hp0, own_be ho0.out ((Below.refl _ _).alloc (Nat.le_refl _) _), Lib.hid (by simpa using bR.out), hB0, trivial⟩, rfl⟩
  · rintro _ wr ⟨k, ps, u4, u15, u16, u17, u18, u19, u26, ds, ⟨hk, hp, ho, hbx, hbr, hmks⟩, rfl⟩
    clear hp0 ho0 bR hB0 Hstart
    by_cases hlt : k < xs.length
    · obtain ⟨d, hd, hd2⟩ := M.tree_degN ht.out hlt
      have Hd := Lib.hid hd
      gi_wp2_with (refine ⟨trivial, ?_⟩; gi_at_call 114; refine (eachIn 4 A xs.length c k _).mono ?_; rintro e w' ⟨rfl, rfl⟩)
      have bV := Boxed.new wr 2 (.int .i64 k)
      have bD := Boxed.new (wr.alloc (.cells #[.int .i64 k] 2)) 23 (.slice A xs.length c)
      have bW := Boxed.new ((wr.alloc (.cells #[.int .i64 k] 2)).alloc (.cells #[.slice A xs.length c] 23)) 2 (.int .i64 k)
      simp only [World.size_alloc] at bD bW
      have hz1 := hbr.out.size
      have hz2 := hbx.out.lt
      have hB0 := bal (bal (bal hbr.out (.cells #[.int .i64 k] 2)) (.cells #[.slice A xs.length c] 23)) (.cells #[.int .i64 k] 2)
      have hKb := KeepK.b (n₀ := w.heap.size) (Bd := wr.heap.size + 1) (w := ((wr.alloc (.cells #[.int .i64 k] 2)).alloc (.cells #[.slice A xs.length c] 23)).alloc (.cells #[.int .i64 k] 2)) (by simp; omega) (by simp)
      have h15 : 1 ≤ 5 := by omega
      have hK : ∀ x, kidOr xs k d x < xs.length := fun x => by
        unfold kidOr
        split
        · exact M.kid_lt ht.out Hd.out (by omega)
        · exact hlt
      refine wpIn_rangeFunc_ownG (α := Nat) rfl h15 (gf := 131) (lb := #[.pointer (some ⟨wr.heap.size + 2, 0, none⟩), .pointer (some ⟨wr.heap.size + 1, 0, none⟩)]) rfl trivial (enters_of Try.func131 (by kernel_rfl) rfl)
        (each_stopsF (fun i => i) (fun x => #[.int .i64 (x : Int), .int .i64 (kidOr xs k d x : Int)]) 4 (by omega) (wr.heap.size + 2) (wr.heap.size + 1) w.heap.size A xs c k d hx hcl (by omega) ht Hd (fun i hi => by simp [kidOr, hi]) _ bW.cell (bD.alloc _) (hI.below hB0 (Nat.le_refl _)) (by simp; omega)) (fun h k => h.t k) hKb (Below.refl _ _) (fun _ => rfl)
        (fun pre W => ∃ ps, (ps.length = xs.length ∧ (pre = List.range pre.length → pre.length ≤ d → M.PartP xs k pre.length ps)) ∧ Own64 W w.heap.size (.slice (some ⟨w.heap.size, 0, none⟩) xs.length xs.length) ps ∧
          Boxed W (w.heap.size + 1) 23 (.slice (some ⟨w.heap.size, 0, none⟩) xs.length xs.length) ∧ Boxed W wr.heap.size 2 (.int .i64 k) ∧ Below w.heap.size w W ∧ Marks (w.heap.size + 2) W wr.heap.size ds)
        (fun _ _ _ => False)
        (fun s X Y row hs hg hr => by
          obtain ⟨ps, h1, h2, h3, h4, h5, h6⟩ := hs
          have hne : ∀ r, row = some r → wr.heap.size + 3 ≤ r := fun r e => by have := (hr r e).1; simp at this; omega
          exact ⟨ps, h1, h2.kept hg (.inr fun e => by have := hne w.heap.size e.symm; omega), h3.kept hg (fun e => by have := hne _ e.symm; omega), h4.kept hg (fun e => by have := hne _ e.symm; omega), h5.grown hg h5.size (fun r e => by have := hne _ e; omega),
            h6.keep fun D _ hD hD3 => hg.block D (Array.getElem?_eq_some_iff.1 hD3).1 (fun e => by have := hne _ e.symm; omega)⟩)
        (fun _ _ _ _ _ hs _ _ => hs)
        ⟨ps, ⟨hp.out.1, fun _ _ => hp.out⟩, ((ho.out.alloc _).alloc _).alloc _, ((hbx.out.alloc _).alloc _).alloc _, (bV.alloc _).alloc _, hB0, hmks.out.keep fun D _ hD hD3 => by
          have h1 := Below.heap_alloc wr (.cells #[.int .i64 k] 2) D hD
          have h2 := Below.heap_alloc (wr.alloc (.cells #[.int .i64 k] 2)) (.cells #[.slice A xs.length c] 23) D (by simp; omega)
          have h3 := Below.heap_alloc ((wr.alloc (.cells #[.int .i64 k] 2)).alloc (.cells #[.slice A xs.length c] 23)) (.cells #[.int .i64 k] 2) D (by simp; omega)
          exact h3.trans (h2.trans h1)⟩
        (fun x => { tmps := #[.slice A xs.length c, undef, .slice none 0 0, .pointer (some ⟨w.heap.size + 1, 0, none⟩), .pointer (some ⟨wr.heap.size, 0, none⟩), undef, .int .i64 (kidOr xs k d x : Int), .slice A xs.length c, .int .i64 xs.length, .slice (some ⟨w.heap.size, 0, none⟩) xs.length xs.length, .slice (some ⟨w.heap.size, 0, none⟩) xs.length xs.length,
          .pointer (some ⟨w.heap.size, 0, none⟩), .slice A xs.length c, .int .i64 xs.length, .int .i64 k, .bool true, .int .i64 k, .slice A xs.length c, .int .i64 k, .func (.func 131) #[] #[.pointer (some ⟨wr.heap.size + 2, 0, none⟩), .pointer (some ⟨wr.heap.size + 1, 0, none⟩)], .int .i64 (x : Int), .int .i64 (kidOr xs k d x : Int), undef, undef, undef, undef, u26, undef], defers := [] }) ?assign ?body ?done ?stop
      case assign =>
        intro l x W K hK
        gi_wp2
        exact hK
      case body =>
        rintro l pre x W ⟨ps, ⟨hl, hpp⟩, h2, h3, h4, h5, h6⟩ hpl
        have hkx := hK x
        have c3 := h3.cell
        have c4 := h4.cell
        obtain ⟨c1, c2, _, _⟩ := own64_cell h2 hl (k := kidOr xs k d x) (x := ps[kidOr xs k d x]'(by omega)) (List.getElem?_eq_getElem (by omega))
        generalize ps[kidOr xs k d x]'(by omega) = y at c1
        have hnext : Hid (pre ++ [x] = List.range (pre ++ [x]).length → (pre ++ [x]).length ≤ d → M.PartP xs k (pre ++ [x]).length (ps.set (kidOr xs k d x) (k : Int))) := fun e hd' => by
          simp only [List.length_append, List.length_cons, List.length_nil, Nat.zero_add] at e hd' ⊢
          rw [List.range_succ] at e
          obtain ⟨e1, e2⟩ := List.append_inj' e rfl
          injection e2 with e2
          have h7 := M.partP_step ht.out (hpp e1 (by omega)) Hd.out (by omega)
          have e3 : kidOr xs k d x = M.kidAt xs k pre.length := by rw [e2]; simp only [kidOr]; rw [if_pos (by omega)]
          rw [e3]
          exact h7
        have hset := Lib.hid (own64_set h2 hl (kidOr xs k d x) (k : Int))
        have hl2 : Hid ((ps.set (kidOr xs k d x) (k : Int)).length = xs.length) := by show _ = _; simpa using hl
        clear hpp
        generalize kidOr xs k d x = C at *
        gi_wp2
        have hkk : KeepK w.heap.size (wr.heap.size + 1) W (W.setCell ⟨w.heap.size, C, none⟩ (.int .i64 k)) := ⟨below_setCell (Below.refl _ _) (Nat.le_refl _) _, heap_setCell_other _ _ _ _ (show wr.heap.size + 1 ≠ w.heap.size by omega)⟩
        exact ⟨(KeepsOthers.setCell W _ _).from _, hkk, _, ⟨hl2.out, hnext.out⟩, hset.out, (heap_setCell_other _ _ _ _ (show w.heap.size + 1 ≠ w.heap.size by omega)).trans h3, (heap_setCell_other _ _ _ _ (show wr.heap.size ≠ w.heap.size by omega)).trans h4, below_setCell h5 (Nat.le_refl _) _, h6.keep fun D hD _ _ => heap_setCell_other _ _ _ _ (show D ≠ w.heap.size by omega)⟩
      case done =>
        rintro D ys W hD rfl ⟨ps, ⟨hl, hpp⟩, h2, h3, h4, h5, h6⟩ hKd
        have hnx0 := hpp (by simp) (by simp)
        simp only [List.length_map, List.length_range] at hnx0
        have hnx := Lib.hid (M.partP_next hnx0 Hd.out)
        clear hnx0 hpp
        have hDl := (Array.getElem?_eq_some_iff.1 hKd).1
        simp at hD
        gi_wp2
        refine ⟨⟨k + 1, ps, _, _, _, _, _, _, _, { target := .collected D, args := #[] } :: ds, ⟨by omega, hnx, h2, h3, h5, (show Marks _ _ _ _ from ⟨D, rfl, hDl, by omega, hKd, h6.mono (by omega)⟩)⟩, rfl⟩, ?_⟩
        simp [intOf]
        omega
      case stop =>
        rintro D c pre W _ _ h _
        exact h.elim
    · obtain rfl : k = xs.length := by omega
      have hok := Lib.hid (M.partP_done ht.out hp.out)
      have hc := hbx.out.cell
      clear hp
      gi_wp2
      refine leaves_marks (B := w.heap.size + 2) (fun W => Own64 W w.heap.size (.slice (some ⟨w.heap.size, 0, none⟩) xs.length xs.length) ps ∧ Below w.heap.size w W) (fun W D hD h3 h => ⟨ownsRow_putObj h.1 _ h3 rfl, h.2.trans ((Below.refl _ W).grown (grownBy_putObj' W D _) h.2.size (fun k e => by cases e; omega))⟩) (fun W h => ?_) ds _ _ hmks.out ⟨ho.out, hbr.out⟩
      exact ⟨_, results_tmp rfl _ _ _, _, _, ps, rfl, hok, h.1, h.2⟩
end Go.Proofs.Ytmhpobgfgimfcaa

/- Trees inside others by lists of nodes, the program's: placeAbove, canFollow, isAscendingBelow. -/
namespace Go.Proofs.Ytmhpobgfgimfcaa
open Go.RowKit

/-- the nodes of a list, as a function of places -/
def nodeF (vs : List Int) (i : Nat) : Nat := (vs[i]?.getD 0).toNat
theorem nodeF_at {vs : List Int} {i : Nat} {x : Int} (h : vs[i]? = some x) : nodeF vs i = x.toNat := by rw [nodeF, h]; rfl
theorem M.below_bel (xs : List Int) (v u : Nat) : M.below xs (v : Int) (u : Int) = M.bel xs v u := by
  rw [M.below, M.bel, M.fin, Int.toNat_natCast]
  congr 1
  · exact decide_eq_decide.2 (by omega)
  · exact decide_eq_decide.2 (by omega)

set_option maxHeartbeats 2000000 in
set_option maxRecDepth 100000 in
theorem placeAbove (A An : Option Addr) (us vs : List Int) (c n cn v : Nat) (w : World) (hu : Hid (M.isTree us = true)) (hcl : us.length ≤ c) (hcu : c ≤ 1000000000000) (hn : Hid (vs.length = n)) (hn24 : n ≤ 24) (hvs : Hid (∀ x ∈ vs, 0 ≤ x ∧ x < (us.length : Int))) (h : Hid (Ints w w.heap.size A us)) (hv : Hid (Ints w w.heap.size An vs)) :
    Calls Try.prog 123 #[.slice A us.length c, .slice An n cn, .int .i64 (v : Int)] w fun e w' => e = .returned (.int .i64 (M.pl us (nodeF vs) v n)) ∧ w = w' := by
  have hx24 := (M.tree_len hu.out).2
  have hI := Lib.hid (fun (k : Nat) (x : Int) (hk : vs[k]? = some x) (b : Bool) (hb : Hid (M.below us (v : Int) x = b)) => by
    have h1 := hvs.out x (List.mem_of_getElem? hk)
    exact isIn A us c (v : Int) x w hx24 hcl (by omega) h1.1 (by omega) (Lib.hid (M.tree_ok hu.out (by omega))) h.out b hb)
  obtain ⟨R, hR⟩ : ∃ R, Hid (M.pl us (nodeF vs) v n = R) := ⟨_, rfl⟩
  rw [hR.out]
  have hrng : Hid (∀ k, -1 ≤ M.pl us (nodeF vs) v k ∧ M.pl us (nodeF vs) v k < k) := fun k => by
    rcases M.pl_cases us (nodeF vs) v k with ⟨h1, _⟩ | ⟨a, h1, h2, _⟩
    · rw [h1]; omega
    · rw [h2]; omega
  have w1 : IntKind.i64.wrap ((n : Int) - 1) = (n : Int) - 1 := IntWalk.i64_in _ (by omega)
  go_enter Try.func123, Try.ntmps123
  go_wp2
  go_loopw [7] (fun qi wr => ∃ (k : Nat), k ≤ n ∧ qi = .int .i64 ((k : Int) - 1) ∧ wr = w ∧ Hid (M.pl us (nodeF vs) v k = R)) (fun qi _ => (intOf qi + 1).toNat)
  case atStart => exact ⟨n, Nat.le_refl _, rfl, rfl, hR⟩
  case round =>
    obtain ⟨k, hk, rfl, rfl, hP⟩ := hrel
    cases k with
    | zero =>
      have hR1 : R = -1 := hP.out.symm
      clear hI hrng
      go_wp2
      go_ret
      exact ⟨by rw [hR1]; rfl, rfl⟩
    | succ k =>
      have hkz : k < vs.length := by rw [hn.out]; omega
      have hat : vs[k]? = some vs[k] := List.getElem?_eq_getElem hkz
      have h1 := hvs.out _ (List.mem_of_getElem? hat)
      have hIk := hI.out k _ hat
      generalize vs[k] = x at hat h1 hIk
      obtain ⟨b, off, rfl, hbl, hc⟩ := hv.out (by omega)
      have hcl := hc k x hat
      have e1 : ((k + 1 : Nat) : Int) - 1 = (k : Int) := by omega
      have hk0 : (0 : Int) ≤ (k : Int) := by omega
      have hkn : (k : Int) < (n : Int) := by omega
      have w2 : IntKind.i64.wrap ((k : Int) - 1) = (k : Int) - 1 := IntWalk.i64_in _ (by omega)
      have hbb : M.below us (v : Int) x = M.bel us v (nodeF vs k) := by
        rw [nodeF_at hat, ← M.below_bel]; congr 1; omega
      rw [e1]
      clear hI hv hc
      cases hb : M.bel us v (nodeF vs k)
      · have hIb := Lib.hid (hIk false (Lib.hid (hbb.trans hb)))
        have hP2 : Hid (M.pl us (nodeF vs) v k = R) := by
          show _ = _
          rw [← hP.out, M.pl_miss hb]
        clear hIk hbb hb hP hat
        go_wp2_with (go_at_call 135; refine hIb.out.mono ?_; rintro e w' ⟨rfl, rfl⟩)
        go_roundw
        case rel => exact ⟨k, by omega, rfl, trivial, hP2⟩
        case measure => simp [intOf]
      · have hIb := Lib.hid (hIk true (Lib.hid (hbb.trans hb)))
        have hR1 : R = (k : Int) := by rw [← hP.out, M.pl_hit hb]
        clear hIk hbb hb hP hat
        go_wp2_with (go_at_call 135; refine hIb.out.mono ?_; rintro e w' ⟨rfl, rfl⟩)
        go_ret
        exact ⟨by rw [hR1]; rfl, rfl⟩

set_option maxHeartbeats 2000000 in
set_option maxRecDepth 100000 in
theorem canFollow (A An Ap : Option Addr) (us vs ps : List Int) (c n cn m cp v : Nat) (w : World) (hu : Hid (M.isTree us = true)) (hcl : us.length ≤ c) (hcu : c ≤ 1000000000000) (hn : Hid (vs.length = n)) (hn24 : n ≤ 24) (hvs : Hid (∀ x ∈ vs, 0 ≤ x ∧ x < (us.length : Int))) (h : Hid (Ints w w.heap.size A us)) (hv : Hid (Ints w w.heap.size An vs))
    (hp : Hid (ps.length = m)) (hI : Hid (Ints w w.heap.size Ap ps)) (hnm : n < m) :
    Calls Try.prog 93 #[.slice Ap m cp, .slice A us.length c, .slice An n cn, .int .i64 (v : Int)] w fun e w' => e = .returned (.bool (M.pl us (nodeF vs) v n == ps[n]?.getD 0)) ∧ ∃ q, w' = w.drewN q := by
  have hPl : Hid (∀ q, Calls Try.prog 123 #[.slice A us.length c, .slice An n cn, .int .i64 (v : Int)] (w.drewN q) fun e w' => e = .returned (.int .i64 (M.pl us (nodeF vs) v n)) ∧ w' = w.drewN q) := fun q => (placeAbove A An us vs c n cn v (w.drewN q) hu hcl hcu hn hn24 hvs (Lib.hid h.out) (Lib.hid hv.out)).mono fun e w' ⟨h1, h2⟩ => ⟨h1, h2.symm⟩
  have hkz : n < ps.length := by rw [hp.out]; exact hnm
  have hat : ps[n]? = some ps[n] := List.getElem?_eq_getElem hkz
  generalize ps[n] = y at hat
  obtain ⟨b, off, rfl, hbl, hc⟩ := hI.out (by omega)
  have hcell := hc n y hat
  have hni : (n : Int) < (m : Int) := by omega
  have hd : decide ((n : Int) < (m : Int)) = true := decide_eq_true hni
  have hn0 : (0 : Int) ≤ (n : Int) := by omega
  rw [hat]
  show Calls _ _ _ _ fun e w' => e = .returned (.bool (M.pl us (nodeF vs) v n == y)) ∧ ∃ q, w' = w.drewN q
  generalize M.pl us (nodeF vs) v n = R at *
  clear hI hc h hv hvs hat
  go_enter Try.func93, Try.ntmps93
  go_wp2_with fail
  go_quiet (first | (go_at_call 123; exact Calls.quiet_of_same (hPl.out _)))
  go_wp2_with fail
  go_ret
  exact ⟨rfl, nq, rfl⟩

namespace M
/-- are the first k numbers of a list nodes below n that ascend -/
def goodAt (vs : List Int) (n : Int) (j : Nat) : Bool := decide (0 ≤ vs[j]?.getD 0) && decide (vs[j]?.getD 0 < n) && (j == 0 || decide (vs[j - 1]?.getD 0 < vs[j]?.getD 0))
def goodTo (vs : List Int) (n : Int) (k : Nat) : Bool := (List.range k).all (goodAt vs n)
theorem goodTo_succ (vs : List Int) (n : Int) (k : Nat) : goodTo vs n (k + 1) = (goodTo vs n k && goodAt vs n k) := by
  rw [goodTo, goodTo, List.range_succ, List.all_append]; simp
theorem goodTo_each {vs : List Int} {n : Int} {k : Nat} (h : goodTo vs n k = true) : ∀ j, j < k → goodAt vs n j = true := fun j hj => List.all_eq_true.1 h j (List.mem_range.2 hj)
theorem goodTo_no {vs : List Int} {n : Int} {k m : Nat} (hk : k < m) (h : goodAt vs n k = false) : goodTo vs n m = false := by
  cases hg : goodTo vs n m
  · rfl
  · rw [goodTo_each hg k hk] at h; cases h
def leastOf (vs : List Int) (k : Nat) : Int := if k = 0 then 0 else vs[k - 1]?.getD 0 + 1
theorem goodAt_iff {vs : List Int} {n : Int} {j : Nat} : goodAt vs n j = true ↔ 0 ≤ vs[j]?.getD 0 ∧ vs[j]?.getD 0 < n ∧ (j = 0 ∨ vs[j - 1]?.getD 0 < vs[j]?.getD 0) := by
  simp only [goodAt, Bool.and_eq_true, decide_eq_true_eq, Bool.or_eq_true, beq_iff_eq, and_assoc]
theorem goodAt_least {vs : List Int} {n x : Int} {k : Nat} (hg : goodTo vs n k = true) (hx : vs[k]? = some x) : (decide (leastOf vs k ≤ x) && decide (x ≤ n - 1)) = goodAt vs n k := by
  have e : vs[k]?.getD 0 = x := by rw [hx]; rfl
  rw [Bool.eq_iff_iff, goodAt_iff, e, leastOf]
  simp only [Bool.and_eq_true, decide_eq_true_eq]
  by_cases h0 : k = 0
  · rw [if_pos h0]; omega
  · rw [if_neg h0]
    have := goodAt_iff.1 (goodTo_each hg (k - 1) (by omega))
    omega
theorem goodTo_range {vs : List Int} {n : Int} (hg : goodTo vs n vs.length = true) : (∀ x ∈ vs, 0 ≤ x ∧ x < n) := fun x hx => by
  obtain ⟨j, hj⟩ := List.getElem?_of_mem hx
  have := goodAt_iff.1 (goodTo_each hg j (List.getElem?_eq_some_iff.1 hj).1)
  rw [hj] at this
  exact ⟨this.1, this.2.1⟩
end M
theorem node_asc {vs : List Int} {n : Int} (hg : M.goodTo vs n vs.length = true) : ∀ i j, i < j → j < vs.length → nodeF vs i < nodeF vs j := by
  intro i j
  induction j with
  | zero => intro h; omega
  | succ j ih =>
    intro h hj
    have h1 := M.goodAt_iff.1 (M.goodTo_each hg (j + 1) hj)
    have h2 := M.goodAt_iff.1 (M.goodTo_each hg j (by omega))
    simp only [Nat.add_sub_cancel] at h1
    have h3 : nodeF vs j < nodeF vs (j + 1) := by unfold nodeF; omega
    rcases Nat.lt_or_ge i j with h4 | h4
    · exact Nat.lt_trans (ih h4 (by omega)) h3
    · have : i = j := by omega
      rw [this]; exact h3

set_option maxHeartbeats 2000000 in
set_option maxRecDepth 100000 in
theorem isAscendingBelow (An : Option Addr) (vs : List Int) (n cn m : Nat) (w : World) (hn : Hid (vs.length = n)) (hn' : n ≤ 1048576) (hm : m ≤ 1048576) (hv : Hid (Ints w w.heap.size An vs)) :
    Calls Try.prog 91 #[.slice An n cn, .int .i64 (m : Int)] w fun e w' => e = .returned (.bool (M.goodTo vs m n)) ∧ w = w' := by
  obtain ⟨R, hR⟩ : ∃ R, Hid (M.goodTo vs m n = R) := ⟨_, rfl⟩
  rw [hR.out]
  have w1 : IntKind.i64.wrap ((m : Int) - 1) = (m : Int) - 1 := IntWalk.i64_in _ (by omega)
  go_enter Try.func91, Try.ntmps91
  go_wp2
  go_loopw [5, 10] (fun ql qi wr => ∃ (k : Nat) (y : Int), k ≤ n ∧ qi = .int .i64 (k : Int) ∧ ql = .int .i64 y ∧ 0 ≤ y ∧ y ≤ 1048577 ∧ wr = w ∧ Hid (M.goodTo vs m k = true) ∧ Hid (M.leastOf vs k = y)) (fun _ qi _ => n - (intOf qi).toNat)
  case atStart => exact ⟨0, 0, Nat.zero_le _, rfl, rfl, by omega, by omega, rfl, rfl, rfl⟩
  case round =>
    obtain ⟨k, y, hk, rfl, rfl, hy0, hy1, rfl, hg, hl⟩ := hrel
    by_cases hlt : k < n
    · have hki : (k : Int) < (n : Int) := by omega
      have hk0 : (0 : Int) ≤ (k : Int) := by omega
      have hkz : k < vs.length := by rw [hn.out]; exact hlt
      have hat : vs[k]? = some vs[k] := List.getElem?_eq_getElem hkz
      generalize vs[k] = x at hat
      obtain ⟨b, off, rfl, hbl, hc⟩ := hv.out (by omega)
      have hcell := hc k x hat
      have hgl := M.goodAt_least hg.out hat
      rw [hl.out] at hgl
      have hge : vs[k]?.getD 0 = x := by rw [hat]; rfl
      cases hb : M.goodAt vs m k
      · have hI := fun W => Lib.hid (withinAny x y ((m : Int) - 1) W false (Lib.hid (hgl.trans hb)))
        have hR1 : R = false := by rw [← hR.out]; exact M.goodTo_no hlt hb
        clear hgl hge hb hat hc hv hg hl
        go_wp2_with (go_at_call 117; refine (hI _).out.mono ?_; rintro e w' ⟨rfl, rfl⟩)
        go_ret
        exact ⟨by rw [hR1]; rfl, rfl⟩
      · have hI := fun W => Lib.hid (withinAny x y ((m : Int) - 1) W true (Lib.hid (hgl.trans hb)))
        have hx := M.goodAt_iff.1 hb
        rw [hge] at hx
        have hg2 : Hid (M.goodTo vs m (k + 1) = true) := by show _ = _; rw [M.goodTo_succ, hg.out, hb]; rfl
        have hl2 : Hid (M.leastOf vs (k + 1) = x + 1) := by show _ = _; rw [M.leastOf, if_neg (by omega), Nat.add_sub_cancel, hat]; rfl
        have hx0 := hx.1
        have hx1 := hx.2.1
        clear hgl hge hb hat hc hv hg hl hx
        go_wp2_with (go_at_call 117; refine (hI _).out.mono ?_; rintro e w' ⟨rfl, rfl⟩)
        go_roundw
        case rel => exact ⟨k + 1, x + 1, by omega, by go_num, by go_num, by omega, by omega, trivial, hg2, hl2⟩
        case measure => simp [intOf]; omega
    · obtain rfl : k = n := by omega
      have hR1 : R = true := by rw [← hR.out]; exact hg.out
      clear hv
      go_wp2
      go_ret
      exact ⟨by rw [hR1]; rfl, rfl⟩
end Go.Proofs.Ytmhpobgfgimfcaa
