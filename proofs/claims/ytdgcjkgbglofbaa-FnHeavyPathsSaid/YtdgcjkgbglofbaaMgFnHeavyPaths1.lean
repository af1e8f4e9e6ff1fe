/- Words for slices of int64 in memory, and small lemmas on worlds: what the walks of this seat share. No conditions. -/
import Derived.Test.YtdgcjkgbglofbaaRows
import Derived.WalkKit
import Derived.OwnWalk
import Derived.Lib.Hide
import Derived.Outline
import Derived.LoopTactic
import Derived.Deep.QuietTactic
import Derived.BigQuiet
import Derived.Deep.Draws
import Derived.Deep.OwnRows
import Derived.Maps.AppendAt
import Derived.Deep.RegionHeld3
import Derived.RangeFuncBox
import Derived.RangeFuncNested
import Derived.RangeFuncBound
import Derived.RangeFuncCalls
import Derived.RangeFuncLeaves
import Derived.Shelf.Abstract
import Derived.OwnWalkIn
import Derived.TacticsInMore
import Derived.LoopNIn
import Derived.LoopIn
namespace Go.Proofs.Ytdgcjkgbglofbaa
open Go.RowKit

/-- The slice value '.slice A zs.length c' reads as zs, below block B. -/
def Ints (w : World) (B : Nat) (A : Option Addr) (zs : List Int) : Prop :=
  0 < zs.length → ∃ b off, A = some ⟨b, off, none⟩ ∧ b < B ∧ ∀ j x, zs[j]? = some x → w.cell? ⟨b, off + j, none⟩ = some (.int .i64 x)

theorem Ints.nil_ (w : World) (B : Nat) (A : Option Addr) : Ints w B A [] := fun h => absurd h (by simp)

theorem Ints.at_ {w : World} {B : Nat} {A : Option Addr} {zs : List Int} (h : Ints w B A zs) {k : Nat} (hk : k < zs.length) :
    ∃ b off x, A = some ⟨b, off, none⟩ ∧ b < B ∧ w.cell? ⟨b, off + k, none⟩ = some (.int .i64 x) ∧ Hid (zs[k]? = some x) := by
  obtain ⟨b, off, e, hb, hc⟩ := h (by omega)
  exact ⟨b, off, zs[k], e, hb, hc k _ (List.getElem?_eq_getElem hk), List.getElem?_eq_getElem hk⟩

theorem Ints.keep {w w' : World} {B : Nat} {A : Option Addr} {zs : List Int} (h : Ints w B A zs) (hk : ∀ p : Addr, p.block < B → w'.cell? p = w.cell? p) : Ints w' B A zs := fun hn => by
  obtain ⟨b, off, e, hb, hc⟩ := h hn
  exact ⟨b, off, e, hb, fun j x hx => (hk ⟨b, off + j, none⟩ hb).trans (hc j x hx)⟩

theorem Ints.more {w : World} {B B' : Nat} {A : Option Addr} {zs : List Int} (h : Ints w B A zs) (hB : B ≤ B') : Ints w B' A zs := fun hn => by
  obtain ⟨b, off, e, hb, hc⟩ := h hn
  exact ⟨b, off, e, by omega, hc⟩

theorem Ints.below {w w' : World} {B B' : Nat} {A : Option Addr} {zs : List Int} (h : Ints w B A zs) (hb : Below B' w w') (hB : B ≤ B') : Ints w' B A zs :=
  h.keep fun p hp => hb.cell (p := p) (by omega)

theorem Ints.alloc {w : World} {B : Nat} {A : Option Addr} {zs : List Int} (h : Ints w B A zs) (hB : B ≤ w.heap.size) (o : Obj) : Ints (w.alloc o) B A zs :=
  h.keep fun p hp => World.cell?_alloc_lt w o p (by omega)

theorem Ints.al {w : World} {A : Option Addr} {zs : List Int} (h : Ints w w.heap.size A zs) (o : Obj) : Ints (w.alloc o) (w.alloc o).heap.size A zs :=
  (h.alloc (Nat.le_refl _) o).more (by simp)

theorem Ints.be {w w' : World} {A : Option Addr} {zs : List Int} (h : Ints w w.heap.size A zs) (hb : Below w.heap.size w w') : Ints w' w'.heap.size A zs :=
  (h.below hb (Nat.le_refl _)).more hb.size

theorem Ints.drewN {w : World} {B : Nat} {A : Option Addr} {zs : List Int} (h : Ints w B A zs) (n : Nat) : Ints (w.drewN n) B A zs := h

theorem below_drewN {B : Nat} {a w : World} (h : Below B a w) (n : Nat) : Below B a (w.drewN n) := ⟨h.os, h.tape, h.output, h.size, h.block⟩

theorem ints_of_own {w : World} {base e n c : Nat} {A : Option Addr} {zs : List Int} (h : w.ownsRow base e 1 (.slice A n c) n (zs.map (Value.int .i64))) : n = zs.length ∧ Ints w w.heap.size A zs := by
  have hn : n = zs.length := by have := h.1; simpa using this.symm
  refine ⟨hn, fun hz => ?_⟩
  rcases h.2 with ⟨_, h0⟩ | ⟨g, cap, cur, hv, _, hg, _⟩
  · omega
  · injection hv with h1 h2 h3
    subst h1
    refine ⟨g, 0, rfl, (Array.getElem?_eq_some_iff.1 hg).1, fun j x hx => ?_⟩
    have := h.cells (g := g) rfl j (.int .i64 x) (by simp [hx])
    have ha : (⟨g, 0, none⟩ : Addr).add j = ⟨g, j, none⟩ := by unfold Addr.add; split <;> simp_all
    rw [ha] at this
    rw [Nat.zero_add]
    exact this


/-- The element type of the slices: int64. -/
theorem info64 : (Try.prog.info? 2).map (fun i => (i.zero, i.size, i.bytes)) = some (some (.int .i64 0), 1, 8) := by kernel_rfl

/-- the slice value v owns a row that reads zs -/
abbrev Own64 (w : World) (B : Nat) (v : Value) (zs : List Int) : Prop := w.ownsRow B 2 1 v zs.length (zs.map (Value.int .i64))

theorem ints_of_own64 {w : World} {B n c : Nat} {A : Option Addr} {zs : List Int} (h : Own64 w B (.slice A n c) zs) : Ints w w.heap.size A zs := by
  have hn : n = zs.length := by
    rcases h.2 with ⟨h1, h2⟩ | ⟨g, cap, cur, hv, _⟩
    · injection h1 with _ h1 _; omega
    · injection hv
  subst hn
  exact (ints_of_own h).2

theorem cell_al {w : World} {b : Nat} {v : Value} (h : w.cell? ⟨b, 0, none⟩ = some v) (o : Obj) : (w.alloc o).cell? ⟨b, 0, none⟩ = some v :=
  (World.cell?_alloc_lt w o ⟨b, 0, none⟩ (World.block_lt_of_cell? _ _ h)).trans h

theorem own64_made {w : World} {B n : Nat} (hB : B ≤ w.heap.size) (hn : n ≤ maxLen) :
    Own64 (w.alloc (.cells (madeCells #[.int .i64 0] n) 2)) B (.slice (some ⟨w.heap.size, 0, none⟩) n n) (List.replicate n 0) := by
  have h := World.ownsRow_lit (e := 2) (size := 1) w (madeCells #[.int .i64 0] n) n hB hn (by simp [size_madeCells])
  rw [toList_madeCells_one] at h
  simpa [Own64] using h

theorem own64_set {w : World} {B g n c : Nat} {zs : List Int} (h : Own64 w B (.slice (some ⟨g, 0, none⟩) n c) zs) (hn : zs.length = n) (k : Nat) (x : Int) :
    Own64 (w.setCell ⟨g, k, none⟩ (.int .i64 x)) B (.slice (some ⟨g, 0, none⟩) n c) (zs.set k x) := by
  subst hn
  have := (World.ownsRow.stored h k (.int .i64 x)).1
  simpa [Own64, List.map_set] using this

theorem own64_cell {w : World} {B g n c : Nat} {zs : List Int} (h : Own64 w B (.slice (some ⟨g, 0, none⟩) n c) zs) (hn : zs.length = n) {k : Nat} {x : Int} (hx : zs[k]? = some x) :
    w.cell? ⟨g, k, none⟩ = some (.int .i64 x) ∧ w.frozen? ⟨g, k, none⟩ = false ∧ B ≤ g ∧ g < w.heap.size := by
  subst hn
  have hk : k < zs.length := (List.getElem?_eq_some_iff.1 hx).1
  have hl := World.ownsRow.lt h g rfl
  exact ⟨(World.ownsRow.cellAt h k (by omega)).trans (by simp [hx]), World.ownsRow.frozenAt h k, hl.1, hl.2⟩

theorem own_mono {w : World} {base base' e size n : Nat} {v : Value} {xs : List Value} (h : w.ownsRow base e size v n xs) (hB : base' ≤ base) : w.ownsRow base' e size v n xs := by
  refine ⟨h.1, ?_⟩
  rcases h.2 with h2 | ⟨g, cap, cur, hv, hg, r⟩
  · exact .inl h2
  · exact .inr ⟨g, cap, cur, hv, by omega, r⟩

theorem own_far {w : World} {base e size n g k : Nat} {v : Value} {xs : List Value} (h : w.ownsRow base e size v n xs) (hg : g < base) (u : Value) : (w.setCell ⟨g, k, none⟩ u).ownsRow base e size v n xs :=
  ownsRow_setCell_below h (a := ⟨g, k, none⟩) hg u

theorem own_below {w w' : World} {B base e size n : Nat} {v : Value} {xs : List Value} (h : w.ownsRow base e size v n xs) (hb : Below B w w') (hB : w.heap.size ≤ B) : w'.ownsRow base e size v n xs := by
  refine ⟨h.1, ?_⟩
  rcases h.2 with h2 | ⟨g, cap, cur, hv, hg, hh, r⟩
  · exact .inl h2
  · exact .inr ⟨g, cap, cur, hv, hg, (hb.block g (by have := (Array.getElem?_eq_some_iff.1 hh).1; omega)).trans hh, r⟩

/-- 'Below' from a world's own size on, with no side conditions: a new block, a call, a draw -/
theorem b0 (a : World) : Below a.heap.size a a := Below.refl _ _
theorem bal {a w : World} (h : Below a.heap.size a w) (o : Obj) : Below a.heap.size a (w.alloc o) := h.alloc h.size o
theorem btr {a W w : World} (h : Below a.heap.size a W) (k : Below W.heap.size W w) : Below a.heap.size a w := h.trans (k.mono h.size)

theorem below_setCell {B : Nat} {a w : World} (h : Below B a w) {g k : Nat} (hg : B ≤ g) (u : Value) : Below B a (w.setCell ⟨g, k, none⟩ u) := h.setCell (p := ⟨g, k, none⟩) hg u

end Go.Proofs.Ytdgcjkgbglofbaa

/- The walks of the laws' own helpers over slices of int64: szInt64S, eqInt64S, toInt64S, markInt64S, heldInt64S. No conditions but lengths. -/
namespace Go.Proofs.Ytdgcjkgbglofbaa
open Go.RowKit

theorem szInts (A : Option Addr) (n c : Nat) (left : Int) (w : World) (hn : n ≤ 9223372036854775807) (hl : left ≤ 1048576) (hl0 : 0 ≤ left) :
    Calls Try.prog 236 #[.slice A n c, .int .i64 left] w fun e w' => e = .returned (.int .i64 (if left - n < 0 then -1 else left - n)) ∧ w = w' := by
  by_cases h : left - (n : Int) < 0
  · go_enter Try.func236, Try.ntmps236
    go_wp2
    go_ret
    exact ⟨rfl, rfl⟩
  · go_enter Try.func236, Try.ntmps236
    go_wp2
    go_ret
    exact ⟨rfl, rfl⟩

theorem take_eq_succ {xs ys : List Int} {k : Nat} {x : Int} (hx : Hid (xs[k]? = some x)) (hy : Hid (ys[k]? = some x)) (h : Hid (xs.take k = ys.take k)) : Hid (xs.take (k + 1) = ys.take (k + 1)) := by
  have hx' : xs[k]? = some x := hx
  have hy' : ys[k]? = some x := hy
  have h' : xs.take k = ys.take k := h
  show xs.take (k + 1) = ys.take (k + 1)
  rw [List.take_add_one, List.take_add_one, h', hx', hy']
theorem ne_of_at {xs ys : List Int} {k : Nat} {x y : Int} (hx : Hid (xs[k]? = some x)) (hy : Hid (ys[k]? = some y)) (he : x ≠ y) : ¬ xs = ys := fun e => by
  have hx' : xs[k]? = some x := hx
  have hy' : ys[k]? = some y := hy
  rw [e, hy'] at hx'
  injection hx' with h
  exact he h.symm

set_option maxHeartbeats 400000 in
theorem eqInts (A A' : Option Addr) (xs ys : List Int) (c c' : Nat) (w : World) (hy : ys.length ≤ 1000000000000000)
    (h : Ints w w.heap.size A xs) (h' : Ints w w.heap.size A' ys) :
    Calls Try.prog 126 #[.slice A xs.length c, .slice A' ys.length c'] w fun e w' => e = .returned (.bool (decide (xs = ys))) ∧ Below w.heap.size w w' := by
  by_cases hl : xs.length = ys.length
  · have hl' : ((xs.length : Int) != (ys.length : Int)) = false := by simp [hl]
    have Hl := Lib.hid hl
    have hl1 : xs.length ≤ ys.length := by omega
    clear hl
    go_enter Try.func126, Try.ntmps126
    go_wp2
    go_loopw [5] (fun i wr => ∃ k : Nat, k ≤ xs.length ∧ i = .int .i64 k ∧ Hid (xs.take k = ys.take k) ∧ Below w.heap.size w wr) (fun i _ => xs.length - (intOf i).toNat)
    case atStart => exact ⟨0, Nat.zero_le _, rfl, rfl, Below.refl _ _⟩
    case round =>
      obtain ⟨k, hk, rfl, he, hb⟩ := hrel
      by_cases hlt : k < xs.length
      · obtain ⟨b, off, x, rfl, hbB, g, hX⟩ := (h.below hb (Nat.le_refl _)).at_ hlt
        obtain ⟨b', off', y, rfl, hbB', g', hY⟩ := (h'.below hb (Nat.le_refl _)).at_ (k := k) (by omega)
        clear h h'
        by_cases hq : x = y
        · subst hq
          have hs := take_eq_succ hX hY he
          go_wp2
          go_quiet (fail)
          go_wp2
          go_roundw
          case rel => exact ⟨k + 1, by omega, by go_num, hs, below_drewN hb _⟩
          case measure => simp [intOf]; omega
        · have hq' : (x != y) = true := by simp [hq]
          have hs := ne_of_at hX hY hq
          clear hq
          go_wp2
          go_quiet (fail)
          go_wp2
          go_ret
          exact ⟨by simp [hs], below_drewN hb _⟩
      · obtain rfl : k = xs.length := by omega
        have hs : xs = ys := by
          have := he.out
          rw [List.take_length, Hl.out, List.take_length] at this
          exact this
        have Hs := Lib.hid hs
        clear hs
        go_wp2
        go_ret
        exact ⟨by simp [Hs.out], hb⟩
  · have hl' : ((xs.length : Int) != (ys.length : Int)) = true := by simp; omega
    go_enter Try.func126, Try.ntmps126
    go_wp2
    go_ret
    refine ⟨?_, Below.refl _ _⟩
    have : ¬ xs = ys := fun e => hl (by rw [e])
    simp [this]

theorem take_set_succ {xs ys : List Int} {k : Nat} {x : Int} (hl : Hid (ys.length = xs.length)) (hx : Hid (xs[k]? = some x)) (h : Hid (ys.take k = xs.take k)) : Hid ((ys.set k x).take (k + 1) = xs.take (k + 1)) := by
  have hl' : ys.length = xs.length := hl
  have hx' : xs[k]? = some x := hx
  have h' : ys.take k = xs.take k := h
  have hk : k < ys.length := by rw [hl']; exact (List.getElem?_eq_some_iff.1 hx').1
  show (ys.set k x).take (k + 1) = xs.take (k + 1)
  rw [List.take_add_one, List.take_add_one, hx', List.getElem?_set_self hk, List.take_set_of_le (Nat.le_refl _), h']

set_option maxHeartbeats 400000 in
theorem toInts (A : Option Addr) (xs : List Int) (c : Nat) (w : World) (hx : xs.length ≤ 1000000000000) (h : Ints w w.heap.size A xs) :
    Calls Try.prog 154 #[.slice A xs.length c] w fun e w' => ∃ g, e = .returned (.slice (some ⟨g, 0, none⟩) xs.length xs.length) ∧
      Own64 w' w.heap.size (.slice (some ⟨g, 0, none⟩) xs.length xs.length) xs ∧ Below w.heap.size w w' := by
  have hmk := run_make_row' (P := Try.prog) 24 2 (.int .i64 0) 8 Try.underlying24 info64 rfl .i64 .i64 xs.length (by omega) (by omega)
  have hstart := own64_made (w := w) (B := w.heap.size) (n := xs.length) (Nat.le_refl _) (by unfold maxLen; omega)
  go_enter Try.func154, Try.ntmps154
  go_wp2
  clear hmk
  go_loopw [4] (fun i wr => ∃ (k : Nat) (ys : List Int), k ≤ xs.length ∧ i = .int .i64 k ∧ Hid (ys.length = xs.length) ∧ Hid (ys.take k = xs.take k) ∧
      Hid (Own64 wr w.heap.size (.slice (some ⟨w.heap.size, 0, none⟩) xs.length xs.length) ys) ∧ Below w.heap.size w wr) (fun i _ => xs.length - (intOf i).toNat)
  case atStart => exact ⟨0, List.replicate xs.length 0, Nat.zero_le _, rfl, by simp [Hid], rfl, hstart, (Below.refl _ _).alloc (Nat.le_refl _) _⟩
  case round =>
    obtain ⟨k, ys, hk, rfl, hly, he, ho, hb⟩ := hrel
    clear hstart
    by_cases hlt : k < xs.length
    · obtain ⟨b, off, x, rfl, hbB, g, hX⟩ := (h.below hb (Nat.le_refl _)).at_ hlt
      clear h
      have hly' : ys.length = xs.length := hly
      obtain ⟨c1, c2, c3, c4⟩ := own64_cell ho.out hly' (k := k) (x := ys[k]) (List.getElem?_eq_getElem (by omega))
      have hs := take_set_succ hly hX he
      have ho' : Hid (Own64 _ _ _ _) := own64_set ho.out hly' k x
      generalize ys[k] = y at c1
      clear hly'
      go_wp2
      go_roundw
      case rel => exact ⟨k + 1, ys.set k x, by omega, by go_num, by simp [Hid]; exact hly.out, hs, ho', below_setCell hb (Nat.le_refl _) _⟩
      case measure => simp [intOf]; omega
    · obtain rfl : k = xs.length := by omega
      have hys : ys = xs := by
        have := he.out
        rw [← hly.out, List.take_length, hly.out, List.take_length] at this
        exact this
      have Hs := Lib.hid hys
      clear hys
      go_wp2
      go_ret
      exact ⟨_, rfl, by rw [← Hs.out]; have := ho.out; rw [← hly.out] at this; exact this, hb⟩

/-- the marks that the laws write: k, k + 1, .. -/
def marks (k : Int) (n : Nat) : List Int := (List.range n).map fun (i : Nat) => k + (i : Int)
theorem marks_length (k : Int) (n : Nat) : (marks k n).length = n := by simp [marks]
theorem marks_at (k : Int) {n i : Nat} (h : i < n) : (marks k n)[i]? = some (k + i) := by simp [marks, h]

theorem take_marks_succ {ys : List Int} {k : Int} {n i : Nat} (hl : Hid (ys.length = n)) (hi : i < n) (h : Hid (ys.take i = (marks k n).take i)) : Hid ((ys.set i (k + i)).take (i + 1) = (marks k n).take (i + 1)) :=
  take_set_succ (xs := marks k n) (by show ys.length = _; rw [marks_length]; exact hl) (marks_at k hi) h

theorem grown_set {a w : World} {g : Nat} (h : a.grownBy w (some g)) (k : Nat) (u : Value) : a.grownBy (w.setCell ⟨g, k, none⟩ u) (some g) :=
  ⟨h.os, h.tape, h.output, by simpa [World.setCell] using h.size, fun i hi hne => (Below.heap_setCell w ⟨g, k, none⟩ u i (fun e => hne (by rw [e]))).trans (h.block i hi hne)⟩

set_option maxHeartbeats 400000 in
theorem markInts (A : Option Addr) (n c : Nat) (zs : List Int) (m : Int) (B : Nat) (w : World) (hn : zs.length = n) (hn' : n ≤ 1000000000000) (hm : 0 ≤ m) (hm' : m ≤ 1000000000000) (ho : Own64 w B (.slice A n c) zs) :
    Calls Try.prog 129 #[.slice A n c, .int .i64 m] w fun e w' => e = .returned (.int .i64 (m + n)) ∧ Own64 w' B (.slice A n c) (marks m n) ∧ w.grownBy w' (Value.slice A n c).ownBlock := by
  rcases Nat.eq_zero_or_pos n with h0 | h0
  · subst h0
    obtain rfl : zs = [] := List.eq_nil_of_length_eq_zero hn
    clear hn
    go_enter Try.func129, Try.ntmps129
    go_wp2
    refine wp_loop_rounds 1 ?_
    rw [rounds_succ]
    go_wp2
    go_ret
    exact ⟨by simp, by simpa [marks] using ho, World.grownBy.refl _ _⟩
  · obtain ⟨g, rfl⟩ : ∃ g, A = some ⟨g, 0, none⟩ := by
      rcases ho.2 with ⟨_, h⟩ | ⟨g, _, _, h, _⟩
      · omega
      · injection h with h; exact ⟨g, h⟩
    have Hn := Lib.hid hn
    clear hn
    go_enter Try.func129, Try.ntmps129
    go_wp2
    go_loopw [1, 5] (fun q i wr => ∃ (k : Nat) (ys : List Int), k ≤ n ∧ i = .int .i64 k ∧ q = .int .i64 (m + k) ∧ Hid (ys.length = n) ∧ Hid (ys.take k = (marks m n).take k) ∧
        Hid (Own64 wr B (.slice (some ⟨g, 0, none⟩) n c) ys) ∧ w.grownBy wr (some g)) (fun _ i _ => n - (intOf i).toNat)
    case atStart => exact ⟨0, zs, Nat.zero_le _, rfl, by simp, Hn, rfl, ho, World.grownBy.refl _ _⟩
    case round =>
      obtain ⟨k, ys, hk, rfl, rfl, hly, he, ho', hb⟩ := hrel
      clear ho
      by_cases hlt : k < n
      · have hly' : ys.length = n := hly
        obtain ⟨c1, c2, c3, c4⟩ := own64_cell ho'.out hly' (k := k) (x := ys[k]) (List.getElem?_eq_getElem (by omega))
        have hs := take_marks_succ hly hlt he
        have ho2 : Hid (Own64 _ _ _ _) := own64_set ho'.out hly' k (m + k)
        generalize ys[k] = y at c1
        clear hly'
        go_wp2
        go_roundw
        case rel => exact ⟨k + 1, ys.set k (m + k), by omega, by go_num, by go_num, by simp [Hid]; exact hly.out, hs, ho2, grown_set hb _ _⟩
        case measure => simp [intOf]; omega
      · obtain rfl : k = n := by omega
        have hys : ys = marks m k := by
          have h1 := he.out
          have h2 := hly.out
          rw [← h2, List.take_length, h2] at h1
          rw [h1, List.take_of_length_le (by rw [marks_length]; exact Nat.le_refl _)]
        have Hs := Lib.hid hys
        clear hys
        go_wp2
        go_ret
        exact ⟨rfl, by rw [← Hs.out]; exact ho'.out, hb⟩

set_option maxHeartbeats 400000 in
theorem heldInts (A : Option Addr) (n c : Nat) (m : Int) (w : World) (hn' : n ≤ 1000000000000) (hm : 0 ≤ m) (hm' : m ≤ 1000000000000) (h : Ints w w.heap.size A (marks m n)) :
    Calls Try.prog 130 #[.slice A n c, .int .i64 m] w fun e w' => e = .returned (.int .i64 (m + n)) ∧ w = w' := by
  go_enter Try.func130, Try.ntmps130
  go_wp2
  go_loop [1, 5] (fun q i => ∃ (k : Nat), k ≤ n ∧ i = .int .i64 k ∧ q = .int .i64 (m + k)) (fun _ i => n - (intOf i).toNat)
  case atStart => exact ⟨0, Nat.zero_le _, rfl, by simp⟩
  case round =>
    obtain ⟨k, hk, rfl, rfl⟩ := hrel
    by_cases hlt : k < n
    · obtain ⟨b, off, x, rfl, hbB, g, hX⟩ := h.at_ (k := k) (by rw [marks_length]; exact hlt)
      clear h
      obtain rfl : x = m + k := by
        have h1 := hX.out
        rw [marks_at m hlt] at h1
        injection h1 with h1
        exact h1.symm
      go_wp2
      go_round
      case rel => exact ⟨k + 1, by omega, by go_num, by go_num⟩
      case measure => simp [intOf]; omega
    · obtain rfl : k = n := by omega
      go_wp2
      go_ret
      exact ⟨rfl, rfl⟩
end Go.Proofs.Ytdgcjkgbglofbaa

/- The walks of the laws' own helpers over trees (structs of one slice): szTree, toTree, eqTree, markTree, heldTree. No conditions but lengths. -/
namespace Go.Proofs.Ytdgcjkgbglofbaa
open Go.RowKit

theorem bcell {W w1 : World} (hb : Below W.heap.size W w1) : (∀ b o, b < W.heap.size → w1.cell? ⟨b, o, none⟩ = W.cell? ⟨b, o, none⟩) ∧ (∀ b o, b < W.heap.size → w1.frozen? ⟨b, o, none⟩ = W.frozen? ⟨b, o, none⟩) :=
  ⟨fun b o h => hb.cell (p := ⟨b, o, none⟩) h, fun b o h => hb.frozen (p := ⟨b, o, none⟩) h⟩

theorem szTree (A : Option Addr) (n c : Nat) (left : Int) (w : World) (hn : n ≤ 9223372036854775807) (hl : left ≤ 1048576) (hl0 : 0 ≤ left) :
    Calls Try.prog 131 #[.agg #[.slice A n c], .int .i64 left] w fun e w' => e = .returned (.int .i64 (if left - n < 0 then -1 else left - n)) ∧ Below w.heap.size w w' := by
  by_cases h : left - (n : Int) < 0
  · go_enter Try.func131, Try.ntmps131
    go_wp2_with (go_at_call 236; refine (szInts _ _ _ _ _ hn hl hl0).mono ?_; rintro e w' ⟨rfl, rfl⟩)
    go_ret
    exact ⟨rfl, (Below.refl _ _).alloc (Nat.le_refl _) _⟩
  · go_enter Try.func131, Try.ntmps131
    go_wp2_with (go_at_call 236; refine (szInts _ _ _ _ _ hn hl hl0).mono ?_; rintro e w' ⟨rfl, rfl⟩)
    go_ret
    exact ⟨rfl, (Below.refl _ _).alloc (Nat.le_refl _) _⟩

set_option maxHeartbeats 400000 in
theorem toTree (A : Option Addr) (xs : List Int) (c : Nat) (w : World) (hx : xs.length ≤ 1000000000000) (h : Ints w w.heap.size A xs) :
    Calls Try.prog 133 #[.agg #[.slice A xs.length c]] w fun e w' => ∃ g, e = .returned (.agg #[.slice (some ⟨g, 0, none⟩) xs.length xs.length]) ∧
      Own64 w' w.heap.size (.slice (some ⟨g, 0, none⟩) xs.length xs.length) xs ∧ Below w.heap.size w w' := by
  go_enter Try.func133, Try.ntmps133
  go_wp2_with fail
  refine (toInts A xs c _ hx (((h.al _).al _).al _)).mono ?_
  rintro e w1 ⟨g, rfl, ho, hb⟩
  obtain ⟨hc, hf⟩ := bcell hb
  have hB := btr (bal (bal (bal (b0 w) _) _) _) hb
  have ho' : Own64 w1 (w.heap.size + 3) (.slice (some ⟨g, 0, none⟩) xs.length xs.length) xs := own_mono ho (by simp)
  clear ho h
  go_wp2
  refine bodyPost_ret (v := .agg #[.slice (some ⟨g, 0, none⟩) xs.length xs.length]) (by simp [results, Try.results133, go_sem, hc]) rfl ?_
  exact ⟨g, rfl, own_mono (own_far (own_far ho' (by omega) _) (by omega) _) (by omega), below_setCell (below_setCell hB (by omega) _) (by omega) _⟩

set_option maxHeartbeats 400000 in
theorem eqTree (A A' : Option Addr) (xs ys : List Int) (c c' : Nat) (w : World) (hy : ys.length ≤ 1000000000000000)
    (h : Ints w w.heap.size A xs) (h' : Ints w w.heap.size A' ys) :
    Calls Try.prog 136 #[.agg #[.slice A xs.length c], .agg #[.slice A' ys.length c']] w fun e w' => e = .returned (.bool (decide (xs = ys))) ∧ Below w.heap.size w w' := by
  have C := eqInts A A' xs ys c c' _ hy ((h.al (.cells #[.slice A xs.length c] 26)).al (.cells #[.slice A' ys.length c'] 26)) ((h'.al _).al _)
  generalize decide (xs = ys) = d at C ⊢
  have HC := Lib.hid C
  clear C
  cases d
  all_goals
    go_enter Try.func136, Try.ntmps136
    go_wp2_with fail
    refine HC.out.mono ?_
    rintro e w1 ⟨rfl, hb⟩
    have hB := btr (bal (bal (b0 w) _) _) hb
    go_wp2
    go_ret
    exact ⟨rfl, hB⟩

set_option maxHeartbeats 400000 in
theorem markTree (A : Option Addr) (n c : Nat) (zs : List Int) (m : Int) (B : Nat) (w : World) (hn : zs.length = n) (hn' : n ≤ 1000000000000) (hm : 0 ≤ m) (hm' : m ≤ 1000000000000) (ho : Own64 w B (.slice A n c) zs) :
    Calls Try.prog 137 #[.agg #[.slice A n c], .int .i64 m] w fun e w' => e = .returned (.int .i64 (m + n)) ∧ Own64 w' B (.slice A n c) (marks m n) ∧ w.grownBy w' (Value.slice A n c).ownBlock := by
  have Hn := Lib.hid hn
  clear hn
  go_enter Try.func137, Try.ntmps137
  go_wp2_with fail
  refine (markInts A n c zs m B _ Hn.out hn' hm hm' (ho.alloc _)).mono ?_
  rintro e w1 ⟨rfl, ho1, hg⟩
  go_wp2
  go_ret
  exact ⟨rfl, ho1, (World.grownBy_alloc w _ _).trans hg⟩

set_option maxHeartbeats 400000 in
theorem heldTree (A : Option Addr) (n c : Nat) (m : Int) (w : World) (hn' : n ≤ 1000000000000) (hm : 0 ≤ m) (hm' : m ≤ 1000000000000) (h : Ints w w.heap.size A (marks m n)) :
    Calls Try.prog 156 #[.agg #[.slice A n c], .int .i64 m] w fun e w' => e = .returned (.int .i64 (m + n)) ∧ Below w.heap.size w w' := by
  go_enter Try.func156, Try.ntmps156
  go_wp2_with (go_at_call 130; refine (heldInts A n c m _ hn' hm hm' (h.al _)).mono ?_; rintro e w' ⟨rfl, rfl⟩)
  go_ret
  exact ⟨rfl, (Below.refl _ _).alloc (Nat.le_refl _) _⟩

theorem own_shape {w : World} {B e : Nat} {v : Value} {n : Nat} {zs : List Value} (h : w.ownsRow B e 1 v n zs) : ∃ A c, v = .slice A n c := by
  rcases h.2 with ⟨rfl, rfl⟩ | ⟨g, cap, _, rfl, _⟩
  · exact ⟨none, 0, rfl⟩
  · exact ⟨_, _, rfl⟩

/-- a step that keeps all that was there: what a law knows of its own memory stays -/
theorem own_be {w w' : World} {base e size n : Nat} {v : Value} {xs : List Value} (h : w.ownsRow base e size v n xs) (hb : Below w.heap.size w w') : w'.ownsRow base e size v n xs := own_below h hb (Nat.le_refl _)

theorem cell_be {w w' : World} {b : Nat} {v : Value} (h : w.cell? ⟨b, 0, none⟩ = some v) (hb : Below w.heap.size w w') : w'.cell? ⟨b, 0, none⟩ = some v :=
  ((bcell hb).1 _ _ (World.block_lt_of_cell? _ _ h)).trans h

theorem cell_grown {w w' : World} {b : Nat} {v : Value} {row : Option Nat} (h : w.cell? ⟨b, 0, none⟩ = some v) (hb : w.grownBy w' row) (hne : ∀ k, row = some k → k ≠ b) : w'.cell? ⟨b, 0, none⟩ = some v :=
  hb.cell h (fun e => hne b e.symm rfl)

theorem own_grown {w w' : World} {base e size n : Nat} {v : Value} {xs : List Value} {row : Option Nat} (h : w.ownsRow base e size v n xs) (hb : w.grownBy w' row) (hne : ∀ k, row = some k → k < base ∨ w.heap.size ≤ k) : w'.ownsRow base e size v n xs := by
  refine h.kept hb ?_
  cases hv : v.ownBlock with
  | none => exact .inl rfl
  | some k =>
    refine .inr fun e => ?_
    have h1 := h.lt k hv
    have h2 := hne k e.symm
    omega

theorem below_grown {a w w' : World} {row : Option Nat} (h : Below a.heap.size a w) (hb : w.grownBy w' row) (hne : ∀ k, row = some k → a.heap.size ≤ k) : Below a.heap.size a w' :=
  h.grown hb h.size hne

theorem eqIntsT (A A' : Option Addr) (xs : List Int) (c c' : Nat) (w : World) (hy : xs.length ≤ 1000000000000000)
    (h : Ints w w.heap.size A xs) (h' : Ints w w.heap.size A' xs) :
    Calls Try.prog 126 #[.slice A xs.length c, .slice A' xs.length c'] w fun e w' => e = .returned (.bool true) ∧ Below w.heap.size w w' :=
  (eqInts A A' xs xs c c' w hy h h').mono fun _ _ ⟨he, hb⟩ => ⟨by rw [he]; simp, hb⟩

theorem eqTreeT (A A' : Option Addr) (xs : List Int) (c c' : Nat) (w : World) (hy : xs.length ≤ 1000000000000000)
    (h : Ints w w.heap.size A xs) (h' : Ints w w.heap.size A' xs) :
    Calls Try.prog 136 #[.agg #[.slice A xs.length c], .agg #[.slice A' xs.length c']] w fun e w' => e = .returned (.bool true) ∧ Below w.heap.size w w' :=
  (eqTree A A' xs xs c c' w hy h h').mono fun _ _ ⟨he, hb⟩ => ⟨by rw [he]; simp, hb⟩

/-- what a function of a tree that hands back a list and a code must do, as F says -/
def GivesList (f : Nat) (F : List Int → List Int × Int) : Prop :=
  ∀ (A : Option Addr) (xs : List Int) (c : Nat) (w : World), xs.length ≤ 1048576 → xs.length ≤ c ∧ c ≤ 9223372036854775807 → Ints w w.heap.size A xs →
    Calls Try.prog f #[.agg #[.slice A xs.length c]] w fun e w' => ∃ A' c', e = .returned (.tuple #[.slice A' (F xs).1.length c', .int .i64 (F xs).2]) ∧
      Own64 w' w.heap.size (.slice A' (F xs).1.length c') (F xs).1 ∧ Below w.heap.size w w'
end Go.Proofs.Ytdgcjkgbglofbaa

/- Plain facts on lists of degrees: when they are a tree, by the two loops. No program is named here. -/
namespace Go.Proofs.Ytdgcjkgbglofbaa.M
/-- the model's loop -/
def isGo : Int → List Int → Bool
  | o, [] => o == 0
  | o, d :: r => if o == 0 || !(decide (0 ≤ d) && decide (d ≤ 24)) then false else isGo (o - 1 + d) r
def isTree (ds : List Int) : Bool := decide (1 ≤ ds.length) && decide (ds.length ≤ 24) && isGo 1 ds
/-- the program's loop -/
def imGo (n : Int) : Int → List Int → Bool
  | m, [] => m == 0
  | m, d :: r => if m == 0 || decide (d < 0) || decide (n ≤ d) then false else imGo n (m + (d - 1)) r
theorem isGo_big : ∀ (r : List Int) (o : Int), (r.length : Int) < o → isGo o r = false := by
  intro r
  induction r with
  | nil => intro o h; simp [isGo] at h ⊢; omega
  | cons d r ih =>
    intro o h
    simp only [isGo]
    split
    · rfl
    · rename_i hc
      simp at hc
      simp only [List.length_cons] at h
      exact ih _ (by omega)
theorem im_is (n : Int) (hn : n ≤ 24) : ∀ (r : List Int) (o : Int), 0 ≤ o → (r.length : Int) ≤ n → imGo n o r = isGo o r := by
  intro r
  induction r with
  | nil => intro o _ _; rfl
  | cons d r ih =>
    intro o ho hl
    simp only [List.length_cons] at hl
    simp only [imGo, isGo]
    by_cases h0 : o = 0
    · simp [h0]
    by_cases h1 : d < 0
    · simp [h1, show ¬ 0 ≤ d by omega]
    by_cases h2 : n ≤ d
    · rw [if_pos (by simp [h2])]
      by_cases h3 : d ≤ 24
      · rw [if_neg (by simp [h0, h3]; omega), isGo_big _ _ (by omega)]
      · rw [if_pos (by simp; omega)]
    · rw [if_neg (by simp [h0]; omega), if_neg (by simp [h0]; omega), ih _ (by omega) (by omega)]
      congr 1; omega
theorem drop_at {xs : List Int} {k : Nat} {x : Int} (h : xs[k]? = some x) : xs.drop k = x :: xs.drop (k + 1) := by
  obtain ⟨hk, rfl⟩ := List.getElem?_eq_some_iff.1 h
  exact List.drop_eq_getElem_cons hk
theorem isGo_stop {xs : List Int} {k : Nat} {x o : Int} (h : xs[k]? = some x) (hs : (o == 0 || !(decide (0 ≤ x) && decide (x ≤ 24))) = true) : isGo o (xs.drop k) = false := by
  rw [drop_at h, isGo, if_pos hs]
theorem isGo_step {xs : List Int} {k : Nat} {x o : Int} (h : xs[k]? = some x) (h0 : o ≠ 0) (h1 : 0 ≤ x) (h2 : x ≤ 24) : isGo o (xs.drop k) = isGo (o - 1 + x) (xs.drop (k + 1)) := by
  rw [drop_at h, isGo, if_neg (by simp [h0, h1, h2])]
theorem imGo_stop {n : Int} {xs : List Int} {k : Nat} {x o : Int} (h : xs[k]? = some x) (hs : (o == 0 || decide (x < 0) || decide (n ≤ x)) = true) : imGo n o (xs.drop k) = false := by
  rw [drop_at h, imGo, if_pos hs]
theorem imGo_step {n : Int} {xs : List Int} {k : Nat} {x o : Int} (h : xs[k]? = some x) (h0 : o ≠ 0) (h1 : 0 ≤ x) (h2 : x < n) : imGo n o (xs.drop k) = imGo n (o + (x - 1)) (xs.drop (k + 1)) := by
  rw [drop_at h, imGo, if_neg (by simp [h0]; omega)]
theorem isTree_im {xs : List Int} (h : 1 ≤ xs.length) (h' : xs.length ≤ 24) : isTree xs = imGo xs.length 1 xs := by
  rw [im_is _ (by omega) _ _ (by omega) (by omega)]
  simp [isTree, h, h']
theorem isTree_is {xs : List Int} (h : 1 ≤ xs.length) (h' : xs.length ≤ 24) : isTree xs = isGo 1 xs := by simp [isTree, h, h']
theorem isTree_no {xs : List Int} (h : ¬ (1 ≤ xs.length ∧ xs.length ≤ 24)) : isTree xs = false := by
  simp only [isTree, Bool.and_eq_false_iff, decide_eq_false_iff_not]
  left; omega

/-- a list for a tree, nothing and the code 1 otherwise -/
def cond (xs l : List Int) : List Int × Int := if isTree xs then (l, 0) else ([], 1)
theorem cond_yes {xs l : List Int} (h : isTree xs = true) : cond xs l = (l, 0) := by simp [cond, h]
theorem cond_no {xs l : List Int} (h : isTree xs = false) : cond xs l = ([], 1) := by simp [cond, h]
theorem tree_len {xs : List Int} (h : isTree xs = true) : 1 ≤ xs.length ∧ xs.length ≤ 24 := by
  simp only [isTree, Bool.and_eq_true, decide_eq_true_eq] at h
  exact h.1
/-- the leaves among the first k nodes -/
def leaves (xs : List Int) : Nat → List Int
  | 0 => []
  | k + 1 => leaves xs k ++ (if xs[k]? = some 0 then [(k : Int)] else [])
theorem leaves_len (xs : List Int) : ∀ k, (leaves xs k).length ≤ k := by
  intro k
  induction k with
  | zero => simp [leaves]
  | succ k ih => simp only [leaves, List.length_append]; split <;> simp <;> omega
theorem leaves_hit {xs : List Int} {k : Nat} (h : xs[k]? = some 0) : leaves xs (k + 1) = leaves xs k ++ [(k : Int)] := by simp [leaves, h]
theorem leaves_miss {xs : List Int} {k : Nat} {x : Int} (h : xs[k]? = some x) (hx : x ≠ 0) : leaves xs (k + 1) = leaves xs k := by simp [leaves, h, hx]

/-- the loop from 'open' on stops within the list, over degrees in range -/
def ok : Int → List Int → Prop
  | o, [] => o ≤ 0
  | o, d :: r => o ≤ 0 ∨ (0 ≤ d ∧ d ≤ 24 ∧ ok (o - 1 + d) r)
/-- how many degrees it takes -/
def span : Int → List Int → Nat
  | _, [] => 0
  | o, d :: r => if o ≤ 0 then 0 else span (o - 1 + d) r + 1
theorem isGo_ok : ∀ (l : List Int) (o o' : Int), isGo o l = true → o' ≤ o → ok o' l := by
  intro l
  induction l with
  | nil => intro o o' h ho; simp [isGo] at h; simp only [ok]; omega
  | cons d r ih =>
    intro o o' h ho
    simp only [isGo] at h
    split at h
    · cases h
    · rename_i hc
      simp at hc
      by_cases h0 : o' ≤ 0
      · exact .inl h0
      · exact .inr ⟨hc.2.1, hc.2.2, ih _ _ h (by omega)⟩
theorem isGo_drop {xs : List Int} (h : isGo 1 xs = true) : ∀ v, v ≤ xs.length → ∃ s : Int, 0 ≤ s ∧ isGo s (xs.drop v) = true ∧ (v < xs.length → 1 ≤ s) := by
  intro v
  induction v with
  | zero => intro _; exact ⟨1, by omega, by simpa using h, fun _ => by omega⟩
  | succ v ih =>
    intro hv
    obtain ⟨s, h0, h1, h2⟩ := ih (by omega)
    have hx : xs[v]? = some xs[v] := List.getElem?_eq_getElem (by omega)
    rw [drop_at hx, isGo] at h1
    split at h1
    · cases h1
    · rename_i hc
      simp at hc
      refine ⟨_, ?_, h1, fun hv' => ?_⟩
      · omega
      · rw [drop_at (List.getElem?_eq_getElem hv'), isGo] at h1
        split at h1
        · cases h1
        · rename_i hc'
          simp at hc'
          omega
theorem tree_go {xs : List Int} (h : isTree xs = true) : isGo 1 xs = true := by
  simp only [isTree, Bool.and_eq_true, decide_eq_true_eq] at h
  exact h.2
theorem tree_ok {xs : List Int} (h : isTree xs = true) {v : Nat} (hv : v < xs.length) : ok 1 (xs.drop v) := by
  obtain ⟨s, _, h1, h2⟩ := isGo_drop (tree_go h) v (by omega)
  exact isGo_ok _ _ _ h1 (h2 hv)
theorem span_le : ∀ (l : List Int) (o : Int), span o l ≤ l.length := by
  intro l
  induction l with
  | nil => intro o; simp [span]
  | cons d r ih => intro o; simp only [span]; split <;> simp; exact ih _
theorem span_stop {o : Int} (h : o ≤ 0) (l : List Int) : span o l = 0 := by cases l <;> simp [span, h]
theorem span_step {xs : List Int} {k : Nat} {x o : Int} (h : xs[k]? = some x) (ho : 0 < o) : span o (xs.drop k) = span (o - 1 + x) (xs.drop (k + 1)) + 1 := by
  rw [drop_at h, span, if_neg (by omega)]
theorem ok_step {xs : List Int} {k : Nat} {x o : Int} (h : xs[k]? = some x) (ho : 0 < o) (hk : ok o (xs.drop k)) : 0 ≤ x ∧ x ≤ 24 ∧ ok (o - 1 + x) (xs.drop (k + 1)) := by
  rw [drop_at h] at hk
  rcases hk with hk | hk
  · omega
  · exact hk
theorem ok_in {xs : List Int} {k : Nat} {o : Int} (ho : 0 < o) (hk : ok o (xs.drop k)) : k < xs.length := by
  rcases Nat.lt_or_ge k xs.length with h | h
  · exact h
  · rw [List.drop_of_length_le h] at hk
    simp only [ok] at hk
    omega
/-- the sizes of the first k subtrees -/
def sizes (xs : List Int) (k : Nat) : List Int := (List.range k).map fun v => (span 1 (xs.drop v) : Int)
theorem sizes_len (xs : List Int) (k : Nat) : (sizes xs k).length = k := by simp [sizes]
theorem sizes_succ (xs : List Int) (k : Nat) : sizes xs (k + 1) = sizes xs k ++ [(span 1 (xs.drop k) : Int)] := by simp [sizes, List.range_succ]
theorem sizes_at (xs : List Int) {n k : Nat} (h : k < n) : (sizes xs n)[k]? = some (span 1 (xs.drop k) : Int) := by simp [sizes, h]

/-- the code of numbers that have to be nodes of a tree of n nodes -/
def codeGo (n : Int) : List Int → Int
  | [] => 0
  | v :: r => if v < 0 ∨ n ≤ v then 2 else codeGo n r
def code (xs ns : List Int) : Int := if isTree xs then codeGo xs.length ns else 1
theorem codeGo_hit {n : Int} {ns : List Int} {k : Nat} {v : Int} (h : ns[k]? = some v) (hv : v < 0 ∨ n ≤ v) : codeGo n (ns.drop k) = 2 := by rw [drop_at h, codeGo, if_pos hv]
theorem codeGo_miss {n : Int} {ns : List Int} {k : Nat} {v : Int} (h : ns[k]? = some v) (h0 : 0 ≤ v) (h1 : v < n) : codeGo n (ns.drop k) = codeGo n (ns.drop (k + 1)) := by rw [drop_at h, codeGo, if_neg (by omega)]

theorem code_tree {xs ns : List Int} (h : code xs ns = 0) : isTree xs = true := by
  cases ht : isTree xs
  · simp [code, ht] at h
  · rfl
theorem code_node {xs : List Int} {v : Int} {r : List Int} (h : code xs (v :: r) = 0) : 0 ≤ v ∧ v.toNat < xs.length ∧ code xs r = 0 := by
  have ht := code_tree h
  simp only [code, ht, if_true, codeGo] at h
  split at h
  · cases h
  · refine ⟨by omega, by omega, ?_⟩
    simp only [code, ht, if_true]
    exact h
/-- is v in the subtree of u -/
def below (xs : List Int) (v u : Int) : Bool := decide (u ≤ v) && decide (v < u + (span 1 (xs.drop u.toNat) : Int))
def isBelow (xs : List Int) (v u : Int) : Bool × Int := if code xs [v, u] = 0 then (below xs v u, 0) else (false, code xs [v, u])
theorem isBelow_yes {xs : List Int} {v u : Int} (h : code xs [v, u] = 0) : isBelow xs v u = (below xs v u, 0) := by simp [isBelow, h]
theorem isBelow_no {xs : List Int} {v u : Int} (h : code xs [v, u] ≠ 0) : isBelow xs v u = (false, code xs [v, u]) := by simp [isBelow, h]

/-- the i-th child of a node: the first stands behind the node, the next one behind the subtree of the one before it -/
def kidAt (xs : List Int) (v : Nat) : Nat → Nat
  | 0 => v + 1
  | i + 1 => kidAt xs v i + span 1 (xs.drop (kidAt xs v i))
/-- the sum of what is announced, less the nodes, over a piece of the list -/
def bal : List Int → Int
  | [] => 0
  | d :: r => (d - 1) + bal r
theorem bal_append (a b : List Int) : bal (a ++ b) = bal a + bal b := by
  induction a with
  | nil => simp [bal]
  | cons d r ih => simp only [List.cons_append, bal, ih]; omega
theorem isGo_bal : ∀ (l : List Int) (o : Int), isGo o l = true → o + bal l = 0 := by
  intro l
  induction l with
  | nil => intro o h; simp [isGo] at h; simp [bal, h]
  | cons d r ih =>
    intro o h
    simp only [isGo] at h
    split at h
    · cases h
    · have := ih _ h; simp only [bal]; omega
theorem isGo_pos : ∀ (l : List Int) (o : Int), isGo o l = true → 0 ≤ o → l ≠ [] → 1 ≤ o := by
  intro l o h h0 hl
  cases l with
  | nil => exact absurd rfl hl
  | cons d r =>
    simp only [isGo] at h
    split at h
    · cases h
    · rename_i hc; simp at hc; omega
theorem span_bal : ∀ (l : List Int) (o : Int), 0 ≤ o → ok o l → o + bal (l.take (span o l)) = 0 := by
  intro l
  induction l with
  | nil => intro o h0 h; simp only [ok] at h; simp [span, bal]; omega
  | cons d r ih =>
    intro o h0 h
    by_cases ho : o ≤ 0
    · rw [span_stop ho]; simp [bal]; omega
    · rcases h with h | ⟨h1, h2, h3⟩
      · omega
      · have := ih _ (by omega) h3
        rw [span, if_neg ho, List.take_succ_cons, bal]
        omega
/-- what is due ahead of node v -/
def due (xs : List Int) (v : Nat) : Int := 1 + bal (xs.take v)
theorem due_drop {xs : List Int} (h : isTree xs = true) (v : Nat) : due xs v + bal (xs.drop v) = 0 := by
  have h1 := isGo_bal _ _ (tree_go h)
  have h2 : bal xs = bal (xs.take v) + bal (xs.drop v) := by rw [← bal_append, List.take_append_drop]
  simp only [due]; omega
theorem due_pos {xs : List Int} (h : isTree xs = true) {v : Nat} (hv : v < xs.length) : 1 ≤ due xs v := by
  obtain ⟨s, h0, h1, h2⟩ := isGo_drop (tree_go h) v (by omega)
  have := isGo_bal _ _ h1
  have := due_drop h v
  have := h2 hv
  omega
theorem due_end {xs : List Int} (h : isTree xs = true) : due xs xs.length = 0 := by
  have := due_drop h xs.length
  simpa [bal] using this
theorem due_lt {xs : List Int} (h : isTree xs = true) {v : Nat} (hv : v ≤ xs.length) (hd : 1 ≤ due xs v) : v < xs.length := by
  rcases Nat.lt_or_eq_of_le hv with h1 | h1
  · exact h1
  · subst h1; have := due_end h; omega
theorem due_succ {xs : List Int} {v : Nat} {x : Int} (h : xs[v]? = some x) : due xs (v + 1) = due xs v + (x - 1) := by
  obtain ⟨hv, rfl⟩ := List.getElem?_eq_some_iff.1 h
  simp only [due]
  rw [List.take_succ_eq_append_getElem hv, bal_append]
  simp [bal]
  omega
theorem due_span {xs : List Int} (h : isTree xs = true) {v : Nat} (hv : v < xs.length) : due xs (v + span 1 (xs.drop v)) = due xs v - 1 := by
  have h1 := span_bal _ 1 (by omega) (tree_ok h hv)
  simp only [due]
  rw [List.take_add, bal_append]
  omega
theorem span_pos {xs : List Int} {v : Nat} (hv : v < xs.length) : 1 ≤ span 1 (xs.drop v) := by
  rw [drop_at (List.getElem?_eq_getElem hv), span, if_neg (by omega)]
  omega
theorem end_le {xs : List Int} {v : Nat} (hv : v ≤ xs.length) : v + span 1 (xs.drop v) ≤ xs.length := by
  have := span_le (xs.drop v) 1
  rw [List.length_drop] at this
  omega
theorem tree_deg {xs : List Int} (h : isTree xs = true) {v : Nat} {x : Int} (hx : xs[v]? = some x) : 0 ≤ x ∧ x ≤ 24 := by
  have hv := (List.getElem?_eq_some_iff.1 hx).1
  have := ok_step hx (by omega) (tree_ok h hv)
  exact ⟨this.1, this.2.1⟩
theorem kid_due {xs : List Int} (h : isTree xs = true) {v : Nat} {x : Int} (hx : xs[v]? = some x) : ∀ i : Nat, (i : Int) ≤ x → kidAt xs v i ≤ xs.length ∧ due xs (kidAt xs v i) = due xs v + (x - 1) - i ∧ v < kidAt xs v i := by
  have hv := (List.getElem?_eq_some_iff.1 hx).1
  have hd := due_pos h hv
  intro i
  induction i with
  | zero => intro _; exact ⟨by simp only [kidAt]; omega, by simp only [kidAt]; rw [due_succ hx]; omega, by simp only [kidAt]; omega⟩
  | succ i ih =>
    intro hi
    obtain ⟨h1, h2, h3⟩ := ih (by omega)
    have h4 : kidAt xs v i < xs.length := due_lt h h1 (by rw [h2]; omega)
    refine ⟨by simp only [kidAt]; exact end_le h1, ?_, by simp only [kidAt]; omega⟩
    simp only [kidAt]
    rw [due_span h h4, h2]
    omega
/-- a child lies within the tree -/
theorem kid_lt {xs : List Int} (h : isTree xs = true) {v : Nat} {x : Int} (hx : xs[v]? = some x) {i : Nat} (hi : (i : Int) < x) : kidAt xs v i < xs.length := by
  have hv := (List.getElem?_eq_some_iff.1 hx).1
  obtain ⟨h1, h2, _⟩ := kid_due h hx i (by omega)
  have := due_pos h hv
  exact due_lt h h1 (by rw [h2]; omega)

/-- the children of a node, as numbers -/
def childs (xs : List Int) (v k : Nat) : List Int := (List.range k).map fun i => (kidAt xs v i : Int)
theorem childs_succ (xs : List Int) (v k : Nat) : childs xs v (k + 1) = childs xs v k ++ [(kidAt xs v k : Int)] := by simp [childs, List.range_succ]
theorem childs_length (xs : List Int) (v k : Nat) : (childs xs v k).length = k := by simp [childs]
def childrenOf (xs : List Int) (v : Int) : List Int × Int := if code xs [v] = 0 then (childs xs v.toNat (xs[v.toNat]?.getD 0).toNat, 0) else ([], code xs [v])
theorem childrenOf_yes {xs : List Int} {v d : Nat} (h : code xs [(v : Int)] = 0) (hd : xs[v]? = some (d : Int)) : childrenOf xs v = (childs xs v d, 0) := by simp [childrenOf, h, hd]
theorem childrenOf_no {xs : List Int} {v : Int} (h : code xs [v] ≠ 0) : childrenOf xs v = ([], code xs [v]) := by simp [childrenOf, h]
theorem tree_degN {xs : List Int} (h : isTree xs = true) {v : Nat} (hv : v < xs.length) : ∃ d : Nat, xs[v]? = some (d : Int) ∧ d ≤ 24 := by
  have hx : xs[v]? = some xs[v] := List.getElem?_eq_getElem hv
  have := tree_deg h hx
  exact ⟨xs[v].toNat, by rw [hx]; congr 1; omega, by omega⟩

/-- the degrees of the subtree of a node -/
def sub (xs : List Int) (v : Nat) : List Int := (xs.drop v).take (span 1 (xs.drop v))
theorem sub_length {xs : List Int} (v : Nat) : (sub xs v).length = span 1 (xs.drop v) := by
  have := span_le (xs.drop v) 1
  simp only [sub, List.length_take]
  omega
def subtreeAt (xs : List Int) (v : Int) : List Int × Int := if code xs [v] = 0 then (sub xs v.toNat, 0) else ([], code xs [v])
theorem subtreeAt_yes {xs : List Int} {v : Nat} (h : code xs [(v : Int)] = 0) : subtreeAt xs v = (sub xs v, 0) := by simp [subtreeAt, h]
theorem subtreeAt_no {xs : List Int} {v : Int} (h : code xs [v] ≠ 0) : subtreeAt xs v = ([], code xs [v]) := by simp [subtreeAt, h]

/-- the way down by the places of an address -/
def nodeGo (xs : List Int) : Nat → List Int → Option Nat
  | v, [] => some v
  | v, a :: r => if xs[v]?.getD 0 ≤ a then none else nodeGo xs (kidAt xs v a.toNat) r
def anyNeg (l : List Int) : Bool := l.any fun x => decide (x < 0)
def nodeAt (xs l : List Int) : Int × Int :=
  if isTree xs = false then (0, 1) else if 24 < l.length ∨ anyNeg l = true then (0, 2) else match nodeGo xs 0 l with | none => (0, 4) | some v => ((v : Int), 0)
theorem nodeAt_no {xs l : List Int} (h : isTree xs = false) : nodeAt xs l = (0, 1) := by simp [nodeAt, h]
theorem nodeAt_range {xs l : List Int} (h : isTree xs = true) (h2 : 24 < l.length ∨ anyNeg l = true) : nodeAt xs l = (0, 2) := by simp only [nodeAt, h, if_pos h2]; simp
theorem nodeAt_go {xs l : List Int} (h : isTree xs = true) (h2 : l.length ≤ 24) (h3 : anyNeg l = false) : nodeAt xs l = (match nodeGo xs 0 l with | none => (0, 4) | some v => ((v : Int), 0)) := by
  simp only [nodeAt, h]
  rw [if_neg (by simp), if_neg (by simp [h3]; omega)]
theorem anyNeg_hit {l : List Int} {k : Nat} {x : Int} (h : l[k]? = some x) (hx : x < 0) : anyNeg l = true := by
  simp only [anyNeg, List.any_eq_true]
  obtain ⟨hk, rfl⟩ := List.getElem?_eq_some_iff.1 h
  exact ⟨_, List.getElem_mem hk, by simp [hx]⟩
theorem anyNeg_take {l : List Int} {k : Nat} {x : Int} (h : l[k]? = some x) (hx : 0 ≤ x) (ht : anyNeg (l.take k) = false) : anyNeg (l.take (k + 1)) = false := by
  obtain ⟨hk, rfl⟩ := List.getElem?_eq_some_iff.1 h
  rw [List.take_succ_eq_append_getElem hk, anyNeg, List.any_append]
  simp only [anyNeg] at ht
  simp [ht, hx]
theorem anyNeg_no {l : List Int} (h : anyNeg l = false) {k : Nat} {x : Int} (hx : l[k]? = some x) : 0 ≤ x := by
  rcases Int.lt_or_le x 0 with h1 | h1
  · have := anyNeg_hit hx h1; rw [h] at this; cases this
  · exact h1
theorem nodeGo_miss {xs l : List Int} {v k : Nat} {a : Int} {d : Nat} (h : l[k]? = some a) (hd : xs[v]? = some (d : Int)) (ha : (d : Int) ≤ a) : nodeGo xs v (l.drop k) = none := by
  rw [drop_at h, nodeGo, if_pos (by simp [hd, ha])]
theorem nodeGo_step {xs l : List Int} {v k : Nat} {a : Int} {d : Nat} (h : l[k]? = some a) (hd : xs[v]? = some (d : Int)) (ha : a < (d : Int)) : nodeGo xs v (l.drop k) = nodeGo xs (kidAt xs v a.toNat) (l.drop (k + 1)) := by
  rw [drop_at h, nodeGo, if_neg (by simp [hd]; omega)]
theorem childs_at (xs : List Int) (v : Nat) {k i : Nat} (h : i < k) : (childs xs v k)[i]? = some (kidAt xs v i : Int) := by simp [childs, h]

def cmpI (x y : Int) : Int := if x < y then -1 else if y < x then 1 else 0
/-- the order of lists of one length -/
def cmpL : List Int → List Int → Int
  | x :: r, y :: s => if x < y then -1 else if y < x then 1 else cmpL r s
  | _, _ => 0
theorem cmpI_lt {x y : Int} (h : x < y) : cmpI x y = -1 := by simp [cmpI, h]
theorem cmpI_gt {x y : Int} (h : y < x) : cmpI x y = 1 := by rw [cmpI, if_neg (by omega), if_pos h]
theorem cmpI_eq {x y : Int} (h : x = y) : cmpI x y = 0 := by rw [cmpI, if_neg (by omega), if_neg (by omega)]
theorem cmpL_lt {xs ys : List Int} {k : Nat} {x y : Int} (h : xs[k]? = some x) (h' : ys[k]? = some y) (hl : x < y) : cmpL (xs.drop k) (ys.drop k) = -1 := by
  rw [drop_at h, drop_at h', cmpL, if_pos hl]
theorem cmpL_gt {xs ys : List Int} {k : Nat} {x y : Int} (h : xs[k]? = some x) (h' : ys[k]? = some y) (hl : y < x) : cmpL (xs.drop k) (ys.drop k) = 1 := by
  rw [drop_at h, drop_at h', cmpL, if_neg (by omega), if_pos hl]
theorem cmpL_eq {xs ys : List Int} {k : Nat} {x y : Int} (h : xs[k]? = some x) (h' : ys[k]? = some y) (hl : x = y) : cmpL (xs.drop k) (ys.drop k) = cmpL (xs.drop (k + 1)) (ys.drop (k + 1)) := by
  rw [drop_at h, drop_at h', cmpL, if_neg (by omega), if_neg (by omega)]
theorem cmpL_end {xs ys : List Int} : cmpL (xs.drop xs.length) ys = 0 := by simp [cmpL]
theorem cmpL_swap : ∀ (xs ys : List Int), cmpL ys xs = - cmpL xs ys := by
  intro xs
  induction xs with
  | nil => intro ys; cases ys <;> simp [cmpL]
  | cons x r ih =>
    intro ys
    cases ys with
    | nil => simp [cmpL]
    | cons y s =>
      simp only [cmpL]
      by_cases h1 : x < y
      · rw [if_neg (by omega), if_pos h1, if_pos h1]; rfl
      · by_cases h2 : y < x
        · rw [if_pos h2, if_neg h1, if_pos h2]
        · rw [if_neg h2, if_neg h1, if_neg h1, if_neg h2]; exact ih s
theorem cmpL_range : ∀ (xs ys : List Int), cmpL xs ys = -1 ∨ cmpL xs ys = 0 ∨ cmpL xs ys = 1 := by
  intro xs
  induction xs with
  | nil => intro ys; cases ys <;> simp [cmpL]
  | cons x r ih =>
    intro ys
    cases ys with
    | nil => simp [cmpL]
    | cons y s => simp only [cmpL]; split; simp; split; simp; exact ih s
/-- the order of trees: by their numbers of nodes, then by their degrees -/
def cmpT (xs ys : List Int) : Int := if xs.length = ys.length then cmpL xs ys else cmpI xs.length ys.length
def compareTrees (xs ys : List Int) : Int × Int := if isTree xs = true ∧ isTree ys = true then (cmpT xs ys, 0) else (0, 1)
theorem compareTrees_yes {xs ys : List Int} (h : isTree xs = true) (h' : isTree ys = true) : compareTrees xs ys = (cmpT xs ys, 0) := by simp [compareTrees, h, h']
theorem compareTrees_no1 {xs ys : List Int} (h : isTree xs = false) : compareTrees xs ys = (0, 1) := by simp [compareTrees, h]
theorem compareTrees_no2 {xs ys : List Int} (h : isTree ys = false) : compareTrees xs ys = (0, 1) := by simp [compareTrees, h]
theorem cmpT_swap (xs ys : List Int) : cmpT ys xs = - cmpT xs ys := by
  simp only [cmpT]
  by_cases h : xs.length = ys.length
  · rw [if_pos h, if_pos h.symm, cmpL_swap]
  · rw [if_neg h, if_neg (fun e => h e.symm)]
    simp only [cmpI]
    by_cases h1 : (xs.length : Int) < ys.length
    · rw [if_neg (by omega), if_pos h1, if_pos h1]; rfl
    · rw [if_pos (by omega), if_neg h1, if_pos (by omega)]
theorem cmpT_range (xs ys : List Int) : cmpT xs ys = -1 ∨ cmpT xs ys = 0 ∨ cmpT xs ys = 1 := by
  simp only [cmpT]
  split
  · exact cmpL_range _ _
  · simp only [cmpI]; split; simp; split <;> simp

/-- one byte read: 'ds' the degrees so far, 'st' the nodes that are open -/
def pstep (ds st : List Int) (c : Int) : Option (List Int × List Int) :=
  if c = 40 then
    (if 0 < st.length then some ((ds.set (st[st.length - 1]?.getD 0).toNat ((ds[(st[st.length - 1]?.getD 0).toNat]?.getD 0) + 1)) ++ [0], st ++ [(ds.length : Int)])
     else if ds = [] then some ([0], [0]) else none)
  else if c = 41 then (if 0 < st.length then some (ds, st.dropLast) else none) else none
def prun : List Int → List Int → List Int → Option (List Int × List Int)
  | ds, st, [] => some (ds, st)
  | ds, st, c :: r => match pstep ds st c with | none => none | some (ds', st') => prun ds' st' r
def parse (l : List Int) : List Int × Int :=
  if 48 < l.length then ([], 6) else match prun [] [] l with | some (ds, []) => (if ds = [] then ([], 6) else (ds, 0)) | _ => ([], 6)
theorem prun_step {l ds st ds' st' : List Int} {k : Nat} {c : Int} (h : l[k]? = some c) (hs : pstep ds st c = some (ds', st')) : prun ds st (l.drop k) = prun ds' st' (l.drop (k + 1)) := by
  rw [drop_at h, prun, hs]
theorem prun_fail {l ds st : List Int} {k : Nat} {c : Int} (h : l[k]? = some c) (hs : pstep ds st c = none) : prun ds st (l.drop k) = none := by
  rw [drop_at h, prun, hs]
theorem parse_long {l : List Int} (h : 48 < l.length) : parse l = ([], 6) := by rw [parse, if_pos h]
theorem parse_fail {l : List Int} (h : prun [] [] l = none) : parse l = ([], 6) := by rw [parse, h]; split <;> rfl
theorem parse_open {l ds st : List Int} (h : prun [] [] l = some (ds, st)) (hs : 0 < st.length) : parse l = ([], 6) := by
  rw [parse, h]
  cases st with
  | nil => simp at hs
  | cons a r => split <;> rfl
theorem parse_empty {l : List Int} (h : prun [] [] l = some ([], [])) : parse l = ([], 6) := by rw [parse, h]; split <;> simp
theorem parse_done {l ds : List Int} (hl : l.length ≤ 48) (h : prun [] [] l = some (ds, [])) (hs : ds ≠ []) : parse l = (ds, 0) := by
  rw [parse, if_neg (by omega), h]
  simp [hs]
theorem pstep_open {ds st : List Int} {p : Int} {d : Int} (hp : st[st.length - 1]? = some p) (hd : ds[p.toNat]? = some d) : pstep ds st 40 = some (ds.set p.toNat (d + 1) ++ [0], st ++ [(ds.length : Int)]) := by
  have hl : 0 < st.length := by have := (List.getElem?_eq_some_iff.1 hp).1; omega
  simp [pstep, hl, hp, hd]
theorem pstep_first : pstep [] [] 40 = some ([0], [0]) := by simp [pstep]
theorem pstep_again {ds : List Int} (h : ds ≠ []) : pstep ds [] 40 = none := by simp [pstep, h]
theorem pstep_close {ds st : List Int} (h : 0 < st.length) : pstep ds st 41 = some (ds, st.dropLast) := by simp [pstep, h]
theorem pstep_none {ds : List Int} {c : Int} (h : ds ≠ [] ∨ c ≠ 40) : pstep ds [] c = none := by
  simp only [pstep]
  split
  · rename_i hc; rw [if_neg (by simp), if_neg (by rcases h with h | h; exact h; exact absurd hc h)]
  · split <;> simp
theorem pstep_other {ds st : List Int} {c : Int} (h : c ≠ 40) (h' : c ≠ 41) : pstep ds st c = none := by simp [pstep, h, h']
/-- what holds of a state: the open nodes are nodes; the degrees are small -/
def pgood (k : Nat) (ds st : List Int) : Prop :=
  ds.length ≤ k ∧ st.length ≤ ds.length ∧ (∀ p ∈ st, 0 ≤ p ∧ p.toNat < ds.length) ∧ (∀ d ∈ ds, 0 ≤ d ∧ d ≤ k)
theorem pgood_nil : pgood 0 [] [] := by simp [pgood]
theorem pgood_open {k : Nat} {ds st : List Int} {p d : Int} (h : pgood k ds st) (hd : ds[p.toNat]? = some d) : pgood (k + 1) (ds.set p.toNat (d + 1) ++ [0]) (st ++ [(ds.length : Int)]) := by
  obtain ⟨h1, h2, h3, h4⟩ := h
  refine ⟨by simp; omega, by simp; omega, fun q hq => ?_, fun e he => ?_⟩
  · simp only [List.length_append, List.length_set, List.length_cons, List.length_nil]
    rcases List.mem_append.1 hq with hq | hq
    · have := h3 q hq; omega
    · simp at hq; subst hq; simp
  · rcases List.mem_append.1 he with he | he
    · rcases List.mem_or_eq_of_mem_set he with he | he
      · have := h4 e he; omega
      · obtain ⟨hk, e1⟩ := List.getElem?_eq_some_iff.1 hd
        have := h4 d (e1 ▸ List.getElem_mem hk)
        omega
    · simp at he; subst he; omega
theorem pgood_first : pgood 1 [0] [0] := by simp [pgood]
theorem pgood_close {k : Nat} {ds st : List Int} (h : pgood k ds st) : pgood (k + 1) ds st.dropLast := by
  obtain ⟨h1, h2, h3, h4⟩ := h
  exact ⟨by omega, by simp; omega, fun q hq => h3 q ((List.dropLast_subset _) hq), fun e he => by have := h4 e he; omega⟩
end Go.Proofs.Ytdgcjkgbglofbaa.M

/- The walks of IsTree, the program's and the model's: both return the same Bool of the list of degrees. -/
namespace Go.Proofs.Ytdgcjkgbglofbaa
open Go.RowKit

theorem inAny (n lo hi : Int) (w : World) (b : Bool) (hb : Hid ((decide (lo ≤ n) && decide (n ≤ hi)) = b)) :
    Calls Try.prog 229 #[.int .i64 n, .int .i64 lo, .int .i64 hi] w fun e w' => e = .returned (.bool b) ∧ w = w' := by
  by_cases h : lo ≤ n
  · have hb' : b = decide (n ≤ hi) := by rw [← hb.out]; simp [h]
    clear hb
    subst hb'
    go_enter Try.func229, Try.ntmps229
    go_wp2
    go_ret
    exact ⟨rfl, rfl⟩
  · have hb' : b = false := by rw [← hb.out]; simp; intro h'; exact absurd h' h
    clear hb
    subst hb'
    have hd : decide (lo ≤ n) = false := decide_eq_false h
    go_enter Try.func229, Try.ntmps229
    go_wp2
    go_ret
    exact ⟨rfl, rfl⟩

theorem l01N (A : Option Addr) (n c : Nat) (w : World) : Calls Try.prog 169 #[.agg #[.slice A n c]] w fun e w' => e = .returned (.int .i64 n) ∧ Below w.heap.size w w' := by
  go_enter Try.func169, Try.ntmps169
  go_wp2
  go_ret
  exact ⟨rfl, bal (b0 w) _⟩

set_option maxHeartbeats 1000000 in
theorem specIs (A : Option Addr) (xs : List Int) (c : Nat) (w : World) (hx : xs.length ≤ 1000000000000) (h : Ints w w.heap.size A xs) :
    Calls Try.prog 168 #[.agg #[.slice A xs.length c]] w fun e w' => e = .returned (.bool (M.isTree xs)) ∧ Below w.heap.size w w' := by
  by_cases hn : 1 ≤ xs.length ∧ xs.length ≤ 24
  · have hd : Hid ((decide ((1 : Int) ≤ (xs.length : Int)) && decide ((xs.length : Int) ≤ 24)) = true) := by simp [Hid]; omega
    have ht := Lib.hid (M.isTree_is hn.1 hn.2)
    obtain ⟨hn1, hn2⟩ := hn
    go_enter Try.func168, Try.ntmps168
    go_wp2_with fail
    refine (l01N A xs.length c _).mono ?_
    rintro e w1 ⟨rfl, hb⟩
    obtain ⟨hc, hf⟩ := bcell hb
    have hB := btr (bal (b0 w) _) hb
    have h1 := (h.al (.cells #[.slice A xs.length c] 26)).be hb
    clear h
    have hsz : w.heap.size < w1.heap.size := by have := hb.size; simp at this; omega
    have hcell : w1.cell? ⟨w.heap.size, 0, none⟩ = some (.slice A xs.length c) := by rw [hc _ _ (by simp)]; simp
    clear hc hf hb
    go_wp2_with (go_at_call 229; refine (inAny _ _ _ _ _ hd).mono ?_; rintro e w' ⟨rfl, rfl⟩)
    go_loop [3, 4] (fun q i => ∃ (k : Nat) (o : Int), k ≤ xs.length ∧ i = .int .i64 k ∧ q = .int .i64 o ∧ 0 ≤ o ∧ o ≤ 1 + 24 * k ∧ Hid (M.isTree xs = M.isGo o (xs.drop k))) (fun _ i => xs.length - (intOf i).toNat)
    case atStart => exact ⟨0, 1, Nat.zero_le _, rfl, rfl, by omega, by omega, ht⟩
    case round =>
      obtain ⟨k, o, hk, rfl, rfl, ho0, ho1, hg⟩ := hrel
      clear ht
      by_cases hlt : k < xs.length
      · obtain ⟨b, off, x, rfl, hbB, g, hX⟩ := h1.at_ hlt
        clear h1
        by_cases ho : o = 0
        · subst ho
          have hs := Lib.hid (hg.out.trans (M.isGo_stop hX.out (by simp)))
          go_wp2_with fail
          go_ret
          exact ⟨by rw [hs.out]; rfl, hB⟩
        · have ho' : (o == 0) = false := by simp [ho]
          have ho2 : 1 ≤ o := by omega
          by_cases hr : 0 ≤ x ∧ x ≤ 24
          · obtain ⟨hr1, hr2⟩ := hr
            have hs := Lib.hid (hg.out.trans (M.isGo_step hX.out ho hr1 hr2))
            have hd2 : Hid ((decide (0 ≤ x) && decide (x ≤ 24)) = true) := by simp [Hid, hr1, hr2]
            clear ho
            go_wp2_with (go_at_call 229; refine (inAny _ _ _ _ _ hd2).mono ?_; rintro e w' ⟨rfl, rfl⟩)
            go_round
            case rel => exact ⟨k + 1, o - 1 + x, by omega, by go_num, rfl, by omega, by omega, hs⟩
            case measure => simp [intOf]; omega
          · have hd2 : Hid ((decide (0 ≤ x) && decide (x ≤ 24)) = false) := by simp [Hid]; omega
            have hs := Lib.hid (hg.out.trans (M.isGo_stop (o := o) hX.out (by rw [hd2.out]; simp)))
            clear ho
            go_wp2_with (go_at_call 229; refine (inAny _ _ _ _ _ hd2).mono ?_; rintro e w' ⟨rfl, rfl⟩)
            go_ret
            exact ⟨by rw [hs.out]; rfl, hB⟩
      · obtain rfl : k = xs.length := by omega
        have hs := hg.out
        rw [List.drop_length] at hs
        have Hs : Hid (M.isTree xs = (o == 0)) := hs
        clear hs hg
        go_wp2
        go_ret
        exact ⟨by rw [Hs.out]; rfl, hB⟩
  · have hd : Hid ((decide ((1 : Int) ≤ (xs.length : Int)) && decide ((xs.length : Int) ≤ 24)) = false) := by simp [Hid]; omega
    have ht := Lib.hid (M.isTree_no hn)
    clear hn
    go_enter Try.func168, Try.ntmps168
    go_wp2_with fail
    refine (l01N A xs.length c _).mono ?_
    rintro e w1 ⟨rfl, hb⟩
    have hB := btr (bal (b0 w) _) hb
    clear h
    go_wp2_with (go_at_call 229; refine (inAny _ _ _ _ _ hd).mono ?_; rintro e w' ⟨rfl, rfl⟩)
    go_ret
    exact ⟨by rw [ht.out]; rfl, hB⟩

set_option maxHeartbeats 1000000 in
theorem implIsTree (A : Option Addr) (xs : List Int) (c : Nat) (w : World) (hx : xs.length ≤ 1000000000000) (h : Ints w w.heap.size A xs) :
    Calls Try.prog 34 #[.agg #[.slice A xs.length c]] w fun e w' => e = .returned (.bool (M.isTree xs)) ∧ Below w.heap.size w w' := by
  by_cases hn : 1 ≤ xs.length
  · have hn' : ¬ ((xs.length : Int) < 1) := by omega
    have hd0 : decide ((xs.length : Int) < 1) = false := decide_eq_false hn'
    by_cases hn2 : xs.length ≤ 24
    · have ht := Lib.hid (M.isTree_im hn hn2)
      have hh := h.al (.cells #[.slice A xs.length c] 26)
      clear h
      go_enter Try.func34, Try.ntmps34
      go_wp2
      go_loop [4, 19] (fun q i => ∃ (k : Nat) (o : Int), k ≤ xs.length ∧ i = .int .i64 k ∧ q = .int .i64 o ∧ 0 ≤ o ∧ o ≤ 1 + 24 * k ∧ Hid (M.isTree xs = M.imGo xs.length o (xs.drop k))) (fun _ i => xs.length - (intOf i).toNat)
      case atStart => exact ⟨0, 1, Nat.zero_le _, rfl, rfl, by omega, by omega, ht⟩
      case round =>
        obtain ⟨k, o, hk, rfl, rfl, ho0, ho1, hg⟩ := hrel
        clear ht
        by_cases hlt : k < xs.length
        · obtain ⟨b, off, x, rfl, hbB, g, hX⟩ := hh.at_ hlt
          clear hh
          by_cases ho : o = 0
          · subst ho
            have hs := Lib.hid (hg.out.trans (M.imGo_stop hX.out (by simp)))
            go_wp2
            go_ret
            exact ⟨by rw [hs.out]; rfl, bal (b0 w) _⟩
          · have ho' : (o == 0) = false := by simp [ho]
            have ho2 : 1 ≤ o := by omega
            by_cases hr : x < 0
            · have hs := Lib.hid (hg.out.trans (M.imGo_stop (n := xs.length) (o := o) hX.out (by simp [hr])))
              clear ho
              go_wp2
              go_ret
              exact ⟨by rw [hs.out]; rfl, bal (b0 w) _⟩
            · have hr' : decide (x < 0) = false := decide_eq_false hr
              have hr0 : 0 ≤ x := by omega
              by_cases hr2 : (xs.length : Int) ≤ x
              · have hs := Lib.hid (hg.out.trans (M.imGo_stop (n := xs.length) (o := o) hX.out (by simp [hr2])))
                clear ho hr
                go_wp2
                go_ret
                exact ⟨by rw [hs.out]; rfl, bal (b0 w) _⟩
              · have hs := Lib.hid (hg.out.trans (M.imGo_step (n := xs.length) hX.out ho hr0 (by omega)))
                have hr3 : x < (xs.length : Int) := by omega
                have hr4 : decide ((xs.length : Int) ≤ x) = false := decide_eq_false hr2
                clear ho hr
                go_wp2
                go_round
                case rel => exact ⟨k + 1, o + (x - 1), by omega, by go_num, rfl, by omega, by omega, hs⟩
                case measure => simp [intOf]; omega
        · obtain rfl : k = xs.length := by omega
          have hs := hg.out
          rw [List.drop_length] at hs
          have Hs : Hid (M.isTree xs = (o == 0)) := hs
          clear hs hg
          go_wp2
          go_ret
          exact ⟨by rw [Hs.out]; rfl, bal (b0 w) _⟩
    · have ht := Lib.hid (M.isTree_no (xs := xs) (by omega))
      have hd1 : (24 : Int) < (xs.length : Int) := by omega
      go_enter Try.func34, Try.ntmps34
      go_wp2
      go_ret
      exact ⟨by rw [ht.out]; rfl, bal (b0 w) _⟩
  · have ht := Lib.hid (M.isTree_no (xs := xs) (by omega))
    have hd1 : (xs.length : Int) < 1 := by omega
    go_enter Try.func34, Try.ntmps34
    go_wp2
    go_ret
    exact ⟨by rw [ht.out]; rfl, bal (b0 w) _⟩
end Go.Proofs.Ytdgcjkgbglofbaa

/- append of one number to a row of the call's own; an empty row; the codes of trees and nodes. -/
namespace Go.Proofs.Ytdgcjkgbglofbaa
open Go.RowKit

theorem own64_len {w : World} {B n c : Nat} {A : Option Addr} {zs : List Int} (h : Own64 w B (.slice A n c) zs) : n = zs.length := by
  rcases h.2 with ⟨h1, h2⟩ | ⟨g, cap, cur, hv, _⟩
  · injection h1 with _ h1 _; omega
  · injection hv

theorem push64 {ops : Array Oper} {rest : List Oper} {o : Oper} {a : Act} {Q : Exit → Act → World → Prop} (hgd : o.guard = none) (s x : Operand)
    (ho : o.op = .call { callee := .builtin .append, args := #[s, x], argTypes := #[24, 24] }) (w : World) (B : Nat) (A : Option Addr) (n c : Nat) (zs : List Int) (y : Int)
    (hs : a.eval s = .slice A n c) (hx : a.eval x = .slice (some ⟨w.heap.size, 0, none⟩) 1 1) (hown : Hid (Own64 w B (.slice A n c) zs)) (hB : B ≤ w.heap.size) (hlen : n ≤ 1000000)
    (h : ∀ A' c' w', Hid (Own64 w' B (.slice A' (n + 1) c') (zs ++ [y])) → Hid (Below B w w') → wpList Try.prog ops Q rest (a.put o.dst (.slice A' (n + 1) c')) w') :
    wpList Try.prog ops Q (o :: rest) a (w.alloc (.cells #[.int .i64 y] 2)) := by
  obtain ⟨i0, hi0, hz0, hz1, hz2⟩ := info_parts info64
  have hown := hown.out
  have hn := own64_len hown
  subst hn
  refine wpList_append_own _ hgd s x 24 ho B 2 i0 (.int .i64 0) 1 8 Try.underlying24 hi0 hz0 hz1 hz2 rfl (by decide) _ zs.length (zs.map (Value.int .i64)) hs (hown.alloc _) ⟨w.heap.size, 0, none⟩ 1 1 [.int .i64 y] hx rfl ?_ ?_ ?_ ?_ ?_ ?_
  · intro j u hj
    match j, hj with
    | 0, hj => simp at hj; subst hj; simp [Addr.add]
  · intro u hu; simp at hu; subst hu; rfl
  · unfold maxLen; omega
  · omega
  · simp; omega
  · intro v' w1 hown1 hg1 _
    obtain ⟨A, c, rfl⟩ : ∃ A c, v' = .slice A (zs.length + 1) c := by
      rcases hown1.2 with ⟨rfl, h0⟩ | ⟨g, cap, _, rfl, _⟩
      · omega
      · exact ⟨_, _, rfl⟩
    refine h A c w1 ?_ ?_
    · have e : (zs ++ [y]).length = zs.length + 1 := by simp
      show Own64 _ _ _ _
      unfold Own64
      rw [e]
      simpa using hown1
    · exact ((Below.refl B w).alloc hB _).grown hg1 (by simp; omega) (fun k hk => (hown.lt k hk).1)

/-- '[]int64{}': a row of no numbers -/
theorem own64_empty {w : World} {B : Nat} (hB : B ≤ w.heap.size) : Own64 (w.alloc (.cells #[] 2)) B (.slice (some ⟨w.heap.size, 0, none⟩) 0 0) [] := by
  have := World.ownsRow_made (e := 2) (size := 1) w #[] 0 hB (by simp [maxLen]) (by simp)
  exact this

theorem own64_nil (w : World) (B : Nat) : Own64 w B (.slice none 0 0) [] := World.ownsRow_nil _ _ _ _

theorem own64_eq {w : World} {B : Nat} {v : Value} {zs ys : List Int} (h : Own64 w B v zs) (e : zs = ys) : Own64 w B v ys := e ▸ h

set_option maxHeartbeats 1000000 in
theorem codeOf0 (A : Option Addr) (xs : List Int) (c : Nat) (w : World) (hx : xs.length ≤ 1000000000000) (h : Ints w w.heap.size A xs) (r : Int) (hr : Hid ((if M.isTree xs then 0 else 1) = r)) :
    Calls Try.prog 166 #[.agg #[.slice A xs.length c], .slice none 0 0] w fun e w' => e = .returned (.int .i64 r) ∧ Below w.heap.size w w' := by
  cases ht : M.isTree xs
  all_goals
    rw [ht] at hr
    have hc := (implIsTree A xs c (w.alloc (.cells #[.slice A xs.length c] 26)) hx (h.al _))
    rw [ht] at hc
    have HC := Lib.hid hc
    obtain rfl := hr.out
    clear hc ht hr
    go_enter Try.func166, Try.ntmps166
    go_wp2_with fail
    refine HC.out.mono ?_
    rintro e w1 ⟨rfl, hb⟩
    have hB := btr (bal (b0 w) _) hb
    go_wp2
    first
      | (go_ret; exact ⟨rfl, hB⟩)
      | (refine wp_loop_rounds 1 ?_
         rw [rounds_succ]
         go_wp2
         go_ret
         exact ⟨rfl, hB⟩)
end Go.Proofs.Ytdgcjkgbglofbaa

/- Where a subtree ends: l01End, partAt, sizeAt: each stops within the list if the loop does. -/
namespace Go.Proofs.Ytdgcjkgbglofbaa
open Go.RowKit

set_option maxHeartbeats 1000000 in
theorem l01End (A : Option Addr) (xs : List Int) (c v E : Nat) (w : World) (hE : Hid (v + M.span 1 (xs.drop v) = E)) (hx : xs.length ≤ 24) (hk : Hid (M.ok 1 (xs.drop v))) (h : Ints w w.heap.size A xs) :
    Calls Try.prog 170 #[.agg #[.slice A xs.length c], .int .i64 v] w fun e w' => e = .returned (.int .i64 E) ∧ Below w.heap.size w w' := by
  have hv := M.ok_in (by omega) hk.out
  have hh := h.al (.cells #[.slice A xs.length c] 26)
  clear h
  go_enter Try.func170, Try.ntmps170
  go_wp2
  go_loop [1, 5] (fun i q => ∃ (k : Nat) (o : Int), v ≤ k ∧ k ≤ xs.length ∧ i = .int .i64 k ∧ q = .int .i64 o ∧ 0 ≤ o ∧ o ≤ 1 + 24 * k ∧ Hid (M.ok o (xs.drop k)) ∧ Hid (E = k + M.span o (xs.drop k))) (fun i _ => xs.length - (intOf i).toNat)
  case atStart => exact ⟨v, 1, Nat.le_refl _, by omega, rfl, rfl, by omega, by omega, hk, hE.out.symm⟩
  case round =>
    obtain ⟨k, o, hvk, hkn, rfl, rfl, ho0, ho1, hok, hs⟩ := hrel
    clear hk
    by_cases ho : 0 < o
    · have hlt := M.ok_in ho hok.out
      obtain ⟨b, off, x, rfl, hbB, g, hX⟩ := hh.at_ hlt
      have hst := M.ok_step hX.out ho hok.out
      have hx0 := hst.1
      have hx1 := hst.2.1
      have hok' := Lib.hid hst.2.2
      have hs' := Lib.hid (show E = (k + 1) + M.span (o - 1 + x) (xs.drop (k + 1)) by have h1 := M.span_step hX.out ho; have h2 := hs.out; omega)
      clear hst hh hok hs
      go_wp2
      go_round
      case rel => exact ⟨k + 1, o - 1 + x, by omega, by omega, by go_num, rfl, by omega, by omega, hok', hs'⟩
      case measure => simp [intOf]; omega
    · have hs' := hs.out
      rw [M.span_stop (o := o) (by omega) (xs.drop k), Nat.add_zero] at hs'
      have Hs : Hid (E = k) := hs'
      have ho' : o ≤ 0 := by omega
      clear hs hs' hh ho
      go_wp2
      go_ret
      exact ⟨by rw [Hs.out]; rfl, bal (b0 w) _⟩

set_option maxHeartbeats 1000000 in
theorem partAt (A : Option Addr) (xs : List Int) (c v E : Nat) (w : World) (hE : Hid (v + M.span 1 (xs.drop v) = E)) (hx : xs.length ≤ 24) (hc : xs.length ≤ c) (hc' : c ≤ 9223372036854775807) (hk : Hid (M.ok 1 (xs.drop v))) (h : Ints w w.heap.size A xs) :
    Calls Try.prog 195 #[.slice A xs.length c, .int .i64 v] w fun e w' => (∃ b off, A = some ⟨b, off, none⟩ ∧ e = .returned (.slice (some ⟨b, off + v, none⟩) (E - v) (E - v))) ∧ w = w' := by
  have hv := M.ok_in (by omega) hk.out
  obtain ⟨b, off, rfl, hbB, hcell⟩ := h (by omega)
  have Hcell := Lib.hid hcell
  clear h hcell
  go_enter Try.func195, Try.ntmps195
  go_wp2
  go_loop [5, 6] (fun i q => ∃ (k : Nat) (o : Int), v ≤ k ∧ k ≤ xs.length ∧ i = .int .i64 k ∧ q = .int .i64 o ∧ 0 ≤ o ∧ o ≤ 1 + 24 * k ∧ Hid (o = 0 → v < k) ∧ Hid (M.ok o (xs.drop k)) ∧ Hid (E = k + M.span o (xs.drop k))) (fun i _ => xs.length - (intOf i).toNat)
  case atStart => exact ⟨v, 1, Nat.le_refl _, by omega, rfl, rfl, by omega, by omega, by simp [Hid], hk, hE.out.symm⟩
  case round =>
    obtain ⟨k, o, hvk, hkn, rfl, rfl, ho0, ho1, hpos, hok, hs⟩ := hrel
    clear hk
    by_cases ho : 0 < o
    · have hlt := M.ok_in ho hok.out
      have hX : xs[k]? = some xs[k] := List.getElem?_eq_getElem hlt
      have g := Hcell.out k _ hX
      generalize xs[k] = x at hX g
      have hst := M.ok_step hX ho hok.out
      have hx0 := hst.1
      have hx1 := hst.2.1
      have hok' := Lib.hid hst.2.2
      have hs' := Lib.hid (show E = (k + 1) + M.span (o - 1 + x) (xs.drop (k + 1)) by have h1 := M.span_step hX ho; have h2 := hs.out; omega)
      have eo : o - 1 + x = o + (x - 1) := by omega
      rw [eo] at hok' hs'
      clear hst hok hs hX eo hpos
      go_wp2
      go_round
      case rel => exact ⟨k + 1, o + (x - 1), by omega, by omega, by go_num, rfl, by omega, by omega, fun _ => by omega, hok', hs'⟩
      case measure => simp [intOf]; omega
    · have hs' := hs.out
      have ho' : o ≤ 0 := by omega
      have hvk' : v < k := hpos.out (by omega)
      rw [M.span_stop (o := o) ho' (xs.drop k), Nat.add_zero] at hs'
      have Hs : Hid (E = k) := hs'
      have hvc : ¬ v = k := by omega
      have hkv : k - v ≠ 0 := by omega
      clear hs hs' ho
      go_wp2
      go_ret
      rw [Hs.out]
      first | exact ⟨⟨b, off, rfl, rfl⟩, rfl⟩ | exact ⟨⟨b, off, ⟨rfl, rfl⟩, rfl⟩, rfl⟩

theorem sizeAt (A : Option Addr) (xs : List Int) (c v S : Nat) (w : World) (hS : Hid (M.span 1 (xs.drop v) = S)) (hx : xs.length ≤ 24) (hc : xs.length ≤ c) (hc' : c ≤ 9223372036854775807) (hk : Hid (M.ok 1 (xs.drop v))) (h : Ints w w.heap.size A xs) :
    Calls Try.prog 167 #[.slice A xs.length c, .int .i64 v] w fun e w' => e = .returned (.int .i64 S) ∧ w = w' := by
  have hp := partAt A xs c v (v + S) w (by show _ = _; rw [hS.out]) hx hc hc' hk h
  rw [Nat.add_sub_cancel_left] at hp
  have HP := Lib.hid hp
  clear hp
  go_enter Try.func167, Try.ntmps167
  go_wp2_with fail
  refine HP.out.mono ?_
  rintro e w' ⟨⟨b, off, rfl, rfl⟩, rfl⟩
  go_wp2
  go_ret
  exact ⟨rfl, rfl⟩
end Go.Proofs.Ytdgcjkgbglofbaa

/- eachChild: the iterator over the places and the children of a node: for every loop body that keeps what lay below a block and the box of the degrees. -/
namespace Go.Proofs.Ytdgcjkgbglofbaa
open Go.RowKit Go.Shelf
attribute [local go_sem] Oper.semAt_some

/-- what a round of a loop over the children must keep: all below n₀, and the box of the degrees -/
def KeepK (n₀ Bd : Nat) (W W' : World) : Prop := Below n₀ W W' ∧ W'.heap[Bd]? = W.heap[Bd]?
theorem KeepK.t {n₀ Bd : Nat} {A B C : World} (h : KeepK n₀ Bd A B) (k : KeepK n₀ Bd B C) : KeepK n₀ Bd A C := ⟨h.1.trans k.1, k.2.trans h.2⟩
theorem KeepK.b {n₀ Bd : Nat} {w : World} (hn : n₀ ≤ w.heap.size) (hB : Bd < w.heap.size) (W : World) (l : Nat) (o o' : Obj) (hl : w.heap.size ≤ l) (h : W.heap[l]? = some o) (h1 : o.isCells = false) (h2 : o.isWalk = false) : KeepK n₀ Bd W (W.putObj l o') :=
  ⟨belowK_b hn W l o o' hl h h1 h2, (grownBy_putObj' W l o').block Bd (by have := (Array.getElem?_eq_some_iff.1 h).1; omega) (fun e => by cases e; omega)⟩

/-- the places and the children that have come behind k rounds -/
def kids (xs : List Int) (v k : Nat) : List (Nat × Nat) := (List.range k).map fun i => (i, M.kidAt xs v i)
theorem kids_succ (xs : List Int) (v k : Nat) : kids xs v (k + 1) = kids xs v k ++ [(k, M.kidAt xs v k)] := by simp [kids, List.range_succ]
theorem kids_length (xs : List Int) (v k : Nat) : (kids xs v k).length = k := by simp [kids]

set_option maxRecDepth 100000 in
set_option maxHeartbeats 2000000 in
theorem each1 {α : Type} (mk : Nat → α) (encs : α → Array Value) (n : Nat) (hn : 1 ≤ n) (l Bv Bd n₀ : Nat) (A : Option Addr) (xs : List Int) (c v d : Nat) (hx : xs.length ≤ 24) (hcl : xs.length ≤ c) (hcu : c ≤ 9223372036854775807) (ht : Hid (M.isTree xs = true)) (hd : Hid (xs[v]? = some (d : Int)))
    (hmk : ∀ k, k < d → encs (mk k) = #[.int .i64 (k : Int), .int .i64 (M.kidAt xs v k : Int)]) (J Jx : List α → World → Prop)
    (hY : ∀ pre x W, J pre W → pre.length < d → YieldAt Fence.wide (n - 1) Try.prog l (encs x) W fun e W' =>
      (e = .returned (.bool true) ∧ J (pre ++ [x]) W' ∧ KeepK n₀ Bd W W') ∨ (e = .returned (.bool false) ∧ Jx (pre ++ [x]) W'))
    (W : World) (hBv : W.cell? ⟨Bv, 0, none⟩ = some (.int .i64 v)) (hBd : Boxed W Bd 24 (.slice A xs.length c)) (hI : Ints W n₀ A xs) (hn0 : n₀ ≤ W.heap.size) (h0 : J [] W) :
    CallsIn Fence.wide n Try.prog 332 #[.func (.yield l) #[] #[], .pointer (some ⟨Bv, 0, none⟩), .pointer (some ⟨Bd, 0, none⟩)] W fun e W' => (∃ u, e = .returned u) ∧
      ((∃ ys, ys = (List.range d).map mk ∧ J ys W') ∨ (∃ pre, (∃ k, k ≤ d ∧ pre = (List.range k).map mk) ∧ Jx pre W')) := by
  have hv : v < xs.length := (List.getElem?_eq_some_iff.1 hd.out).1
  have hd24 : d ≤ 24 := by have := M.tree_deg ht.out hd.out; omega
  obtain ⟨b, off, rfl, hbB, hcells⟩ := hI (by omega)
  have Hcells := Lib.hid hcells
  have hc0 := hcells v _ hd.out
  have hcd := hBd.cell
  have HBd := Lib.hid hBd
  have HI := Lib.hid hI
  clear hcells hI hBd
  refine callsIn_of_wp Try.func332 rfl trivial ?_ rfl
  simp only [Try.ntmps332, List.size_toArray, List.length_cons, List.length_nil, Nat.reduceAdd, Nat.reduceSub, Array.replicate_succ, Array.replicate_zero, List.push_toArray, List.append_toArray, List.nil_append, List.cons_append]
  gi_wp2
  gi_loopw [4, 5, 12] (fun q _ i wr => ∃ k : Nat, k ≤ d ∧ i = .int .i64 k ∧ q = .int .i64 (M.kidAt xs v k) ∧ J ((List.range k).map mk) wr ∧ Hid (KeepK n₀ Bd W wr))
    (fun _ _ i _ => d - (intOf i).toNat)
  case atStart => exact ⟨0, Nat.zero_le _, rfl, by simp [M.kidAt], h0, ⟨Below.refl _ _, rfl⟩⟩
  case round =>
    obtain ⟨k, hk, rfl, rfl, hJs, hnx⟩ := hrel
    clear hc0 hcd
    by_cases hlt : k < d
    · have hYk := hY _ (mk k) wr hJs (by simpa using hlt)
      rw [hmk k hlt] at hYk
      obtain ⟨fn, tmps, assign, body, hy, hR⟩ := hYk
      have hkl := M.kid_lt ht.out hd.out (i := k) (by omega)
      have hsp := M.span_le (xs.drop (M.kidAt xs v k)) 1
      have hsp2 : (xs.drop (M.kidAt xs v k)).length ≤ xs.length := by simp
      have hok := Lib.hid (M.tree_ok ht.out hkl)
      have hks : Hid (M.kidAt xs v (k + 1) = M.kidAt xs v k + M.span 1 (xs.drop (M.kidAt xs v k))) := rfl
      generalize hC : M.kidAt xs v k = C at *
      obtain ⟨S, hS⟩ : ∃ S, Hid (M.span 1 (xs.drop C) = S) := ⟨_, rfl⟩
      have hS2 : S ≤ 24 := by have := hS.out; omega
      have HC := Lib.hid hC
      clear hsp hsp2 hC
      gi_wp2
      refine hR.mono ?_
      rintro e W3 (⟨rfl, hJ3, hk3⟩ | ⟨rfl, hJx3⟩)
      · have hk4 : Hid (KeepK n₀ Bd W W3) := hnx.out.t hk3
        have hbd3 : Boxed W3 Bd 24 (.slice (some ⟨b, off, none⟩) xs.length c) := hk4.out.2.trans HBd.out
        have hc3 := hbd3.cell
        have hI3 := Lib.hid ((HI.out.below hk4.out.1 (Nat.le_refl _)).more (Nat.le_trans hn0 hk4.out.1.size))
        have hK3 := Lib.hid hk3
        clear hk3 hbd3
        gi_wp2_with (refine ⟨trivial, ?_⟩; gi_at_call 167; refine (callsIn_wide.2 (sizeAt _ xs c C S _ hS hx hcl hcu hok hI3.out)).mono ?_; rintro e w' ⟨rfl, rfl⟩)
        have hks2 : Hid (M.kidAt xs v (k + 1) = C + S) := by show _ = _; rw [hks.out, hS.out]
        go_roundw
        case rel => exact ⟨k + 1, by omega, by go_num, by rw [hks2.out]; go_num, by rw [List.range_succ, List.map_append]; exact hJ3, hk4⟩
        case measure => simp [intOf]; omega
      · gi_wp2
        refine bodyPost_ret (results_none rfl _ _ _) rfl ?_
        exact ⟨⟨_, rfl⟩, .inr ⟨_, ⟨k + 1, by omega, by rw [List.range_succ, List.map_append]; rfl⟩, hJx3⟩⟩
    · obtain rfl : k = d := by omega
      gi_wp2
      go_end0
      exact ⟨⟨_, rfl⟩, .inl ⟨_, rfl, hJs⟩⟩

set_option maxHeartbeats 1000000 in
/-- eachChild: both arguments are boxed; the function value captures the boxes -/
theorem eachIn (n : Nat) (A : Option Addr) (m c : Nat) (v : Int) (w : World) :
    CallsIn Fence.wide n Try.prog 275 #[.slice A m c, .int .i64 v] w fun e w' => e = .returned (.func (.func 332) #[] #[.pointer (some ⟨w.heap.size + 1, 0, none⟩), .pointer (some ⟨w.heap.size, 0, none⟩)]) ∧
      w' = (w.alloc (.cells #[.slice A m c] 24)).alloc (.cells #[.int .i64 v] 2) := by
  refine callsIn_of_wp Try.func275 rfl trivial ?_ rfl
  simp only [Try.ntmps275, List.size_toArray, List.length_cons, List.length_nil, Nat.reduceAdd, Nat.reduceSub, Array.replicate_succ, Array.replicate_zero, List.push_toArray, List.append_toArray, List.nil_append, List.cons_append]
  gi_wp2
  go_ret
  exact ⟨rfl, rfl⟩

/-- what a range over the children of v gives: all of them in order, or a beginning where a round has said 'no more'; the elements as the caller names them -/
theorem each_stopsF {α : Type} (mk : Nat → α) (encs : α → Array Value) (n : Nat) (hn : 1 ≤ n) (Bv Bd n₀ : Nat) (A : Option Addr) (xs : List Int) (c v d : Nat) (hx : xs.length ≤ 24) (hcl : xs.length ≤ c) (hcu : c ≤ 9223372036854775807) (ht : Hid (M.isTree xs = true)) (hd : Hid (xs[v]? = some (d : Int)))
    (hmk : ∀ k, k < d → encs (mk k) = #[.int .i64 (k : Int), .int .i64 (M.kidAt xs v k : Int)]) (w : World) (hBv : w.cell? ⟨Bv, 0, none⟩ = some (.int .i64 v)) (hBd : Boxed w Bd 24 (.slice A xs.length c)) (hI : Ints w n₀ A xs) (hn0 : n₀ ≤ w.heap.size) :
    SeqStopsK Fence.wide n Try.prog 332 #[.pointer (some ⟨Bv, 0, none⟩), .pointer (some ⟨Bd, 0, none⟩)] encs (KeepK n₀ Bd)
      (fun ys => ys = (List.range d).map mk) (fun pre => ∃ k, k ≤ d ∧ pre = (List.range k).map mk) d w := fun l J Jx W hW _ _ hY h0 =>
  each1 mk encs n hn l Bv Bd n₀ A xs c v d hx hcl hcu ht hd hmk J Jx hY W ((hW.cell (p := ⟨Bv, 0, none⟩) (World.block_lt_of_cell? _ _ hBv)).trans hBv) ((hW.block Bd hBd.lt).trans hBd) (hI.below hW hn0) (Nat.le_trans hn0 hW.size) h0

/-- what a range over the children of v gives: all of them in order, or a beginning where a round has said 'no more' -/
theorem each_stops (n : Nat) (hn : 1 ≤ n) (Bv Bd n₀ : Nat) (A : Option Addr) (xs : List Int) (c v d : Nat) (hx : xs.length ≤ 24) (hcl : xs.length ≤ c) (hcu : c ≤ 9223372036854775807) (ht : Hid (M.isTree xs = true)) (hd : Hid (xs[v]? = some (d : Int)))
    (w : World) (hBv : w.cell? ⟨Bv, 0, none⟩ = some (.int .i64 v)) (hBd : Boxed w Bd 24 (.slice A xs.length c)) (hI : Ints w n₀ A xs) (hn0 : n₀ ≤ w.heap.size) :
    SeqStopsK Fence.wide n Try.prog 332 #[.pointer (some ⟨Bv, 0, none⟩), .pointer (some ⟨Bd, 0, none⟩)] (fun x : Nat × Nat => #[Value.int .i64 (x.1 : Int), Value.int .i64 (x.2 : Int)]) (KeepK n₀ Bd)
      (fun ys => ys = kids xs v d) (fun pre => ∃ k, k ≤ d ∧ pre = kids xs v k) d w :=
  each_stopsF (fun i => (i, M.kidAt xs v i)) _ n hn Bv Bd n₀ A xs c v d hx hcl hcu ht hd (fun _ _ => rfl) w hBv hBd hI hn0
end Go.Proofs.Ytdgcjkgbglofbaa

/- childrenIn: the children of a node in a row of its own; l01Children: the same. -/
namespace Go.Proofs.Ytdgcjkgbglofbaa
open Go.RowKit Go.Shelf
attribute [local go_sem] Oper.semAt_some

/-- the children, as numbers -/
def kidsI (pre : List (Nat × Nat)) : List Int := pre.map fun x => (x.2 : Int)
theorem kidsI_snoc (pre : List (Nat × Nat)) (x : Nat × Nat) : kidsI (pre ++ [x]) = kidsI pre ++ [(x.2 : Int)] := by simp [kidsI]
theorem kidsI_length (pre : List (Nat × Nat)) : (kidsI pre).length = pre.length := by simp [kidsI]

theorem keepK_appended {W w1 : World} {n₀ B Bd : Nat} {tmp : Obj} {v v' : Value} {u : Value} {n : Nat} {xs : List Value} (hB : Below n₀ W (w1.setCell ⟨B, 0, none⟩ v')) (hgrow : (W.alloc tmp).grownBy w1 v.ownBlock)
    (hrow : W.ownsRow n₀ 2 1 v n xs) (hd : Boxed W Bd 24 u) (hne : Bd ≠ B) : KeepK n₀ Bd W (w1.setCell ⟨B, 0, none⟩ v') := by
  have h1 : Boxed w1 Bd 24 u := (hd.alloc tmp).kept hgrow (hd.not_row (by decide) hrow)
  exact ⟨hB, (show Boxed _ Bd _ u from h1.other hne v').trans (show W.heap[Bd]? = _ from hd).symm⟩

set_option maxRecDepth 100000 in
set_option maxHeartbeats 2000000 in
theorem childrenIn_in (A : Option Addr) (xs : List Int) (c v d : Nat) (w : World) (hx : xs.length ≤ 24) (hcl : xs.length ≤ c) (hcu : c ≤ 9223372036854775807) (ht : Hid (M.isTree xs = true)) (hd : Hid (xs[v]? = some (d : Int))) (hI : Ints w w.heap.size A xs) :
    CallsIn Fence.wide 5 Try.prog 177 #[.slice A xs.length c, .int .i64 v] w fun e w' => ∃ u, e = .returned u ∧ w'.ownsRow w.heap.size 2 1 u (kidsI (kids xs v d)).length ((kidsI (kids xs v d)).map (Value.int .i64)) ∧ Below w.heap.size w w' := by
  obtain ⟨i0, hi0, hz0, hz1, hz2⟩ := info_parts info64
  have hd24 : d ≤ 24 := by have := (M.tree_deg ht.out hd.out).2; omega
  refine callsIn_of_wp_marks Try.func177 rfl trivial ?_ rfl
  simp only [Try.ntmps177, List.size_toArray, List.length_cons, List.length_nil, Nat.reduceAdd, Nat.reduceSub, Array.replicate_succ, Array.replicate_zero, List.push_toArray, List.append_toArray, List.nil_append, List.cons_append]
  gi_wp2_with (refine ⟨trivial, ?_⟩; gi_at_call 275; refine (eachIn 4 A xs.length c v _).mono ?_; rintro e w' ⟨rfl, rfl⟩)
  have bO := Boxed.new w 24 (.slice none 0 0)
  have bD := Boxed.new (w.alloc (.cells #[.slice none 0 0] 24)) 24 (.slice A xs.length c)
  have bV := Boxed.new ((w.alloc (.cells #[.slice none 0 0] 24)).alloc (.cells #[.slice A xs.length c] 24)) 2 (.int .i64 v)
  simp only [World.size_alloc] at bD bV
  have hB0 := bal (bal (bal (b0 w) (.cells #[.slice none 0 0] 24)) (.cells #[.slice A xs.length c] 24)) (.cells #[.int .i64 v] 2)
  have hKb := KeepK.b (n₀ := w.heap.size) (Bd := w.heap.size + 1) (w := ((w.alloc (.cells #[.slice none 0 0] 24)).alloc (.cells #[.slice A xs.length c] 24)).alloc (.cells #[.int .i64 v] 2)) (by simp; omega) (by simp)
  have h15 : 1 ≤ 5 := by omega
  refine wpIn_rangeFunc_ownG (α := Nat × Nat) rfl h15 (gf := 332) (lb := #[.pointer (some ⟨w.heap.size + 2, 0, none⟩), .pointer (some ⟨w.heap.size + 1, 0, none⟩)]) rfl trivial (enters_of Try.func332 (by kernel_rfl) rfl)
    (each_stops 4 (by omega) (w.heap.size + 2) (w.heap.size + 1) w.heap.size A xs c v d hx hcl hcu ht hd _ bV.cell (bD.alloc _) (hI.below hB0 (Nat.le_refl _)) (by simp; omega)) (fun h k => h.t k) hKb (Below.refl _ _) (fun _ => rfl)
    (fun pre W => (∃ u, Boxed W w.heap.size 24 u ∧ W.ownsRow w.heap.size 2 1 u (kidsI pre).length ((kidsI pre).map (Value.int .i64)) ∧ True) ∧ Boxed W (w.heap.size + 1) 24 (.slice A xs.length c) ∧ Below w.heap.size w W)
    (fun _ _ _ => False)
    (OwnFrom.and (Own.from (holdsRow_own w.heap.size w.heap.size 24 2 1 (fun pre => (kidsI pre).length) (fun pre => (kidsI pre).map (Value.int .i64)) (fun _ _ => True)) _) (OwnFrom.and (Own.from (boxed_own (w.heap.size + 1) 24 (fun _ => .slice A xs.length c)) _) (ownFrom_below (Nat.le_refl _) (by simp; omega))))
    (fun _ _ _ _ _ hs _ _ => hs)
    ⟨⟨_, (bO.alloc _).alloc _, World.ownsRow_nil _ _ _ _, trivial⟩, bD.alloc _, hB0⟩
    (fun x => { tmps := #[.slice A xs.length c, .int .i64 v, undef, undef, .slice none 0 0, .pointer (some ⟨w.heap.size, 0, none⟩), undef, .int .i64 (x.2 : Int), .slice A xs.length c, .int .i64 v, .func (.func 332) #[] #[.pointer (some ⟨w.heap.size + 2, 0, none⟩), .pointer (some ⟨w.heap.size + 1, 0, none⟩)], .int .i64 (x.1 : Int), .int .i64 (x.2 : Int), undef, undef, undef, undef, undef], defers := [] }) ?assign ?body ?done ?stop
  case assign =>
    intro l x W K hK
    gi_wp2
    exact hK
  case body =>
    rintro l pre x W ⟨⟨u, hu, hrow, _⟩, hbd, hB⟩ hlt
    have hc := hu.cell
    have hpl := kidsI_length pre
    have hpl2 : (kidsI pre).length ≤ 24 := by omega
    clear hpl
    gi_wp2_with (gi_at_builtin; refine wpListIn_append_own _ rfl _ _ 24 rfl w.heap.size 2 i0 (.int .i64 0) 1 8 Try.underlying24 hi0 hz0 hz1 hz2 rfl (by decide) _ _ _ rfl (hrow.alloc _) ⟨W.heap.size, 0, none⟩ 1 1 [.int .i64 (x.2 : Int)] rfl rfl (cell_one_new _ _ _) (by simp [Value.oneCell']) (by unfold maxLen; omega) (by omega) (by have := hB.size; simp; omega) ?_; intro v' w1 hown' hgrow _; obtain ⟨g', cap', rfl⟩ := ownsRow_succ hown'; obtain ⟨hv1, hv2, hr2, hk2, hb2⟩ := hu.appended (by decide) hrow hB.size (Nat.le_refl _) hown' hgrow; have hc1 := hv1.cell; have hf1 := hv1.frozen)
    have hkk := keepK_appended hb2 hgrow hrow hbd (by omega)
    exact ⟨hk2.from _, hkk, ⟨_, hv2, by rw [kidsI_snoc]; simpa using hr2, trivial⟩, hkk.2.trans hbd, hB.trans hb2⟩
  case done =>
    rintro D ys W hD rfl ⟨⟨u, hu, hrow, _⟩, hbd, hB⟩ hK
    have hc := hu.cell
    gi_wp2
    refine ⟨by simp, .inl ⟨_, _, rfl, run_takeDeferred hK, ?_⟩⟩
    exact ⟨_, results_tmp rfl _ _ _, u, rfl, ownsRow_putObj hrow _ hK rfl, hB.trans (belowK_b (w := w) (Nat.le_refl _) W D _ _ (by simp at hD; omega) hK rfl rfl)⟩
  case stop =>
    rintro D c pre W _ _ h _
    exact h.elim

theorem kidsI_kids (xs : List Int) (v k : Nat) : kidsI (kids xs v k) = M.childs xs v k := by simp [kidsI, kids, M.childs]

theorem childrenIn (A : Option Addr) (xs : List Int) (c v d : Nat) (w : World) (hx : xs.length ≤ 24) (hcl : xs.length ≤ c) (hcu : c ≤ 9223372036854775807) (ht : Hid (M.isTree xs = true)) (hd : Hid (xs[v]? = some (d : Int))) (hI : Ints w w.heap.size A xs) :
    Calls Try.prog 177 #[.slice A xs.length c, .int .i64 v] w fun e w' => ∃ A' c', e = .returned (.slice A' d c') ∧ Own64 w' w.heap.size (.slice A' d c') (M.childs xs v d) ∧ Below w.heap.size w w' := by
  refine ((callsIn_wide (n := 5)).1 (childrenIn_in A xs c v d w hx hcl hcu ht hd hI)).mono ?_
  rintro e w' ⟨u, rfl, ho, hb⟩
  rw [kidsI_kids, M.childs_length] at ho
  obtain ⟨A', c', rfl⟩ := own_shape ho
  exact ⟨A', c', rfl, by unfold Own64; rw [M.childs_length]; exact ho, hb⟩

set_option maxHeartbeats 2000000 in
theorem l01Children (A : Option Addr) (xs : List Int) (c v d : Nat) (w : World) (hx : xs.length ≤ 24) (ht : Hid (M.isTree xs = true)) (hd : Hid (xs[v]? = some (d : Int))) (h : Ints w w.heap.size A xs) :
    Calls Try.prog 178 #[.agg #[.slice A xs.length c], .int .i64 v] w fun e w' => ∃ A' c', e = .returned (.slice A' d c') ∧ Own64 w' w.heap.size (.slice A' d c') (M.childs xs v d) ∧ Below w.heap.size w w' := by
  have hv : v < xs.length := (List.getElem?_eq_some_iff.1 hd.out).1
  have hd24 : d ≤ 24 := by have := (M.tree_deg ht.out hd.out).2; omega
  have Hh := Lib.hid h
  obtain ⟨b, off, rfl, hbB, hcells⟩ := h (by omega)
  have hc0 := hcells v _ hd.out
  clear hcells
  go_enter Try.func178, Try.ntmps178
  go_wp2
  go_loopw [5, 6, 7] (fun q at_ i wr => ∃ (k : Nat) (A' : Option Addr) (n c' : Nat), k ≤ d ∧ i = .int .i64 ((d : Int) - k) ∧ at_ = .int .i64 (M.kidAt xs v k) ∧ q = .slice A' n c' ∧ Hid (Own64 wr (w.heap.size + 1) (.slice A' n c') (M.childs xs v k)) ∧ Hid (Below (w.heap.size + 1) (w.alloc (.cells #[.slice (some ⟨b, off, none⟩) xs.length c] 26)) wr)) (fun _ _ i _ => (intOf i).toNat)
  case atStart => exact ⟨0, some ⟨w.heap.size + 1, 0, none⟩, 0, 0, Nat.zero_le _, by go_num, by simp [M.kidAt], rfl, by have := own64_empty (w := w.alloc (.cells #[.slice (some ⟨b, off, none⟩) xs.length c] 26)) (B := w.heap.size + 1) (by simp); exact Lib.hid (by simpa [M.childs] using this), (Below.refl _ _).alloc (by simp) _⟩
  case round =>
    obtain ⟨k, A', n, c', hk, rfl, rfl, rfl, ho, hbr⟩ := hrel
    have hnr : n ≤ 1000000 := by have h1 := own64_len ho.out; rw [M.childs_length] at h1; omega
    clear hc0
    have hB1 := hbr.out.size
    by_cases hlt : k < d
    · have hkl := M.kid_lt ht.out hd.out (i := k) (by omega)
      have hok := Lib.hid (M.tree_ok ht.out hkl)
      have hsp := M.span_le (xs.drop (M.kidAt xs v k)) 1
      have hsp2 : (xs.drop (M.kidAt xs v k)).length ≤ xs.length := by simp
      obtain ⟨C2, hC2e⟩ : ∃ C2, Hid (M.kidAt xs v (k + 1) = C2) := ⟨_, rfl⟩
      have hks : Hid (M.kidAt xs v k + M.span 1 (xs.drop (M.kidAt xs v k)) = C2) := hC2e
      have hcs := Lib.hid (M.childs_succ xs v k)
      generalize M.kidAt xs v k = C at *
      have hC2 : C2 ≤ 48 := by have := hks.out; omega
      clear hsp hsp2
      have hB2 : w.heap.size + 1 ≤ wr.heap.size := by simpa using hB1
      have HbB := Lib.hid hbB
      clear hB1 hbB
      go_wp2_with (at_builtin; refine push64 rfl (.tmp 20) (.tmp 22) rfl wr (w.heap.size + 1) A' n c' (M.childs xs v k) (C : Int) rfl rfl ho hB2 hnr ?_; intro A2 c2 w2 ho2 hb2; have hb3 := Lib.hid (hbr.out.trans hb2.out); have hcell2 := (hb3.out.cell (p := ⟨w.heap.size, 0, none⟩) (Nat.lt_succ_self _)).trans (World.cell?_alloc_new w #[.slice (some ⟨b, off, none⟩) xs.length c] 26 0))
      have hsz2 : w.heap.size ≤ w2.heap.size := by have := hb3.out.size; simp at this; omega
      have hI2 := Lib.hid (((Hh.out.alloc (Nat.le_refl _) (.cells #[.slice (some ⟨b, off, none⟩) xs.length c] 26)).below hb3.out (Nat.le_succ _)).more hsz2)
      refine (l01End _ xs c C C2 _ hks hx hok hI2.out).mono ?_
      rintro e w3 ⟨rfl, hb⟩
      have hb4 := Lib.hid (hb3.out.trans (hb.mono (by have := hb3.out.size; simp at this; omega)))
      have ho4 := Lib.hid (own_be (own64_eq ho2.out hcs.out.symm) hb)
      clear hb
      go_wp2
      go_roundw
      case rel => exact ⟨k + 1, A2, _, c2, by omega, by go_num, by rw [hC2e.out], rfl, ho4, hb4⟩
      case measure => simp [intOf]; omega
    · obtain rfl : k = d := by omega
      go_wp2
      go_ret
      have hn := own64_len ho.out
      rw [M.childs_length] at hn
      subst hn
      exact ⟨A', c', rfl, own_mono ho.out (by omega), (bal (b0 w) _).trans (hbr.out.mono (by omega))⟩
end Go.Proofs.Ytdgcjkgbglofbaa

/- Two rows of the call's own that share no block: append to one, a store into one, one made shorter. -/
namespace Go.Proofs.Ytdgcjkgbglofbaa
open Go.RowKit

def Two (w : World) (B : Nat) (v1 v2 : Value) (xs ys : List Int) : Prop :=
  Own64 w B v1 xs ∧ Own64 w B v2 ys ∧ ∀ b, v1.ownBlock = some b → v2.ownBlock ≠ some b
theorem Two.symm {w : World} {B : Nat} {v1 v2 : Value} {xs ys : List Int} (h : Two w B v1 v2 xs ys) : Two w B v2 v1 ys xs := ⟨h.2.1, h.1, fun b h2 h1 => h.2.2 b h1 h2⟩
theorem Two.eq {w : World} {B : Nat} {v1 v2 : Value} {xs ys xs' ys' : List Int} (h : Two w B v1 v2 xs ys) (e : xs = xs') (e' : ys = ys') : Two w B v1 v2 xs' ys' := by subst e; subst e'; exact h
theorem Two.set {w : World} {B g n c : Nat} {v2 : Value} {xs ys : List Int} (h : Two w B (.slice (some ⟨g, 0, none⟩) n c) v2 xs ys) (hn : xs.length = n) (k : Nat) (x : Int) :
    Two (w.setCell ⟨g, k, none⟩ (.int .i64 x)) B (.slice (some ⟨g, 0, none⟩) n c) v2 (xs.set k x) ys :=
  ⟨own64_set h.1 hn k x, ownsRow_setCell_other h.2.1 (a := ⟨g, k, none⟩) (h.2.2 g rfl) _, h.2.2⟩
theorem Two.pop {w : World} {B n c : Nat} {A : Option Addr} {v1 : Value} {xs ys : List Int} (h : Two w B v1 (.slice A n c) xs ys) (hn : 0 < n) : Two w B v1 (.slice A (n - 1) c) xs ys.dropLast := by
  obtain ⟨h1, h2, h3⟩ := h
  refine ⟨h1, ?_, fun b hb => by
    have := h3 b hb
    rcases A with _ | a
    · simp [Value.ownBlock]
    · exact this⟩
  have hl := own64_len h2
  rcases h2.2 with ⟨h0, _⟩ | ⟨g, cap, cur, hv, hg, hh, hnc, hcm, hcs, ht⟩
  · injection h0 with _ e _; omega
  · injection hv with e1 e2 e3
    subst e1
    subst e3
    refine ⟨by simp, .inr ⟨g, c, cur, by rw [hl, List.length_dropLast], hg, hh, ?_, hcm, hcs, ?_⟩⟩
    · rw [List.length_dropLast]; omega
    · have hlen : (ys.map (Value.int .i64)).length = ys.length := by simp
      rw [List.length_dropLast, List.map_dropLast, List.dropLast_eq_take, hlen, ← ht, List.take_take]
      congr 1
      omega
theorem Two.shape {w : World} {B n c : Nat} {A : Option Addr} {v2 : Value} {xs ys : List Int} (h : Two w B (.slice A n c) v2 xs ys) : n = xs.length ∧ (0 < n → ∃ g, A = some ⟨g, 0, none⟩) := by
  have hl := own64_len h.1
  refine ⟨hl, fun hn => ?_⟩
  rcases h.1.2 with ⟨h0, _⟩ | ⟨g, cap, cur, hv, _⟩
  · injection h0 with _ e _; omega
  · injection hv with e1; exact ⟨g, e1⟩
theorem Two.cap {w : World} {B n c : Nat} {A : Option Addr} {v2 : Value} {xs ys : List Int} (h : Two w B (.slice A n c) v2 xs ys) : n ≤ c := by
  rcases h.1.2 with ⟨h0, _⟩ | ⟨g, cap, cur, hv, _, _, hnc, _⟩
  · injection h0 with _ e e'; omega
  · injection hv with _ e e'; omega

set_option maxRecDepth 100000 in
theorem pushTwo {ops : Array Oper} {rest : List Oper} {o : Oper} {a : Act} {Q : Exit → Act → World → Prop} (hgd : o.guard = none) (s x : Operand)
    (ho : o.op = .call { callee := .builtin .append, args := #[s, x], argTypes := #[24, 24] }) (w : World) (B : Nat) (A : Option Addr) (n c : Nat) (v2 : Value) (zs ys : List Int) (y : Int)
    (hs : a.eval s = .slice A n c) (N : Nat) (hx : a.eval x = .slice (some ⟨N, 0, none⟩) 1 1) (hN : N = w.heap.size) (ht : Hid (Two w B (.slice A n c) v2 zs ys)) (hB : B ≤ w.heap.size) (hlen : n ≤ 1000000)
    (h : ∀ A' c' w', Hid (Two w' B (.slice A' (n + 1) c') v2 (zs ++ [y]) ys) → Hid (Below B w w') → wpList Try.prog ops Q rest (a.put o.dst (.slice A' (n + 1) c')) w') :
    wpList Try.prog ops Q (o :: rest) a (w.alloc (.cells #[.int .i64 y] 2)) := by
  obtain ⟨i0, hi0, hz0, hz1, hz2⟩ := info_parts info64
  obtain ⟨hown, hown2, hdis⟩ := ht.out
  have hn := own64_len hown
  subst hn
  subst hN
  refine wpList_append_own_at _ hgd s x 24 ho B 2 i0 (.int .i64 0) 1 8 Try.underlying24 hi0 hz0 hz1 hz2 rfl (by decide) _ zs.length (zs.map (Value.int .i64)) hs (hown.alloc _) ⟨w.heap.size, 0, none⟩ 1 1 [.int .i64 y] hx rfl ?_ ?_ ?_ ?_ ?_ ?_
  · intro j u hj
    match j, hj with
    | 0, hj => simp at hj; subst hj; simp [Addr.add]
  · intro u hu; simp at hu; subst hu; rfl
  · unfold maxLen; omega
  · omega
  · simp; omega
  · intro v' w1 hown1 hg1 _ hat
    obtain ⟨A', c', rfl⟩ : ∃ A' c', v' = .slice A' (zs.length + 1) c' := own_shape hown1
    refine h A' c' w1 ⟨?_, ?_, ?_⟩ ?_
    · have e : (zs ++ [y]).length = zs.length + 1 := by simp
      unfold Own64
      rw [e]
      simpa using hown1
    · refine (hown2.alloc _).kept hg1 ?_
      cases hv : v2.ownBlock with
      | none => exact .inl rfl
      | some k => exact .inr fun e => hdis k e.symm hv
    · intro b hb hb2
      rcases hat with e | e
      · exact hdis b (e ▸ hb) hb2
      · have h1 := hown2.lt b hb2
        rw [hb] at e
        injection e with e
        simp at e
        omega
    · exact ((Below.refl B w).alloc hB _).grown hg1 (by simp; omega) (fun k hk => (hown.lt k hk).1)
end Go.Proofs.Ytdgcjkgbglofbaa

/- The order by levels as mathematics: nodes met are never more than the tree has, since their subtrees' sizes add up. -/
namespace Go.Proofs.Ytdgcjkgbglofbaa.M

theorem span_add : ∀ (l : List Int) (a b : Int), (∀ x ∈ l, 0 ≤ x) → 0 ≤ a → 0 ≤ b → span (a + b) l = span a l + span b (l.drop (span a l)) := by
  intro l
  induction l with
  | nil => intro a b _ _ _; simp [span]
  | cons x r ih =>
    intro a b h ha hb
    have hx := h x (by simp)
    by_cases h0 : a ≤ 0
    · obtain rfl : a = 0 := by omega
      rw [span_stop (Int.le_refl 0)]
      simp
    · have e1 : span (a + b) (x :: r) = span (a + b - 1 + x) r + 1 := by rw [span, if_neg (by omega)]
      have e2 : span a (x :: r) = span (a - 1 + x) r + 1 := by rw [span, if_neg (by omega)]
      have e3 : a + b - 1 + x = (a - 1 + x) + b := by omega
      rw [e1, e2, e3, ih _ _ (fun y hy => h y (by simp [hy])) (by omega) hb]
      simp only [List.drop_succ_cons]
      omega

theorem tree_nonneg {xs : List Int} (h : isTree xs = true) : ∀ x ∈ xs, 0 ≤ x := by
  intro x hx
  obtain ⟨i, hi, e⟩ := List.getElem_of_mem hx
  exact (tree_deg h (v := i) (x := x) (by rw [List.getElem?_eq_getElem hi, e])).1

theorem kid_span {xs : List Int} (h : isTree xs = true) (v : Nat) : ∀ k : Nat, kidAt xs v k = v + 1 + span k (xs.drop (v + 1)) := by
  intro k
  induction k with
  | zero => simp only [kidAt]; rw [span_stop (by simp)]
  | succ k ih =>
    simp only [kidAt]
    have e := span_add (xs.drop (v + 1)) k 1 (fun x hx => tree_nonneg h x (List.mem_of_mem_drop hx)) (by omega) (by omega)
    rw [List.drop_drop] at e
    have e2 : ((k + 1 : Nat) : Int) = (k : Int) + 1 := by omega
    rw [ih, e2, e]
    omega

theorem kid_end {xs : List Int} (h : isTree xs = true) {v d : Nat} (hd : xs[v]? = some (d : Int)) : kidAt xs v d = v + span 1 (xs.drop v) := by
  rw [kid_span h, span_step hd (by omega)]
  have e : (1 : Int) - 1 + d = d := by omega
  rw [e]
  omega

def szs (xs l : List Int) : Nat := (l.map fun v => span 1 (xs.drop v.toNat)).sum
theorem szs_append (xs a b : List Int) : szs xs (a ++ b) = szs xs a + szs xs b := by simp [szs]
theorem szs_childs (xs : List Int) (v k : Nat) : v + 1 + szs xs (childs xs v k) = kidAt xs v k := by
  induction k with
  | zero => simp [childs, szs, kidAt]
  | succ k ih =>
    rw [childs_succ, szs_append]
    simp only [kidAt]
    have : szs xs [(kidAt xs v k : Int)] = span 1 (xs.drop (kidAt xs v k)) := by simp [szs]
    omega
theorem szs_len {xs : List Int} : ∀ l : List Int, (∀ v ∈ l, 0 ≤ v ∧ v.toNat < xs.length) → l.length ≤ szs xs l := by
  intro l
  induction l with
  | nil => intro _; simp
  | cons a r ih =>
    intro h
    have h1 := ih (fun v hv => h v (by simp [hv]))
    have h2 := span_pos (xs := xs) (h a (by simp)).2
    simp only [szs, List.map_cons, List.sum_cons, List.length_cons] at *
    omega

def lev (xs : List Int) : Nat → List Int → Nat → List Int
  | 0, out, _ => out
  | f + 1, out, i => match out[i]? with
    | none => out
    | some v => lev xs f (out ++ childs xs v.toNat (xs[v.toNat]?.getD 0).toNat) (i + 1)
def level (xs : List Int) : List Int := lev xs xs.length [0] 0
def lgood (xs : List Int) (i : Nat) (out : List Int) : Prop := i ≤ out.length ∧ i + szs xs (out.drop i) = xs.length ∧ ∀ v ∈ out, 0 ≤ v ∧ v.toNat < xs.length

theorem lgood_len {xs out : List Int} {i : Nat} (h : lgood xs i out) : out.length ≤ xs.length := by
  obtain ⟨h1, h2, h3⟩ := h
  have := szs_len (xs := xs) (out.drop i) (fun v hv => h3 v (List.mem_of_mem_drop hv))
  simp only [List.length_drop] at this
  omega
theorem childs_in {xs : List Int} (h : isTree xs = true) {v d : Nat} (hd : xs[v]? = some (d : Int)) : ∀ u ∈ childs xs v d, 0 ≤ u ∧ u.toNat < xs.length := by
  intro u hu
  simp only [childs, List.mem_map, List.mem_range] at hu
  obtain ⟨i, hi, rfl⟩ := hu
  exact ⟨by omega, by simpa using kid_lt h hd (i := i) (by omega)⟩
theorem lgood_step {xs out : List Int} {i v d : Nat} (ht : isTree xs = true) (h : lgood xs i out) (hv : out[i]? = some (v : Int)) (hd : xs[v]? = some (d : Int)) : lgood xs (i + 1) (out ++ childs xs v d) := by
  obtain ⟨h1, h2, h3⟩ := h
  have hi := (List.getElem?_eq_some_iff.1 hv).1
  refine ⟨by simp; omega, ?_, fun u hu => ?_⟩
  · rw [List.drop_append_of_le_length (by omega), szs_append]
    rw [drop_at hv] at h2
    have e1 : szs xs ((v : Int) :: out.drop (i + 1)) = span 1 (xs.drop v) + szs xs (out.drop (i + 1)) := by simp [szs]
    have e2 := szs_childs xs v d
    have e3 := kid_end ht hd
    omega
  · rcases List.mem_append.1 hu with hu | hu
    · exact h3 u hu
    · exact childs_in ht hd u hu
theorem lgood_start {xs : List Int} (ht : isTree xs = true) : lgood xs 0 [0] := by
  have hl := (tree_len ht).1
  refine ⟨by simp, ?_, fun v hv => by simp at hv; subst hv; simp; omega⟩
  have h0 : due xs 0 = 1 := by simp [due, bal]
  have h1 := due_span ht (v := 0) hl
  have h2 := end_le (xs := xs) (v := 0) (by omega)
  simp only [List.drop_zero, Nat.zero_add] at h1 h2
  have h3 : ¬ span 1 xs < xs.length := fun hlt => by have := due_pos ht hlt; omega
  simp [szs]
  omega
theorem lev_step {xs out : List Int} {n i v d : Nat} (hn : i < n) (hv : out[i]? = some (v : Int)) (hd : xs[v]? = some (d : Int)) : lev xs (n - i) out i = lev xs (n - (i + 1)) (out ++ childs xs v d) (i + 1) := by
  have e : n - i = (n - (i + 1)) + 1 := by omega
  rw [e, lev, hv]
  simp [hd]
theorem lev_end {xs out : List Int} {f i : Nat} (h : out.length ≤ i) : lev xs f out i = out := by
  cases f with
  | zero => rfl
  | succ f => rw [lev, List.getElem?_eq_none h]
theorem lev_len {xs : List Int} (ht : isTree xs = true) : ∀ (f : Nat) (out : List Int) (i : Nat), lgood xs i out → (lev xs f out i).length ≤ xs.length := by
  intro f
  induction f with
  | zero => intro out i h; exact lgood_len h
  | succ f ih =>
    intro out i h
    rw [lev]
    split
    · exact lgood_len h
    · rename_i v hv
      obtain ⟨h0, h1⟩ := h.2.2 v (List.mem_of_getElem? hv)
      obtain ⟨n, rfl⟩ := Int.eq_ofNat_of_zero_le h0
      obtain ⟨d, hd, _⟩ := tree_degN ht h1
      simp only [Int.toNat_natCast] at hd h1 ⊢
      rw [hd]
      exact ih _ _ (by simpa using lgood_step ht h hv hd)
end Go.Proofs.Ytdgcjkgbglofbaa.M

/- Parents and meets as mathematics: subtrees are nested, each node but the root is a child of one node, and the meet is the greatest node that has both below it. -/
namespace Go.Proofs.Ytdgcjkgbglofbaa.M

def fin (xs : List Int) (v : Nat) : Nat := v + span 1 (xs.drop v)
theorem span_min : ∀ (l : List Int) (o : Int) (k : Nat), k < span o l → 1 ≤ o + bal (l.take k) := by
  intro l
  induction l with
  | nil => intro o k h; simp [span] at h
  | cons x r ih =>
    intro o k h
    rw [span] at h
    split at h
    · omega
    · cases k with
      | zero => simp only [List.take_zero, bal]; omega
      | succ k =>
        have := ih (o - 1 + x) k (by omega)
        simp only [List.take_succ_cons, bal]
        omega
theorem due_in {xs : List Int} {v q : Nat} (h1 : v ≤ q) (h2 : q < fin xs v) : due xs v ≤ due xs q := by
  have h := span_min (xs.drop v) 1 (q - v) (by simp only [fin] at h2; omega)
  have e : xs.take q = xs.take v ++ (xs.drop v).take (q - v) := by
    have := List.take_add (l := xs) (i := v) (j := q - v)
    rw [← this]
    congr 1
    omega
  simp only [due]
  rw [e, bal_append]
  omega
theorem fin_gt {xs : List Int} {v : Nat} (h : v < xs.length) : v < fin xs v := by have := span_pos h; simp only [fin]; omega
theorem fin_le {xs : List Int} {v : Nat} (h : v ≤ xs.length) : fin xs v ≤ xs.length := end_le h
theorem fin_root {xs : List Int} (ht : isTree xs = true) : fin xs 0 = xs.length := by
  have := (lgood_start ht).2.1
  simpa [szs, fin] using this
theorem nest {xs : List Int} (ht : isTree xs = true) {v q : Nat} (hv : v < xs.length) (h1 : v ≤ q) (h2 : q < fin xs v) : fin xs q ≤ fin xs v := by
  have hl := fin_le (xs := xs) (v := v) (by omega)
  rcases Nat.lt_or_ge (fin xs v) (fin xs q) with h | h
  · have e1 := due_in (xs := xs) (v := q) (q := fin xs v) (by omega) h
    have e2 := due_span ht hv
    have e3 := due_in h1 h2
    simp only [fin] at e1
    omega
  · exact h
theorem kid_le {xs : List Int} {v i j : Nat} (h : i ≤ j) : kidAt xs v i ≤ kidAt xs v j := by
  induction j with
  | zero => obtain rfl : i = 0 := by omega
            exact Nat.le_refl _
  | succ j ih =>
    rcases Nat.lt_or_ge i (j + 1) with h1 | h1
    · have := ih (by omega)
      simp only [kidAt]
      omega
    · obtain rfl : i = j + 1 := by omega
      exact Nat.le_refl _
theorem kid_tile {xs : List Int} {v at_ : Nat} (h : v < at_) : ∀ i, at_ < kidAt xs v i → ∃ j, j < i ∧ kidAt xs v j ≤ at_ ∧ at_ < kidAt xs v (j + 1) := by
  intro i
  induction i with
  | zero => intro h1; simp only [kidAt] at h1; omega
  | succ i ih =>
    intro h1
    rcases Nat.lt_or_ge at_ (kidAt xs v i) with h2 | h2
    · obtain ⟨j, hj, h3⟩ := ih h2
      exact ⟨j, by omega, h3⟩
    · exact ⟨i, by omega, h2, h1⟩
def IsKid (xs : List Int) (u c : Nat) : Prop := ∃ (d : Nat) (i : Nat), xs[u]? = some (d : Int) ∧ i < d ∧ kidAt xs u i = c
theorem kid_bounds {xs : List Int} (ht : isTree xs = true) {u c : Nat} (h : IsKid xs u c) : u < c ∧ c < fin xs u ∧ c < xs.length := by
  obtain ⟨d, i, hd, hi, rfl⟩ := h
  have h1 := kid_due ht hd i (by omega)
  have h2 := kid_lt ht hd (i := i) (by omega)
  have h3 := kid_end ht hd
  have h4 := kid_le (xs := xs) (v := u) (i := i + 1) (j := d) (by omega)
  have h5 := span_pos h2
  simp only [kidAt] at h4
  simp only [fin]
  omega
theorem kid_up {xs : List Int} (ht : isTree xs = true) {p c r : Nat} (h : IsKid xs p c) (h1 : r < c) (h2 : c < fin xs r) : r ≤ p := by
  obtain ⟨hb1, hb2, hb3⟩ := kid_bounds ht h
  rcases Nat.lt_or_ge p r with hlt | hge
  · obtain ⟨d, i, hd, hi, hk⟩ := h
    have he := kid_end ht hd
    obtain ⟨j, hj, hj1, hj2⟩ := kid_tile (xs := xs) (v := p) (at_ := r) hlt d (by simp only [fin] at hb2; omega)
    have hjl := kid_lt ht hd (i := j) (by omega)
    have hn := nest ht hjl hj1 (by simp only [kidAt] at hj2; exact hj2)
    have hn2 : fin xs (kidAt xs p j) = kidAt xs p (j + 1) := by simp only [fin, kidAt]
    rcases Nat.lt_or_ge i (j + 1) with hij | hij
    · have := kid_le (xs := xs) (v := p) (i := i) (j := j) (by omega)
      omega
    · have := kid_le (xs := xs) (v := p) (i := j + 1) (j := i) hij
      omega
  · exact hge
theorem kid_unique {xs : List Int} (ht : isTree xs = true) {p q c : Nat} (h : IsKid xs p c) (h' : IsKid xs q c) : p = q := by
  have a := kid_bounds ht h
  have b := kid_bounds ht h'
  have := kid_up ht h b.1 b.2.1
  have := kid_up ht h' a.1 a.2.1
  omega
theorem kid_exists {xs : List Int} (ht : isTree xs = true) {c : Nat} (hc : c < xs.length) : ∀ (m u : Nat), c - u ≤ m → u < c → c < fin xs u → ∃ p, IsKid xs p c := by
  intro m
  induction m with
  | zero => intro u h1 h2; omega
  | succ m ih =>
    intro u h1 h2 h3
    obtain ⟨d, hd, _⟩ := tree_degN ht (v := u) (by omega)
    have he := kid_end ht hd
    obtain ⟨j, hj, hj1, hj2⟩ := kid_tile (xs := xs) h2 d (by simp only [fin] at h3; omega)
    rcases Nat.lt_or_ge (kidAt xs u j) c with h4 | h4
    · have h5 := (kid_due ht hd j (by omega)).2.2
      exact ih (kidAt xs u j) (by omega) h4 (by simp only [kidAt] at hj2; exact hj2)
    · exact ⟨u, d, j, hd, hj, by omega⟩
theorem kid_has {xs : List Int} (ht : isTree xs = true) {c : Nat} (h0 : 0 < c) (hc : c < xs.length) : ∃ p, IsKid xs p c :=
  kid_exists ht hc c 0 (by omega) h0 (by rw [fin_root ht]; exact hc)

/-- v stands at u or below it -/
def bel (xs : List Int) (v u : Nat) : Bool := decide (u ≤ v) && decide (v < fin xs u)
theorem bel_iff {xs : List Int} {v u : Nat} : bel xs v u = true ↔ u ≤ v ∧ v < fin xs u := by simp [bel]
def meetDown (xs : List Int) (v w : Nat) : Nat → Nat
  | 0 => 0
  | u + 1 => if bel xs v (u + 1) && bel xs w (u + 1) then u + 1 else meetDown xs v w u
theorem meetDown_hit {xs : List Int} {v w u : Nat} (h : (bel xs v u && bel xs w u) = true) : meetDown xs v w u = u := by
  cases u with
  | zero => rfl
  | succ u => rw [meetDown, if_pos h]
theorem meetDown_miss {xs : List Int} {v w u : Nat} (h : (bel xs v (u + 1) && bel xs w (u + 1)) = false) : meetDown xs v w (u + 1) = meetDown xs v w u := by rw [meetDown, if_neg (by simp [h])]
theorem meetDown_le (xs : List Int) (v w : Nat) : ∀ u, meetDown xs v w u ≤ u := by
  intro u
  induction u with
  | zero => exact Nat.le_refl _
  | succ u ih => rw [meetDown]; split <;> omega
theorem meetDown_bel {xs : List Int} (ht : isTree xs = true) {v w : Nat} (hv : v < xs.length) (hw : w < xs.length) : ∀ u, bel xs v (meetDown xs v w u) = true ∧ bel xs w (meetDown xs v w u) = true := by
  intro u
  induction u with
  | zero => simp only [meetDown, bel_iff, fin_root ht]; omega
  | succ u ih =>
    rw [meetDown]
    split
    · rename_i h; simpa using h
    · exact ih
theorem meetDown_max {xs : List Int} {v w : Nat} : ∀ u r, r ≤ u → bel xs v r = true → bel xs w r = true → r ≤ meetDown xs v w u := by
  intro u
  induction u with
  | zero => intro r h _ _; omega
  | succ u ih =>
    intro r h h1 h2
    rcases Nat.lt_or_ge r (u + 1) with h3 | h3
    · have := ih r (by omega) h1 h2
      rw [meetDown]
      split <;> omega
    · obtain rfl : r = u + 1 := by omega
      rw [meetDown_hit (by simp [h1, h2])]
      exact Nat.le_refl _
def meet (xs : List Int) (v w : Nat) : Nat := meetDown xs v w (min v w)
/-- the model's walk: at the stop -/
theorem meet_stop {xs : List Int} {v w a : Nat} (h1 : bel xs v a = true) (h2 : bel xs w a = true) (h3 : meet xs v w ≤ a) : a = meet xs v w := by
  have b1 := bel_iff.1 h1
  have b2 := bel_iff.1 h2
  have := meetDown_max (xs := xs) (v := v) (w := w) (min v w) a (by omega) h1 h2
  simp only [meet] at *
  omega
/-- the model's walk: a step to the parent -/
theorem meet_step {xs : List Int} (ht : isTree xs = true) {v w a p : Nat} (hv : v < xs.length) (hw : w < xs.length) (h1 : bel xs v a = true) (h2 : bel xs w a = false) (h3 : meet xs v w ≤ a) (hp : IsKid xs p a) :
    bel xs v p = true ∧ meet xs v w ≤ p := by
  obtain ⟨m1, m2⟩ := meetDown_bel ht hv hw (min v w)
  have b1 := bel_iff.1 h1
  have hb := kid_bounds ht hp
  have hn := nest ht (v := p) (q := a) (by omega) (by omega) hb.2.1
  refine ⟨bel_iff.2 (by omega), ?_⟩
  have hm : meet xs v w ≠ a := fun e => by
    rw [← e] at h2
    simp only [meet] at h2
    rw [m2] at h2
    cases h2
  have b2 := bel_iff.1 m1
  exact kid_up ht hp (by omega) (by simp only [meet]; omega)
theorem meet_start {xs : List Int} {v w : Nat} (hv : v < xs.length) : bel xs v v = true ∧ meet xs v w ≤ v := by
  have := meetDown_le xs v w (min v w)
  have h2 := fin_gt hv
  exact ⟨bel_iff.2 ⟨Nat.le_refl _, h2⟩, by simp only [meet]; omega⟩
end Go.Proofs.Ytdgcjkgbglofbaa.M

/- l01Parents: the model's row of parents. -/
namespace Go.Proofs.Ytdgcjkgbglofbaa
open Go.RowKit

namespace M
def PartP (xs : List Int) (k j : Nat) (ps : List Int) : Prop :=
  ps.length = xs.length ∧ ps[0]? = some (-1) ∧ (∀ p c, p < k → IsKid xs p c → ps[c]? = some (p : Int)) ∧ (∀ i, i < j → ps[kidAt xs k i]? = some (k : Int))
def ParsOK (xs ps : List Int) : Prop := ps.length = xs.length ∧ ps[0]? = some (-1) ∧ ∀ p c, IsKid xs p c → ps[c]? = some (p : Int)
theorem partP_start {xs : List Int} (ht : isTree xs = true) : PartP xs 0 0 ((List.replicate xs.length (0 : Int)).set 0 (-1)) := by
  have := (tree_len ht).1
  refine ⟨by simp, ?_, fun p c h => by omega, fun i h => by omega⟩
  rw [List.getElem?_set_self (by simp; omega)]
theorem partP_step {xs ps : List Int} {k j d : Nat} (ht : isTree xs = true) (h : PartP xs k j ps) (hd : xs[k]? = some (d : Int)) (hj : j < d) : PartP xs k (j + 1) (ps.set (kidAt xs k j) (k : Int)) := by
  obtain ⟨h1, h2, h3, h4⟩ := h
  have hkid : IsKid xs k (kidAt xs k j) := ⟨d, j, hd, hj, rfl⟩
  have hb := kid_bounds ht hkid
  refine ⟨by simp [h1], ?_, fun p c hp hc => ?_, fun i hi => ?_⟩
  · rw [List.getElem?_set_ne (by omega)]; exact h2
  · have hne : kidAt xs k j ≠ c := fun e => by
      subst e
      have := kid_unique ht hc hkid
      omega
    rw [List.getElem?_set_ne hne]
    exact h3 p c hp hc
  · rcases Nat.lt_or_ge i j with h5 | h5
    · have h6 := kid_le (xs := xs) (v := k) (i := i + 1) (j := j) (by omega)
      have h7 := kid_lt ht hd (i := i) (by omega)
      have h8 := span_pos h7
      simp only [kidAt] at h6
      rw [List.getElem?_set_ne (by omega)]
      exact h4 i h5
    · obtain rfl : i = j := by omega
      rw [List.getElem?_set_self (by omega)]
theorem partP_next {xs ps : List Int} {k d : Nat} (h : PartP xs k d ps) (hd : xs[k]? = some (d : Int)) : PartP xs (k + 1) 0 ps := by
  obtain ⟨h1, h2, h3, h4⟩ := h
  refine ⟨h1, h2, fun p c hp hc => ?_, fun i h => by omega⟩
  rcases Nat.lt_or_ge p k with h5 | h5
  · exact h3 p c h5 hc
  · obtain rfl : p = k := by omega
    obtain ⟨d', i, hd', hi, rfl⟩ := hc
    rw [hd] at hd'
    injection hd' with hd'
    exact h4 i (by omega)
theorem partP_done {xs ps : List Int} (ht : isTree xs = true) (h : PartP xs xs.length 0 ps) : ParsOK xs ps :=
  ⟨h.1, h.2.1, fun p c hc => h.2.2.1 p c (by have := kid_bounds ht hc; omega) hc⟩
end M

theorem own64_made_set {w : World} {B n : Nat} (hB : B ≤ w.heap.size) (hn : n ≤ maxLen) (x : Int) :
    Own64 (w.alloc (.cells ((madeCells #[.int .i64 0] n).setIfInBounds 0 (.int .i64 x)) 2)) B (.slice (some ⟨w.heap.size, 0, none⟩) n n) ((List.replicate n 0).set 0 x) := by
  have h := World.ownsRow_lit (e := 2) (size := 1) w ((madeCells #[.int .i64 0] n).setIfInBounds 0 (.int .i64 x)) n hB hn (by simp [size_madeCells])
  rw [Array.toList_setIfInBounds, toList_madeCells_one] at h
  simpa [Own64, List.map_set] using h

set_option maxHeartbeats 4000000 in
set_option maxRecDepth 100000 in
theorem l01Parents (A : Option Addr) (xs : List Int) (c : Nat) (w : World) (ht : Hid (M.isTree xs = true)) (h : Ints w w.heap.size A xs) :
    Calls Try.prog 172 #[.agg #[.slice A xs.length c]] w fun e w' => ∃ A' c' ps, e = .returned (.slice A' xs.length c') ∧ Hid (M.ParsOK xs ps) ∧ Own64 w' w.heap.size (.slice A' xs.length c') ps ∧ Below w.heap.size w w' := by
  have hlen := M.tree_len ht.out
  have hpos : 0 < xs.length := by omega
  have hmk := run_make_row' (P := Try.prog) 24 2 (.int .i64 0) 8 Try.underlying24 info64 rfl .i64 .i64 xs.length (by omega) (by omega)
  go_enter Try.func172, Try.ntmps172
  go_wp2_with fail
  refine (l01N A xs.length c _).mono ?_
  rintro e w1 ⟨rfl, hb⟩
  have hB := Lib.hid (btr (bal (b0 w) _) hb)
  have HcellA := Lib.hid (show w1.cell? ⟨w.heap.size, 0, none⟩ = some (.slice A xs.length c) from cell_be (by simp) hb)
  have h1 := Lib.hid ((h.al _).be hb)
  have z1 := hB.out.size
  have Hstart := Lib.hid (own64_made (w := w1) (B := w1.heap.size) (n := xs.length) (Nat.le_refl _) (by unfold maxLen; omega))
  obtain ⟨c1, c2, _, _⟩ := own64_cell Hstart.out (by simp) (k := 0) (x := 0) (by simp [hpos])
  have ho0 := Lib.hid (own64_made_set (w := w1) (B := w1.heap.size) (n := xs.length) (Nat.le_refl _) (by unfold maxLen; omega) (-1))
  have hp0 := Lib.hid (M.partP_start ht.out)
  have hb0 := Lib.hid (bal (b0 w1) (.cells ((madeCells #[.int .i64 0] xs.length).setIfInBounds 0 (.int .i64 (-1))) 2))
  clear hb h Hstart
  go_wp2
  clear hmk c1 c2
  go_loopw [4, 5, 6] (fun v _ _ wr => ∃ (k : Nat) (ps : List Int), k ≤ xs.length ∧ v = .int .i64 k ∧ Hid (M.PartP xs k 0 ps) ∧ Hid (Own64 wr w1.heap.size (.slice (some ⟨w1.heap.size, 0, none⟩) xs.length xs.length) ps) ∧ Hid (Below w1.heap.size w1 wr)) (fun v _ _ _ => xs.length - (intOf v).toNat)
  case atStart => exact ⟨0, _, Nat.zero_le _, rfl, hp0, ho0, hb0⟩
  case round =>
    obtain ⟨k, ps, hk, rfl, hp, ho, hbr⟩ := hrel
    have hcr := cell_be HcellA.out hbr.out
    clear hp0 ho0 hb0
    by_cases hlt : k < xs.length
    · obtain ⟨d, hd, hd2⟩ := M.tree_degN ht.out hlt
      have Hd := Lib.hid hd
      go_wp2_with fail
      refine (l01N A xs.length c _).mono ?_
      rintro e wn ⟨rfl, hb⟩
      have hbn := Lib.hid (btr hbr.out hb)
      have hon := Lib.hid (own_be ho.out hb)
      have hcn := cell_be hcr hb
      clear hb ho hcr hd
      have I1 := Lib.hid (h1.out.be hbn.out)
      have hgl := World.ownsRow.lt hon.out w1.heap.size rfl
      go_wp2_with fail
      refine (l01Children A xs c k d _ hlen.2 ht Hd I1.out).mono ?_
      rintro e w2 ⟨A2, c2, rfl, o2, hb⟩
      have hb2 := Lib.hid (btr hbn.out hb)
      have ht2 : Hid (Two w2 w1.heap.size (.slice (some ⟨w1.heap.size, 0, none⟩) xs.length xs.length) (.slice A2 d c2) ps (M.childs xs k d)) :=
        ⟨own_be hon.out hb, own_mono o2 hbn.out.size, fun b e e2 => by
          have e1 : b = w1.heap.size := by injection e with e; exact e.symm
          have := (World.ownsRow.lt o2 b e2).1
          omega⟩
      clear hb o2 hon hcn hgl hbn hbr I1
      go_wp2
      go_loopw [6] (fun i wr => ∃ (j : Nat) (ps : List Int), j ≤ d ∧ i = .int .i64 j ∧ Hid (M.PartP xs k j ps) ∧ Hid (Two wr w1.heap.size (.slice (some ⟨w1.heap.size, 0, none⟩) xs.length xs.length) (.slice A2 d c2) ps (M.childs xs k d)) ∧ Hid (Below w1.heap.size w1 wr)) (fun i _ => d - (intOf i).toNat)
      case atStart => exact ⟨0, ps, Nat.zero_le _, rfl, hp, ht2, hb2⟩
      case round =>
        obtain ⟨j, ps, hj, rfl, hp, ht2, hbr⟩ := hrel
        by_cases hjd : j < d
        · obtain ⟨g2, rfl⟩ := ht2.out.symm.shape.2 (by omega)
          have hkl := M.kid_lt ht.out Hd.out (i := j) (by omega)
          have hcat := M.childs_at xs k hjd
          have hpl := hp.out.1
          have hstep := Lib.hid (M.partP_step ht.out hp.out Hd.out hjd)
          have hset := Lib.hid (ht2.out.set hpl (M.kidAt xs k j) (k : Int))
          have gk := (own64_cell ht2.out.2.1 (M.childs_length xs k d) hcat).1
          obtain ⟨c1, c2, _, _⟩ := own64_cell ht2.out.1 hpl (k := M.kidAt xs k j) (x := ps[M.kidAt xs k j]'(by omega)) (List.getElem?_eq_getElem (by omega))
          generalize ps[M.kidAt xs k j]'(by omega) = y at c1
          generalize M.kidAt xs k j = K at *
          clear hcat hpl ht2 hp
          go_wp2
          go_roundw
          case rel => exact ⟨j + 1, _, by omega, by go_num, hstep, hset, below_setCell hbr.out (Nat.le_refl _) _⟩
          case measure => simp [intOf]; omega
        · obtain rfl : j = d := by omega
          have hnx := Lib.hid (M.partP_next hp.out Hd.out)
          clear hp
          go_wp2
          go_roundw
          case rel => exact ⟨k + 1, ps, by omega, by go_num, hnx, ht2.out.1, hbr⟩
          case measure => simp [intOf]; omega
    · obtain rfl : k = xs.length := by omega
      go_wp2_with fail
      refine (l01N A xs.length c _).mono ?_
      rintro e wn ⟨rfl, hb⟩
      have hbn := Lib.hid (btr hbr.out hb)
      have hon := Lib.hid (own_be ho.out hb)
      have hok := Lib.hid (M.partP_done ht.out hp.out)
      clear hb ho hcr hp
      go_wp2
      go_ret
      exact ⟨_, _, ps, rfl, hok, own_mono hon.out z1, btr hB.out hbn.out⟩
end Go.Proofs.Ytdgcjkgbglofbaa

/- parentsIn: the program's row of parents: a range over a function inside a loop. -/
namespace Go.Proofs.Ytdgcjkgbglofbaa
open Go.RowKit Go.Shelf
attribute [local go_sem] Oper.semAt_some

/-- the marks that the rounds' loops have left on the activation: the newest first -/
def Marks (B : Nat) (W : World) : Nat → List Deferred → Prop
  | _, [] => True
  | hi, d :: ds => ∃ D, d = { target := .collected D, args := #[] } ∧ D < hi ∧ B ≤ D ∧ W.heap[D]? = some (.deferred (some [])) ∧ Marks B W D ds
theorem Marks.keep {B : Nat} {W W' : World} : ∀ {ds : List Deferred} {hi : Nat}, Marks B W hi ds → (∀ D, B ≤ D → D < hi → W.heap[D]? = some (.deferred (some [])) → W'.heap[D]? = W.heap[D]?) → Marks B W' hi ds := by
  intro ds
  induction ds with
  | nil => intro hi _ _; trivial
  | cons d ds ih =>
    intro hi ⟨D, e, h1, h2, h3, h4⟩ hk
    exact ⟨D, e, h1, h2, (hk D h2 h1 h3).trans h3, ih h4 fun D' h5 h6 h7 => hk D' h5 (by omega) h7⟩
theorem Marks.mono {B : Nat} {W : World} {ds : List Deferred} {hi hi' : Nat} (h : Marks B W hi ds) (hl : hi ≤ hi') : Marks B W hi' ds := by
  cases ds with
  | nil => trivial
  | cons d ds => obtain ⟨D, e, h1, h2⟩ := h; exact ⟨D, e, by omega, h2⟩
theorem leaves_marks {B : Nat} {F : Fence} {n : Nat} {P : Program} {fn : Func} {tmps : Array Value} {R : Ending → World → Prop} (Pp : World → Prop)
    (hP : ∀ W D, B ≤ D → W.heap[D]? = some (.deferred (some [])) → Pp W → Pp (W.putObj D (.deferred none))) (hend : ∀ W, Pp W → LeavesIn F n P fn tmps R [] .returning W) :
    ∀ (ds : List Deferred) (hi : Nat) (W : World), Marks B W hi ds → Pp W → LeavesInM F n P fn tmps R ds .returning W := by
  intro ds
  induction ds with
  | nil => intro hi W _ h; exact hend W h
  | cons d ds ih =>
    intro hi W ⟨D, e, h1, h2, h3, h4⟩ h
    subst e
    refine ⟨by simp, .inl ⟨_, _, rfl, run_takeDeferred h3, ?_⟩⟩
    refine ih D _ (h4.keep fun D' h5 h6 h7 => ?_) (hP W D h2 h3 h)
    exact (grownBy_putObj' W D _).block D' (Array.getElem?_eq_some_iff.1 h7).1 (fun e => by cases e; omega)

/-- the child at a place, and a node within the list where there is no such place -/
def kidOr (xs : List Int) (v d x : Nat) : Nat := if x < d then M.kidAt xs v x else v

set_option maxRecDepth 100000 in
set_option maxHeartbeats 4000000 in
theorem parentsIn_in (A : Option Addr) (xs : List Int) (c : Nat) (w : World) (hcl : xs.length ≤ c) (hcu : c ≤ 9223372036854775807) (ht : Hid (M.isTree xs = true)) (hI : Ints w w.heap.size A xs) :
    CallsIn Fence.wide 5 Try.prog 171 #[.slice A xs.length c] w fun e w' => ∃ A' c' ps, e = .returned (.slice A' xs.length c') ∧ Hid (M.ParsOK xs ps) ∧ Own64 w' w.heap.size (.slice A' xs.length c') ps ∧ Below w.heap.size w w' := by
  have hlen := M.tree_len ht.out
  have hx := hlen.2
  have hpos : 0 < xs.length := by omega
  have hmk := run_make_row' (P := Try.prog) 24 2 (.int .i64 0) 8 Try.underlying24 info64 rfl .i64 .i64 xs.length (by omega) (by omega)
  have Hstart := Lib.hid (own64_made (w := w) (B := w.heap.size) (n := xs.length) (Nat.le_refl _) (by unfold maxLen; omega))
  obtain ⟨c1, c2, _, _⟩ := own64_cell Hstart.out (by simp) (k := 0) (x := 0) (by simp [hpos])
  have c3 := cell_al c1 (.cells #[.slice (some ⟨w.heap.size, 0, none⟩) xs.length xs.length] 24)
  have ho0 := Lib.hid (own64_made_set (w := w) (B := w.heap.size) (n := xs.length) (Nat.le_refl _) (by unfold maxLen; omega) (-1))
  have hp0 := Lib.hid (M.partP_start ht.out)
  have bR := Lib.hid (Boxed.new (w.alloc (.cells ((madeCells #[.int .i64 0] xs.length).setIfInBounds 0 (.int .i64 (-1))) 2)) 24 (.slice (some ⟨w.heap.size, 0, none⟩) xs.length xs.length))
  have hB0 := Lib.hid (bal (bal (b0 w) (.cells ((madeCells #[.int .i64 0] xs.length).setIfInBounds 0 (.int .i64 (-1))) 2)) (.cells #[.slice (some ⟨w.heap.size, 0, none⟩) xs.length xs.length] 24))
  refine callsIn_of_wp_marks Try.func171 rfl trivial ?_ rfl
  simp only [Try.ntmps171, List.size_toArray, List.length_cons, List.length_nil, Nat.reduceAdd, Nat.reduceSub, Array.replicate_succ, Array.replicate_zero, List.push_toArray, List.append_toArray, List.nil_append, List.cons_append]
  gi_wp2
  clear hmk c1 c2 c3
  refine wpIn_loop (fun a' wr => ∃ (k : Nat) (ps : List Int) (u4 u15 u16 u17 u18 u19 u26 : Value) (ds : List Deferred), (k ≤ xs.length ∧ Hid (M.PartP xs k 0 ps) ∧ Hid (Own64 wr w.heap.size (.slice (some ⟨w.heap.size, 0, none⟩) xs.length xs.length) ps) ∧
      Hid (Boxed wr (w.heap.size + 1) 24 (.slice (some ⟨w.heap.size, 0, none⟩) xs.length xs.length)) ∧ Hid (Below w.heap.size w wr) ∧ Hid (Marks (w.heap.size + 2) wr wr.heap.size ds)) ∧
      a' = { tmps := #[.slice A xs.length c, undef, .slice none 0 0, .pointer (some ⟨w.heap.size + 1, 0, none⟩), u4, undef, undef, .slice A xs.length c, .int .i64 xs.length, .slice (some ⟨w.heap.size, 0, none⟩) xs.length xs.length, .slice (some ⟨w.heap.size, 0, none⟩) xs.length xs.length,
        .pointer (some ⟨w.heap.size, 0, none⟩), .slice A xs.length c, .int .i64 xs.length, .int .i64 k, u15, u16, u17, u18, u19, undef, undef, undef, undef, undef, undef, u26, undef], defers := ds })
    (fun a' _ => xs.length - (intOf (a'.tmps.getD 14 undef)).toNat) ?_ ?_
  · exact ⟨0, _, _, _, _, _, _, _, _, [], ⟨Nat.zero_le _, hp0, own_be ho0.out ((Below.refl _ _).alloc (Nat.le_refl _) _), Lib.hid (by simpa using bR.out), hB0, trivial⟩, rfl⟩
  · rintro _ wr ⟨k, ps, u4, u15, u16, u17, u18, u19, u26, ds, ⟨hk, hp, ho, hbx, hbr, hmks⟩, rfl⟩
    clear hp0 ho0 bR hB0 Hstart
    by_cases hlt : k < xs.length
    · obtain ⟨d, hd, hd2⟩ := M.tree_degN ht.out hlt
      have Hd := Lib.hid hd
      gi_wp2_with (refine ⟨trivial, ?_⟩; gi_at_call 275; refine (eachIn 4 A xs.length c k _).mono ?_; rintro e w' ⟨rfl, rfl⟩)
      have bV := Boxed.new wr 2 (.int .i64 k)
      have bD := Boxed.new (wr.alloc (.cells #[.int .i64 k] 2)) 24 (.slice A xs.length c)
      have bW := Boxed.new ((wr.alloc (.cells #[.int .i64 k] 2)).alloc (.cells #[.slice A xs.length c] 24)) 2 (.int .i64 k)
      simp only [World.size_alloc] at bD bW
      have hz1 := hbr.out.size
      have hz2 := hbx.out.lt
      have hB0 := bal (bal (bal hbr.out (.cells #[.int .i64 k] 2)) (.cells #[.slice A xs.length c] 24)) (.cells #[.int .i64 k] 2)
      have hKb := KeepK.b (n₀ := w.heap.size) (Bd := wr.heap.size + 1) (w := ((wr.alloc (.cells #[.int .i64 k] 2)).alloc (.cells #[.slice A xs.length c] 24)).alloc (.cells #[.int .i64 k] 2)) (by simp; omega) (by simp)
      have h15 : 1 ≤ 5 := by omega
      have hK : ∀ x, kidOr xs k d x < xs.length := fun x => by
        unfold kidOr
        split
        · exact M.kid_lt ht.out Hd.out (by omega)
        · exact hlt
      refine wpIn_rangeFunc_ownG (α := Nat) rfl h15 (gf := 332) (lb := #[.pointer (some ⟨wr.heap.size + 2, 0, none⟩), .pointer (some ⟨wr.heap.size + 1, 0, none⟩)]) rfl trivial (enters_of Try.func332 (by kernel_rfl) rfl)
        (each_stopsF (fun i => i) (fun x => #[.int .i64 (x : Int), .int .i64 (kidOr xs k d x : Int)]) 4 (by omega) (wr.heap.size + 2) (wr.heap.size + 1) w.heap.size A xs c k d hx hcl (by omega) ht Hd (fun i hi => by simp [kidOr, hi]) _ bW.cell (bD.alloc _) (hI.below hB0 (Nat.le_refl _)) (by simp; omega)) (fun h k => h.t k) hKb (Below.refl _ _) (fun _ => rfl)
        (fun pre W => ∃ ps, (ps.length = xs.length ∧ (pre = List.range pre.length → pre.length ≤ d → M.PartP xs k pre.length ps)) ∧ Own64 W w.heap.size (.slice (some ⟨w.heap.size, 0, none⟩) xs.length xs.length) ps ∧
          Boxed W (w.heap.size + 1) 24 (.slice (some ⟨w.heap.size, 0, none⟩) xs.length xs.length) ∧ Boxed W wr.heap.size 2 (.int .i64 k) ∧ Below w.heap.size w W ∧ Marks (w.heap.size + 2) W wr.heap.size ds)
        (fun _ _ _ => False)
        (fun s X Y row hs hg hr => by
          obtain ⟨ps, h1, h2, h3, h4, h5, h6⟩ := hs
          have hne : ∀ r, row = some r → wr.heap.size + 3 ≤ r := fun r e => by have := (hr r e).1; simp at this; omega
          exact ⟨ps, h1, h2.kept hg (.inr fun e => by have := hne w.heap.size e.symm; omega), h3.kept hg (fun e => by have := hne _ e.symm; omega), h4.kept hg (fun e => by have := hne _ e.symm; omega), h5.grown hg h5.size (fun r e => by have := hne _ e; omega),
            h6.keep fun D _ hD hD3 => hg.block D (Array.getElem?_eq_some_iff.1 hD3).1 (fun e => by have := hne _ e.symm; omega)⟩)
        (fun _ _ _ _ _ hs _ _ => hs)
        ⟨ps, ⟨hp.out.1, fun _ _ => hp.out⟩, ((ho.out.alloc _).alloc _).alloc _, ((hbx.out.alloc _).alloc _).alloc _, (bV.alloc _).alloc _, hB0, hmks.out.keep fun D _ hD hD3 => by
          have h1 := Below.heap_alloc wr (.cells #[.int .i64 k] 2) D hD
          have h2 := Below.heap_alloc (wr.alloc (.cells #[.int .i64 k] 2)) (.cells #[.slice A xs.length c] 24) D (by simp; omega)
          have h3 := Below.heap_alloc ((wr.alloc (.cells #[.int .i64 k] 2)).alloc (.cells #[.slice A xs.length c] 24)) (.cells #[.int .i64 k] 2) D (by simp; omega)
          exact h3.trans (h2.trans h1)⟩
        (fun x => { tmps := #[.slice A xs.length c, undef, .slice none 0 0, .pointer (some ⟨w.heap.size + 1, 0, none⟩), .pointer (some ⟨wr.heap.size, 0, none⟩), undef, .int .i64 (kidOr xs k d x : Int), .slice A xs.length c, .int .i64 xs.length, .slice (some ⟨w.heap.size, 0, none⟩) xs.length xs.length, .slice (some ⟨w.heap.size, 0, none⟩) xs.length xs.length,
          .pointer (some ⟨w.heap.size, 0, none⟩), .slice A xs.length c, .int .i64 xs.length, .int .i64 k, .bool true, .int .i64 k, .slice A xs.length c, .int .i64 k, .func (.func 332) #[] #[.pointer (some ⟨wr.heap.size + 2, 0, none⟩), .pointer (some ⟨wr.heap.size + 1, 0, none⟩)], .int .i64 (x : Int), .int .i64 (kidOr xs k d x : Int), undef, undef, undef, undef, u26, undef], defers := [] }) ?assign ?body ?done ?stop
      case assign =>
        intro l x W K hK
        gi_wp2
        exact hK
      case body =>
        rintro l pre x W ⟨ps, ⟨hl, hpp⟩, h2, h3, h4, h5, h6⟩ hpl
        have hkx := hK x
        have c3 := h3.cell
        have c4 := h4.cell
        obtain ⟨c1, c2, _, _⟩ := own64_cell h2 hl (k := kidOr xs k d x) (x := ps[kidOr xs k d x]'(by omega)) (List.getElem?_eq_getElem (by omega))
        generalize ps[kidOr xs k d x]'(by omega) = y at c1
        have hnext : Hid (pre ++ [x] = List.range (pre ++ [x]).length → (pre ++ [x]).length ≤ d → M.PartP xs k (pre ++ [x]).length (ps.set (kidOr xs k d x) (k : Int))) := fun e hd' => by
          simp only [List.length_append, List.length_cons, List.length_nil, Nat.zero_add] at e hd' ⊢
          rw [List.range_succ] at e
          obtain ⟨e1, e2⟩ := List.append_inj' e rfl
          injection e2 with e2
          have h7 := M.partP_step ht.out (hpp e1 (by omega)) Hd.out (by omega)
          have e3 : kidOr xs k d x = M.kidAt xs k pre.length := by rw [e2]; simp only [kidOr]; rw [if_pos (by omega)]
          rw [e3]
          exact h7
        have hset := Lib.hid (own64_set h2 hl (kidOr xs k d x) (k : Int))
        have hl2 : Hid ((ps.set (kidOr xs k d x) (k : Int)).length = xs.length) := by show _ = _; simpa using hl
        clear hpp
        generalize kidOr xs k d x = C at *
        gi_wp2
        have hkk : KeepK w.heap.size (wr.heap.size + 1) W (W.setCell ⟨w.heap.size, C, none⟩ (.int .i64 k)) := ⟨below_setCell (Below.refl _ _) (Nat.le_refl _) _, heap_setCell_other _ _ _ _ (show wr.heap.size + 1 ≠ w.heap.size by omega)⟩
        exact ⟨(KeepsOthers.setCell W _ _).from _, hkk, _, ⟨hl2.out, hnext.out⟩, hset.out, (heap_setCell_other _ _ _ _ (show w.heap.size + 1 ≠ w.heap.size by omega)).trans h3, (heap_setCell_other _ _ _ _ (show wr.heap.size ≠ w.heap.size by omega)).trans h4, below_setCell h5 (Nat.le_refl _) _, h6.keep fun D hD _ _ => heap_setCell_other _ _ _ _ (show D ≠ w.heap.size by omega)⟩
      case done =>
        rintro D ys W hD rfl ⟨ps, ⟨hl, hpp⟩, h2, h3, h4, h5, h6⟩ hKd
        have hnx0 := hpp (by simp) (by simp)
        simp only [List.length_map, List.length_range] at hnx0
        have hnx := Lib.hid (M.partP_next hnx0 Hd.out)
        clear hnx0 hpp
        have hDl := (Array.getElem?_eq_some_iff.1 hKd).1
        simp at hD
        gi_wp2
        refine ⟨⟨k + 1, ps, _, _, _, _, _, _, _, { target := .collected D, args := #[] } :: ds, ⟨by omega, hnx, h2, h3, h5, (show Marks _ _ _ _ from ⟨D, rfl, hDl, by omega, hKd, h6.mono (by omega)⟩)⟩, rfl⟩, ?_⟩
        simp [intOf]
        omega
      case stop =>
        rintro D c pre W _ _ h _
        exact h.elim
    · obtain rfl : k = xs.length := by omega
      have hok := Lib.hid (M.partP_done ht.out hp.out)
      have hc := hbx.out.cell
      clear hp
      gi_wp2
      refine leaves_marks (B := w.heap.size + 2) (fun W => Own64 W w.heap.size (.slice (some ⟨w.heap.size, 0, none⟩) xs.length xs.length) ps ∧ Below w.heap.size w W) (fun W D hD h3 h => ⟨ownsRow_putObj h.1 _ h3 rfl, h.2.trans ((Below.refl _ W).grown (grownBy_putObj' W D _) h.2.size (fun k e => by cases e; omega))⟩) (fun W h => ?_) ds _ _ hmks.out ⟨ho.out, hbr.out⟩
      exact ⟨_, results_tmp rfl _ _ _, _, _, ps, rfl, hok, h.1, h.2⟩
end Go.Proofs.Ytdgcjkgbglofbaa

/- ParentsOf, the program's and the model's: the parents, or a code. -/
namespace Go.Proofs.Ytdgcjkgbglofbaa
open Go.RowKit

namespace M
theorem parsOK_unique {xs ps qs : List Int} (ht : isTree xs = true) (h : ParsOK xs ps) (h' : ParsOK xs qs) : ps = qs := by
  refine List.ext_getElem? fun i => ?_
  rcases Nat.lt_or_ge i xs.length with hi | hi
  · rcases Nat.eq_zero_or_pos i with h0 | h0
    · subst h0; rw [h.2.1, h'.2.1]
    · obtain ⟨p, hp⟩ := kid_has ht h0 hi
      rw [h.2.2 p i hp, h'.2.2 p i hp]
  · rw [List.getElem?_eq_none (by rw [h.1]; exact hi), List.getElem?_eq_none (by rw [h'.1]; exact hi)]
open Classical in
noncomputable def parents (xs : List Int) : List Int := if h : ∃ ps, ParsOK xs ps then h.choose else []
theorem parents_eq {xs ps : List Int} (ht : isTree xs = true) (h : ParsOK xs ps) : parents xs = ps := by
  have hx : ∃ ps, ParsOK xs ps := ⟨ps, h⟩
  rw [parents, dif_pos hx]
  exact parsOK_unique ht hx.choose_spec h
theorem parents_len {xs : List Int} : (parents xs).length ≤ xs.length := by
  rw [parents]
  split
  · rename_i h; exact Nat.le_of_eq h.choose_spec.1
  · exact Nat.zero_le _
end M

noncomputable def F_ParentsOf (xs : List Int) : List Int × Int := M.cond xs (M.parents xs)
theorem F_ParentsOf_len (xs : List Int) : (F_ParentsOf xs).1.length ≤ 1048576 := by
  cases ht : M.isTree xs
  · rw [F_ParentsOf, M.cond_no ht]; simp
  · rw [F_ParentsOf, M.cond_yes ht]
    have h1 := M.parents_len (xs := xs)
    have h2 := (M.tree_len ht).2
    show (M.parents xs).length ≤ _
    omega

set_option maxHeartbeats 2000000 in
theorem impl_ParentsOf : GivesList 21 F_ParentsOf := by
  intro A xs c w hx hcc h
  have hc := codeOf0 A xs c (w.alloc (.cells #[.slice A xs.length c] 26)) (by omega) (h.al _) _ rfl
  cases ht : M.isTree xs
  · rw [ht] at hc
    have HC := Lib.hid hc
    have hF : F_ParentsOf xs = ([], 1) := M.cond_no ht
    rw [hF]
    clear hc ht hF
    go_enter Try.func21, Try.ntmps21
    go_wp2_with fail
    refine HC.out.mono ?_
    rintro e w1 ⟨rfl, hb⟩
    have hB := btr (bal (b0 w) _) hb
    go_wp2
    go_ret2
    exact ⟨none, 0, rfl, own64_nil _ _, hB⟩
  · rw [ht] at hc
    have HC := Lib.hid hc
    have hF : F_ParentsOf xs = (M.parents xs, 0) := M.cond_yes ht
    have Ht := Lib.hid ht
    rw [hF]
    clear hc ht hF
    go_enter Try.func21, Try.ntmps21
    go_wp2_with fail
    refine HC.out.mono ?_
    rintro e w1 ⟨rfl, hb⟩
    have hB := Lib.hid (btr (bal (b0 w) _) hb)
    have hcell : w1.cell? ⟨w.heap.size, 0, none⟩ = some (.slice A xs.length c) := cell_be (by simp) hb
    have h1 := Lib.hid ((h.al _).be hb)
    have z1 := hB.out.size
    clear hb h HC
    go_wp2_with fail
    refine ((callsIn_wide (n := 5)).1 (parentsIn_in A xs c _ hcc.1 hcc.2 Ht h1.out)).mono ?_
    rintro e w2 ⟨A', c', ps, rfl, hok, ho, hb⟩
    have hB2 := Lib.hid (btr hB.out hb)
    have Ho := Lib.hid ho
    have He := Lib.hid (M.parents_eq Ht.out hok.out)
    have hl := Lib.hid hok.out.1
    clear ho hb
    go_wp2
    go_ret2
    rw [He.out, hl.out]
    exact ⟨A', c', rfl, own_mono Ho.out z1, hB2.out⟩

set_option maxHeartbeats 2000000 in
theorem spec_ParentsOf : GivesList 22 F_ParentsOf := by
  intro A xs c w hx hcc h
  have hc := specIs A xs c (w.alloc (.cells #[.slice A xs.length c] 26)) (by omega) (h.al _)
  cases ht : M.isTree xs
  · rw [ht] at hc
    have HC := Lib.hid hc
    have hF : F_ParentsOf xs = ([], 1) := M.cond_no ht
    rw [hF]
    clear hc ht hF
    go_enter Try.func22, Try.ntmps22
    go_wp2_with fail
    refine HC.out.mono ?_
    rintro e w1 ⟨rfl, hb⟩
    have hB := btr (bal (b0 w) _) hb
    go_wp2
    go_ret2
    exact ⟨none, 0, rfl, own64_nil _ _, hB⟩
  · rw [ht] at hc
    have HC := Lib.hid hc
    have hF : F_ParentsOf xs = (M.parents xs, 0) := M.cond_yes ht
    have Ht := Lib.hid ht
    rw [hF]
    clear hc ht hF
    go_enter Try.func22, Try.ntmps22
    go_wp2_with fail
    refine HC.out.mono ?_
    rintro e w1 ⟨rfl, hb⟩
    have hB := Lib.hid (btr (bal (b0 w) _) hb)
    have hcell : w1.cell? ⟨w.heap.size, 0, none⟩ = some (.slice A xs.length c) := cell_be (by simp) hb
    have h1 := Lib.hid ((h.al _).be hb)
    have z1 := hB.out.size
    clear hb h HC
    go_wp2_with fail
    refine (l01Parents A xs c _ Ht h1.out).mono ?_
    rintro e w2 ⟨A', c', ps, rfl, hok, ho, hb⟩
    have hB2 := Lib.hid (btr hB.out hb)
    have Ho := Lib.hid ho
    have He := Lib.hid (M.parents_eq Ht.out hok.out)
    have hl := Lib.hid hok.out.1
    clear ho hb
    go_wp2
    go_ret2
    rw [He.out, hl.out]
    exact ⟨A', c', rfl, own_mono Ho.out z1, hB2.out⟩
end Go.Proofs.Ytdgcjkgbglofbaa

/- Depths, their mathematics: what a row of depths must say, that there is one such row at most, and the steps by which both programs make it. -/
namespace Go.Proofs.Ytdgcjkgbglofbaa.M
/-- ds is the row of depths -/
def DepsOK (xs ds : List Int) : Prop := ds.length = xs.length ∧ ds[0]? = some 0 ∧ ∀ p c, IsKid xs p c → ∃ x, ds[p]? = some x ∧ ds[c]? = some (x + 1)
/-- the children of the nodes below k, and the first j of k's, have theirs -/
def PartD (xs : List Int) (k j : Nat) (ds : List Int) : Prop :=
  ds.length = xs.length ∧ ds[0]? = some 0 ∧ (∀ p c, p < k → IsKid xs p c → ∃ x, ds[p]? = some x ∧ ds[c]? = some (x + 1)) ∧ (∀ i, i < j → ∃ x, ds[k]? = some x ∧ ds[kidAt xs k i]? = some (x + 1))
theorem partD_start {xs : List Int} (ht : isTree xs = true) : PartD xs 0 0 (List.replicate xs.length (0 : Int)) := by
  have := (tree_len ht).1
  refine ⟨by simp, ?_, fun p c h => by omega, fun i h => by omega⟩
  rw [List.getElem?_replicate, if_pos (by omega)]
theorem partD_step {xs ds : List Int} {k j d : Nat} {y : Int} (ht : isTree xs = true) (h : PartD xs k j ds) (hd : xs[k]? = some (d : Int)) (hj : j < d) (hy : ds[k]? = some y) : PartD xs k (j + 1) (ds.set (kidAt xs k j) (y + 1)) := by
  obtain ⟨h1, h2, h3, h4⟩ := h
  have hkid : IsKid xs k (kidAt xs k j) := ⟨d, j, hd, hj, rfl⟩
  have hb := kid_bounds ht hkid
  refine ⟨by simp [h1], ?_, fun p c hp hc => ?_, fun i hi => ?_⟩
  · rw [List.getElem?_set_ne (by omega)]; exact h2
  · have hne : kidAt xs k j ≠ c := fun e => by
      subst e
      have := kid_unique ht hc hkid
      omega
    rw [List.getElem?_set_ne hne, List.getElem?_set_ne (by omega)]
    exact h3 p c hp hc
  · rw [List.getElem?_set_ne (show kidAt xs k j ≠ k by omega)]
    rcases Nat.lt_or_ge i j with h5 | h5
    · have h6 := kid_le (xs := xs) (v := k) (i := i + 1) (j := j) (by omega)
      have h7 := kid_lt ht hd (i := i) (by omega)
      have h8 := span_pos h7
      simp only [kidAt] at h6
      rw [List.getElem?_set_ne (show kidAt xs k j ≠ kidAt xs k i by omega)]
      exact h4 i h5
    · obtain rfl : i = j := by omega
      rw [List.getElem?_set_self (by omega)]
      exact ⟨y, hy, rfl⟩
theorem partD_next {xs ds : List Int} {k d : Nat} (h : PartD xs k d ds) (hd : xs[k]? = some (d : Int)) : PartD xs (k + 1) 0 ds := by
  obtain ⟨h1, h2, h3, h4⟩ := h
  refine ⟨h1, h2, fun p c hp hc => ?_, fun i h => by omega⟩
  rcases Nat.lt_or_ge p k with h5 | h5
  · exact h3 p c h5 hc
  · obtain rfl : p = k := by omega
    obtain ⟨d', i, hd', hi, rfl⟩ := hc
    rw [hd] at hd'
    injection hd' with hd'
    exact h4 i (by omega)
theorem partD_done {xs ds : List Int} (ht : isTree xs = true) (h : PartD xs xs.length 0 ds) : DepsOK xs ds :=
  ⟨h.1, h.2.1, fun p c hc => h.2.2.1 p c (by have := kid_bounds ht hc; omega) hc⟩

/-- the model's loop: the nodes below v have their depths -/
def PartE (xs : List Int) (v : Nat) (ds : List Int) : Prop := ds.length = xs.length ∧ ds[0]? = some 0 ∧ ∀ p c, c < v → IsKid xs p c → ∃ x, ds[p]? = some x ∧ ds[c]? = some (x + 1)
theorem partE_start {xs : List Int} (ht : isTree xs = true) : PartE xs 1 (List.replicate xs.length (0 : Int)) := by
  have := (tree_len ht).1
  refine ⟨by simp, ?_, fun p c h hc => by have := kid_bounds ht hc; omega⟩
  rw [List.getElem?_replicate, if_pos (by omega)]
theorem partE_step {xs ds : List Int} {v p : Nat} {y : Int} (ht : isTree xs = true) (h : PartE xs v ds) (hv0 : 0 < v) (hv : v < xs.length) (hp : IsKid xs p v) (hy : ds[p]? = some y) : PartE xs (v + 1) (ds.set v (y + 1)) := by
  obtain ⟨h1, h2, h3⟩ := h
  refine ⟨by simp [h1], ?_, fun q c hc hq => ?_⟩
  · rw [List.getElem?_set_ne (by omega)]; exact h2
  · have hb := kid_bounds ht hq
    rcases Nat.lt_or_ge c v with h5 | h5
    · rw [List.getElem?_set_ne (by omega), List.getElem?_set_ne (by omega)]
      exact h3 q c h5 hq
    · obtain rfl : c = v := by omega
      obtain rfl := kid_unique ht hq hp
      rw [List.getElem?_set_ne (by omega), List.getElem?_set_self (by omega)]
      exact ⟨y, hy, rfl⟩
theorem partE_done {xs ds : List Int} (ht : isTree xs = true) (h : PartE xs xs.length ds) : DepsOK xs ds :=
  ⟨h.1, h.2.1, fun p c hc => h.2.2 p c (by have := kid_bounds ht hc; omega) hc⟩

theorem depsOK_unique {xs ds es : List Int} (ht : isTree xs = true) (h : DepsOK xs ds) (h' : DepsOK xs es) : ds = es := by
  have key : ∀ (n i : Nat), i < n → i < xs.length → ds[i]? = es[i]? := by
    intro n
    induction n with
    | zero => intro i hi; omega
    | succ n ih =>
      intro i hi hx
      rcases Nat.eq_zero_or_pos i with h0 | h0
      · subst h0; rw [h.2.1, h'.2.1]
      · obtain ⟨p, hp⟩ := kid_has ht h0 hx
        have hb := kid_bounds ht hp
        obtain ⟨x, hx1, hx2⟩ := h.2.2 p i hp
        obtain ⟨y, hy1, hy2⟩ := h'.2.2 p i hp
        have := ih p (by omega) (by omega)
        rw [hx1, hy1] at this
        injection this with this
        rw [hx2, hy2, this]
  refine List.ext_getElem? fun i => ?_
  rcases Nat.lt_or_ge i xs.length with hi | hi
  · exact key (i + 1) i (by omega) hi
  · rw [List.getElem?_eq_none (by rw [h.1]; exact hi), List.getElem?_eq_none (by rw [h'.1]; exact hi)]
/-- a depth is not negative, and not more than the node -/
theorem depsOK_le {xs ds : List Int} (ht : isTree xs = true) (h : DepsOK xs ds) : ∀ (n i : Nat) (x : Int), i < n → ds[i]? = some x → 0 ≤ x ∧ x ≤ i := by
  intro n
  induction n with
  | zero => intro i x hi; omega
  | succ n ih =>
    intro i x hi hx
    have hil := (List.getElem?_eq_some_iff.1 hx).1
    rcases Nat.eq_zero_or_pos i with h0 | h0
    · subst h0
      rw [h.2.1] at hx
      injection hx with hx
      omega
    · obtain ⟨p, hp⟩ := kid_has ht h0 (by rw [← h.1]; exact hil)
      have hb := kid_bounds ht hp
      obtain ⟨y, hy1, hy2⟩ := h.2.2 p i hp
      have := ih p y (by omega) hy1
      rw [hx] at hy2
      injection hy2 with hy2
      omega
open Classical in
noncomputable def depths (xs : List Int) : List Int := if h : ∃ ds, DepsOK xs ds then h.choose else []
theorem depths_eq {xs ds : List Int} (ht : isTree xs = true) (h : DepsOK xs ds) : depths xs = ds := by
  have hx : ∃ ds, DepsOK xs ds := ⟨ds, h⟩
  rw [depths, dif_pos hx]
  exact depsOK_unique ht hx.choose_spec h
theorem depths_len {xs : List Int} : (depths xs).length ≤ xs.length := by
  rw [depths]
  split
  · rename_i h; exact Nat.le_of_eq h.choose_spec.1
  · exact Nat.zero_le _
end Go.Proofs.Ytdgcjkgbglofbaa.M

/- Ways between two nodes, their mathematics: both go up to the meet; how long they are; least places of a list; sums. No program is named here. -/
namespace Go.Proofs.Ytdgcjkgbglofbaa
namespace M
/-- the nodes on the way up from v to m, without m -/
def up (ps : List Int) (m : Nat) : Nat → Nat → List Int
  | 0, _ => []
  | k + 1, v => if v ≤ m then [] else (v : Int) :: up ps m k (ps[v]?.getD 0).toNat
theorem up_end (ps : List Int) {m v : Nat} (h : v ≤ m) : ∀ k, up ps m k v = []
  | 0 => rfl
  | k + 1 => by rw [up, if_pos h]
theorem par_has {xs ps : List Int} (ht : isTree xs = true) (hp : ParsOK xs ps) {v : Nat} (h0 : 0 < v) (hv : v < xs.length) : ∃ p : Nat, ps[v]? = some (p : Int) ∧ p < v ∧ IsKid xs p v := by
  obtain ⟨p, h⟩ := kid_has ht h0 hv
  exact ⟨p, hp.2.2 p v h, (kid_bounds ht h).1, h⟩
theorem up_fuel {xs ps : List Int} (ht : isTree xs = true) (hp : ParsOK xs ps) {m : Nat} : ∀ {k k' v : Nat}, v < xs.length → v ≤ k → v ≤ k' → up ps m k v = up ps m k' v := by
  intro k
  induction k with
  | zero => intro k' v _ h _; obtain rfl : v = 0 := by omega
            rw [up_end ps (Nat.zero_le _), up_end ps (Nat.zero_le _)]
  | succ k ih =>
    intro k' v hv h h'
    by_cases hm : v ≤ m
    · rw [up_end ps hm, up_end ps hm]
    · cases k' with
      | zero => omega
      | succ k' =>
        rw [up, up, if_neg hm, if_neg hm]
        obtain ⟨p, h1, h2, _⟩ := par_has ht hp (show 0 < v by omega) hv
        rw [h1]
        simp only [Option.getD_some, Int.toNat_natCast]
        rw [ih (k' := k') (by omega) (by omega) (by omega)]
def upTo (ps : List Int) (m v : Nat) : List Int := up ps m v v
theorem upTo_end (ps : List Int) {m v : Nat} (h : v ≤ m) : upTo ps m v = [] := up_end ps h v
theorem upTo_step {xs ps : List Int} (ht : isTree xs = true) (hp : ParsOK xs ps) {m v p : Nat} (hm : m < v) (hv : v < xs.length) (hq : ps[v]? = some (p : Int)) : upTo ps m v = (v : Int) :: upTo ps m p := by
  obtain ⟨p', h1, h2, _⟩ := par_has ht hp (show 0 < v by omega) hv
  rw [hq] at h1
  injection h1 with h1
  obtain ⟨k, hk⟩ : ∃ k, v = k + 1 := ⟨v - 1, by omega⟩
  rw [upTo, hk, up, if_neg (by omega), ← hk, hq]
  simp only [Option.getD_some, Int.toNat_natCast]
  rw [upTo, up_fuel ht hp (k := k) (k' := p) (by omega) (by omega) (by omega)]
/-- a node a above v (or v) and not above m, with the nodes that have been met -/
def Climb (xs ps : List Int) (v m a : Nat) (acc : List Int) : Prop := a < xs.length ∧ bel xs v a = true ∧ m ≤ a ∧ acc ++ upTo ps m a = upTo ps m v
theorem climb_start {xs ps : List Int} {v m : Nat} (hv : v < xs.length) (hm : bel xs v m = true) : Climb xs ps v m v [] :=
  ⟨hv, bel_iff.2 ⟨Nat.le_refl _, fin_gt hv⟩, (bel_iff.1 hm).1, rfl⟩
theorem climb_step {xs ps : List Int} (ht : isTree xs = true) (hp : ParsOK xs ps) {v m a : Nat} {acc : List Int} (hm : bel xs v m = true) (h : Climb xs ps v m a acc) (hlt : m < a) :
    ∃ p : Nat, ps[a]? = some (p : Int) ∧ p < a ∧ Climb xs ps v m p (acc ++ [(a : Int)]) := by
  obtain ⟨h1, h2, h3, h4⟩ := h
  obtain ⟨p, hp1, hp2, hp3⟩ := par_has ht hp (show 0 < a by omega) h1
  have b1 := bel_iff.1 h2
  have bm := bel_iff.1 hm
  have hb := kid_bounds ht hp3
  have hn := nest ht (v := p) (q := a) (by omega) (by omega) hb.2.1
  refine ⟨p, hp1, hp2, by omega, bel_iff.2 (by omega), kid_up ht hp3 hlt (by omega), ?_⟩
  rw [List.append_assoc, List.singleton_append, ← upTo_step ht hp hlt h1 hp1]
  exact h4
theorem climb_end {xs ps : List Int} {v m : Nat} {acc : List Int} (h : Climb xs ps v m m acc) : acc = upTo ps m v := by
  have := h.2.2.2
  rwa [upTo_end ps (Nat.le_refl m), List.append_nil] at this
theorem meet_bel {xs : List Int} (ht : isTree xs = true) {v w : Nat} (hv : v < xs.length) (hw : w < xs.length) : bel xs v (meet xs v w) = true ∧ bel xs w (meet xs v w) = true := meetDown_bel ht hv hw _
theorem meet_lt {xs : List Int} {v w : Nat} (hv : v < xs.length) : meet xs v w < xs.length := by
  have := meetDown_le xs v w (min v w)
  simp only [meet]
  omega
/-- both climb: they meet at the meet alone -/
theorem climb_meet {xs ps : List Int} {v w a : Nat} {l r : List Int} (h1 : Climb xs ps v (meet xs v w) a l) (h2 : Climb xs ps w (meet xs v w) a r) : a = meet xs v w :=
  meet_stop h1.2.1 h2.2.1 h1.2.2.1
/-- the one with the greater number is not at the meet -/
theorem climb_left {xs ps : List Int} {v w a b : Nat} {l r : List Int} (_h1 : Climb xs ps v (meet xs v w) a l) (h2 : Climb xs ps w (meet xs v w) b r) (h : b < a) : meet xs v w < a := by
  have := h2.2.2.1; omega
theorem climb_right {xs ps : List Int} {v w a b : Nat} {l r : List Int} (h1 : Climb xs ps v (meet xs v w) a l) (_h2 : Climb xs ps w (meet xs v w) b r) (h : a < b) : meet xs v w < b := by
  have := h1.2.2.1; omega
theorem climb_len {xs ps : List Int} (ht : isTree xs = true) (hp : ParsOK xs ps) {m : Nat} : ∀ {v : Nat}, v < xs.length → bel xs v m = true → (upTo ps m v).length ≤ v - m := by
  intro v
  induction v using Nat.strongRecOn with
  | _ v ih =>
    intro hv hb
    have b1 := bel_iff.1 hb
    by_cases hm : m < v
    · obtain ⟨p, h1, h2, h3⟩ := par_has ht hp (show 0 < v by omega) hv
      have hk := kid_up ht h3 hm b1.2
      rw [upTo_step ht hp hm hv h1, List.length_cons]
      have := ih p h2 (by omega) (bel_iff.2 (by omega))
      omega
    · rw [upTo_end ps (by omega)]; simp
/-- the depths tell how long a way up is -/
theorem up_depth {xs ps ds : List Int} (ht : isTree xs = true) (hp : ParsOK xs ps) (hd : DepsOK xs ds) {m : Nat} {y : Int} (hm : ds[m]? = some y) : ∀ {v : Nat} {x : Int}, v < xs.length → bel xs v m = true → ds[v]? = some x → x = y + (upTo ps m v).length := by
  intro v
  induction v using Nat.strongRecOn with
  | _ v ih =>
    intro x hv hb hx
    have b1 := bel_iff.1 hb
    by_cases hmv : m < v
    · obtain ⟨p, h1, h2, h3⟩ := par_has ht hp (show 0 < v by omega) hv
      have hk := kid_up ht h3 hmv b1.2
      obtain ⟨z, hz1, hz2⟩ := hd.2.2 p v h3
      have := ih p h2 (by omega) (bel_iff.2 (by omega)) hz1
      rw [hx] at hz2
      injection hz2 with hz2
      rw [upTo_step ht hp hmv hv h1, List.length_cons]
      omega
    · obtain rfl : v = m := by omega
      rw [upTo_end ps (Nat.le_refl _)]
      rw [hm] at hx
      injection hx with hx
      simp; omega
open Classical in
theorem pars_ex {xs : List Int} (ht : isTree xs = true) : ∃ ps, ParsOK xs ps := by
  have hl := tree_len ht
  refine ⟨(List.range xs.length).map fun i => if h : ∃ p, IsKid xs p i then (h.choose : Int) else -1, by simp, ?_, fun p c h => ?_⟩
  · have h0 : ¬ ∃ p, IsKid xs p 0 := fun ⟨p, h⟩ => by have := kid_bounds ht h; omega
    rw [List.getElem?_map, List.getElem?_range (by omega)]
    simp only [Option.map_some, dif_neg h0]
  · have hb := kid_bounds ht h
    have hx : ∃ p, IsKid xs p c := ⟨p, h⟩
    rw [List.getElem?_map, List.getElem?_range hb.2.2]
    simp only [Option.map_some, dif_pos hx]
    rw [kid_unique ht hx.choose_spec h]
/-- the way from v to w -/
noncomputable def way (xs : List Int) (v w : Nat) : List Int := upTo (parents xs) (meet xs v w) v ++ [(meet xs v w : Int)] ++ (upTo (parents xs) (meet xs v w) w).reverse
theorem way_mk {xs ps : List Int} (ht : isTree xs = true) (hp : ParsOK xs ps) {v w : Nat} {l r : List Int} {m : Nat} (hm : meet xs v w = m) (hl : Climb xs ps v m m l) (hr : Climb xs ps w m m r) : l ++ [(m : Int)] ++ r.reverse = way xs v w := by
  rw [way, hm, parents_eq ht hp, climb_end hl, climb_end hr]
theorem way_len {xs : List Int} (ht : isTree xs = true) (hE : ∃ ps, ParsOK xs ps) {v w : Nat} (hv : v < xs.length) (hw : w < xs.length) : 1 ≤ (way xs v w).length ∧ (way xs v w).length ≤ 47 := by
  obtain ⟨ps, hp⟩ := hE
  have hm := meet_bel ht hv hw
  have h1 := climb_len ht hp hv hm.1
  have h2 := climb_len ht hp hw hm.2
  have h3 := (tree_len ht).2
  rw [way, parents_eq ht hp]
  simp only [List.length_append, List.length_singleton, List.length_reverse]
  omega
noncomputable def dist (xs : List Int) (v w : Nat) : Nat := (way xs v w).length - 1
theorem dist_le {xs : List Int} (ht : isTree xs = true) (hE : ∃ ps, ParsOK xs ps) {v w : Nat} (hv : v < xs.length) (hw : w < xs.length) : dist xs v w ≤ 46 := by
  have := way_len ht hE hv hw
  simp only [dist]; omega
theorem dist_depths {xs ps ds : List Int} (ht : isTree xs = true) (hp : ParsOK xs ps) (hd : DepsOK xs ds) {v w : Nat} {x y z : Int} (hv : v < xs.length) (hw : w < xs.length) (hx : ds[v]? = some x) (hy : ds[w]? = some y) (hz : ds[meet xs v w]? = some z) :
    (dist xs v w : Int) = x + y - 2 * z := by
  have hm := meet_bel ht hv hw
  have h1 := up_depth ht hp hd hz hv hm.1 hx
  have h2 := up_depth ht hp hd hz hw hm.2 hy
  simp only [dist, way, parents_eq ht hp, List.length_append, List.length_singleton, List.length_reverse]
  omega
noncomputable def wayBetween (xs : List Int) (v w : Int) : List Int × Int := if code xs [v, w] = 0 then (way xs v.toNat w.toNat, 0) else ([], code xs [v, w])
theorem wayBetween_yes {xs : List Int} {v w : Nat} (h : code xs [(v : Int), (w : Int)] = 0) : wayBetween xs v w = (way xs v w, 0) := by simp [wayBetween, h]
theorem wayBetween_no {xs : List Int} {v w : Int} (h : code xs [v, w] ≠ 0) : wayBetween xs v w = ([], code xs [v, w]) := by simp [wayBetween, h]
noncomputable def stepsBetween (xs : List Int) (v w : Int) : Int × Int := if code xs [v, w] = 0 then ((dist xs v.toNat w.toNat : Int), 0) else (0, code xs [v, w])
theorem stepsBetween_yes {xs : List Int} {v w : Nat} (h : code xs [(v : Int), (w : Int)] = 0) : stepsBetween xs v w = ((dist xs v w : Int), 0) := by simp [stepsBetween, h]
theorem stepsBetween_no {xs : List Int} {v w : Int} (h : code xs [v, w] ≠ 0) : stepsBetween xs v w = (0, code xs [v, w]) := by simp [stepsBetween, h]
end M
end Go.Proofs.Ytdgcjkgbglofbaa

/- slices.Max over numbers of at least 0. -/

namespace Go.Proofs.Ytdgcjkgbglofbaa
open Go.RowKit

namespace M
/-- the greatest of the first k numbers, and of 0 -/
def maxTo (xs : List Int) : Nat → Int
  | 0 => 0
  | k + 1 => if maxTo xs k ≤ xs[k]?.getD 0 then xs[k]?.getD 0 else maxTo xs k
theorem maxTo_hit {xs : List Int} {k : Nat} {x : Int} (h : xs[k]? = some x) (hx : maxTo xs k ≤ x) : maxTo xs (k + 1) = x := by simp [maxTo, h, hx]
theorem maxTo_miss {xs : List Int} {k : Nat} {x : Int} (h : xs[k]? = some x) (hx : x < maxTo xs k) : maxTo xs (k + 1) = maxTo xs k := by
  rw [maxTo, h, if_neg (by simp; omega)]
theorem maxTo_step {xs : List Int} {k : Nat} {x y : Int} (h : xs[k]? = some x) (hy : maxTo xs k = y) : maxTo xs (k + 1) = if y < x then x else y := by
  simp only [maxTo, h, Option.getD_some, hy]
  split <;> split <;> omega
theorem maxTo_pos (xs : List Int) : ∀ k, 0 ≤ maxTo xs k := by
  intro k
  induction k with
  | zero => exact Int.le_refl _
  | succ k ih => simp only [maxTo]; split <;> omega
theorem maxTo_le {xs : List Int} {b : Int} (hb : 0 ≤ b) (h : ∀ x ∈ xs, x ≤ b) : ∀ k, maxTo xs k ≤ b := by
  intro k
  induction k with
  | zero => exact hb
  | succ k ih =>
    simp only [maxTo]
    split
    · rcases hx : xs[k]? with _ | x
      · simpa using hb
      · simpa using h x (List.mem_of_getElem? hx)
    · exact ih
theorem maxTo_ge {xs : List Int} {j : Nat} {x : Int} (h : xs[j]? = some x) : ∀ k, j < k → x ≤ maxTo xs k := by
  intro k
  induction k with
  | zero => intro h; omega
  | succ k ih =>
    intro hj
    rcases Nat.lt_or_ge j k with h1 | h1
    · have := ih h1
      simp only [maxTo]
      split <;> omega
    · obtain rfl : j = k := by omega
      simp only [maxTo, h, Option.getD_some]
      split <;> omega
end M

set_option maxHeartbeats 1000000 in
theorem slicesMax (A : Option Addr) (xs : List Int) (c : Nat) (w : World) (hx : xs.length ≤ 1000000) (hpos : 0 < xs.length) (h0 : Hid (∀ x ∈ xs, 0 ≤ x)) (h : Ints w w.heap.size A xs) (r : Int) (hr : Hid (M.maxTo xs xs.length = r)) :
    Calls Try.prog 179 #[.slice A xs.length c] w fun e w' => e = .returned (.int .i64 r) ∧ w = w' := by
  obtain ⟨x0, hx0⟩ : ∃ x, xs[0]? = some x := ⟨_, List.getElem?_eq_getElem hpos⟩
  have hm1 : M.maxTo xs 1 = x0 := M.maxTo_hit hx0 (by simp only [M.maxTo]; exact h0.out x0 (List.mem_of_getElem? hx0))
  have Hm1 := Lib.hid hm1
  obtain ⟨b, off, rfl, hbB, hcells⟩ := h hpos
  have c0 : w.cell? ⟨b, off, none⟩ = some (.int .i64 x0) := by simpa using hcells 0 _ hx0
  have Hcells := Lib.hid hcells
  clear hcells hm1 hx0
  have hl1 : 1 ≤ xs.length := hpos
  have hd1 : ¬ (xs.length : Int) < 1 := by omega
  go_enter Try.func179, Try.ntmps179
  go_wp2
  go_loop [3, 4] (fun m i => ∃ (k : Nat) (y : Int), 1 ≤ k ∧ k ≤ xs.length ∧ i = .int .i64 k ∧ m = .int .i64 y ∧ Hid (M.maxTo xs k = y)) (fun _ i => xs.length - (intOf i).toNat)
  case atStart => exact ⟨1, x0, Nat.le_refl _, hl1, rfl, rfl, Hm1⟩
  case round =>
    obtain ⟨k, y, hk1, hk, rfl, rfl, hy⟩ := hrel
    clear c0
    by_cases hlt : k < xs.length
    · obtain ⟨x, hX⟩ : ∃ x, xs[k]? = some x := ⟨_, List.getElem?_eq_getElem hlt⟩
      have g := Hcells.out k _ hX
      have hs : Hid (M.maxTo xs (k + 1) = if y < x then x else y) := M.maxTo_step hX hy.out
      have hs2 : Hid (M.maxTo xs (k + 1) = max y x) := by
        show _ = _
        rw [hs.out]
        split <;> omega
      clear hX
      go_wp2
      all_goals
        go_round
        case rel => first | exact ⟨k + 1, _, by omega, by omega, by go_num, rfl, hs⟩ | exact ⟨k + 1, _, by omega, by omega, by go_num, rfl, hs2⟩
        case measure => simp [intOf]; omega
    · obtain rfl : k = xs.length := by omega
      have he : Hid (y = r) := hy.out.symm.trans hr.out
      go_wp2
      go_ret
      exact ⟨by rw [← he.out]; rfl, rfl⟩
end Go.Proofs.Ytdgcjkgbglofbaa

/- Least numbers of a list and their places; rows made by a function of places; reaches as greatest distances; sums of distances: the mathematics. No program is named here. -/
namespace Go.Proofs.Ytdgcjkgbglofbaa
namespace M
/-- a row by a function of places -/
def rowOf (n : Nat) (f : Nat → Int) : List Int := (List.range n).map f
theorem rowOf_len (n : Nat) (f : Nat → Int) : (rowOf n f).length = n := by simp [rowOf]
theorem rowOf_at {n i : Nat} (f : Nat → Int) (h : i < n) : (rowOf n f)[i]? = some (f i) := by simp [rowOf, h]
theorem rowOf_succ (n : Nat) (f : Nat → Int) : rowOf (n + 1) f = rowOf n f ++ [f n] := by simp [rowOf, List.range_succ]
theorem rowOf_congr {n : Nat} {f g : Nat → Int} (h : ∀ i, i < n → f i = g i) : rowOf n f = rowOf n g := by
  apply List.ext_getElem?
  intro i
  by_cases hi : i < n
  · rw [rowOf_at f hi, rowOf_at g hi, h i hi]
  · rw [List.getElem?_eq_none (by rw [rowOf_len]; omega), List.getElem?_eq_none (by rw [rowOf_len]; omega)]
theorem rowOf_set {n k : Nat} (f : Nat → Int) (x : Int) : (rowOf n f).set k x = rowOf n (fun i => if i = k then x else f i) := by
  apply List.ext_getElem?
  intro i
  by_cases hi : i < n
  · rw [rowOf_at _ hi]
    by_cases hk : k = i
    · subst hk; rw [List.getElem?_set_self (by rw [rowOf_len]; exact hi), if_pos rfl]
    · rw [List.getElem?_set_ne hk, rowOf_at f hi, if_neg (fun e => hk e.symm)]
  · rw [List.getElem?_eq_none (by rw [List.length_set, rowOf_len]; omega), List.getElem?_eq_none (by rw [rowOf_len]; omega)]
theorem rowOf_zero (n : Nat) : rowOf n (fun _ => 0) = List.replicate n 0 := by
  apply List.ext_getElem?
  intro i
  rw [List.getElem?_replicate]
  by_cases hi : i < n
  · rw [rowOf_at _ hi, if_pos hi]
  · rw [if_neg hi, List.getElem?_eq_none (by rw [rowOf_len]; omega)]
/-- the least of the first k numbers, for 1 or more of them -/
def minTo (xs : List Int) : Nat → Int
  | 0 => 0
  | k + 1 => if k = 0 then xs[0]?.getD 0 else min (minTo xs k) (xs[k]?.getD 0)
theorem minTo_one {xs : List Int} {x : Int} (h : xs[0]? = some x) : minTo xs 1 = x := by simp [minTo, h]
theorem minTo_step {xs : List Int} {k : Nat} {x y : Int} (h : xs[k]? = some x) (hk : 1 ≤ k) (hy : minTo xs k = y) : minTo xs (k + 1) = min y x := by
  rw [minTo, if_neg (by omega), h, hy]; rfl
theorem minTo_le {xs : List Int} {j : Nat} {x : Int} (h : xs[j]? = some x) : ∀ k, j < k → minTo xs k ≤ x := by
  intro k
  induction k with
  | zero => intro h; omega
  | succ k ih =>
    intro hj
    rw [minTo]
    by_cases h0 : k = 0
    · subst h0
      obtain rfl : j = 0 := by omega
      rw [if_pos rfl, h]; exact Int.le_refl _
    · rw [if_neg h0]
      by_cases h1 : j < k
      · have := ih h1; omega
      · obtain rfl : j = k := by omega
        rw [h]
        simp only [Option.getD_some]
        omega
/-- the places below k at which m stands -/
def atTo (xs : List Int) (m : Int) : Nat → List Int
  | 0 => []
  | k + 1 => atTo xs m k ++ (if xs[k]? = some m then [(k : Int)] else [])
theorem atTo_hit {xs : List Int} {m : Int} {k : Nat} (h : xs[k]? = some m) : atTo xs m (k + 1) = atTo xs m k ++ [(k : Int)] := by simp [atTo, h]
theorem atTo_miss {xs : List Int} {m x : Int} {k : Nat} (h : xs[k]? = some x) (hx : x ≠ m) : atTo xs m (k + 1) = atTo xs m k := by simp [atTo, h, hx]
theorem atTo_len (xs : List Int) (m : Int) : ∀ k, (atTo xs m k).length ≤ k := by
  intro k
  induction k with
  | zero => simp [atTo]
  | succ k ih => simp only [atTo, List.length_append]; split <;> simp <;> omega
theorem atTo_none {xs : List Int} {m : Int} : ∀ {k : Nat}, (∀ j x, j < k → xs[j]? = some x → x ≠ m) → atTo xs m k = [] := by
  intro k
  induction k with
  | zero => intro _; rfl
  | succ k ih =>
    intro h
    rw [atTo, ih fun j x hj => h j x (by omega), if_neg fun e => h k m (by omega) e rfl]; rfl
/-- the places of the least numbers among the first k -/
def least (xs : List Int) (k : Nat) : List Int := atTo xs (minTo xs k) k
theorem least_len (xs : List Int) (k : Nat) : (least xs k).length ≤ k := atTo_len _ _ _
theorem least_less {xs : List Int} {k : Nat} {x : Int} (h : xs[k]? = some x) (hk : 1 ≤ k) (hx : x < minTo xs k) : least xs (k + 1) = [(k : Int)] ∧ minTo xs (k + 1) = x := by
  have hm : minTo xs (k + 1) = x := by rw [minTo_step h hk rfl]; omega
  refine ⟨?_, hm⟩
  rw [least, hm, atTo_hit h, atTo_none fun j y hj hy e => ?_]
  · rfl
  · have := minTo_le hy k hj; omega
theorem least_same {xs : List Int} {k : Nat} {x : Int} (h : xs[k]? = some x) (hk : 1 ≤ k) (hx : x = minTo xs k) : least xs (k + 1) = least xs k ++ [(k : Int)] ∧ minTo xs (k + 1) = x := by
  have hm : minTo xs (k + 1) = x := by rw [minTo_step h hk rfl]; omega
  refine ⟨?_, hm⟩
  rw [least, hm, atTo_hit h, least, hx]
theorem least_more {xs : List Int} {k : Nat} {x : Int} (h : xs[k]? = some x) (hk : 1 ≤ k) (hx : minTo xs k < x) : least xs (k + 1) = least xs k ∧ minTo xs (k + 1) = minTo xs k := by
  have hm : minTo xs (k + 1) = minTo xs k := by rw [minTo_step h hk rfl]; omega
  refine ⟨?_, hm⟩
  rw [least, hm, atTo_miss h (by omega), least]
theorem least_one {xs : List Int} {x : Int} (h : xs[0]? = some x) : least xs 1 = [0] ∧ minTo xs 1 = x := by
  refine ⟨?_, minTo_one h⟩
  rw [least, minTo_one h, atTo_hit h]; rfl
/-- the first of the least places is one of them -/
theorem atTo_head {xs : List Int} {m : Int} : ∀ {k : Nat} {a : Int}, (atTo xs m k)[0]? = some a → ∃ j : Nat, a = (j : Int) ∧ j < k ∧ xs[j]? = some m := by
  intro k
  induction k with
  | zero => intro a h; simp [atTo] at h
  | succ k ih =>
    intro a h
    rw [atTo] at h
    by_cases hl : 0 < (atTo xs m k).length
    · rw [List.getElem?_append_left hl] at h
      obtain ⟨j, h1, h2, h3⟩ := ih h
      exact ⟨j, h1, by omega, h3⟩
    · have : atTo xs m k = [] := List.eq_nil_of_length_eq_zero (by omega)
      rw [this, List.nil_append] at h
      split at h
      · rename_i hx
        simp at h
        exact ⟨k, h.symm, by omega, hx⟩
      · simp at h
theorem least_pos {xs : List Int} : ∀ {k : Nat}, 1 ≤ k → k ≤ xs.length → 1 ≤ (least xs k).length := by
  intro k
  induction k with
  | zero => intro h; omega
  | succ k ih =>
    intro _ hk
    have hx : xs[k]? = some xs[k] := List.getElem?_eq_getElem (by omega)
    by_cases h0 : k = 0
    · subst h0; rw [(least_one hx).1]; simp
    · rcases Int.lt_trichotomy xs[k] (minTo xs k) with h | h | h
      · rw [(least_less hx (by omega) h).1]; simp
      · rw [(least_same hx (by omega) h).1]; simp
      · rw [(least_more hx (by omega) h).1]; exact ih (by omega) (by omega)

/-- the distances of a node -/
noncomputable def distRow (xs : List Int) (v : Nat) : List Int := rowOf xs.length fun w => (dist xs v w : Int)
theorem distRow_len (xs : List Int) (v : Nat) : (distRow xs v).length = xs.length := rowOf_len _ _
theorem distRow_at (xs : List Int) (v : Nat) {w : Nat} (h : w < xs.length) : (distRow xs v)[w]? = some (dist xs v w : Int) := rowOf_at _ h
noncomputable def reach (xs : List Int) (v : Nat) : Int := maxTo (distRow xs v) xs.length
noncomputable def reaches (xs : List Int) : List Int := rowOf xs.length (reach xs)
theorem reaches_len (xs : List Int) : (reaches xs).length = xs.length := rowOf_len _ _
/-- the reaches while they are made: those of the nodes below v are there, that of v over the first k nodes -/
noncomputable def reachRow (xs : List Int) (v k : Nat) : List Int := rowOf xs.length fun i => if i < v then reach xs i else if i = v then maxTo (distRow xs v) k else 0
theorem reachRow_len (xs : List Int) (v k : Nat) : (reachRow xs v k).length = xs.length := rowOf_len _ _
theorem reachRow_zero (xs : List Int) : reachRow xs 0 0 = List.replicate xs.length 0 := by
  rw [← rowOf_zero]
  refine rowOf_congr fun i hi => ?_
  rw [if_neg (by omega)]
  split <;> rfl
theorem reachRow_at (xs : List Int) {v : Nat} (k : Nat) (h : v < xs.length) : (reachRow xs v k)[v]? = some (maxTo (distRow xs v) k) := by
  rw [reachRow, rowOf_at _ h, if_neg (by omega), if_pos rfl]
theorem reachRow_step {xs : List Int} {v k : Nat} {x : Int} (h : maxTo (distRow xs v) (k + 1) = x) : (reachRow xs v k).set v x = reachRow xs v (k + 1) := by
  rw [reachRow, rowOf_set]
  refine rowOf_congr fun i hi => ?_
  by_cases h1 : i = v
  · subst h1; rw [if_pos rfl, if_neg (by omega), if_pos rfl, h]
  · rw [if_neg h1, if_neg h1, if_neg h1]
theorem reachRow_next {xs : List Int} {v : Nat} : reachRow xs v xs.length = reachRow xs (v + 1) 0 := by
  refine rowOf_congr fun i hi => ?_
  by_cases h1 : i < v
  · rw [if_pos h1, if_pos (by omega)]
  · by_cases h2 : i = v
    · subst h2; rw [if_neg (by omega), if_pos rfl, if_pos (by omega)]; rfl
    · rw [if_neg h1, if_neg h2, if_neg (by omega)]
      split <;> rfl
theorem reachRow_end {xs : List Int} {k : Nat} : reachRow xs xs.length k = reaches xs := by
  refine rowOf_congr fun i hi => ?_
  rw [if_pos hi]
theorem reach_le {xs : List Int} (ht : isTree xs = true) (hE : ∃ ps, ParsOK xs ps) {v : Nat} (hv : v < xs.length) (k : Nat) : 0 ≤ maxTo (distRow xs v) k ∧ maxTo (distRow xs v) k ≤ 46 := by
  refine ⟨maxTo_pos _ _, maxTo_le (by omega) (fun x hx => ?_) k⟩
  obtain ⟨i, hi⟩ := List.getElem?_of_mem hx
  have hl : i < xs.length := by have := (List.getElem?_eq_some_iff.1 hi).1; rwa [distRow_len] at this
  rw [distRow_at xs v hl] at hi
  injection hi with hi
  have := dist_le ht hE hv hl
  omega
/-- the sum of the distances of v to the first k nodes -/
noncomputable def sumRow (xs : List Int) (v : Nat) : Nat → Nat
  | 0 => 0
  | k + 1 => sumRow xs v k + dist xs v k
/-- the sum of the distances of all two nodes below v -/
noncomputable def sumTo (xs : List Int) : Nat → Nat
  | 0 => 0
  | v + 1 => sumTo xs v + sumRow xs v v
theorem sumRow_le {xs : List Int} (ht : isTree xs = true) (hE : ∃ ps, ParsOK xs ps) {v : Nat} (hv : v < xs.length) : ∀ {k : Nat}, k ≤ xs.length → sumRow xs v k ≤ 46 * k := by
  intro k
  induction k with
  | zero => intro _; simp [sumRow]
  | succ k ih => intro hk; have h1 := ih (by omega); have h2 := dist_le ht hE hv (w := k) (by omega); simp only [sumRow]; omega
theorem sumTo_le {xs : List Int} (ht : isTree xs = true) (hE : ∃ ps, ParsOK xs ps) : ∀ {v : Nat}, v ≤ xs.length → sumTo xs v ≤ 1104 * v := by
  have hl := (tree_len ht).2
  intro v
  induction v with
  | zero => intro _; simp [sumTo]
  | succ v ih => intro hv; have h1 := ih (by omega); have h2 := sumRow_le ht hE (v := v) (by omega) (k := v) (by omega); simp only [sumTo]; omega
end M
end Go.Proofs.Ytdgcjkgbglofbaa

/- Heavy children, heavy paths, light steps, intervals and ancestors: their mathematics. No program is named here. -/
namespace Go.Proofs.Ytdgcjkgbglofbaa
namespace M
/-- the heavy one among the first k children of a node, and its size -/
def hvTo (xs : List Int) (v : Nat) : Nat → Int × Int
  | 0 => (-1, 0)
  | k + 1 => if (hvTo xs v k).2 < (span 1 (xs.drop (kidAt xs v k)) : Int) then ((kidAt xs v k : Int), (span 1 (xs.drop (kidAt xs v k)) : Int)) else hvTo xs v k
theorem hvTo_hit {xs : List Int} {v k C S : Nat} {h s : Int} (hk : hvTo xs v k = (h, s)) (hC : kidAt xs v k = C) (hS : span 1 (xs.drop C) = S) (hlt : s < (S : Int)) : hvTo xs v (k + 1) = ((C : Int), (S : Int)) := by
  simp only [hvTo, hk, hC, hS]
  rw [if_pos hlt]
theorem hvTo_miss {xs : List Int} {v k C S : Nat} {h s : Int} (hk : hvTo xs v k = (h, s)) (hC : kidAt xs v k = C) (hS : span 1 (xs.drop C) = S) (hlt : ¬ s < (S : Int)) : hvTo xs v (k + 1) = (h, s) := by
  simp only [hvTo, hk, hC, hS]
  rw [if_neg hlt]
theorem hvTo_kid (xs : List Int) (v : Nat) : ∀ k, (k = 0 ∧ hvTo xs v k = (-1, 0)) ∨ (1 ≤ k ∧ ((hvTo xs v k).2 = 0 → (hvTo xs v k).1 = -1) ∧ 0 ≤ (hvTo xs v k).2 ∧ ((hvTo xs v k).1 = -1 ∨ ∃ i, i < k ∧ (hvTo xs v k).1 = (kidAt xs v i : Int))) := by
  intro k
  induction k with
  | zero => exact .inl ⟨rfl, rfl⟩
  | succ k ih =>
    refine .inr ⟨by omega, ?_⟩
    have h0 : ((hvTo xs v k).2 = 0 → (hvTo xs v k).1 = -1) ∧ 0 ≤ (hvTo xs v k).2 ∧ ((hvTo xs v k).1 = -1 ∨ ∃ i, i < k ∧ (hvTo xs v k).1 = (kidAt xs v i : Int)) := by
      rcases ih with ⟨rfl, h⟩ | h
      · rw [h]; exact ⟨fun _ => rfl, by decide, .inl rfl⟩
      · exact h.2
    rw [hvTo]
    split
    · rename_i hlt
      refine ⟨fun h => ?_, by omega, .inr ⟨k, by omega, rfl⟩⟩
      have := h0.2.1
      simp only at h
      omega
    · refine ⟨h0.1, h0.2.1, ?_⟩
      rcases h0.2.2 with h | ⟨i, hi, h⟩
      · exact .inl h
      · exact .inr ⟨i, by omega, h⟩
theorem hvTo_bounds {xs : List Int} (hx : xs.length ≤ 24) (v : Nat) : ∀ k, 0 ≤ (hvTo xs v k).2 ∧ (hvTo xs v k).2 ≤ 24 := by
  intro k
  induction k with
  | zero => simp [hvTo]
  | succ k ih =>
    rw [hvTo]
    split
    · have := span_le (xs.drop (kidAt xs v k)) 1
      simp only [List.length_drop] at this
      simp only
      omega
    · exact ih
/-- the heavy child of a node, -1 for a leaf -/
def hvAt (xs : List Int) (v : Nat) : Int := (hvTo xs v (xs[v]?.getD 0).toNat).1
theorem hvAt_eq {xs : List Int} {v d : Nat} (hd : xs[v]? = some (d : Int)) : hvAt xs v = (hvTo xs v d).1 := by simp [hvAt, hd]
theorem hvAt_kid {xs : List Int} (ht : isTree xs = true) {v : Nat} (hv : v < xs.length) : hvAt xs v = -1 ∨ ∃ c : Nat, hvAt xs v = (c : Int) ∧ IsKid xs v c := by
  obtain ⟨d, hd, _⟩ := tree_degN ht hv
  rw [hvAt_eq hd]
  rcases hvTo_kid xs v d with ⟨_, h⟩ | ⟨_, _, _, h | ⟨i, hi, h⟩⟩
  · rw [h]; exact .inl rfl
  · exact .inl h
  · exact .inr ⟨_, h, d, i, hd, hi, rfl⟩
theorem hvAt_lt {xs : List Int} (ht : isTree xs = true) {v : Nat} (hv : v < xs.length) : hvAt xs v = -1 ∨ ∃ c : Nat, hvAt xs v = (c : Int) ∧ v < c ∧ c < xs.length := by
  rcases hvAt_kid ht hv with h | ⟨c, h, hk⟩
  · exact .inl h
  · have := kid_bounds ht hk
    exact .inr ⟨c, h, this.1, this.2.2⟩
/-- the heavy children of all nodes -/
def heavy (xs : List Int) : List Int := rowOf xs.length (hvAt xs)
theorem heavy_len (xs : List Int) : (heavy xs).length = xs.length := rowOf_len _ _
theorem heavy_at (xs : List Int) {v : Nat} (h : v < xs.length) : (heavy xs)[v]? = some (hvAt xs v) := rowOf_at _ h
/-- is a node a heavy child -/
def isHeavy (xs : List Int) (v : Nat) : Bool := decide ((v : Int) ∈ heavy xs)
theorem isHeavy_mem (xs : List Int) (v : Nat) : decide ((v : Int) ∈ heavy xs) = isHeavy xs v := rfl
theorem isHeavy_root {xs : List Int} (ht : isTree xs = true) : isHeavy xs 0 = false := by
  refine decide_eq_false fun hm => ?_
  simp only [heavy, rowOf, List.mem_map, List.mem_range] at hm
  obtain ⟨p, hp, h⟩ := hm
  rcases hvAt_lt ht hp with h1 | ⟨c, h1, h2, _⟩ <;> omega
theorem isHeavy_par {xs ps : List Int} (ht : isTree xs = true) (hp : ParsOK xs ps) {v p : Nat} (hv : v < xs.length) (hq : ps[v]? = some (p : Int)) : isHeavy xs v = decide (hvAt xs p = (v : Int)) := by
  have h0 : 0 < v := by
    rcases Nat.eq_zero_or_pos v with h | h
    · subst h; rw [hp.2.1] at hq; injection hq with hq; omega
    · exact h
  obtain ⟨p', h1, h2, hk⟩ := par_has ht hp h0 hv
  rw [hq] at h1
  injection h1 with h1
  obtain rfl : p = p' := by omega
  simp only [isHeavy]
  rw [Bool.eq_iff_iff]
  simp only [decide_eq_true_eq]
  constructor
  · intro hm
    simp only [heavy, rowOf, List.mem_map, List.mem_range] at hm
    obtain ⟨q, hq1, h⟩ := hm
    rcases hvAt_kid ht hq1 with h3 | ⟨c, h3, hk3⟩
    · omega
    · obtain rfl : c = v := by omega
      have := kid_unique ht hk hk3
      subst this
      exact h
  · intro h
    rw [← h]
    exact List.mem_of_getElem? (heavy_at xs (show p < xs.length by omega))
/-- the heavy path from a node down -/
def hvDown (xs : List Int) : Nat → Nat → List Int
  | 0, _ => []
  | k + 1, v => (v : Int) :: (if 0 ≤ hvAt xs v then hvDown xs k (hvAt xs v).toNat else [])
theorem hvDown_fuel {xs : List Int} (ht : isTree xs = true) : ∀ {k k' v : Nat}, v < xs.length → xs.length ≤ v + k → xs.length ≤ v + k' → hvDown xs k v = hvDown xs k' v := by
  intro k
  induction k with
  | zero => intro k' v h h1; omega
  | succ k ih =>
    intro k' v h h1 h2
    cases k' with
    | zero => omega
    | succ k' =>
      simp only [hvDown]
      rcases hvAt_lt ht h with h3 | ⟨c, h3, h4, h5⟩
      · rw [h3]; rfl
      · rw [h3]
        simp only [Int.toNat_natCast]
        rw [ih h5 (by omega) (k' := k') (by omega)]
def hvPath (xs : List Int) (v : Nat) : List Int := hvDown xs xs.length v
theorem hvPath_end {xs : List Int} {v : Nat} (hv : v < xs.length) (h : hvAt xs v = -1) : hvPath xs v = [(v : Int)] := by
  obtain ⟨n, hn⟩ : ∃ n, xs.length = n + 1 := ⟨xs.length - 1, by omega⟩
  rw [hvPath, hn, hvDown, h]; rfl
theorem hvPath_step {xs : List Int} (ht : isTree xs = true) {v c : Nat} (hv : v < xs.length) (h : hvAt xs v = (c : Int)) : hvPath xs v = (v : Int) :: hvPath xs c := by
  rcases hvAt_lt ht hv with h3 | ⟨c', h3, h4, h5⟩
  · omega
  · obtain rfl : c = c' := by omega
    obtain ⟨n, hn⟩ : ∃ n, xs.length = n + 1 := ⟨xs.length - 1, by omega⟩
    rw [hvPath, hn, hvDown, h, if_pos (by omega), Int.toNat_natCast, hvPath, hvDown_fuel ht (k := n) (k' := xs.length) h5 (by omega) (by omega)]
theorem hvPath_len {xs : List Int} (ht : isTree xs = true) : ∀ (k : Nat) {v : Nat}, v < xs.length → xs.length ≤ v + k → (hvPath xs v).length + v ≤ xs.length := by
  intro k
  induction k with
  | zero => intro v h h1; omega
  | succ k ih =>
    intro v h h1
    rcases hvAt_lt ht h with h3 | ⟨c, h3, h4, h5⟩
    · rw [hvPath_end h h3]; simp; omega
    · rw [hvPath_step ht h h3]
      have := ih h5 (by omega)
      simp only [List.length_cons]
      omega
theorem hvPath_le {xs : List Int} (ht : isTree xs = true) {v : Nat} (hv : v < xs.length) : (hvPath xs v).length ≤ 24 := by
  have := hvPath_len ht xs.length hv (by omega)
  have := (tree_len ht).2
  omega
/-- the heavy paths from the tops among the first k nodes -/
def hvPaths (xs : List Int) : Nat → List (List Int)
  | 0 => []
  | k + 1 => if isHeavy xs k then hvPaths xs k else hvPaths xs k ++ [hvPath xs k]
theorem hvPaths_hit {xs : List Int} {k : Nat} (h : isHeavy xs k = true) : hvPaths xs (k + 1) = hvPaths xs k := by rw [hvPaths, if_pos h]
theorem hvPaths_miss {xs : List Int} {k : Nat} (h : isHeavy xs k = false) : hvPaths xs (k + 1) = hvPaths xs k ++ [hvPath xs k] := by rw [hvPaths, if_neg (by simp [h])]
theorem hvPaths_len (xs : List Int) : ∀ k, (hvPaths xs k).length ≤ k := by
  intro k
  induction k with
  | zero => simp [hvPaths]
  | succ k ih =>
    rw [hvPaths]
    split
    · omega
    · simp only [List.length_append, List.length_cons, List.length_nil]; omega
def heavyPaths (xs : List Int) : List (List Int) × Int := if isTree xs then (hvPaths xs xs.length, 0) else ([], 1)
theorem heavyPaths_yes {xs : List Int} (h : isTree xs = true) : heavyPaths xs = (hvPaths xs xs.length, 0) := by simp [heavyPaths, h]
theorem heavyPaths_no {xs : List Int} (h : isTree xs = false) : heavyPaths xs = ([], 1) := by simp [heavyPaths, h]
/-- how many of a list are not heavy -/
def lightIn (xs : List Int) : List Int → Int
  | [] => 0
  | v :: r => (if v ∈ heavy xs then 0 else 1) + lightIn xs r
theorem lightIn_append (xs l r : List Int) : lightIn xs (l ++ r) = lightIn xs l + lightIn xs r := by
  induction l with
  | nil => simp [lightIn]
  | cons v l ih => simp only [List.cons_append, lightIn, ih]; omega
theorem lightIn_reverse (xs l : List Int) : lightIn xs l.reverse = lightIn xs l := by
  induction l with
  | nil => rfl
  | cons v l ih => simp only [List.reverse_cons, lightIn_append, ih, lightIn]; omega
theorem lightIn_bounds (xs : List Int) : ∀ l, 0 ≤ lightIn xs l ∧ lightIn xs l ≤ l.length := by
  intro l
  induction l with
  | nil => simp [lightIn]
  | cons v l ih => simp only [lightIn, List.length_cons]; split <;> omega
theorem lightIn_take_hit {xs l : List Int} {k : Nat} {v : Int} (h : l[k]? = some v) (hv : v ∈ heavy xs) : lightIn xs (l.take (k + 1)) = lightIn xs (l.take k) := by
  obtain ⟨hk, rfl⟩ := List.getElem?_eq_some_iff.1 h
  rw [List.take_succ_eq_append_getElem hk, lightIn_append, lightIn, if_pos hv, lightIn]; omega
theorem lightIn_take_miss {xs l : List Int} {k : Nat} {v : Int} (h : l[k]? = some v) (hv : v ∉ heavy xs) : lightIn xs (l.take (k + 1)) = lightIn xs (l.take k) + 1 := by
  obtain ⟨hk, rfl⟩ := List.getElem?_eq_some_iff.1 h
  rw [List.take_succ_eq_append_getElem hk, lightIn_append, lightIn, if_neg hv, lightIn]; omega
theorem meet_root {xs : List Int} (v : Nat) : meet xs 0 v = 0 := by
  have := meetDown_le xs 0 v (min 0 v)
  rw [Nat.zero_min] at this
  simp only [meet, Nat.zero_min]; omega
theorem meet_root' {xs : List Int} (v : Nat) : meet xs v 0 = 0 := by
  have := meetDown_le xs v 0 (min v 0)
  rw [Nat.min_zero] at this
  simp only [meet, Nat.min_zero]; omega
theorem climb_top {xs ps : List Int} (ht : isTree xs = true) {v : Nat} (hv : v < xs.length) : Climb xs ps v 0 0 (upTo ps 0 v) :=
  ⟨by omega, bel_iff.2 ⟨Nat.zero_le _, by rw [fin_root ht]; exact hv⟩, Nat.le_refl _, by rw [upTo_end ps (Nat.le_refl 0), List.append_nil]⟩
theorem way_up {xs ps : List Int} (ht : isTree xs = true) (hp : ParsOK xs ps) {v : Nat} (hv : v < xs.length) : way xs v 0 = upTo ps 0 v ++ [0] := by
  have := way_mk ht hp (meet_root' v) (climb_top (ps := ps) ht hv) (climb_top (ps := ps) ht (v := 0) (by omega))
  rw [upTo_end ps (Nat.le_refl 0)] at this
  simpa using this.symm
theorem way_down {xs ps : List Int} (ht : isTree xs = true) (hp : ParsOK xs ps) {v : Nat} (hv : v < xs.length) : way xs 0 v = (0 : Int) :: (upTo ps 0 v).reverse := by
  have := way_mk ht hp (meet_root v) (climb_top (ps := ps) ht (v := 0) (by omega)) (climb_top (ps := ps) ht hv)
  rw [upTo_end ps (Nat.le_refl 0)] at this
  simpa using this.symm
/-- how many light nodes are on the way from the root, without the root -/
noncomputable def lights (xs : List Int) (v : Nat) : Int := lightIn xs ((way xs 0 v).drop 1)
theorem lights_up {xs ps : List Int} (ht : isTree xs = true) (hp : ParsOK xs ps) {v : Nat} (hv : v < xs.length) : lights xs v = lightIn xs (upTo ps 0 v) := by
  rw [lights, way_down ht hp hv]
  simp only [List.drop_succ_cons, List.drop_zero]
  exact lightIn_reverse _ _
theorem upTo_len {xs ps : List Int} (ht : isTree xs = true) (hp : ParsOK xs ps) {v : Nat} (hv : v < xs.length) : (upTo ps 0 v).length ≤ v :=
  climb_len ht hp hv (bel_iff.2 ⟨Nat.zero_le _, by rw [fin_root ht]; exact hv⟩)
theorem lightIn_root (xs ps : List Int) : lightIn xs (upTo ps 0 0) = 0 := by rw [upTo_end ps (Nat.le_refl 0)]; rfl
theorem lightIn_step {xs ps : List Int} (ht : isTree xs = true) (hp : ParsOK xs ps) {v p : Nat} (h0 : 0 < v) (hv : v < xs.length) (hq : ps[v]? = some (p : Int)) : lightIn xs (upTo ps 0 v) = (if isHeavy xs v then 0 else 1) + lightIn xs (upTo ps 0 p) := by
  rw [upTo_step ht hp h0 hv hq, lightIn]
  simp [isHeavy]
noncomputable def lightSteps (xs : List Int) (v : Int) : Int × Int := if code xs [v] = 0 then (lights xs v.toNat, 0) else (0, code xs [v])
theorem lightSteps_yes {xs : List Int} {v : Nat} (h : code xs [(v : Int)] = 0) : lightSteps xs v = (lights xs v, 0) := by simp [lightSteps, h]
theorem lightSteps_no {xs : List Int} {v : Int} (h : code xs [v] ≠ 0) : lightSteps xs v = (0, code xs [v]) := by simp [lightSteps, h]
/-- the nodes of the interval of a node, and a code -/
def intervalOf (xs : List Int) (v : Int) : Int × Int × Int := if code xs [v] = 0 then (v, v + (span 1 (xs.drop v.toNat) : Int) - 1, 0) else (0, 0, code xs [v])
theorem intervalOf_yes {xs : List Int} {v : Nat} (h : code xs [(v : Int)] = 0) : intervalOf xs v = ((v : Int), (v : Int) + (span 1 (xs.drop v) : Int) - 1, 0) := by simp [intervalOf, h]
theorem intervalOf_no {xs : List Int} {v : Int} (h : code xs [v] ≠ 0) : intervalOf xs v = (0, 0, code xs [v]) := by simp [intervalOf, h]
/-- the ancestor of k steps, and a code -/
noncomputable def ancestorOf (xs : List Int) (v k : Int) : Int × Int :=
  if code xs [v] = 0 then (if 0 ≤ k ∧ k ≤ 24 then (match (way xs v.toNat 0)[k.toNat]? with | none => (0, 4) | some a => (a, 0)) else (0, 2)) else (0, code xs [v])
theorem ancestorOf_no {xs : List Int} {v k : Int} (h : code xs [v] ≠ 0) : ancestorOf xs v k = (0, code xs [v]) := by simp [ancestorOf, h]
theorem ancestorOf_range {xs : List Int} {v k : Int} (h : code xs [v] = 0) (hk : ¬ (0 ≤ k ∧ k ≤ 24)) : ancestorOf xs v k = (0, 2) := by rw [ancestorOf, if_pos h, if_neg hk]
theorem ancestorOf_none {xs : List Int} {v k : Nat} (h : code xs [(v : Int)] = 0) (hk : k ≤ 24) (hw : (way xs v 0).length ≤ k) : ancestorOf xs v k = (0, 4) := by
  rw [ancestorOf, if_pos h, if_pos (by omega), Int.toNat_natCast, Int.toNat_natCast, List.getElem?_eq_none hw]
theorem ancestorOf_some {xs : List Int} {v k : Nat} {a : Int} (h : code xs [(v : Int)] = 0) (hk : k ≤ 24) (hw : (way xs v 0)[k]? = some a) : ancestorOf xs v k = (a, 0) := by
  rw [ancestorOf, if_pos h, if_pos (by omega), Int.toNat_natCast, Int.toNat_natCast, hw]
/-- the model's steps: behind j of k steps -/
def Anc (ps : List Int) (l : List Int) (j a : Nat) : Prop := l.drop j = upTo ps 0 a ++ [0]
theorem anc_at {ps l : List Int} {xs : List Int} (ht : isTree xs = true) (hp : ParsOK xs ps) {j a : Nat} (ha : a < xs.length) (h : Anc ps l j a) : l[j]? = some (a : Int) := by
  have e : l[j]? = (l.drop j)[0]? := by rw [List.getElem?_drop]; simp
  rw [e, h]
  rcases Nat.eq_zero_or_pos a with h0 | h0
  · subst h0; rw [upTo_end ps (Nat.le_refl 0)]; rfl
  · obtain ⟨p, h1, _, _⟩ := par_has ht hp h0 ha
    rw [upTo_step ht hp h0 ha h1]; rfl
theorem anc_step {xs ps l : List Int} (ht : isTree xs = true) (hp : ParsOK xs ps) {j a p : Nat} (h0 : 0 < a) (ha : a < xs.length) (hq : ps[a]? = some (p : Int)) (h : Anc ps l j a) : Anc ps l (j + 1) p := by
  have e : l.drop (j + 1) = (l.drop j).drop 1 := by rw [List.drop_drop]
  rw [Anc, e, h, upTo_step ht hp h0 ha hq]; rfl
theorem anc_root {ps l : List Int} {j : Nat} (h : Anc ps l j 0) : l.length ≤ j + 1 := by
  have := congrArg List.length h
  rw [upTo_end ps (Nat.le_refl 0)] at this
  simp only [List.length_drop, List.nil_append, List.length_cons, List.length_nil] at this
  omega
theorem anc_zero {xs ps : List Int} (ht : isTree xs = true) (hp : ParsOK xs ps) {v : Nat} (hv : v < xs.length) : Anc ps (way xs v 0) 0 v := by
  rw [Anc, List.drop_zero]; exact way_up ht hp hv
end M
end Go.Proofs.Ytdgcjkgbglofbaa
