/- Words for slices of int64 in memory, and small lemmas on worlds: what the walks of this seat share. No conditions. -/
import Derived.Test.YtbdmmeoelagdcaaRows
import Derived.WalkKit
import Derived.OwnWalk
import Derived.Lib.Hide
import Derived.Outline
import Derived.LoopTactic
import Derived.Deep.QuietTactic
import Derived.BigQuiet
import Derived.Deep.Draws
import Derived.Deep.OwnRows
import Derived.Maps.AppendAt
import Derived.Deep.RegionHeld3
import Derived.RangeFuncBox
import Derived.ProofKit
import Derived.SizedLaws
import Derived.Lib.SmallJoins
import Derived.Deep.Slices
import Derived.Deep.Fields
import Derived.Lib.Strings
import Derived.Shelf.Small.Strs
import Derived.Shelf.LaysM
import Derived.Shelf.Strconv.Clone
import Derived.Shelf.Strings.Count
import Derived.Shelf.Strings.Prefix
import Derived.Test.YtbdmmeoelagdcaaProg
import Derived.Scope
import Derived.ScopeJumps
import Derived.WalkMore
namespace Go.Proofs.Ytbdmmeoelagdcaa
open Go.RowKit

/-- The slice value '.slice A zs.length c' reads as zs, below block B. -/
def Ints (w : World) (B : Nat) (A : Option Addr) (zs : List Int) : Prop :=
  0 < zs.length → ∃ b off, A = some ⟨b, off, none⟩ ∧ b < B ∧ ∀ j x, zs[j]? = some x → w.cell? ⟨b, off + j, none⟩ = some (.int .i64 x)

theorem Ints.nil_ (w : World) (B : Nat) (A : Option Addr) : Ints w B A [] := fun h => absurd h (by simp)

theorem Ints.at_ {w : World} {B : Nat} {A : Option Addr} {zs : List Int} (h : Ints w B A zs) {k : Nat} (hk : k < zs.length) :
    ∃ b off x, A = some ⟨b, off, none⟩ ∧ b < B ∧ w.cell? ⟨b, off + k, none⟩ = some (.int .i64 x) ∧ Hid (zs[k]? = some x) := by
  obtain ⟨b, off, e, hb, hc⟩ := h (by omega)
  exact ⟨b, off, zs[k], e, hb, hc k _ (List.getElem?_eq_getElem hk), List.getElem?_eq_getElem hk⟩

theorem Ints.keep {w w' : World} {B : Nat} {A : Option Addr} {zs : List Int} (h : Ints w B A zs) (hk : ∀ p : Addr, p.block < B → w'.cell? p = w.cell? p) : Ints w' B A zs := fun hn => by
  obtain ⟨b, off, e, hb, hc⟩ := h hn
  exact ⟨b, off, e, hb, fun j x hx => (hk ⟨b, off + j, none⟩ hb).trans (hc j x hx)⟩

theorem Ints.more {w : World} {B B' : Nat} {A : Option Addr} {zs : List Int} (h : Ints w B A zs) (hB : B ≤ B') : Ints w B' A zs := fun hn => by
  obtain ⟨b, off, e, hb, hc⟩ := h hn
  exact ⟨b, off, e, by omega, hc⟩

theorem Ints.below {w w' : World} {B B' : Nat} {A : Option Addr} {zs : List Int} (h : Ints w B A zs) (hb : Below B' w w') (hB : B ≤ B') : Ints w' B A zs :=
  h.keep fun p hp => hb.cell (p := p) (by omega)

theorem Ints.alloc {w : World} {B : Nat} {A : Option Addr} {zs : List Int} (h : Ints w B A zs) (hB : B ≤ w.heap.size) (o : Obj) : Ints (w.alloc o) B A zs :=
  h.keep fun p hp => World.cell?_alloc_lt w o p (by omega)

theorem Ints.al {w : World} {A : Option Addr} {zs : List Int} (h : Ints w w.heap.size A zs) (o : Obj) : Ints (w.alloc o) (w.alloc o).heap.size A zs :=
  (h.alloc (Nat.le_refl _) o).more (by simp)

theorem Ints.be {w w' : World} {A : Option Addr} {zs : List Int} (h : Ints w w.heap.size A zs) (hb : Below w.heap.size w w') : Ints w' w'.heap.size A zs :=
  (h.below hb (Nat.le_refl _)).more hb.size

theorem Ints.drewN {w : World} {B : Nat} {A : Option Addr} {zs : List Int} (h : Ints w B A zs) (n : Nat) : Ints (w.drewN n) B A zs := h

theorem below_drewN {B : Nat} {a w : World} (h : Below B a w) (n : Nat) : Below B a (w.drewN n) := ⟨h.os, h.tape, h.output, h.size, h.block⟩

theorem ints_of_own {w : World} {base e n c : Nat} {A : Option Addr} {zs : List Int} (h : w.ownsRow base e 1 (.slice A n c) n (zs.map (Value.int .i64))) : n = zs.length ∧ Ints w w.heap.size A zs := by
  have hn : n = zs.length := by have := h.1; simpa using this.symm
  refine ⟨hn, fun hz => ?_⟩
  rcases h.2 with ⟨_, h0⟩ | ⟨g, cap, cur, hv, _, hg, _⟩
  · omega
  · injection hv with h1 h2 h3
    subst h1
    refine ⟨g, 0, rfl, (Array.getElem?_eq_some_iff.1 hg).1, fun j x hx => ?_⟩
    have := h.cells (g := g) rfl j (.int .i64 x) (by simp [hx])
    have ha : (⟨g, 0, none⟩ : Addr).add j = ⟨g, j, none⟩ := by unfold Addr.add; split <;> simp_all
    rw [ha] at this
    rw [Nat.zero_add]
    exact this


/-- The element type of the slices: int64. -/
theorem info64 : (Try.prog.info? 2).map (fun i => (i.zero, i.size, i.bytes)) = some (some (.int .i64 0), 1, 8) := by kernel_rfl

/-- the slice value v owns a row that reads zs -/
abbrev Own64 (w : World) (B : Nat) (v : Value) (zs : List Int) : Prop := w.ownsRow B 2 1 v zs.length (zs.map (Value.int .i64))

theorem ints_of_own64 {w : World} {B n c : Nat} {A : Option Addr} {zs : List Int} (h : Own64 w B (.slice A n c) zs) : Ints w w.heap.size A zs := by
  have hn : n = zs.length := by
    rcases h.2 with ⟨h1, h2⟩ | ⟨g, cap, cur, hv, _⟩
    · injection h1 with _ h1 _; omega
    · injection hv
  subst hn
  exact (ints_of_own h).2

theorem cell_al {w : World} {b : Nat} {v : Value} (h : w.cell? ⟨b, 0, none⟩ = some v) (o : Obj) : (w.alloc o).cell? ⟨b, 0, none⟩ = some v :=
  (World.cell?_alloc_lt w o ⟨b, 0, none⟩ (World.block_lt_of_cell? _ _ h)).trans h

theorem own64_made {w : World} {B n : Nat} (hB : B ≤ w.heap.size) (hn : n ≤ maxLen) :
    Own64 (w.alloc (.cells (madeCells #[.int .i64 0] n) 2)) B (.slice (some ⟨w.heap.size, 0, none⟩) n n) (List.replicate n 0) := by
  have h := World.ownsRow_lit (e := 2) (size := 1) w (madeCells #[.int .i64 0] n) n hB hn (by simp [size_madeCells])
  rw [toList_madeCells_one] at h
  simpa [Own64] using h

theorem own64_set {w : World} {B g n c : Nat} {zs : List Int} (h : Own64 w B (.slice (some ⟨g, 0, none⟩) n c) zs) (hn : zs.length = n) (k : Nat) (x : Int) :
    Own64 (w.setCell ⟨g, k, none⟩ (.int .i64 x)) B (.slice (some ⟨g, 0, none⟩) n c) (zs.set k x) := by
  subst hn
  have := (World.ownsRow.stored h k (.int .i64 x)).1
  simpa [Own64, List.map_set] using this

theorem own64_cell {w : World} {B g n c : Nat} {zs : List Int} (h : Own64 w B (.slice (some ⟨g, 0, none⟩) n c) zs) (hn : zs.length = n) {k : Nat} {x : Int} (hx : zs[k]? = some x) :
    w.cell? ⟨g, k, none⟩ = some (.int .i64 x) ∧ w.frozen? ⟨g, k, none⟩ = false ∧ B ≤ g ∧ g < w.heap.size := by
  subst hn
  have hk : k < zs.length := (List.getElem?_eq_some_iff.1 hx).1
  have hl := World.ownsRow.lt h g rfl
  exact ⟨(World.ownsRow.cellAt h k (by omega)).trans (by simp [hx]), World.ownsRow.frozenAt h k, hl.1, hl.2⟩

theorem own_mono {w : World} {base base' e size n : Nat} {v : Value} {xs : List Value} (h : w.ownsRow base e size v n xs) (hB : base' ≤ base) : w.ownsRow base' e size v n xs := by
  refine ⟨h.1, ?_⟩
  rcases h.2 with h2 | ⟨g, cap, cur, hv, hg, r⟩
  · exact .inl h2
  · exact .inr ⟨g, cap, cur, hv, by omega, r⟩

theorem own_far {w : World} {base e size n g k : Nat} {v : Value} {xs : List Value} (h : w.ownsRow base e size v n xs) (hg : g < base) (u : Value) : (w.setCell ⟨g, k, none⟩ u).ownsRow base e size v n xs :=
  ownsRow_setCell_below h (a := ⟨g, k, none⟩) hg u

theorem own_below {w w' : World} {B base e size n : Nat} {v : Value} {xs : List Value} (h : w.ownsRow base e size v n xs) (hb : Below B w w') (hB : w.heap.size ≤ B) : w'.ownsRow base e size v n xs := by
  refine ⟨h.1, ?_⟩
  rcases h.2 with h2 | ⟨g, cap, cur, hv, hg, hh, r⟩
  · exact .inl h2
  · exact .inr ⟨g, cap, cur, hv, hg, (hb.block g (by have := (Array.getElem?_eq_some_iff.1 hh).1; omega)).trans hh, r⟩

/-- 'Below' from a world's own size on, with no side conditions: a new block, a call, a draw -/
theorem b0 (a : World) : Below a.heap.size a a := Below.refl _ _
theorem bal {a w : World} (h : Below a.heap.size a w) (o : Obj) : Below a.heap.size a (w.alloc o) := h.alloc h.size o
theorem btr {a W w : World} (h : Below a.heap.size a W) (k : Below W.heap.size W w) : Below a.heap.size a w := h.trans (k.mono h.size)

theorem below_setCell {B : Nat} {a w : World} (h : Below B a w) {g k : Nat} (hg : B ≤ g) (u : Value) : Below B a (w.setCell ⟨g, k, none⟩ u) := h.setCell (p := ⟨g, k, none⟩) hg u

end Go.Proofs.Ytbdmmeoelagdcaa

/- The walks of the laws' own helpers over slices of int64: szInt64S, eqInt64S, toInt64S, markInt64S, heldInt64S. No conditions but lengths. -/
namespace Go.Proofs.Ytbdmmeoelagdcaa
open Go.RowKit

theorem szInts (A : Option Addr) (n c : Nat) (left : Int) (w : World) (hn : n ≤ 9223372036854775807) (hl : left ≤ 1048576) (hl0 : 0 ≤ left) :
    Calls Try.prog 68 #[.slice A n c, .int .i64 left] w fun e w' => e = .returned (.int .i64 (if left - n < 0 then -1 else left - n)) ∧ w = w' := by
  by_cases h : left - (n : Int) < 0
  · go_enter Try.func68, Try.ntmps68
    go_wp2
    go_ret
    exact ⟨rfl, rfl⟩
  · go_enter Try.func68, Try.ntmps68
    go_wp2
    go_ret
    exact ⟨rfl, rfl⟩

theorem take_eq_succ {xs ys : List Int} {k : Nat} {x : Int} (hx : Hid (xs[k]? = some x)) (hy : Hid (ys[k]? = some x)) (h : Hid (xs.take k = ys.take k)) : Hid (xs.take (k + 1) = ys.take (k + 1)) := by
  have hx' : xs[k]? = some x := hx
  have hy' : ys[k]? = some x := hy
  have h' : xs.take k = ys.take k := h
  show xs.take (k + 1) = ys.take (k + 1)
  rw [List.take_add_one, List.take_add_one, h', hx', hy']
theorem ne_of_at {xs ys : List Int} {k : Nat} {x y : Int} (hx : Hid (xs[k]? = some x)) (hy : Hid (ys[k]? = some y)) (he : x ≠ y) : ¬ xs = ys := fun e => by
  have hx' : xs[k]? = some x := hx
  have hy' : ys[k]? = some y := hy
  rw [e, hy'] at hx'
  injection hx' with h
  exact he h.symm

set_option maxHeartbeats 400000 in
theorem eqInts (A A' : Option Addr) (xs ys : List Int) (c c' : Nat) (w : World) (hy : ys.length ≤ 1000000000000000)
    (h : Ints w w.heap.size A xs) (h' : Ints w w.heap.size A' ys) :
    Calls Try.prog 27 #[.slice A xs.length c, .slice A' ys.length c'] w fun e w' => e = .returned (.bool (decide (xs = ys))) ∧ Below w.heap.size w w' := by
  by_cases hl : xs.length = ys.length
  · have hl' : ((xs.length : Int) != (ys.length : Int)) = false := by simp [hl]
    have Hl := Lib.hid hl
    have hl1 : xs.length ≤ ys.length := by omega
    clear hl
    go_enter Try.func27, Try.ntmps27
    go_wp2
    go_loopw [5] (fun i wr => ∃ k : Nat, k ≤ xs.length ∧ i = .int .i64 k ∧ Hid (xs.take k = ys.take k) ∧ Below w.heap.size w wr) (fun i _ => xs.length - (intOf i).toNat)
    case atStart => exact ⟨0, Nat.zero_le _, rfl, rfl, Below.refl _ _⟩
    case round =>
      obtain ⟨k, hk, rfl, he, hb⟩ := hrel
      by_cases hlt : k < xs.length
      · obtain ⟨b, off, x, rfl, hbB, g, hX⟩ := (h.below hb (Nat.le_refl _)).at_ hlt
        obtain ⟨b', off', y, rfl, hbB', g', hY⟩ := (h'.below hb (Nat.le_refl _)).at_ (k := k) (by omega)
        clear h h'
        by_cases hq : x = y
        · subst hq
          have hs := take_eq_succ hX hY he
          go_wp2
          go_quiet (fail)
          go_wp2
          go_roundw
          case rel => exact ⟨k + 1, by omega, by go_num, hs, below_drewN hb _⟩
          case measure => simp [intOf]; omega
        · have hq' : (x != y) = true := by simp [hq]
          have hs := ne_of_at hX hY hq
          clear hq
          go_wp2
          go_quiet (fail)
          go_wp2
          go_ret
          exact ⟨by simp [hs], below_drewN hb _⟩
      · obtain rfl : k = xs.length := by omega
        have hs : xs = ys := by
          have := he.out
          rw [List.take_length, Hl.out, List.take_length] at this
          exact this
        have Hs := Lib.hid hs
        clear hs
        go_wp2
        go_ret
        exact ⟨by simp [Hs.out], hb⟩
  · have hl' : ((xs.length : Int) != (ys.length : Int)) = true := by simp; omega
    go_enter Try.func27, Try.ntmps27
    go_wp2
    go_ret
    refine ⟨?_, Below.refl _ _⟩
    have : ¬ xs = ys := fun e => hl (by rw [e])
    simp [this]

theorem take_set_succ {xs ys : List Int} {k : Nat} {x : Int} (hl : Hid (ys.length = xs.length)) (hx : Hid (xs[k]? = some x)) (h : Hid (ys.take k = xs.take k)) : Hid ((ys.set k x).take (k + 1) = xs.take (k + 1)) := by
  have hl' : ys.length = xs.length := hl
  have hx' : xs[k]? = some x := hx
  have h' : ys.take k = xs.take k := h
  have hk : k < ys.length := by rw [hl']; exact (List.getElem?_eq_some_iff.1 hx').1
  show (ys.set k x).take (k + 1) = xs.take (k + 1)
  rw [List.take_add_one, List.take_add_one, hx', List.getElem?_set_self hk, List.take_set_of_le (Nat.le_refl _), h']

set_option maxHeartbeats 400000 in
theorem toInts (A : Option Addr) (xs : List Int) (c : Nat) (w : World) (hx : xs.length ≤ 1000000000000) (h : Ints w w.heap.size A xs) :
    Calls Try.prog 63 #[.slice A xs.length c] w fun e w' => ∃ g, e = .returned (.slice (some ⟨g, 0, none⟩) xs.length xs.length) ∧
      Own64 w' w.heap.size (.slice (some ⟨g, 0, none⟩) xs.length xs.length) xs ∧ Below w.heap.size w w' := by
  have hmk := run_make_row' (P := Try.prog) 23 2 (.int .i64 0) 8 Try.underlying23 info64 rfl .i64 .i64 xs.length (by omega) (by omega)
  have hstart := own64_made (w := w) (B := w.heap.size) (n := xs.length) (Nat.le_refl _) (by unfold maxLen; omega)
  go_enter Try.func63, Try.ntmps63
  go_wp2
  clear hmk
  go_loopw [4] (fun i wr => ∃ (k : Nat) (ys : List Int), k ≤ xs.length ∧ i = .int .i64 k ∧ Hid (ys.length = xs.length) ∧ Hid (ys.take k = xs.take k) ∧
      Hid (Own64 wr w.heap.size (.slice (some ⟨w.heap.size, 0, none⟩) xs.length xs.length) ys) ∧ Below w.heap.size w wr) (fun i _ => xs.length - (intOf i).toNat)
  case atStart => exact ⟨0, List.replicate xs.length 0, Nat.zero_le _, rfl, by simp [Hid], rfl, hstart, (Below.refl _ _).alloc (Nat.le_refl _) _⟩
  case round =>
    obtain ⟨k, ys, hk, rfl, hly, he, ho, hb⟩ := hrel
    clear hstart
    by_cases hlt : k < xs.length
    · obtain ⟨b, off, x, rfl, hbB, g, hX⟩ := (h.below hb (Nat.le_refl _)).at_ hlt
      clear h
      have hly' : ys.length = xs.length := hly
      obtain ⟨c1, c2, c3, c4⟩ := own64_cell ho.out hly' (k := k) (x := ys[k]) (List.getElem?_eq_getElem (by omega))
      have hs := take_set_succ hly hX he
      have ho' : Hid (Own64 _ _ _ _) := own64_set ho.out hly' k x
      generalize ys[k] = y at c1
      clear hly'
      go_wp2
      go_roundw
      case rel => exact ⟨k + 1, ys.set k x, by omega, by go_num, by simp [Hid]; exact hly.out, hs, ho', below_setCell hb (Nat.le_refl _) _⟩
      case measure => simp [intOf]; omega
    · obtain rfl : k = xs.length := by omega
      have hys : ys = xs := by
        have := he.out
        rw [← hly.out, List.take_length, hly.out, List.take_length] at this
        exact this
      have Hs := Lib.hid hys
      clear hys
      go_wp2
      go_ret
      exact ⟨_, rfl, by rw [← Hs.out]; have := ho.out; rw [← hly.out] at this; exact this, hb⟩

/-- the marks that the laws write: k, k + 1, .. -/
def marks (k : Int) (n : Nat) : List Int := (List.range n).map fun (i : Nat) => k + (i : Int)
theorem marks_length (k : Int) (n : Nat) : (marks k n).length = n := by simp [marks]
theorem marks_at (k : Int) {n i : Nat} (h : i < n) : (marks k n)[i]? = some (k + i) := by simp [marks, h]

theorem take_marks_succ {ys : List Int} {k : Int} {n i : Nat} (hl : Hid (ys.length = n)) (hi : i < n) (h : Hid (ys.take i = (marks k n).take i)) : Hid ((ys.set i (k + i)).take (i + 1) = (marks k n).take (i + 1)) :=
  take_set_succ (xs := marks k n) (by show ys.length = _; rw [marks_length]; exact hl) (marks_at k hi) h

theorem grown_set {a w : World} {g : Nat} (h : a.grownBy w (some g)) (k : Nat) (u : Value) : a.grownBy (w.setCell ⟨g, k, none⟩ u) (some g) :=
  ⟨h.os, h.tape, h.output, by simpa [World.setCell] using h.size, fun i hi hne => (Below.heap_setCell w ⟨g, k, none⟩ u i (fun e => hne (by rw [e]))).trans (h.block i hi hne)⟩

set_option maxHeartbeats 400000 in
theorem markInts (A : Option Addr) (n c : Nat) (zs : List Int) (m : Int) (B : Nat) (w : World) (hn : zs.length = n) (hn' : n ≤ 1000000000000) (hm : 0 ≤ m) (hm' : m ≤ 1000000000000) (ho : Own64 w B (.slice A n c) zs) :
    Calls Try.prog 29 #[.slice A n c, .int .i64 m] w fun e w' => e = .returned (.int .i64 (m + n)) ∧ Own64 w' B (.slice A n c) (marks m n) ∧ w.grownBy w' (Value.slice A n c).ownBlock := by
  rcases Nat.eq_zero_or_pos n with h0 | h0
  · subst h0
    obtain rfl : zs = [] := List.eq_nil_of_length_eq_zero hn
    clear hn
    go_enter Try.func29, Try.ntmps29
    go_wp2
    refine wp_loop_rounds 1 ?_
    rw [rounds_succ]
    go_wp2
    go_ret
    exact ⟨by simp, by simpa [marks] using ho, World.grownBy.refl _ _⟩
  · obtain ⟨g, rfl⟩ : ∃ g, A = some ⟨g, 0, none⟩ := by
      rcases ho.2 with ⟨_, h⟩ | ⟨g, _, _, h, _⟩
      · omega
      · injection h with h; exact ⟨g, h⟩
    have Hn := Lib.hid hn
    clear hn
    go_enter Try.func29, Try.ntmps29
    go_wp2
    go_loopw [1, 5] (fun q i wr => ∃ (k : Nat) (ys : List Int), k ≤ n ∧ i = .int .i64 k ∧ q = .int .i64 (m + k) ∧ Hid (ys.length = n) ∧ Hid (ys.take k = (marks m n).take k) ∧
        Hid (Own64 wr B (.slice (some ⟨g, 0, none⟩) n c) ys) ∧ w.grownBy wr (some g)) (fun _ i _ => n - (intOf i).toNat)
    case atStart => exact ⟨0, zs, Nat.zero_le _, rfl, by simp, Hn, rfl, ho, World.grownBy.refl _ _⟩
    case round =>
      obtain ⟨k, ys, hk, rfl, rfl, hly, he, ho', hb⟩ := hrel
      clear ho
      by_cases hlt : k < n
      · have hly' : ys.length = n := hly
        obtain ⟨c1, c2, c3, c4⟩ := own64_cell ho'.out hly' (k := k) (x := ys[k]) (List.getElem?_eq_getElem (by omega))
        have hs := take_marks_succ hly hlt he
        have ho2 : Hid (Own64 _ _ _ _) := own64_set ho'.out hly' k (m + k)
        generalize ys[k] = y at c1
        clear hly'
        go_wp2
        go_roundw
        case rel => exact ⟨k + 1, ys.set k (m + k), by omega, by go_num, by go_num, by simp [Hid]; exact hly.out, hs, ho2, grown_set hb _ _⟩
        case measure => simp [intOf]; omega
      · obtain rfl : k = n := by omega
        have hys : ys = marks m k := by
          have h1 := he.out
          have h2 := hly.out
          rw [← h2, List.take_length, h2] at h1
          rw [h1, List.take_of_length_le (by rw [marks_length]; exact Nat.le_refl _)]
        have Hs := Lib.hid hys
        clear hys
        go_wp2
        go_ret
        exact ⟨rfl, by rw [← Hs.out]; exact ho'.out, hb⟩

set_option maxHeartbeats 400000 in
theorem heldInts (A : Option Addr) (n c : Nat) (m : Int) (w : World) (hn' : n ≤ 1000000000000) (hm : 0 ≤ m) (hm' : m ≤ 1000000000000) (h : Ints w w.heap.size A (marks m n)) :
    Calls Try.prog 30 #[.slice A n c, .int .i64 m] w fun e w' => e = .returned (.int .i64 (m + n)) ∧ w = w' := by
  go_enter Try.func30, Try.ntmps30
  go_wp2
  go_loop [1, 5] (fun q i => ∃ (k : Nat), k ≤ n ∧ i = .int .i64 k ∧ q = .int .i64 (m + k)) (fun _ i => n - (intOf i).toNat)
  case atStart => exact ⟨0, Nat.zero_le _, rfl, by simp⟩
  case round =>
    obtain ⟨k, hk, rfl, rfl⟩ := hrel
    by_cases hlt : k < n
    · obtain ⟨b, off, x, rfl, hbB, g, hX⟩ := h.at_ (k := k) (by rw [marks_length]; exact hlt)
      clear h
      obtain rfl : x = m + k := by
        have h1 := hX.out
        rw [marks_at m hlt] at h1
        injection h1 with h1
        exact h1.symm
      go_wp2
      go_round
      case rel => exact ⟨k + 1, by omega, by go_num, by go_num⟩
      case measure => simp [intOf]; omega
    · obtain rfl : k = n := by omega
      go_wp2
      go_ret
      exact ⟨rfl, rfl⟩
end Go.Proofs.Ytbdmmeoelagdcaa

/- The walks of the laws' own helpers over trees (structs of one slice): szTree, toTree, eqTree, markTree, heldTree. No conditions but lengths. -/
namespace Go.Proofs.Ytbdmmeoelagdcaa
open Go.RowKit

theorem bcell {W w1 : World} (hb : Below W.heap.size W w1) : (∀ b o, b < W.heap.size → w1.cell? ⟨b, o, none⟩ = W.cell? ⟨b, o, none⟩) ∧ (∀ b o, b < W.heap.size → w1.frozen? ⟨b, o, none⟩ = W.frozen? ⟨b, o, none⟩) :=
  ⟨fun b o h => hb.cell (p := ⟨b, o, none⟩) h, fun b o h => hb.frozen (p := ⟨b, o, none⟩) h⟩

theorem szTree (A : Option Addr) (n c : Nat) (left : Int) (w : World) (hn : n ≤ 9223372036854775807) (hl : left ≤ 1048576) (hl0 : 0 ≤ left) :
    Calls Try.prog 20 #[.agg #[.slice A n c], .int .i64 left] w fun e w' => e = .returned (.int .i64 (if left - n < 0 then -1 else left - n)) ∧ Below w.heap.size w w' := by
  by_cases h : left - (n : Int) < 0
  · go_enter Try.func20, Try.ntmps20
    go_wp2_with (go_at_call 68; refine (szInts _ _ _ _ _ hn hl hl0).mono ?_; rintro e w' ⟨rfl, rfl⟩)
    go_ret
    exact ⟨rfl, (Below.refl _ _).alloc (Nat.le_refl _) _⟩
  · go_enter Try.func20, Try.ntmps20
    go_wp2_with (go_at_call 68; refine (szInts _ _ _ _ _ hn hl hl0).mono ?_; rintro e w' ⟨rfl, rfl⟩)
    go_ret
    exact ⟨rfl, (Below.refl _ _).alloc (Nat.le_refl _) _⟩

set_option maxHeartbeats 400000 in
theorem toTree (A : Option Addr) (xs : List Int) (c : Nat) (w : World) (hx : xs.length ≤ 1000000000000) (h : Ints w w.heap.size A xs) :
    Calls Try.prog 22 #[.agg #[.slice A xs.length c]] w fun e w' => ∃ g, e = .returned (.agg #[.slice (some ⟨g, 0, none⟩) xs.length xs.length]) ∧
      Own64 w' w.heap.size (.slice (some ⟨g, 0, none⟩) xs.length xs.length) xs ∧ Below w.heap.size w w' := by
  go_enter Try.func22, Try.ntmps22
  go_wp2_with fail
  refine (toInts A xs c _ hx (((h.al _).al _).al _)).mono ?_
  rintro e w1 ⟨g, rfl, ho, hb⟩
  obtain ⟨hc, hf⟩ := bcell hb
  have hB := btr (bal (bal (bal (b0 w) _) _) _) hb
  have ho' : Own64 w1 (w.heap.size + 3) (.slice (some ⟨g, 0, none⟩) xs.length xs.length) xs := own_mono ho (by simp)
  clear ho h
  go_wp2
  refine bodyPost_ret (v := .agg #[.slice (some ⟨g, 0, none⟩) xs.length xs.length]) (by simp [results, Try.results22, go_sem, hc]) rfl ?_
  exact ⟨g, rfl, own_mono (own_far (own_far ho' (by omega) _) (by omega) _) (by omega), below_setCell (below_setCell hB (by omega) _) (by omega) _⟩

set_option maxHeartbeats 400000 in
theorem eqTree (A A' : Option Addr) (xs ys : List Int) (c c' : Nat) (w : World) (hy : ys.length ≤ 1000000000000000)
    (h : Ints w w.heap.size A xs) (h' : Ints w w.heap.size A' ys) :
    Calls Try.prog 24 #[.agg #[.slice A xs.length c], .agg #[.slice A' ys.length c']] w fun e w' => e = .returned (.bool (decide (xs = ys))) ∧ Below w.heap.size w w' := by
  have C := eqInts A A' xs ys c c' _ hy ((h.al (.cells #[.slice A xs.length c] 29)).al (.cells #[.slice A' ys.length c'] 29)) ((h'.al _).al _)
  generalize decide (xs = ys) = d at C ⊢
  have HC := Lib.hid C
  clear C
  cases d
  all_goals
    go_enter Try.func24, Try.ntmps24
    go_wp2_with fail
    refine HC.out.mono ?_
    rintro e w1 ⟨rfl, hb⟩
    have hB := btr (bal (bal (b0 w) _) _) hb
    go_wp2
    go_ret
    exact ⟨rfl, hB⟩

set_option maxHeartbeats 400000 in
theorem markTree (A : Option Addr) (n c : Nat) (zs : List Int) (m : Int) (B : Nat) (w : World) (hn : zs.length = n) (hn' : n ≤ 1000000000000) (hm : 0 ≤ m) (hm' : m ≤ 1000000000000) (ho : Own64 w B (.slice A n c) zs) :
    Calls Try.prog 28 #[.agg #[.slice A n c], .int .i64 m] w fun e w' => e = .returned (.int .i64 (m + n)) ∧ Own64 w' B (.slice A n c) (marks m n) ∧ w.grownBy w' (Value.slice A n c).ownBlock := by
  have Hn := Lib.hid hn
  clear hn
  go_enter Try.func28, Try.ntmps28
  go_wp2_with fail
  refine (markInts A n c zs m B _ Hn.out hn' hm hm' (ho.alloc _)).mono ?_
  rintro e w1 ⟨rfl, ho1, hg⟩
  go_wp2
  go_ret
  exact ⟨rfl, ho1, (World.grownBy_alloc w _ _).trans hg⟩

set_option maxHeartbeats 400000 in
theorem heldTree (A : Option Addr) (n c : Nat) (m : Int) (w : World) (hn' : n ≤ 1000000000000) (hm : 0 ≤ m) (hm' : m ≤ 1000000000000) (h : Ints w w.heap.size A (marks m n)) :
    Calls Try.prog 40 #[.agg #[.slice A n c], .int .i64 m] w fun e w' => e = .returned (.int .i64 (m + n)) ∧ Below w.heap.size w w' := by
  go_enter Try.func40, Try.ntmps40
  go_wp2_with (go_at_call 30; refine (heldInts A n c m _ hn' hm hm' (h.al _)).mono ?_; rintro e w' ⟨rfl, rfl⟩)
  go_ret
  exact ⟨rfl, (Below.refl _ _).alloc (Nat.le_refl _) _⟩

theorem own_shape {w : World} {B e : Nat} {v : Value} {n : Nat} {zs : List Value} (h : w.ownsRow B e 1 v n zs) : ∃ A c, v = .slice A n c := by
  rcases h.2 with ⟨rfl, rfl⟩ | ⟨g, cap, _, rfl, _⟩
  · exact ⟨none, 0, rfl⟩
  · exact ⟨_, _, rfl⟩

/-- a step that keeps all that was there: what a law knows of its own memory stays -/
theorem own_be {w w' : World} {base e size n : Nat} {v : Value} {xs : List Value} (h : w.ownsRow base e size v n xs) (hb : Below w.heap.size w w') : w'.ownsRow base e size v n xs := own_below h hb (Nat.le_refl _)

theorem cell_be {w w' : World} {b : Nat} {v : Value} (h : w.cell? ⟨b, 0, none⟩ = some v) (hb : Below w.heap.size w w') : w'.cell? ⟨b, 0, none⟩ = some v :=
  ((bcell hb).1 _ _ (World.block_lt_of_cell? _ _ h)).trans h

theorem cell_grown {w w' : World} {b : Nat} {v : Value} {row : Option Nat} (h : w.cell? ⟨b, 0, none⟩ = some v) (hb : w.grownBy w' row) (hne : ∀ k, row = some k → k ≠ b) : w'.cell? ⟨b, 0, none⟩ = some v :=
  hb.cell h (fun e => hne b e.symm rfl)

theorem own_grown {w w' : World} {base e size n : Nat} {v : Value} {xs : List Value} {row : Option Nat} (h : w.ownsRow base e size v n xs) (hb : w.grownBy w' row) (hne : ∀ k, row = some k → k < base ∨ w.heap.size ≤ k) : w'.ownsRow base e size v n xs := by
  refine h.kept hb ?_
  cases hv : v.ownBlock with
  | none => exact .inl rfl
  | some k =>
    refine .inr fun e => ?_
    have h1 := h.lt k hv
    have h2 := hne k e.symm
    omega

theorem below_grown {a w w' : World} {row : Option Nat} (h : Below a.heap.size a w) (hb : w.grownBy w' row) (hne : ∀ k, row = some k → a.heap.size ≤ k) : Below a.heap.size a w' :=
  h.grown hb h.size hne

theorem eqIntsT (A A' : Option Addr) (xs : List Int) (c c' : Nat) (w : World) (hy : xs.length ≤ 1000000000000000)
    (h : Ints w w.heap.size A xs) (h' : Ints w w.heap.size A' xs) :
    Calls Try.prog 27 #[.slice A xs.length c, .slice A' xs.length c'] w fun e w' => e = .returned (.bool true) ∧ Below w.heap.size w w' :=
  (eqInts A A' xs xs c c' w hy h h').mono fun _ _ ⟨he, hb⟩ => ⟨by rw [he]; simp, hb⟩

theorem eqTreeT (A A' : Option Addr) (xs : List Int) (c c' : Nat) (w : World) (hy : xs.length ≤ 1000000000000000)
    (h : Ints w w.heap.size A xs) (h' : Ints w w.heap.size A' xs) :
    Calls Try.prog 24 #[.agg #[.slice A xs.length c], .agg #[.slice A' xs.length c']] w fun e w' => e = .returned (.bool true) ∧ Below w.heap.size w w' :=
  (eqTree A A' xs xs c c' w hy h h').mono fun _ _ ⟨he, hb⟩ => ⟨by rw [he]; simp, hb⟩

/-- what a function of a tree that hands back a list and a code must do, as F says -/
def GivesList (f : Nat) (F : List Int → List Int × Int) : Prop :=
  ∀ (A : Option Addr) (xs : List Int) (c : Nat) (w : World), xs.length ≤ 1048576 → xs.length ≤ c ∧ c ≤ 1000000000000 → Ints w w.heap.size A xs →
    Calls Try.prog f #[.agg #[.slice A xs.length c]] w fun e w' => ∃ A' c', e = .returned (.tuple #[.slice A' (F xs).1.length c', .int .i64 (F xs).2]) ∧
      Own64 w' w.heap.size (.slice A' (F xs).1.length c') (F xs).1 ∧ Below w.heap.size w w'
end Go.Proofs.Ytbdmmeoelagdcaa

/- Plain facts on lists of degrees: when they are a tree, by the two loops. No program is named here. -/
namespace Go.Proofs.Ytbdmmeoelagdcaa.M
/-- the model's loop -/
def isGo : Int → List Int → Bool
  | o, [] => o == 0
  | o, d :: r => if o == 0 || !(decide (0 ≤ d) && decide (d ≤ 24)) then false else isGo (o - 1 + d) r
def isTree (ds : List Int) : Bool := decide (1 ≤ ds.length) && decide (ds.length ≤ 24) && isGo 1 ds
/-- the program's loop -/
def imGo (n : Int) : Int → List Int → Bool
  | m, [] => m == 0
  | m, d :: r => if m == 0 || decide (d < 0) || decide (n ≤ d) then false else imGo n (m + (d - 1)) r
theorem isGo_big : ∀ (r : List Int) (o : Int), (r.length : Int) < o → isGo o r = false := by
  intro r
  induction r with
  | nil => intro o h; simp [isGo] at h ⊢; omega
  | cons d r ih =>
    intro o h
    simp only [isGo]
    split
    · rfl
    · rename_i hc
      simp at hc
      simp only [List.length_cons] at h
      exact ih _ (by omega)
theorem im_is (n : Int) (hn : n ≤ 24) : ∀ (r : List Int) (o : Int), 0 ≤ o → (r.length : Int) ≤ n → imGo n o r = isGo o r := by
  intro r
  induction r with
  | nil => intro o _ _; rfl
  | cons d r ih =>
    intro o ho hl
    simp only [List.length_cons] at hl
    simp only [imGo, isGo]
    by_cases h0 : o = 0
    · simp [h0]
    by_cases h1 : d < 0
    · simp [h1, show ¬ 0 ≤ d by omega]
    by_cases h2 : n ≤ d
    · rw [if_pos (by simp [h2])]
      by_cases h3 : d ≤ 24
      · rw [if_neg (by simp [h0, h3]; omega), isGo_big _ _ (by omega)]
      · rw [if_pos (by simp; omega)]
    · rw [if_neg (by simp [h0]; omega), if_neg (by simp [h0]; omega), ih _ (by omega) (by omega)]
      congr 1; omega
theorem drop_at {xs : List Int} {k : Nat} {x : Int} (h : xs[k]? = some x) : xs.drop k = x :: xs.drop (k + 1) := by
  obtain ⟨hk, rfl⟩ := List.getElem?_eq_some_iff.1 h
  exact List.drop_eq_getElem_cons hk
theorem isGo_stop {xs : List Int} {k : Nat} {x o : Int} (h : xs[k]? = some x) (hs : (o == 0 || !(decide (0 ≤ x) && decide (x ≤ 24))) = true) : isGo o (xs.drop k) = false := by
  rw [drop_at h, isGo, if_pos hs]
theorem isGo_step {xs : List Int} {k : Nat} {x o : Int} (h : xs[k]? = some x) (h0 : o ≠ 0) (h1 : 0 ≤ x) (h2 : x ≤ 24) : isGo o (xs.drop k) = isGo (o - 1 + x) (xs.drop (k + 1)) := by
  rw [drop_at h, isGo, if_neg (by simp [h0, h1, h2])]
theorem imGo_stop {n : Int} {xs : List Int} {k : Nat} {x o : Int} (h : xs[k]? = some x) (hs : (o == 0 || decide (x < 0) || decide (n ≤ x)) = true) : imGo n o (xs.drop k) = false := by
  rw [drop_at h, imGo, if_pos hs]
theorem imGo_step {n : Int} {xs : List Int} {k : Nat} {x o : Int} (h : xs[k]? = some x) (h0 : o ≠ 0) (h1 : 0 ≤ x) (h2 : x < n) : imGo n o (xs.drop k) = imGo n (o + (x - 1)) (xs.drop (k + 1)) := by
  rw [drop_at h, imGo, if_neg (by simp [h0]; omega)]
theorem isTree_im {xs : List Int} (h : 1 ≤ xs.length) (h' : xs.length ≤ 24) : isTree xs = imGo xs.length 1 xs := by
  rw [im_is _ (by omega) _ _ (by omega) (by omega)]
  simp [isTree, h, h']
theorem isTree_is {xs : List Int} (h : 1 ≤ xs.length) (h' : xs.length ≤ 24) : isTree xs = isGo 1 xs := by simp [isTree, h, h']
theorem isTree_no {xs : List Int} (h : ¬ (1 ≤ xs.length ∧ xs.length ≤ 24)) : isTree xs = false := by
  simp only [isTree, Bool.and_eq_false_iff, decide_eq_false_iff_not]
  left; omega

/-- a list for a tree, nothing and the code 1 otherwise -/
def cond (xs l : List Int) : List Int × Int := if isTree xs then (l, 0) else ([], 1)
theorem cond_yes {xs l : List Int} (h : isTree xs = true) : cond xs l = (l, 0) := by simp [cond, h]
theorem cond_no {xs l : List Int} (h : isTree xs = false) : cond xs l = ([], 1) := by simp [cond, h]
theorem tree_len {xs : List Int} (h : isTree xs = true) : 1 ≤ xs.length ∧ xs.length ≤ 24 := by
  simp only [isTree, Bool.and_eq_true, decide_eq_true_eq] at h
  exact h.1
/-- the leaves among the first k nodes -/
def leaves (xs : List Int) : Nat → List Int
  | 0 => []
  | k + 1 => leaves xs k ++ (if xs[k]? = some 0 then [(k : Int)] else [])
theorem leaves_len (xs : List Int) : ∀ k, (leaves xs k).length ≤ k := by
  intro k
  induction k with
  | zero => simp [leaves]
  | succ k ih => simp only [leaves, List.length_append]; split <;> simp <;> omega
theorem leaves_hit {xs : List Int} {k : Nat} (h : xs[k]? = some 0) : leaves xs (k + 1) = leaves xs k ++ [(k : Int)] := by simp [leaves, h]
theorem leaves_miss {xs : List Int} {k : Nat} {x : Int} (h : xs[k]? = some x) (hx : x ≠ 0) : leaves xs (k + 1) = leaves xs k := by simp [leaves, h, hx]

/-- the loop from 'open' on stops within the list, over degrees in range -/
def ok : Int → List Int → Prop
  | o, [] => o ≤ 0
  | o, d :: r => o ≤ 0 ∨ (0 ≤ d ∧ d ≤ 24 ∧ ok (o - 1 + d) r)
/-- how many degrees it takes -/
def span : Int → List Int → Nat
  | _, [] => 0
  | o, d :: r => if o ≤ 0 then 0 else span (o - 1 + d) r + 1
theorem isGo_ok : ∀ (l : List Int) (o o' : Int), isGo o l = true → o' ≤ o → ok o' l := by
  intro l
  induction l with
  | nil => intro o o' h ho; simp [isGo] at h; simp only [ok]; omega
  | cons d r ih =>
    intro o o' h ho
    simp only [isGo] at h
    split at h
    · cases h
    · rename_i hc
      simp at hc
      by_cases h0 : o' ≤ 0
      · exact .inl h0
      · exact .inr ⟨hc.2.1, hc.2.2, ih _ _ h (by omega)⟩
theorem isGo_drop {xs : List Int} (h : isGo 1 xs = true) : ∀ v, v ≤ xs.length → ∃ s : Int, 0 ≤ s ∧ isGo s (xs.drop v) = true ∧ (v < xs.length → 1 ≤ s) := by
  intro v
  induction v with
  | zero => intro _; exact ⟨1, by omega, by simpa using h, fun _ => by omega⟩
  | succ v ih =>
    intro hv
    obtain ⟨s, h0, h1, h2⟩ := ih (by omega)
    have hx : xs[v]? = some xs[v] := List.getElem?_eq_getElem (by omega)
    rw [drop_at hx, isGo] at h1
    split at h1
    · cases h1
    · rename_i hc
      simp at hc
      refine ⟨_, ?_, h1, fun hv' => ?_⟩
      · omega
      · rw [drop_at (List.getElem?_eq_getElem hv'), isGo] at h1
        split at h1
        · cases h1
        · rename_i hc'
          simp at hc'
          omega
theorem tree_go {xs : List Int} (h : isTree xs = true) : isGo 1 xs = true := by
  simp only [isTree, Bool.and_eq_true, decide_eq_true_eq] at h
  exact h.2
theorem tree_ok {xs : List Int} (h : isTree xs = true) {v : Nat} (hv : v < xs.length) : ok 1 (xs.drop v) := by
  obtain ⟨s, _, h1, h2⟩ := isGo_drop (tree_go h) v (by omega)
  exact isGo_ok _ _ _ h1 (h2 hv)
theorem span_le : ∀ (l : List Int) (o : Int), span o l ≤ l.length := by
  intro l
  induction l with
  | nil => intro o; simp [span]
  | cons d r ih => intro o; simp only [span]; split <;> simp; exact ih _
theorem span_stop {o : Int} (h : o ≤ 0) (l : List Int) : span o l = 0 := by cases l <;> simp [span, h]
theorem span_step {xs : List Int} {k : Nat} {x o : Int} (h : xs[k]? = some x) (ho : 0 < o) : span o (xs.drop k) = span (o - 1 + x) (xs.drop (k + 1)) + 1 := by
  rw [drop_at h, span, if_neg (by omega)]
theorem ok_step {xs : List Int} {k : Nat} {x o : Int} (h : xs[k]? = some x) (ho : 0 < o) (hk : ok o (xs.drop k)) : 0 ≤ x ∧ x ≤ 24 ∧ ok (o - 1 + x) (xs.drop (k + 1)) := by
  rw [drop_at h] at hk
  rcases hk with hk | hk
  · omega
  · exact hk
theorem ok_in {xs : List Int} {k : Nat} {o : Int} (ho : 0 < o) (hk : ok o (xs.drop k)) : k < xs.length := by
  rcases Nat.lt_or_ge k xs.length with h | h
  · exact h
  · rw [List.drop_of_length_le h] at hk
    simp only [ok] at hk
    omega
/-- the sizes of the first k subtrees -/
def sizes (xs : List Int) (k : Nat) : List Int := (List.range k).map fun v => (span 1 (xs.drop v) : Int)
theorem sizes_len (xs : List Int) (k : Nat) : (sizes xs k).length = k := by simp [sizes]
theorem sizes_succ (xs : List Int) (k : Nat) : sizes xs (k + 1) = sizes xs k ++ [(span 1 (xs.drop k) : Int)] := by simp [sizes, List.range_succ]
theorem sizes_at (xs : List Int) {n k : Nat} (h : k < n) : (sizes xs n)[k]? = some (span 1 (xs.drop k) : Int) := by simp [sizes, h]

/-- the code of numbers that have to be nodes of a tree of n nodes -/
def codeGo (n : Int) : List Int → Int
  | [] => 0
  | v :: r => if v < 0 ∨ n ≤ v then 2 else codeGo n r
def code (xs ns : List Int) : Int := if isTree xs then codeGo xs.length ns else 1
theorem codeGo_hit {n : Int} {ns : List Int} {k : Nat} {v : Int} (h : ns[k]? = some v) (hv : v < 0 ∨ n ≤ v) : codeGo n (ns.drop k) = 2 := by rw [drop_at h, codeGo, if_pos hv]
theorem codeGo_miss {n : Int} {ns : List Int} {k : Nat} {v : Int} (h : ns[k]? = some v) (h0 : 0 ≤ v) (h1 : v < n) : codeGo n (ns.drop k) = codeGo n (ns.drop (k + 1)) := by rw [drop_at h, codeGo, if_neg (by omega)]

theorem code_tree {xs ns : List Int} (h : code xs ns = 0) : isTree xs = true := by
  cases ht : isTree xs
  · simp [code, ht] at h
  · rfl
theorem code_node {xs : List Int} {v : Int} {r : List Int} (h : code xs (v :: r) = 0) : 0 ≤ v ∧ v.toNat < xs.length ∧ code xs r = 0 := by
  have ht := code_tree h
  simp only [code, ht, if_true, codeGo] at h
  split at h
  · cases h
  · refine ⟨by omega, by omega, ?_⟩
    simp only [code, ht, if_true]
    exact h
/-- is v in the subtree of u -/
def below (xs : List Int) (v u : Int) : Bool := decide (u ≤ v) && decide (v < u + (span 1 (xs.drop u.toNat) : Int))
def isBelow (xs : List Int) (v u : Int) : Bool × Int := if code xs [v, u] = 0 then (below xs v u, 0) else (false, code xs [v, u])
theorem isBelow_yes {xs : List Int} {v u : Int} (h : code xs [v, u] = 0) : isBelow xs v u = (below xs v u, 0) := by simp [isBelow, h]
theorem isBelow_no {xs : List Int} {v u : Int} (h : code xs [v, u] ≠ 0) : isBelow xs v u = (false, code xs [v, u]) := by simp [isBelow, h]

/-- the i-th child of a node: the first stands behind the node, the next one behind the subtree of the one before it -/
def kidAt (xs : List Int) (v : Nat) : Nat → Nat
  | 0 => v + 1
  | i + 1 => kidAt xs v i + span 1 (xs.drop (kidAt xs v i))
/-- the sum of what is announced, less the nodes, over a piece of the list -/
def bal : List Int → Int
  | [] => 0
  | d :: r => (d - 1) + bal r
theorem bal_append (a b : List Int) : bal (a ++ b) = bal a + bal b := by
  induction a with
  | nil => simp [bal]
  | cons d r ih => simp only [List.cons_append, bal, ih]; omega
theorem isGo_bal : ∀ (l : List Int) (o : Int), isGo o l = true → o + bal l = 0 := by
  intro l
  induction l with
  | nil => intro o h; simp [isGo] at h; simp [bal, h]
  | cons d r ih =>
    intro o h
    simp only [isGo] at h
    split at h
    · cases h
    · have := ih _ h; simp only [bal]; omega
theorem isGo_pos : ∀ (l : List Int) (o : Int), isGo o l = true → 0 ≤ o → l ≠ [] → 1 ≤ o := by
  intro l o h h0 hl
  cases l with
  | nil => exact absurd rfl hl
  | cons d r =>
    simp only [isGo] at h
    split at h
    · cases h
    · rename_i hc; simp at hc; omega
theorem span_bal : ∀ (l : List Int) (o : Int), 0 ≤ o → ok o l → o + bal (l.take (span o l)) = 0 := by
  intro l
  induction l with
  | nil => intro o h0 h; simp only [ok] at h; simp [span, bal]; omega
  | cons d r ih =>
    intro o h0 h
    by_cases ho : o ≤ 0
    · rw [span_stop ho]; simp [bal]; omega
    · rcases h with h | ⟨h1, h2, h3⟩
      · omega
      · have := ih _ (by omega) h3
        rw [span, if_neg ho, List.take_succ_cons, bal]
        omega
/-- what is due ahead of node v -/
def due (xs : List Int) (v : Nat) : Int := 1 + bal (xs.take v)
theorem due_drop {xs : List Int} (h : isTree xs = true) (v : Nat) : due xs v + bal (xs.drop v) = 0 := by
  have h1 := isGo_bal _ _ (tree_go h)
  have h2 : bal xs = bal (xs.take v) + bal (xs.drop v) := by rw [← bal_append, List.take_append_drop]
  simp only [due]; omega
theorem due_pos {xs : List Int} (h : isTree xs = true) {v : Nat} (hv : v < xs.length) : 1 ≤ due xs v := by
  obtain ⟨s, h0, h1, h2⟩ := isGo_drop (tree_go h) v (by omega)
  have := isGo_bal _ _ h1
  have := due_drop h v
  have := h2 hv
  omega
theorem due_end {xs : List Int} (h : isTree xs = true) : due xs xs.length = 0 := by
  have := due_drop h xs.length
  simpa [bal] using this
theorem due_lt {xs : List Int} (h : isTree xs = true) {v : Nat} (hv : v ≤ xs.length) (hd : 1 ≤ due xs v) : v < xs.length := by
  rcases Nat.lt_or_eq_of_le hv with h1 | h1
  · exact h1
  · subst h1; have := due_end h; omega
theorem due_succ {xs : List Int} {v : Nat} {x : Int} (h : xs[v]? = some x) : due xs (v + 1) = due xs v + (x - 1) := by
  obtain ⟨hv, rfl⟩ := List.getElem?_eq_some_iff.1 h
  simp only [due]
  rw [List.take_succ_eq_append_getElem hv, bal_append]
  simp [bal]
  omega
theorem due_span {xs : List Int} (h : isTree xs = true) {v : Nat} (hv : v < xs.length) : due xs (v + span 1 (xs.drop v)) = due xs v - 1 := by
  have h1 := span_bal _ 1 (by omega) (tree_ok h hv)
  simp only [due]
  rw [List.take_add, bal_append]
  omega
theorem span_pos {xs : List Int} {v : Nat} (hv : v < xs.length) : 1 ≤ span 1 (xs.drop v) := by
  rw [drop_at (List.getElem?_eq_getElem hv), span, if_neg (by omega)]
  omega
theorem end_le {xs : List Int} {v : Nat} (hv : v ≤ xs.length) : v + span 1 (xs.drop v) ≤ xs.length := by
  have := span_le (xs.drop v) 1
  rw [List.length_drop] at this
  omega
theorem tree_deg {xs : List Int} (h : isTree xs = true) {v : Nat} {x : Int} (hx : xs[v]? = some x) : 0 ≤ x ∧ x ≤ 24 := by
  have hv := (List.getElem?_eq_some_iff.1 hx).1
  have := ok_step hx (by omega) (tree_ok h hv)
  exact ⟨this.1, this.2.1⟩
theorem kid_due {xs : List Int} (h : isTree xs = true) {v : Nat} {x : Int} (hx : xs[v]? = some x) : ∀ i : Nat, (i : Int) ≤ x → kidAt xs v i ≤ xs.length ∧ due xs (kidAt xs v i) = due xs v + (x - 1) - i ∧ v < kidAt xs v i := by
  have hv := (List.getElem?_eq_some_iff.1 hx).1
  have hd := due_pos h hv
  intro i
  induction i with
  | zero => intro _; exact ⟨by simp only [kidAt]; omega, by simp only [kidAt]; rw [due_succ hx]; omega, by simp only [kidAt]; omega⟩
  | succ i ih =>
    intro hi
    obtain ⟨h1, h2, h3⟩ := ih (by omega)
    have h4 : kidAt xs v i < xs.length := due_lt h h1 (by rw [h2]; omega)
    refine ⟨by simp only [kidAt]; exact end_le h1, ?_, by simp only [kidAt]; omega⟩
    simp only [kidAt]
    rw [due_span h h4, h2]
    omega
/-- a child lies within the tree -/
theorem kid_lt {xs : List Int} (h : isTree xs = true) {v : Nat} {x : Int} (hx : xs[v]? = some x) {i : Nat} (hi : (i : Int) < x) : kidAt xs v i < xs.length := by
  have hv := (List.getElem?_eq_some_iff.1 hx).1
  obtain ⟨h1, h2, _⟩ := kid_due h hx i (by omega)
  have := due_pos h hv
  exact due_lt h h1 (by rw [h2]; omega)

/-- the children of a node, as numbers -/
def childs (xs : List Int) (v k : Nat) : List Int := (List.range k).map fun i => (kidAt xs v i : Int)
theorem childs_succ (xs : List Int) (v k : Nat) : childs xs v (k + 1) = childs xs v k ++ [(kidAt xs v k : Int)] := by simp [childs, List.range_succ]
theorem childs_length (xs : List Int) (v k : Nat) : (childs xs v k).length = k := by simp [childs]
def childrenOf (xs : List Int) (v : Int) : List Int × Int := if code xs [v] = 0 then (childs xs v.toNat (xs[v.toNat]?.getD 0).toNat, 0) else ([], code xs [v])
theorem childrenOf_yes {xs : List Int} {v d : Nat} (h : code xs [(v : Int)] = 0) (hd : xs[v]? = some (d : Int)) : childrenOf xs v = (childs xs v d, 0) := by simp [childrenOf, h, hd]
theorem childrenOf_no {xs : List Int} {v : Int} (h : code xs [v] ≠ 0) : childrenOf xs v = ([], code xs [v]) := by simp [childrenOf, h]
theorem tree_degN {xs : List Int} (h : isTree xs = true) {v : Nat} (hv : v < xs.length) : ∃ d : Nat, xs[v]? = some (d : Int) ∧ d ≤ 24 := by
  have hx : xs[v]? = some xs[v] := List.getElem?_eq_getElem hv
  have := tree_deg h hx
  exact ⟨xs[v].toNat, by rw [hx]; congr 1; omega, by omega⟩

/-- the degrees of the subtree of a node -/
def sub (xs : List Int) (v : Nat) : List Int := (xs.drop v).take (span 1 (xs.drop v))
theorem sub_length {xs : List Int} (v : Nat) : (sub xs v).length = span 1 (xs.drop v) := by
  have := span_le (xs.drop v) 1
  simp only [sub, List.length_take]
  omega
def subtreeAt (xs : List Int) (v : Int) : List Int × Int := if code xs [v] = 0 then (sub xs v.toNat, 0) else ([], code xs [v])
theorem subtreeAt_yes {xs : List Int} {v : Nat} (h : code xs [(v : Int)] = 0) : subtreeAt xs v = (sub xs v, 0) := by simp [subtreeAt, h]
theorem subtreeAt_no {xs : List Int} {v : Int} (h : code xs [v] ≠ 0) : subtreeAt xs v = ([], code xs [v]) := by simp [subtreeAt, h]

/-- the way down by the places of an address -/
def nodeGo (xs : List Int) : Nat → List Int → Option Nat
  | v, [] => some v
  | v, a :: r => if xs[v]?.getD 0 ≤ a then none else nodeGo xs (kidAt xs v a.toNat) r
def anyNeg (l : List Int) : Bool := l.any fun x => decide (x < 0)
def nodeAt (xs l : List Int) : Int × Int :=
  if isTree xs = false then (0, 1) else if 24 < l.length ∨ anyNeg l = true then (0, 2) else match nodeGo xs 0 l with | none => (0, 4) | some v => ((v : Int), 0)
theorem nodeAt_no {xs l : List Int} (h : isTree xs = false) : nodeAt xs l = (0, 1) := by simp [nodeAt, h]
theorem nodeAt_range {xs l : List Int} (h : isTree xs = true) (h2 : 24 < l.length ∨ anyNeg l = true) : nodeAt xs l = (0, 2) := by simp only [nodeAt, h, if_pos h2]; simp
theorem nodeAt_go {xs l : List Int} (h : isTree xs = true) (h2 : l.length ≤ 24) (h3 : anyNeg l = false) : nodeAt xs l = (match nodeGo xs 0 l with | none => (0, 4) | some v => ((v : Int), 0)) := by
  simp only [nodeAt, h]
  rw [if_neg (by simp), if_neg (by simp [h3]; omega)]
theorem anyNeg_hit {l : List Int} {k : Nat} {x : Int} (h : l[k]? = some x) (hx : x < 0) : anyNeg l = true := by
  simp only [anyNeg, List.any_eq_true]
  obtain ⟨hk, rfl⟩ := List.getElem?_eq_some_iff.1 h
  exact ⟨_, List.getElem_mem hk, by simp [hx]⟩
theorem anyNeg_take {l : List Int} {k : Nat} {x : Int} (h : l[k]? = some x) (hx : 0 ≤ x) (ht : anyNeg (l.take k) = false) : anyNeg (l.take (k + 1)) = false := by
  obtain ⟨hk, rfl⟩ := List.getElem?_eq_some_iff.1 h
  rw [List.take_succ_eq_append_getElem hk, anyNeg, List.any_append]
  simp only [anyNeg] at ht
  simp [ht, hx]
theorem anyNeg_no {l : List Int} (h : anyNeg l = false) {k : Nat} {x : Int} (hx : l[k]? = some x) : 0 ≤ x := by
  rcases Int.lt_or_le x 0 with h1 | h1
  · have := anyNeg_hit hx h1; rw [h] at this; cases this
  · exact h1
theorem nodeGo_miss {xs l : List Int} {v k : Nat} {a : Int} {d : Nat} (h : l[k]? = some a) (hd : xs[v]? = some (d : Int)) (ha : (d : Int) ≤ a) : nodeGo xs v (l.drop k) = none := by
  rw [drop_at h, nodeGo, if_pos (by simp [hd, ha])]
theorem nodeGo_step {xs l : List Int} {v k : Nat} {a : Int} {d : Nat} (h : l[k]? = some a) (hd : xs[v]? = some (d : Int)) (ha : a < (d : Int)) : nodeGo xs v (l.drop k) = nodeGo xs (kidAt xs v a.toNat) (l.drop (k + 1)) := by
  rw [drop_at h, nodeGo, if_neg (by simp [hd]; omega)]
theorem childs_at (xs : List Int) (v : Nat) {k i : Nat} (h : i < k) : (childs xs v k)[i]? = some (kidAt xs v i : Int) := by simp [childs, h]

def cmpI (x y : Int) : Int := if x < y then -1 else if y < x then 1 else 0
/-- the order of lists of one length -/
def cmpL : List Int → List Int → Int
  | x :: r, y :: s => if x < y then -1 else if y < x then 1 else cmpL r s
  | _, _ => 0
theorem cmpI_lt {x y : Int} (h : x < y) : cmpI x y = -1 := by simp [cmpI, h]
theorem cmpI_gt {x y : Int} (h : y < x) : cmpI x y = 1 := by rw [cmpI, if_neg (by omega), if_pos h]
theorem cmpI_eq {x y : Int} (h : x = y) : cmpI x y = 0 := by rw [cmpI, if_neg (by omega), if_neg (by omega)]
theorem cmpL_lt {xs ys : List Int} {k : Nat} {x y : Int} (h : xs[k]? = some x) (h' : ys[k]? = some y) (hl : x < y) : cmpL (xs.drop k) (ys.drop k) = -1 := by
  rw [drop_at h, drop_at h', cmpL, if_pos hl]
theorem cmpL_gt {xs ys : List Int} {k : Nat} {x y : Int} (h : xs[k]? = some x) (h' : ys[k]? = some y) (hl : y < x) : cmpL (xs.drop k) (ys.drop k) = 1 := by
  rw [drop_at h, drop_at h', cmpL, if_neg (by omega), if_pos hl]
theorem cmpL_eq {xs ys : List Int} {k : Nat} {x y : Int} (h : xs[k]? = some x) (h' : ys[k]? = some y) (hl : x = y) : cmpL (xs.drop k) (ys.drop k) = cmpL (xs.drop (k + 1)) (ys.drop (k + 1)) := by
  rw [drop_at h, drop_at h', cmpL, if_neg (by omega), if_neg (by omega)]
theorem cmpL_end {xs ys : List Int} : cmpL (xs.drop xs.length) ys = 0 := by simp [cmpL]
theorem cmpL_swap : ∀ (xs ys : List Int), cmpL ys xs = - cmpL xs ys := by
  intro xs
  induction xs with
  | nil => intro ys; cases ys <;> simp [cmpL]
  | cons x r ih =>
    intro ys
    cases ys with
    | nil => simp [cmpL]
    | cons y s =>
      simp only [cmpL]
      by_cases h1 : x < y
      · rw [if_neg (by omega), if_pos h1, if_pos h1]; rfl
      · by_cases h2 : y < x
        · rw [if_pos h2, if_neg h1, if_pos h2]
        · rw [if_neg h2, if_neg h1, if_neg h1, if_neg h2]; exact ih s
theorem cmpL_range : ∀ (xs ys : List Int), cmpL xs ys = -1 ∨ cmpL xs ys = 0 ∨ cmpL xs ys = 1 := by
  intro xs
  induction xs with
  | nil => intro ys; cases ys <;> simp [cmpL]
  | cons x r ih =>
    intro ys
    cases ys with
    | nil => simp [cmpL]
    | cons y s => simp only [cmpL]; split; simp; split; simp; exact ih s
/-- the order of trees: by their numbers of nodes, then by their degrees -/
def cmpT (xs ys : List Int) : Int := if xs.length = ys.length then cmpL xs ys else cmpI xs.length ys.length
def compareTrees (xs ys : List Int) : Int × Int := if isTree xs = true ∧ isTree ys = true then (cmpT xs ys, 0) else (0, 1)
theorem compareTrees_yes {xs ys : List Int} (h : isTree xs = true) (h' : isTree ys = true) : compareTrees xs ys = (cmpT xs ys, 0) := by simp [compareTrees, h, h']
theorem compareTrees_no1 {xs ys : List Int} (h : isTree xs = false) : compareTrees xs ys = (0, 1) := by simp [compareTrees, h]
theorem compareTrees_no2 {xs ys : List Int} (h : isTree ys = false) : compareTrees xs ys = (0, 1) := by simp [compareTrees, h]
theorem cmpT_swap (xs ys : List Int) : cmpT ys xs = - cmpT xs ys := by
  simp only [cmpT]
  by_cases h : xs.length = ys.length
  · rw [if_pos h, if_pos h.symm, cmpL_swap]
  · rw [if_neg h, if_neg (fun e => h e.symm)]
    simp only [cmpI]
    by_cases h1 : (xs.length : Int) < ys.length
    · rw [if_neg (by omega), if_pos h1, if_pos h1]; rfl
    · rw [if_pos (by omega), if_neg h1, if_pos (by omega)]
theorem cmpT_range (xs ys : List Int) : cmpT xs ys = -1 ∨ cmpT xs ys = 0 ∨ cmpT xs ys = 1 := by
  simp only [cmpT]
  split
  · exact cmpL_range _ _
  · simp only [cmpI]; split; simp; split <;> simp

/-- one byte read: 'ds' the degrees so far, 'st' the nodes that are open -/
def pstep (ds st : List Int) (c : Int) : Option (List Int × List Int) :=
  if c = 40 then
    (if 0 < st.length then some ((ds.set (st[st.length - 1]?.getD 0).toNat ((ds[(st[st.length - 1]?.getD 0).toNat]?.getD 0) + 1)) ++ [0], st ++ [(ds.length : Int)])
     else if ds = [] then some ([0], [0]) else none)
  else if c = 41 then (if 0 < st.length then some (ds, st.dropLast) else none) else none
def prun : List Int → List Int → List Int → Option (List Int × List Int)
  | ds, st, [] => some (ds, st)
  | ds, st, c :: r => match pstep ds st c with | none => none | some (ds', st') => prun ds' st' r
def parse (l : List Int) : List Int × Int :=
  if 48 < l.length then ([], 6) else match prun [] [] l with | some (ds, []) => (if ds = [] then ([], 6) else (ds, 0)) | _ => ([], 6)
theorem prun_step {l ds st ds' st' : List Int} {k : Nat} {c : Int} (h : l[k]? = some c) (hs : pstep ds st c = some (ds', st')) : prun ds st (l.drop k) = prun ds' st' (l.drop (k + 1)) := by
  rw [drop_at h, prun, hs]
theorem prun_fail {l ds st : List Int} {k : Nat} {c : Int} (h : l[k]? = some c) (hs : pstep ds st c = none) : prun ds st (l.drop k) = none := by
  rw [drop_at h, prun, hs]
theorem parse_long {l : List Int} (h : 48 < l.length) : parse l = ([], 6) := by rw [parse, if_pos h]
theorem parse_fail {l : List Int} (h : prun [] [] l = none) : parse l = ([], 6) := by rw [parse, h]; split <;> rfl
theorem parse_open {l ds st : List Int} (h : prun [] [] l = some (ds, st)) (hs : 0 < st.length) : parse l = ([], 6) := by
  rw [parse, h]
  cases st with
  | nil => simp at hs
  | cons a r => split <;> rfl
theorem parse_empty {l : List Int} (h : prun [] [] l = some ([], [])) : parse l = ([], 6) := by rw [parse, h]; split <;> simp
theorem parse_done {l ds : List Int} (hl : l.length ≤ 48) (h : prun [] [] l = some (ds, [])) (hs : ds ≠ []) : parse l = (ds, 0) := by
  rw [parse, if_neg (by omega), h]
  simp [hs]
theorem pstep_open {ds st : List Int} {p : Int} {d : Int} (hp : st[st.length - 1]? = some p) (hd : ds[p.toNat]? = some d) : pstep ds st 40 = some (ds.set p.toNat (d + 1) ++ [0], st ++ [(ds.length : Int)]) := by
  have hl : 0 < st.length := by have := (List.getElem?_eq_some_iff.1 hp).1; omega
  simp [pstep, hl, hp, hd]
theorem pstep_first : pstep [] [] 40 = some ([0], [0]) := by simp [pstep]
theorem pstep_again {ds : List Int} (h : ds ≠ []) : pstep ds [] 40 = none := by simp [pstep, h]
theorem pstep_close {ds st : List Int} (h : 0 < st.length) : pstep ds st 41 = some (ds, st.dropLast) := by simp [pstep, h]
theorem pstep_none {ds : List Int} {c : Int} (h : ds ≠ [] ∨ c ≠ 40) : pstep ds [] c = none := by
  simp only [pstep]
  split
  · rename_i hc; rw [if_neg (by simp), if_neg (by rcases h with h | h; exact h; exact absurd hc h)]
  · split <;> simp
theorem pstep_other {ds st : List Int} {c : Int} (h : c ≠ 40) (h' : c ≠ 41) : pstep ds st c = none := by simp [pstep, h, h']
/-- what holds of a state: the open nodes are nodes; the degrees are small -/
def pgood (k : Nat) (ds st : List Int) : Prop :=
  ds.length ≤ k ∧ st.length ≤ ds.length ∧ (∀ p ∈ st, 0 ≤ p ∧ p.toNat < ds.length) ∧ (∀ d ∈ ds, 0 ≤ d ∧ d ≤ k)
theorem pgood_nil : pgood 0 [] [] := by simp [pgood]
theorem pgood_open {k : Nat} {ds st : List Int} {p d : Int} (h : pgood k ds st) (hd : ds[p.toNat]? = some d) : pgood (k + 1) (ds.set p.toNat (d + 1) ++ [0]) (st ++ [(ds.length : Int)]) := by
  obtain ⟨h1, h2, h3, h4⟩ := h
  refine ⟨by simp; omega, by simp; omega, fun q hq => ?_, fun e he => ?_⟩
  · simp only [List.length_append, List.length_set, List.length_cons, List.length_nil]
    rcases List.mem_append.1 hq with hq | hq
    · have := h3 q hq; omega
    · simp at hq; subst hq; simp
  · rcases List.mem_append.1 he with he | he
    · rcases List.mem_or_eq_of_mem_set he with he | he
      · have := h4 e he; omega
      · obtain ⟨hk, e1⟩ := List.getElem?_eq_some_iff.1 hd
        have := h4 d (e1 ▸ List.getElem_mem hk)
        omega
    · simp at he; subst he; omega
theorem pgood_first : pgood 1 [0] [0] := by simp [pgood]
theorem pgood_close {k : Nat} {ds st : List Int} (h : pgood k ds st) : pgood (k + 1) ds st.dropLast := by
  obtain ⟨h1, h2, h3, h4⟩ := h
  exact ⟨by omega, by simp; omega, fun q hq => h3 q ((List.dropLast_subset _) hq), fun e he => by have := h4 e he; omega⟩
end Go.Proofs.Ytbdmmeoelagdcaa.M

/- The walks of IsTree, the program's and the model's: both return the same Bool of the list of degrees. -/
namespace Go.Proofs.Ytbdmmeoelagdcaa
open Go.RowKit

theorem inAny (n lo hi : Int) (w : World) (b : Bool) (hb : Hid ((decide (lo ≤ n) && decide (n ≤ hi)) = b)) :
    Calls Try.prog 136 #[.int .i64 n, .int .i64 lo, .int .i64 hi] w fun e w' => e = .returned (.bool b) ∧ w = w' := by
  by_cases h : lo ≤ n
  · have hb' : b = decide (n ≤ hi) := by rw [← hb.out]; simp [h]
    clear hb
    subst hb'
    go_enter Try.func136, Try.ntmps136
    go_wp2
    go_ret
    exact ⟨rfl, rfl⟩
  · have hb' : b = false := by rw [← hb.out]; simp; intro h'; exact absurd h' h
    clear hb
    subst hb'
    have hd : decide (lo ≤ n) = false := decide_eq_false h
    go_enter Try.func136, Try.ntmps136
    go_wp2
    go_ret
    exact ⟨rfl, rfl⟩

theorem l01N (A : Option Addr) (n c : Nat) (w : World) : Calls Try.prog 133 #[.agg #[.slice A n c]] w fun e w' => e = .returned (.int .i64 n) ∧ Below w.heap.size w w' := by
  go_enter Try.func133, Try.ntmps133
  go_wp2
  go_ret
  exact ⟨rfl, bal (b0 w) _⟩

set_option maxHeartbeats 1000000 in
theorem specIs (A : Option Addr) (xs : List Int) (c : Nat) (w : World) (hx : xs.length ≤ 1000000000000) (h : Ints w w.heap.size A xs) :
    Calls Try.prog 82 #[.agg #[.slice A xs.length c]] w fun e w' => e = .returned (.bool (M.isTree xs)) ∧ Below w.heap.size w w' := by
  by_cases hn : 1 ≤ xs.length ∧ xs.length ≤ 24
  · have hd : Hid ((decide ((1 : Int) ≤ (xs.length : Int)) && decide ((xs.length : Int) ≤ 24)) = true) := by simp [Hid]; omega
    have ht := Lib.hid (M.isTree_is hn.1 hn.2)
    obtain ⟨hn1, hn2⟩ := hn
    go_enter Try.func82, Try.ntmps82
    go_wp2_with fail
    refine (l01N A xs.length c _).mono ?_
    rintro e w1 ⟨rfl, hb⟩
    obtain ⟨hc, hf⟩ := bcell hb
    have hB := btr (bal (b0 w) _) hb
    have h1 := (h.al (.cells #[.slice A xs.length c] 29)).be hb
    clear h
    have hsz : w.heap.size < w1.heap.size := by have := hb.size; simp at this; omega
    have hcell : w1.cell? ⟨w.heap.size, 0, none⟩ = some (.slice A xs.length c) := by rw [hc _ _ (by simp)]; simp
    clear hc hf hb
    go_wp2_with (go_at_call 136; refine (inAny _ _ _ _ _ hd).mono ?_; rintro e w' ⟨rfl, rfl⟩)
    go_loop [3, 4] (fun q i => ∃ (k : Nat) (o : Int), k ≤ xs.length ∧ i = .int .i64 k ∧ q = .int .i64 o ∧ 0 ≤ o ∧ o ≤ 1 + 24 * k ∧ Hid (M.isTree xs = M.isGo o (xs.drop k))) (fun _ i => xs.length - (intOf i).toNat)
    case atStart => exact ⟨0, 1, Nat.zero_le _, rfl, rfl, by omega, by omega, ht⟩
    case round =>
      obtain ⟨k, o, hk, rfl, rfl, ho0, ho1, hg⟩ := hrel
      clear ht
      by_cases hlt : k < xs.length
      · obtain ⟨b, off, x, rfl, hbB, g, hX⟩ := h1.at_ hlt
        clear h1
        by_cases ho : o = 0
        · subst ho
          have hs := Lib.hid (hg.out.trans (M.isGo_stop hX.out (by simp)))
          go_wp2_with fail
          go_ret
          exact ⟨by rw [hs.out]; rfl, hB⟩
        · have ho' : (o == 0) = false := by simp [ho]
          have ho2 : 1 ≤ o := by omega
          by_cases hr : 0 ≤ x ∧ x ≤ 24
          · obtain ⟨hr1, hr2⟩ := hr
            have hs := Lib.hid (hg.out.trans (M.isGo_step hX.out ho hr1 hr2))
            have hd2 : Hid ((decide (0 ≤ x) && decide (x ≤ 24)) = true) := by simp [Hid, hr1, hr2]
            clear ho
            go_wp2_with (go_at_call 136; refine (inAny _ _ _ _ _ hd2).mono ?_; rintro e w' ⟨rfl, rfl⟩)
            go_round
            case rel => exact ⟨k + 1, o - 1 + x, by omega, by go_num, rfl, by omega, by omega, hs⟩
            case measure => simp [intOf]; omega
          · have hd2 : Hid ((decide (0 ≤ x) && decide (x ≤ 24)) = false) := by simp [Hid]; omega
            have hs := Lib.hid (hg.out.trans (M.isGo_stop (o := o) hX.out (by rw [hd2.out]; simp)))
            clear ho
            go_wp2_with (go_at_call 136; refine (inAny _ _ _ _ _ hd2).mono ?_; rintro e w' ⟨rfl, rfl⟩)
            go_ret
            exact ⟨by rw [hs.out]; rfl, hB⟩
      · obtain rfl : k = xs.length := by omega
        have hs := hg.out
        rw [List.drop_length] at hs
        have Hs : Hid (M.isTree xs = (o == 0)) := hs
        clear hs hg
        go_wp2
        go_ret
        exact ⟨by rw [Hs.out]; rfl, hB⟩
  · have hd : Hid ((decide ((1 : Int) ≤ (xs.length : Int)) && decide ((xs.length : Int) ≤ 24)) = false) := by simp [Hid]; omega
    have ht := Lib.hid (M.isTree_no hn)
    clear hn
    go_enter Try.func82, Try.ntmps82
    go_wp2_with fail
    refine (l01N A xs.length c _).mono ?_
    rintro e w1 ⟨rfl, hb⟩
    have hB := btr (bal (b0 w) _) hb
    clear h
    go_wp2_with (go_at_call 136; refine (inAny _ _ _ _ _ hd).mono ?_; rintro e w' ⟨rfl, rfl⟩)
    go_ret
    exact ⟨by rw [ht.out]; rfl, hB⟩

set_option maxHeartbeats 1000000 in
theorem implIsTree (A : Option Addr) (xs : List Int) (c : Nat) (w : World) (hx : xs.length ≤ 1000000000000) (h : Ints w w.heap.size A xs) :
    Calls Try.prog 86 #[.agg #[.slice A xs.length c]] w fun e w' => e = .returned (.bool (M.isTree xs)) ∧ Below w.heap.size w w' := by
  by_cases hn : 1 ≤ xs.length
  · have hn' : ¬ ((xs.length : Int) < 1) := by omega
    have hd0 : decide ((xs.length : Int) < 1) = false := decide_eq_false hn'
    by_cases hn2 : xs.length ≤ 24
    · have ht := Lib.hid (M.isTree_im hn hn2)
      have hh := h.al (.cells #[.slice A xs.length c] 29)
      clear h
      go_enter Try.func86, Try.ntmps86
      go_wp2
      go_loop [4, 19] (fun q i => ∃ (k : Nat) (o : Int), k ≤ xs.length ∧ i = .int .i64 k ∧ q = .int .i64 o ∧ 0 ≤ o ∧ o ≤ 1 + 24 * k ∧ Hid (M.isTree xs = M.imGo xs.length o (xs.drop k))) (fun _ i => xs.length - (intOf i).toNat)
      case atStart => exact ⟨0, 1, Nat.zero_le _, rfl, rfl, by omega, by omega, ht⟩
      case round =>
        obtain ⟨k, o, hk, rfl, rfl, ho0, ho1, hg⟩ := hrel
        clear ht
        by_cases hlt : k < xs.length
        · obtain ⟨b, off, x, rfl, hbB, g, hX⟩ := hh.at_ hlt
          clear hh
          by_cases ho : o = 0
          · subst ho
            have hs := Lib.hid (hg.out.trans (M.imGo_stop hX.out (by simp)))
            go_wp2
            go_ret
            exact ⟨by rw [hs.out]; rfl, bal (b0 w) _⟩
          · have ho' : (o == 0) = false := by simp [ho]
            have ho2 : 1 ≤ o := by omega
            by_cases hr : x < 0
            · have hs := Lib.hid (hg.out.trans (M.imGo_stop (n := xs.length) (o := o) hX.out (by simp [hr])))
              clear ho
              go_wp2
              go_ret
              exact ⟨by rw [hs.out]; rfl, bal (b0 w) _⟩
            · have hr' : decide (x < 0) = false := decide_eq_false hr
              have hr0 : 0 ≤ x := by omega
              by_cases hr2 : (xs.length : Int) ≤ x
              · have hs := Lib.hid (hg.out.trans (M.imGo_stop (n := xs.length) (o := o) hX.out (by simp [hr2])))
                clear ho hr
                go_wp2
                go_ret
                exact ⟨by rw [hs.out]; rfl, bal (b0 w) _⟩
              · have hs := Lib.hid (hg.out.trans (M.imGo_step (n := xs.length) hX.out ho hr0 (by omega)))
                have hr3 : x < (xs.length : Int) := by omega
                have hr4 : decide ((xs.length : Int) ≤ x) = false := decide_eq_false hr2
                clear ho hr
                go_wp2
                go_round
                case rel => exact ⟨k + 1, o + (x - 1), by omega, by go_num, rfl, by omega, by omega, hs⟩
                case measure => simp [intOf]; omega
        · obtain rfl : k = xs.length := by omega
          have hs := hg.out
          rw [List.drop_length] at hs
          have Hs : Hid (M.isTree xs = (o == 0)) := hs
          clear hs hg
          go_wp2
          go_ret
          exact ⟨by rw [Hs.out]; rfl, bal (b0 w) _⟩
    · have ht := Lib.hid (M.isTree_no (xs := xs) (by omega))
      have hd1 : (24 : Int) < (xs.length : Int) := by omega
      go_enter Try.func86, Try.ntmps86
      go_wp2
      go_ret
      exact ⟨by rw [ht.out]; rfl, bal (b0 w) _⟩
  · have ht := Lib.hid (M.isTree_no (xs := xs) (by omega))
    have hd1 : (xs.length : Int) < 1 := by omega
    go_enter Try.func86, Try.ntmps86
    go_wp2
    go_ret
    exact ⟨by rw [ht.out]; rfl, bal (b0 w) _⟩
end Go.Proofs.Ytbdmmeoelagdcaa

/- append of one number to a row of the call's own; an empty row; the codes of trees and nodes. -/
namespace Go.Proofs.Ytbdmmeoelagdcaa
open Go.RowKit

theorem own64_len {w : World} {B n c : Nat} {A : Option Addr} {zs : List Int} (h : Own64 w B (.slice A n c) zs) : n = zs.length := by
  rcases h.2 with ⟨h1, h2⟩ | ⟨g, cap, cur, hv, _⟩
  · injection h1 with _ h1 _; omega
  · injection hv

theorem push64 {ops : Array Oper} {rest : List Oper} {o : Oper} {a : Act} {Q : Exit → Act → World → Prop} (hgd : o.guard = none) (s x : Operand)
    (ho : o.op = .call { callee := .builtin .append, args := #[s, x], argTypes := #[23, 23] }) (w : World) (B : Nat) (A : Option Addr) (n c : Nat) (zs : List Int) (y : Int)
    (hs : a.eval s = .slice A n c) (hx : a.eval x = .slice (some ⟨w.heap.size, 0, none⟩) 1 1) (hown : Hid (Own64 w B (.slice A n c) zs)) (hB : B ≤ w.heap.size) (hlen : n ≤ 1000000)
    (h : ∀ A' c' w', Hid (Own64 w' B (.slice A' (n + 1) c') (zs ++ [y])) → Hid (Below B w w') → wpList Try.prog ops Q rest (a.put o.dst (.slice A' (n + 1) c')) w') :
    wpList Try.prog ops Q (o :: rest) a (w.alloc (.cells #[.int .i64 y] 2)) := by
  obtain ⟨i0, hi0, hz0, hz1, hz2⟩ := info_parts info64
  have hown := hown.out
  have hn := own64_len hown
  subst hn
  refine wpList_append_own _ hgd s x 23 ho B 2 i0 (.int .i64 0) 1 8 Try.underlying23 hi0 hz0 hz1 hz2 rfl (by decide) _ zs.length (zs.map (Value.int .i64)) hs (hown.alloc _) ⟨w.heap.size, 0, none⟩ 1 1 [.int .i64 y] hx rfl ?_ ?_ ?_ ?_ ?_ ?_
  · intro j u hj
    match j, hj with
    | 0, hj => simp at hj; subst hj; simp [Addr.add]
  · intro u hu; simp at hu; subst hu; rfl
  · unfold maxLen; omega
  · omega
  · simp; omega
  · intro v' w1 hown1 hg1 _
    obtain ⟨A, c, rfl⟩ : ∃ A c, v' = .slice A (zs.length + 1) c := by
      rcases hown1.2 with ⟨rfl, h0⟩ | ⟨g, cap, _, rfl, _⟩
      · omega
      · exact ⟨_, _, rfl⟩
    refine h A c w1 ?_ ?_
    · have e : (zs ++ [y]).length = zs.length + 1 := by simp
      show Own64 _ _ _ _
      unfold Own64
      rw [e]
      simpa using hown1
    · exact ((Below.refl B w).alloc hB _).grown hg1 (by simp; omega) (fun k hk => (hown.lt k hk).1)

/-- '[]int64{}': a row of no numbers -/
theorem own64_empty {w : World} {B : Nat} (hB : B ≤ w.heap.size) : Own64 (w.alloc (.cells #[] 2)) B (.slice (some ⟨w.heap.size, 0, none⟩) 0 0) [] := by
  have := World.ownsRow_made (e := 2) (size := 1) w #[] 0 hB (by simp [maxLen]) (by simp)
  exact this

theorem own64_nil (w : World) (B : Nat) : Own64 w B (.slice none 0 0) [] := World.ownsRow_nil _ _ _ _

theorem own64_eq {w : World} {B : Nat} {v : Value} {zs ys : List Int} (h : Own64 w B v zs) (e : zs = ys) : Own64 w B v ys := e ▸ h

set_option maxHeartbeats 1000000 in
theorem codeOf0 (A : Option Addr) (xs : List Int) (c : Nat) (w : World) (hx : xs.length ≤ 1000000000000) (h : Ints w w.heap.size A xs) (r : Int) (hr : Hid ((if M.isTree xs then 0 else 1) = r)) :
    Calls Try.prog 132 #[.agg #[.slice A xs.length c], .slice none 0 0] w fun e w' => e = .returned (.int .i64 r) ∧ Below w.heap.size w w' := by
  cases ht : M.isTree xs
  all_goals
    rw [ht] at hr
    have hc := (implIsTree A xs c (w.alloc (.cells #[.slice A xs.length c] 29)) hx (h.al _))
    rw [ht] at hc
    have HC := Lib.hid hc
    obtain rfl := hr.out
    clear hc ht hr
    go_enter Try.func132, Try.ntmps132
    go_wp2_with fail
    refine HC.out.mono ?_
    rintro e w1 ⟨rfl, hb⟩
    have hB := btr (bal (b0 w) _) hb
    go_wp2
    first
      | (go_ret; exact ⟨rfl, hB⟩)
      | (refine wp_loop_rounds 1 ?_
         rw [rounds_succ]
         go_wp2
         go_ret
         exact ⟨rfl, hB⟩)
end Go.Proofs.Ytbdmmeoelagdcaa

/- A box made ahead of a call holds behind it. -/
namespace Go.Proofs.Ytbdmmeoelagdcaa
open Go.RowKit

theorem boxNew {X w1 : World} {v : Value} {t : TypeId} (hb : Below (X.alloc (.cells #[v] t)).heap.size (X.alloc (.cells #[v] t)) w1) : Boxed w1 X.heap.size t v :=
  (hb.block X.heap.size (by simp)).trans (World.alloc_heap_new X _)
theorem boxNewD {X w1 : World} {v : Value} {t : TypeId} (hb : Below (X.drew.alloc (.cells #[v] t)).heap.size (X.drew.alloc (.cells #[v] t)) w1) : Boxed w1 X.heap.size t v := boxNew (X := X.drew) hb
theorem boxKeep {W w1 : World} {b : Nat} {v : Value} {t : TypeId} (h : Boxed W b t v) (hb : Below W.heap.size W w1) : Boxed w1 b t v := (hb.block b h.lt).trans h
end Go.Proofs.Ytbdmmeoelagdcaa

/- Lists of trees in memory: a slice whose elements are trees, each with a row of its own; append of one; what the laws' helpers do with them. -/
namespace Go.Proofs.Ytbdmmeoelagdcaa
open Go.RowKit

theorem infoTree : (Try.prog.info? 29).map (fun i => (i.zero, i.size, i.bytes)) = some (some (.agg #[.slice none 0 0]), 1, 24) := by kernel_rfl

/-- a row's header: its block, its length, its capacity -/
abbrev Hdr := Nat × Nat × Nat
abbrev hdr (h : Hdr) : Value := .slice (some ⟨h.1, 0, none⟩) h.2.1 h.2.2

/-- the slice v has the trees zss, with the headers hs; all lies from block B on, and no two share memory -/
structure Woods (w : World) (B : Nat) (v : Value) (hs : List Hdr) (zss : List (List Int)) : Prop where
  row : w.ownsRow B 29 1 v hs.length (hs.map hdr)
  len : hs.length = zss.length
  each : ∀ (k : Nat) (h : Hdr) (zs : List Int), hs[k]? = some h → zss[k]? = some zs → Own64 w B (hdr h) zs
  apart : ∀ (i j : Nat) (h h' : Hdr), hs[i]? = some h → hs[j]? = some h' → i ≠ j → h.1 ≠ h'.1

theorem Woods.at_ {w : World} {B : Nat} {v : Value} {hs : List Hdr} {zss : List (List Int)} (h : Woods w B v hs zss) {k : Nat} {zs : List Int} (hk : zss[k]? = some zs) : ∃ h', hs[k]? = some h' ∧ Own64 w B (hdr h') zs ∧ h'.2.1 = zs.length := by
  have hl : k < hs.length := by rw [h.len]; exact (List.getElem?_eq_some_iff.1 hk).1
  have h1 := List.getElem?_eq_getElem hl
  have h2 := h.each k _ zs h1 hk
  exact ⟨_, h1, h2, own64_len h2⟩
theorem Woods.lt {w : World} {B : Nat} {v : Value} {hs : List Hdr} {zss : List (List Int)} (h : Woods w B v hs zss) {h' : Hdr} (hh : h' ∈ hs) : B ≤ h'.1 ∧ h'.1 < w.heap.size := by
  obtain ⟨k, hk⟩ := List.getElem?_of_mem hh
  have hl : k < zss.length := by rw [← h.len]; exact (List.getElem?_eq_some_iff.1 hk).1
  exact World.ownsRow.lt (h.each k h' _ hk (List.getElem?_eq_getElem hl)) h'.1 rfl
theorem Woods.cell {w : World} {B g n c : Nat} {hs : List Hdr} {zss : List (List Int)} (h : Woods w B (.slice (some ⟨g, 0, none⟩) n c) hs zss) {k : Nat} {h' : Hdr} (hk : hs[k]? = some h') : w.cell? ⟨g, k, none⟩ = some (hdr h') := by
  have := h.row.cells (g := g) rfl k (hdr h') (by simp [hk])
  have ha : (⟨g, 0, none⟩ : Addr).add k = ⟨g, k, none⟩ := by unfold Addr.add; split <;> simp_all
  rw [ha] at this
  exact this
theorem Woods.shape {w : World} {B n c : Nat} {A : Option Addr} {hs : List Hdr} {zss : List (List Int)} (h : Woods w B (.slice A n c) hs zss) : n = zss.length ∧ (0 < n → ∃ g, A = some ⟨g, 0, none⟩) := by
  have hl := h.len
  rcases h.row.2 with ⟨e, h0⟩ | ⟨g, cap, cur, hv, _⟩
  · injection e with e1 e2 e3
    exact ⟨by omega, fun hn => by omega⟩
  · injection hv with e1 e2 e3
    exact ⟨by omega, fun _ => ⟨g, e1⟩⟩
/-- the slice's block is none of the rows': they hold other things -/
theorem Woods.off {w : World} {B : Nat} {v : Value} {hs : List Hdr} {zss : List (List Int)} (h : Woods w B v hs zss) {h' : Hdr} (hh : h' ∈ hs) : v.ownBlock ≠ some h'.1 := by
  intro e
  obtain ⟨k, hk⟩ := List.getElem?_of_mem hh
  have hl : k < zss.length := by rw [← h.len]; exact (List.getElem?_eq_some_iff.1 hk).1
  have h1 := h.each k h' _ hk (List.getElem?_eq_getElem hl)
  rcases h.row.2 with ⟨e0, _⟩ | ⟨g, cap, cur, hv, _, hg, _⟩
  · rw [e0] at e; cases e
  · rcases h1.2 with ⟨e0, _⟩ | ⟨g', cap', cur', hv', _, hg', _⟩
    · cases e0
    · injection hv' with e1
      injection e1 with e1
      injection e1 with e1
      rw [hv] at e
      have e2 : g = h'.1 := by injection e
      rw [e2, e1, hg'] at hg
      injection hg with hg
      injection hg with _ hg
      exact absurd hg (by decide)
theorem Woods.kept {w w' : World} {B : Nat} {v : Value} {hs : List Hdr} {zss : List (List Int)} {row : Option Nat} (h : Woods w B v hs zss) (hg : w.grownBy w' row) (h1 : ∀ k, row = some k → v.ownBlock ≠ some k ∧ ∀ h' ∈ hs, h'.1 ≠ k) : Woods w' B v hs zss := by
  refine ⟨h.row.kept hg ?_, h.len, fun k h' zs hk hz => (h.each k h' zs hk hz).kept hg (.inr fun e => ?_), h.apart⟩
  · cases hv : v.ownBlock with
    | none => exact .inl rfl
    | some k => exact .inr fun e => (h1 k e.symm).1 hv
  · exact (h1 h'.1 e.symm).2 h' (List.mem_of_getElem? hk) rfl
theorem Woods.be {w w' : World} {B : Nat} {v : Value} {hs : List Hdr} {zss : List (List Int)} (h : Woods w B v hs zss) (hb : Below w.heap.size w w') : Woods w' B v hs zss :=
  ⟨own_be h.row hb, h.len, fun k h' zs hk hz => own_be (h.each k h' zs hk hz) hb, h.apart⟩
theorem Woods.alloc {w : World} {B : Nat} {v : Value} {hs : List Hdr} {zss : List (List Int)} (h : Woods w B v hs zss) (o : Obj) : Woods (w.alloc o) B v hs zss := h.be (bal (b0 w) o)
theorem Woods.mono {w : World} {B B' : Nat} {v : Value} {hs : List Hdr} {zss : List (List Int)} (h : Woods w B v hs zss) (hB : B' ≤ B) : Woods w B' v hs zss :=
  ⟨own_mono h.row hB, h.len, fun k h' zs hk hz => own_mono (h.each k h' zs hk hz) hB, h.apart⟩
theorem woods_empty {w : World} {B : Nat} (hB : B ≤ w.heap.size) : Woods (w.alloc (.cells #[] 29)) B (.slice (some ⟨w.heap.size, 0, none⟩) 0 0) [] [] :=
  ⟨World.ownsRow_made (e := 29) (size := 1) w #[] 0 hB (by simp [maxLen]) (by simp), rfl, fun k h zs hk => by simp at hk, fun i j h h' hi => by simp at hi⟩
theorem woods_nil (w : World) (B : Nat) : Woods w B (.slice none 0 0) [] [] :=
  ⟨World.ownsRow_nil _ _ _ _, rfl, fun k h zs hk => by simp at hk, fun i j h h' hi => by simp at hi⟩
theorem woods_one {w : World} {B : Nat} {h : Hdr} {zs : List Int} (hB : B ≤ w.heap.size) (ho : Own64 w B (hdr h) zs) : Woods (w.alloc (.cells #[hdr h] 29)) B (.slice (some ⟨w.heap.size, 0, none⟩) 1 1) [h] [zs] := by
  refine ⟨World.ownsRow_lit (e := 29) (size := 1) w #[hdr h] 1 hB (by simp [maxLen]) (by simp), rfl, fun k h' zs' hk hz => ?_, fun i j h1 h2 hi hj hij => ?_⟩
  · have hk0 : k = 0 := by have := (List.getElem?_eq_some_iff.1 hk).1; simp at this; exact this
    subst hk0
    injection hk with hk
    injection hz with hz
    subst hk
    subst hz
    exact ho.alloc _
  · have h1 := (List.getElem?_eq_some_iff.1 hi).1
    have h2 := (List.getElem?_eq_some_iff.1 hj).1
    simp at h1 h2
    omega
/-- behind an append of one tree -/
theorem woods_pushed {w w1 : World} {B : Nat} {v v' : Value} {hs : List Hdr} {zss : List (List Int)} {h0 : Hdr} {zs : List Int} (h : Woods w B v hs zss) (ho : Own64 w B (hdr h0) zs) (hne : v.ownBlock ≠ some h0.1) (hfr : ∀ h' ∈ hs, h'.1 ≠ h0.1) {o : Obj}
    (hown : w1.ownsRow B 29 1 v' (hs.length + 1) (hs.map hdr ++ [hdr h0])) (hg : (w.alloc o).grownBy w1 v.ownBlock) : Woods w1 B v' (hs ++ [h0]) (zss ++ [zs]) := by
  have hk0 : ∀ (h' : Hdr) (ys : List Int), Own64 w B (hdr h') ys → v.ownBlock ≠ some h'.1 → Own64 w1 B (hdr h') ys := fun h' ys ho' hv => (ho'.alloc _).kept hg (.inr fun e => hv e.symm)
  refine ⟨by rw [List.length_append, List.map_append]; exact hown, by rw [List.length_append, List.length_append, h.len]; rfl, fun k h' ys hk hy => ?_, fun i j h1 h2 hi hj hij => ?_⟩
  · rcases Nat.lt_or_ge k hs.length with hl | hl
    · rw [List.getElem?_append_left hl] at hk
      rw [List.getElem?_append_left (by rw [← h.len]; exact hl)] at hy
      exact hk0 h' ys (h.each k h' ys hk hy) (h.off (List.mem_of_getElem? hk))
    · rw [List.getElem?_append_right hl] at hk
      rw [List.getElem?_append_right (by rw [← h.len]; exact hl)] at hy
      have e1 : k - hs.length = 0 := by have := (List.getElem?_eq_some_iff.1 hk).1; simp at this; omega
      rw [e1] at hk
      rw [← h.len, e1] at hy
      injection hk with hk
      injection hy with hy
      subst hk
      subst hy
      exact hk0 h0 zs ho hne
  · have hsel : ∀ (k : Nat) (h' : Hdr), (hs ++ [h0])[k]? = some h' → (k < hs.length ∧ hs[k]? = some h') ∨ (k = hs.length ∧ h' = h0) := fun k h' hk => by
      rcases Nat.lt_or_ge k hs.length with hl | hl
      · rw [List.getElem?_append_left hl] at hk; exact .inl ⟨hl, hk⟩
      · rw [List.getElem?_append_right hl] at hk
        have e1 : k - hs.length = 0 := by have := (List.getElem?_eq_some_iff.1 hk).1; simp at this; omega
        rw [e1] at hk
        injection hk with hk
        exact .inr ⟨by omega, hk.symm⟩
    rcases hsel i h1 hi with ⟨a1, a2⟩ | ⟨a1, a2⟩ <;> rcases hsel j h2 hj with ⟨b1, b2⟩ | ⟨b1, b2⟩
    · exact h.apart i j h1 h2 a2 b2 hij
    · rw [b2]; exact hfr h1 (List.mem_of_getElem? a2)
    · rw [a2]; exact fun e => hfr h2 (List.mem_of_getElem? b2) e.symm
    · omega

/-- the trees of a slice, to be read -/
def Trees (w : World) (A : Option Addr) (zss : List (List Int)) : Prop :=
  0 < zss.length → ∃ b, A = some ⟨b, 0, none⟩ ∧ b < w.heap.size ∧ ∀ (k : Nat) (zs : List Int), zss[k]? = some zs → ∃ A' c', w.cell? ⟨b, k, none⟩ = some (.slice A' zs.length c') ∧ Ints w w.heap.size A' zs
theorem Woods.trees {w : World} {B n c : Nat} {A : Option Addr} {hs : List Hdr} {zss : List (List Int)} (h : Woods w B (.slice A n c) hs zss) : Trees w A zss := fun hp => by
  obtain ⟨h1, h2⟩ := h.shape
  obtain ⟨g, rfl⟩ := h2 (by omega)
  refine ⟨g, rfl, (World.ownsRow.lt h.row g rfl).2, fun k zs hk => ?_⟩
  obtain ⟨h', hk', ho, hl⟩ := h.at_ hk
  have hc := h.cell hk'
  obtain ⟨g', m, c'⟩ := h'
  simp only at hl
  subst hl
  exact ⟨_, _, hc, ints_of_own64 ho⟩
theorem Trees.be {w w' : World} {A : Option Addr} {zss : List (List Int)} (h : Trees w A zss) (hb : Below w.heap.size w w') : Trees w' A zss := fun hp => by
  obtain ⟨b, rfl, hlt, hk⟩ := h hp
  refine ⟨b, rfl, Nat.lt_of_lt_of_le hlt hb.size, fun k zs hz => ?_⟩
  obtain ⟨A', c', h1, h2⟩ := hk k zs hz
  exact ⟨A', c', (hb.cell (p := ⟨b, k, none⟩) hlt).trans h1, h2.be hb⟩
end Go.Proofs.Ytbdmmeoelagdcaa

/- Lists of lists of numbers: how many numbers they have; rows that are marked. -/
namespace Go.Proofs.Ytbdmmeoelagdcaa
namespace M
def tot : List (List Int) → Nat
  | [] => 0
  | zs :: r => zs.length + tot r
theorem tot_snoc (l : List (List Int)) (zs : List Int) : tot (l ++ [zs]) = tot l + zs.length := by
  induction l with
  | nil => simp [tot]
  | cons x r ih => simp only [List.cons_append, tot, ih]; omega
theorem tot_take {zss : List (List Int)} {k : Nat} {zs : List Int} (h : zss[k]? = some zs) : tot (zss.take (k + 1)) = tot (zss.take k) + zs.length := by
  rw [List.take_add_one, h, Option.toList_some, tot_snoc]
theorem tot_le {zss : List (List Int)} {b : Nat} (h : ∀ zs ∈ zss, zs.length ≤ b) : tot zss ≤ b * zss.length := by
  induction zss with
  | nil => exact Nat.zero_le _
  | cons x r ih =>
    have h1 := h x (by simp)
    have h2 := ih fun z hz => h z (by simp [hz])
    simp only [tot, List.length_cons, Nat.mul_add, Nat.mul_one]
    omega
theorem tot_mem {zss : List (List Int)} {zs : List Int} (h : zs ∈ zss) : zs.length ≤ tot zss := by
  induction zss with
  | nil => cases h
  | cons x r ih =>
    simp only [tot]
    rcases List.mem_cons.1 h with rfl | h
    · omega
    · have := ih h; omega
theorem tot_take_le (zss : List (List Int)) : ∀ k, tot (zss.take k) ≤ tot zss := by
  induction zss with
  | nil => intro k; simp [tot]
  | cons x r ih =>
    intro k
    cases k with
    | zero => simp [tot]
    | succ k => simp only [List.take_succ_cons, tot]; have := ih k; omega
/-- the first k rows are marked -/
def partM (m : Int) (zss : List (List Int)) (k : Nat) : List (List Int) := (List.range zss.length).map fun j => if j < k then marks (m + (tot (zss.take j) : Int)) (zss[j]?.getD []).length else zss[j]?.getD []
theorem partM_len (m : Int) (zss : List (List Int)) (k : Nat) : (partM m zss k).length = zss.length := by simp [partM]
theorem partM_zero (m : Int) (zss : List (List Int)) : partM m zss 0 = zss := by
  apply List.ext_getElem?
  intro j
  simp only [partM, List.getElem?_map]
  by_cases hj : j < zss.length
  · rw [List.getElem?_range hj]; simp [List.getElem?_eq_getElem hj]
  · rw [List.getElem?_eq_none (by simp; omega), List.getElem?_eq_none (by omega)]; rfl
theorem partM_lo {m : Int} {zss : List (List Int)} {k j : Nat} {zs : List Int} (h : zss[j]? = some zs) (hj : j < k) : (partM m zss k)[j]? = some (marks (m + (tot (zss.take j) : Int)) zs.length) := by
  have hl := (List.getElem?_eq_some_iff.1 h).1
  simp only [partM, List.getElem?_map, List.getElem?_range hl, Option.map_some, if_pos hj, h, Option.getD_some]
theorem partM_hi {m : Int} {zss : List (List Int)} {k j : Nat} {zs : List Int} (h : zss[j]? = some zs) (hj : ¬ j < k) : (partM m zss k)[j]? = some zs := by
  have hl := (List.getElem?_eq_some_iff.1 h).1
  simp only [partM, List.getElem?_map, List.getElem?_range hl, Option.map_some, if_neg hj, h, Option.getD_some]
theorem partM_other {m : Int} {zss : List (List Int)} {k j : Nat} (hj : j ≠ k) : (partM m zss (k + 1))[j]? = (partM m zss k)[j]? := by
  by_cases hl : j < zss.length
  · have h := List.getElem?_eq_getElem hl
    by_cases hjk : j < k
    · rw [partM_lo h hjk, partM_lo h (by omega)]
    · rw [partM_hi h hjk, partM_hi h (by omega)]
  · rw [List.getElem?_eq_none (by rw [partM_len]; omega), List.getElem?_eq_none (by rw [partM_len]; omega)]
end M
end Go.Proofs.Ytbdmmeoelagdcaa

/- Lists of trees: append of one; equal, marked, held. -/
namespace Go.Proofs.Ytbdmmeoelagdcaa
open Go.RowKit

set_option maxRecDepth 100000 in
theorem pushTree {ops : Array Oper} {rest : List Oper} {o : Oper} {a : Act} {Q : Exit → Act → World → Prop} (hgd : o.guard = none) (s x : Operand)
    (ho : o.op = .call { callee := .builtin .append, args := #[s, x], argTypes := #[39, 39] }) (w : World) (B : Nat) (A : Option Addr) (n c : Nat) (hs : List Hdr) (zss : List (List Int)) (h0 : Hdr) (zs : List Int)
    (hs0 : a.eval s = .slice A n c) (hx : a.eval x = .slice (some ⟨w.heap.size, 0, none⟩) 1 1) (hW : Hid (Woods w B (.slice A n c) hs zss)) (hrow : Hid (Own64 w B (hdr h0) zs)) (hne : Hid ((Value.slice A n c).ownBlock ≠ some h0.1)) (hfr : Hid (∀ h' ∈ hs, h'.1 ≠ h0.1)) (hB : B ≤ w.heap.size) (hlen : n ≤ 1000000)
    (h : ∀ A' c' w', Hid (Woods w' B (.slice A' (n + 1) c') (hs ++ [h0]) (zss ++ [zs])) → Hid (Below B w w') → wpList Try.prog ops Q rest (a.put o.dst (.slice A' (n + 1) c')) w') :
    wpList Try.prog ops Q (o :: rest) a (w.alloc (.cells #[hdr h0] 29)) := by
  obtain ⟨i0, hi0, hz0, hz1, hz2⟩ := info_parts infoTree
  have hn : hs.length = n := by rw [hW.out.len]; exact hW.out.shape.1.symm
  refine wpList_append_own_at _ hgd s x 39 ho B 29 i0 (.agg #[.slice none 0 0]) 1 24 Try.underlying39 hi0 hz0 hz1 hz2 rfl (by decide) _ hs.length (hs.map hdr) hs0 (hW.out.row.alloc _) ⟨w.heap.size, 0, none⟩ 1 1 [hdr h0] hx rfl (cell_one_new _ _ _) ?_ ?_ ?_ ?_ ?_
  · intro u hu; simp at hu; subst hu; rfl
  · unfold maxLen; omega
  · omega
  · simp; omega
  · intro v' w1 hown1 hg1 _ _
    obtain ⟨A', c', rfl⟩ : ∃ A' c', v' = .slice A' (hs.length + 1) c' := own_shape hown1
    have hres := woods_pushed hW.out hrow.out hne.out hfr.out hown1 hg1
    rw [hn] at hres ⊢
    exact h A' c' w1 hres (((Below.refl B w).alloc hB _).grown hg1 (by simp; omega) (fun k hk => (World.ownsRow.lt hW.out.row k hk).1))

set_option maxRecDepth 100000 in
set_option maxHeartbeats 2000000 in
theorem eqTreeS (A A' : Option Addr) (zss : List (List Int)) (n c c' : Nat) (w : World) (hn : Hid (zss.length = n)) (hn' : n ≤ 1000000000000) (hz : Hid (∀ zs ∈ zss, zs.length ≤ 1000000000000)) (h : Hid (Trees w A zss)) (h' : Hid (Trees w A' zss)) :
    Calls Try.prog 33 #[.slice A n c, .slice A' n c'] w fun e w' => e = .returned (.bool true) ∧ Below w.heap.size w w' := by
  have hne : ((n : Int) != (n : Int)) = false := by simp
  go_enter Try.func33, Try.ntmps33
  go_wp2
  go_loopw [5] (fun i wr => ∃ k : Nat, k ≤ n ∧ i = .int .i64 (k : Int) ∧ Hid (Below w.heap.size w wr)) (fun i _ => n - (intOf i).toNat)
  case atStart => exact ⟨0, Nat.zero_le _, rfl, b0 w⟩
  case round =>
    obtain ⟨k, hk, rfl, hb⟩ := hrel
    clear hne
    by_cases hlt : k < n
    · have hki : (k : Int) < (n : Int) := by omega
      have hk0 : (0 : Int) ≤ (k : Int) := by omega
      have hkz : k < zss.length := by rw [hn.out]; exact hlt
      have hat : zss[k]? = some zss[k] := List.getElem?_eq_getElem hkz
      have hzk := hz.out _ (List.mem_of_getElem? hat)
      generalize zss[k] = zs at hat hzk
      obtain ⟨b, rfl, hbl, hc⟩ := h.out (by omega)
      obtain ⟨b', rfl, hbl', hc'⟩ := h'.out (by omega)
      obtain ⟨A1, c1, h1, h2⟩ := hc k zs hat
      obtain ⟨A2, c2, h3, h4⟩ := hc' k zs hat
      have HC : Hid (∀ W', Hid (Below w.heap.size w W') → W'.cell? ⟨b, k, none⟩ = some (.slice A1 zs.length c1) ∧ W'.cell? ⟨b', k, none⟩ = some (.slice A2 zs.length c2)) := fun W' hW' => ⟨(hW'.out.cell (p := ⟨b, k, none⟩) hbl).trans h1, (hW'.out.cell (p := ⟨b', k, none⟩) hbl').trans h3⟩
      have HE : Hid (∀ W', Hid (Below w.heap.size w W') → Calls Try.prog 24 #[.agg #[.slice A1 zs.length c1], .agg #[.slice A2 zs.length c2]] W' fun e w' => e = .returned (.bool true) ∧ Hid (Below w.heap.size w w')) := fun W' hW' =>
        (eqTreeT A1 A2 zs c1 c2 W' (by omega) (h2.be hW'.out) (h4.be hW'.out)).mono fun e w' ⟨he, hb'⟩ => ⟨he, btr hW'.out hb'⟩
      have K0 : Hid (Below w.heap.size w wr.drew) := hb.out.drew
      obtain ⟨d1, d2⟩ := HC.out _ K0
      obtain ⟨e1, e2⟩ := HC.out _ hb
      clear hat hc hc' h1 h2 h3 h4 hbl hbl' hkz
      go_wp2
      go_region_held3 (fun w' => w'.cell? ⟨b, k, none⟩ = some (.slice A1 zs.length c1) ∧ w'.cell? ⟨b', k, none⟩ = some (.slice A2 zs.length c2)) (first | exact ⟨d1, d2⟩ | exact HC.out _ (by assumption)) (first | (go_at_call 24; refine (HE.out _ K0).mono ?_; rintro e w7 ⟨rfl, hb7⟩))
      clear d1 d2 e1 e2 K0 HE HC hb
      go_wp2
      go_roundw
      case rel => exact ⟨k + 1, by omega, by go_num, hb7⟩
      case measure => simp [intOf]; omega
    · obtain rfl : k = n := by omega
      have hge : ¬ (k : Int) < (k : Int) := by omega
      go_wp2
      go_ret
      exact ⟨rfl, hb.out⟩


/-- behind a write into one row -/
theorem Woods.set {w w' : World} {B : Nat} {v : Value} {hs : List Hdr} {zss zss' : List (List Int)} {k : Nat} {h' : Hdr} {ys : List Int} (h : Woods w B v hs zss) (hk : hs[k]? = some h') (hl : zss'.length = zss.length) (ho : ∀ j, j ≠ k → zss'[j]? = zss[j]?) (hy : zss'[k]? = some ys)
    (hown : Own64 w' B (hdr h') ys) (hg : w.grownBy w' (some h'.1)) : Woods w' B v hs zss' := by
  refine ⟨h.row.kept hg (.inr (h.off (List.mem_of_getElem? hk))), by rw [hl]; exact h.len, fun j h2 zs hj hz => ?_, h.apart⟩
  by_cases hjk : j = k
  · subst hjk
    rw [hk] at hj
    rw [hy] at hz
    injection hj with hj
    injection hz with hz
    subst hj
    subst hz
    exact hown
  · rw [ho j hjk] at hz
    exact (h.each j h2 zs hj hz).kept hg (.inr fun e => h.apart j k h2 h' hj hk hjk (by injection e))

set_option maxRecDepth 100000 in
set_option maxHeartbeats 2000000 in
theorem markTreeS (A : Option Addr) (n c : Nat) (hs : List Hdr) (zss : List (List Int)) (m : Int) (B : Nat) (w : World) (hn : Hid (zss.length = n)) (hn' : n ≤ 100000000) (hT : Hid (M.tot zss ≤ 2000000000)) (hm : 0 ≤ m) (hm' : m ≤ 100000000000) (hB : B ≤ w.heap.size) (hW : Hid (Woods w B (.slice A n c) hs zss)) :
    Calls Try.prog 34 #[.slice A n c, .int .i64 m] w fun e w' => e = .returned (.int .i64 (m + (M.tot zss : Int))) ∧ Woods w' B (.slice A n c) hs (M.partM m zss n) ∧ Below B w w' ∧ (∀ j, j < w.heap.size → (∀ h' ∈ hs, h'.1 ≠ j) → w'.heap[j]? = w.heap[j]?) := by
  go_enter Try.func34, Try.ntmps34
  go_wp2
  go_loopw [1, 5] (fun q i wr => ∃ k : Nat, k ≤ n ∧ i = .int .i64 (k : Int) ∧ q = .int .i64 (m + (M.tot (zss.take k) : Int)) ∧ Hid (Woods wr B (.slice A n c) hs (M.partM m zss k)) ∧ Hid (Below B w wr) ∧ Hid (∀ j, j < w.heap.size → (∀ h' ∈ hs, h'.1 ≠ j) → wr.heap[j]? = w.heap[j]?)) (fun _ i _ => n - (intOf i).toNat)
  case atStart => exact ⟨0, Nat.zero_le _, rfl, by simp [M.tot], by rw [M.partM_zero]; exact hW, Below.refl _ _, fun _ _ _ => rfl⟩
  case round =>
    obtain ⟨k, hk, rfl, rfl, hWk, hb, hfr⟩ := hrel
    clear hW
    by_cases hlt : k < n
    · have hki : (k : Int) < (n : Int) := by omega
      have hk0 : (0 : Int) ≤ (k : Int) := by omega
      have hkz : k < zss.length := by rw [hn.out]; exact hlt
      have hat : zss[k]? = some zss[k] := List.getElem?_eq_getElem hkz
      have hzk := M.tot_mem (List.mem_of_getElem? hat)
      have hT2 := hT.out
      generalize zss[k] = zs at hat hzk
      have htk := M.tot_take_le zss k
      have hts := Lib.hid (M.tot_take hat)
      obtain ⟨t, ht⟩ : ∃ t, Hid (M.tot (zss.take k) = t) := ⟨_, rfl⟩
      rw [ht.out] at hts htk ⊢
      obtain ⟨g, hA⟩ := hWk.out.shape.2 (by omega)
      subst hA
      obtain ⟨h', hk', ho, hl⟩ := hWk.out.at_ (M.partM_hi (m := m) hat (Nat.lt_irrefl k))
      have hcl := hWk.out.cell hk'
      obtain ⟨g', mm, c'⟩ := h'
      simp only at hl hcl
      subst hl
      have HM := Lib.hid (markInts (some ⟨g', 0, none⟩) zs.length c' zs (m + (t : Int)) B wr rfl (by omega) (by omega) (by omega) ho)
      have Hat := Lib.hid hat
      have Hk' := Lib.hid hk'
      have hzr := hb.out.size
      clear hat hk' ho hkz
      go_wp2_with fail
      refine HM.out.mono ?_
      rintro e w7 ⟨rfl, ho7, hg7⟩
      have hW7 : Hid (Woods w7 B (.slice (some ⟨g, 0, none⟩) n c) hs (M.partM m zss (k + 1))) := by
        refine hWk.out.set Hk'.out (by rw [M.partM_len, M.partM_len]) (fun j hj => M.partM_other hj) (M.partM_lo Hat.out (Nat.lt_succ_self k)) ?_ hg7
        rw [ht.out]
        exact ho7
      have hb7 : Hid (Below B w w7) := hb.out.grown hg7 (by omega) (fun j e => by
        have h1 := (hWk.out.lt (List.mem_of_getElem? Hk'.out)).1
        have h2 : g' = j := by injection e
        simp only at h1
        omega)
      have hfr7 : Hid (∀ j, j < w.heap.size → (∀ h' ∈ hs, h'.1 ≠ j) → w7.heap[j]? = w.heap[j]?) := fun j hj hh => (hg7.block j (Nat.lt_of_lt_of_le hj hzr) (fun e => by
        have h2 : j = g' := by injection e
        exact hh _ (List.mem_of_getElem? Hk'.out) h2.symm)).trans (hfr.out j hj hh)
      clear HM ho7 hg7 hWk hb hcl hfr
      go_wp2
      go_roundw
      case rel => exact ⟨k + 1, by omega, by go_num, by rw [hts.out]; go_num, hW7, hb7, hfr7⟩
      case measure => simp [intOf]; omega
    · obtain rfl : k = n := by omega
      have hge : ¬ (k : Int) < (k : Int) := by omega
      have htot : Hid (M.tot (zss.take k) = M.tot zss) := by show _ = _; rw [List.take_of_length_le (by rw [hn.out]; exact Nat.le_refl _)]
      rw [htot.out]
      go_wp2
      go_ret
      exact ⟨rfl, hWk.out, hb.out, fun j hj hh => hfr.out j hj (fun h' hh' => hh h'.1 h'.2.1 h'.2.2 hh')⟩

set_option maxRecDepth 100000 in
set_option maxHeartbeats 2000000 in
theorem heldTreeS (A : Option Addr) (n c : Nat) (zss : List (List Int)) (m : Int) (w : World) (hn : Hid (zss.length = n)) (hn' : n ≤ 100000) (hz : Hid (∀ zs ∈ zss, zs.length ≤ 100000)) (hm : 0 ≤ m) (hm' : m ≤ 100000000000) (h : Hid (Trees w A (M.partM m zss n))) :
    Calls Try.prog 35 #[.slice A n c, .int .i64 m] w fun e w' => e = .returned (.int .i64 (m + (M.tot zss : Int))) ∧ Below w.heap.size w w' := by
  go_enter Try.func35, Try.ntmps35
  go_wp2
  go_loopw [1, 5] (fun q i wr => ∃ k : Nat, k ≤ n ∧ i = .int .i64 (k : Int) ∧ q = .int .i64 (m + (M.tot (zss.take k) : Int)) ∧ Hid (Below w.heap.size w wr)) (fun _ i _ => n - (intOf i).toNat)
  case atStart => exact ⟨0, Nat.zero_le _, rfl, by simp [M.tot], b0 w⟩
  case round =>
    obtain ⟨k, hk, rfl, rfl, hb⟩ := hrel
    by_cases hlt : k < n
    · have hki : (k : Int) < (n : Int) := by omega
      have hk0 : (0 : Int) ≤ (k : Int) := by omega
      have hkz : k < zss.length := by rw [hn.out]; exact hlt
      have hat : zss[k]? = some zss[k] := List.getElem?_eq_getElem hkz
      have hzk := hz.out _ (List.mem_of_getElem? hat)
      generalize zss[k] = zs at hat hzk
      have htk := M.tot_le (zss := zss.take k) (b := 100000) (fun z hz' => hz.out z (List.mem_of_mem_take hz'))
      have hkl : (zss.take k).length = k := by rw [List.length_take]; omega
      rw [hkl] at htk
      have hts := Lib.hid (M.tot_take hat)
      obtain ⟨t, ht⟩ : ∃ t, Hid (M.tot (zss.take k) = t) := ⟨_, rfl⟩
      have hpl := M.partM_lo (m := m) hat hlt
      rw [ht.out] at hts htk hpl ⊢
      obtain ⟨b, rfl, hbl, hc⟩ := h.out (by rw [M.partM_len]; omega)
      obtain ⟨A1, c1, h1, h2⟩ := hc k _ hpl
      rw [marks_length] at h1
      have hcl : wr.cell? ⟨b, k, none⟩ = some (.slice A1 zs.length c1) := (hb.out.cell (p := ⟨b, k, none⟩) hbl).trans h1
      have HM := Lib.hid (heldInts A1 zs.length c1 (m + (t : Int)) wr (by omega) (by omega) (by omega) (h2.be hb.out))
      have hpos : ¬ m + (t : Int) + (zs.length : Int) < 0 := by omega
      clear hat hkz hkl hc h1 h2 hpl
      go_wp2_with fail
      refine HM.out.mono ?_
      rintro e w7 ⟨rfl, rfl⟩
      go_wp2
      go_roundw
      case rel => exact ⟨k + 1, by omega, by go_num, by rw [hts.out]; go_num, hb⟩
      case measure => simp [intOf]; omega
    · obtain rfl : k = n := by omega
      have hge : ¬ (k : Int) < (k : Int) := by omega
      have htot : Hid (M.tot (zss.take k) = M.tot zss) := by show _ = _; rw [List.take_of_length_le (by rw [hn.out]; exact Nat.le_refl _)]
      rw [htot.out]
      go_wp2
      go_ret
      exact ⟨rfl, hb.out⟩
end Go.Proofs.Ytbdmmeoelagdcaa

/- An argument of type laws.Tree opened: its value, its numbers in memory. -/
namespace Go.Proofs.Ytbdmmeoelagdcaa
open Go.RowKit Go.Joins Go.ChangeShapes Go.WideShapes Go.ChangeAt Go.Deep

theorem own : ownKnob Try.prog.godebug = none := by kernel_rfl
theorem laidOut : laidOutB Try.prog = true := by kernel_rfl
theorem cells64 : Try.prog.cellsOf 2 = 1 := by kernel_rfl
theorem cellsTree : Try.prog.cellsOf 25 = 1 := by kernel_rfl

section
variable {H : Type} {enc : TypeId × Value → H} {P : Program} {w : World} {base : Nat} {spare : Nat → Bool} {held : Bool}
theorem open_agg1 {r : Reach} {b0 : Nat} {t : TypeId} {f0 : Field} {v : Value} {d : DataW H} {p : List MemPlace} (hs : P.underlying t = some (.struct #[f0])) (hone : oneCellFields P #[f0] = true) (hC : P.cellsOf t = 1)
    (hv : Value.okWide P w r b0 t v) (h : DataW.Trod enc P w base spare held t v d p) :
    ∃ (v0 : Value) (y0 : DataW H × List MemPlace) (n : Nat), v = .agg #[v0] ∧ d = .agg [y0.1] ∧ p = y0.2 ∧ DataW.trod enc P w base spare held n f0.type [v0] = some y0 := by
  obtain ⟨cs, rfl, hsz⟩ := okWide_struct hs hv
  obtain ⟨l⟩ := cs
  match l, hsz.trans hC with
  | [c0], _ =>
    obtain ⟨fuel, hf⟩ := h
    obtain ⟨xs, n, _, hx, _, hlen, hg⟩ := DataW.trod_struct hs hf
    obtain ⟨o0, k0⟩ := hone_of hone 0 f0 rfl
    match xs, hlen with
    | [y0], _ =>
      simp only [Prod.mk.injEq] at hx
      exact ⟨c0, y0, n, rfl, by simpa using hx.1, by simpa using hx.2, by simpa [Value.cells, o0, k0] using hg 0 f0 rfl⟩
end

/-- a slice of int64 as read, in this seat's words -/
theorem openInts {H : Type} {enc : TypeId × Value → H} {W : World} {fuel : Nat} {v : Value} {y : DataW H × List MemPlace}
    (h : DataW.trod enc Try.prog W 0 (fun _ => true) true fuel 23 [v] = some y) (hlt : ∀ x ∈ y.2, x.block < W.heap.size) :
    ∃ (A : Option Addr) (c : Nat) (xs : List Int), v = .slice A xs.length c ∧ xs.length ≤ 9223372036854775807 ∧ Ints W W.heap.size A xs ∧ ∀ x ∈ xs, -9223372036854775808 ≤ x ∧ x ≤ 9223372036854775807 := by
  rcases open_ints Try.underlying23 Try.underlying2 cells64 h with ⟨hcs, hx⟩ | ⟨a, len', cap', zs, hcs, _, hl, hm, hz, hx, hcell, hwz⟩
  · obtain rfl : v = .slice none 0 0 := by simpa using hcs
    exact ⟨none, 0, [], rfl, by simp, Ints.nil_ _ _ _, by simp⟩
  · obtain rfl : v = .slice (some a) len' cap' := by simpa using hcs
    simp only [if_true] at hz
    have hlz : len' ≤ zs.length := by omega
    have htl : (zs.take len').length = len' := by simp; omega
    subst hx
    refine ⟨some a, cap', zs.take len', by rw [htl], by rw [htl]; simp only [maxLen] at hm; omega, fun hpos => ?_, fun x hxm => ?_⟩
    · rw [htl] at hpos
      obtain ⟨b, off, spot⟩ := a
      have hspot : spot = none := by simpa [Addr.add] using World.cell?_spot (hcell 0 (by omega))
      subst hspot
      refine ⟨b, off, rfl, hlt (.cell b off) (MemPlace.mem_row.2 ⟨0, by omega, by simp⟩), fun j x hj => ?_⟩
      have hj' : j < zs.length := by
        have := (List.getElem?_eq_some_iff.1 hj).1
        rw [htl] at this
        omega
      have hj2 : zs[j]? = some x := by
        rw [List.getElem?_take] at hj
        split at hj
        · exact hj
        · cases hj
      rw [← add_plain, hcell j hj']
      simp [List.getD, hj2]
    · have := hwz x (List.mem_of_mem_take hxm)
      simpa [Lit.wf, IntKind.min, IntKind.max, IntKind.signed, IntKind.bits] using this

set_option maxRecDepth 100000 in
theorem openTree {H : Type} {enc : TypeId × Value → H} {W : World} {base : Nat} {v : Value} {d : DataW H} {p : List MemPlace} (hv : Value.okWide Try.prog W .any base 25 v)
    (h : DataW.Trod enc Try.prog W 0 (fun _ => true) true 25 v d p) (hlt : ∀ x ∈ p, x.block < W.heap.size) :
    ∃ (A : Option Addr) (c : Nat) (xs : List Int), v = .agg #[.slice A xs.length c] ∧ xs.length ≤ 9223372036854775807 ∧ Ints W W.heap.size A xs ∧ ∀ x ∈ xs, -9223372036854775808 ≤ x ∧ x ≤ 9223372036854775807 := by
  obtain ⟨v0, y0, n, rfl, rfl, rfl, hy⟩ := open_agg1 Try.underlying25 (by kernel_rfl) cellsTree hv h
  obtain ⟨A, c, xs, rfl, h1, h2, h3⟩ := openInts hy hlt
  exact ⟨A, c, xs, rfl, h1, h2, h3⟩
end Go.Proofs.Ytbdmmeoelagdcaa

/- An argument that is a list of trees: opened; its size; copied. -/
namespace Go.Proofs.Ytbdmmeoelagdcaa
open Go.RowKit Go.Joins Go.ChangeShapes Go.WideShapes Go.ChangeAt Go.Deep

/-- the trees of an argument, to be read -/
def TreesL (w : World) (A : Option Addr) (zss : List (List Int)) : Prop :=
  0 < zss.length → ∃ b off, A = some ⟨b, off, none⟩ ∧ b < w.heap.size ∧ ∀ (k : Nat) (zs : List Int), zss[k]? = some zs → ∃ A' c', w.cell? ⟨b, off + k, none⟩ = some (.slice A' zs.length c') ∧ zs.length ≤ 9223372036854775807 ∧ Ints w w.heap.size A' zs
theorem TreesL.be {w w' : World} {A : Option Addr} {zss : List (List Int)} (h : TreesL w A zss) (hb : Below w.heap.size w w') : TreesL w' A zss := fun hp => by
  obtain ⟨b, off, rfl, hlt, hk⟩ := h hp
  refine ⟨b, off, rfl, Nat.lt_of_lt_of_le hlt hb.size, fun k zs hz => ?_⟩
  obtain ⟨A', c', h1, h2, h3⟩ := hk k zs hz
  exact ⟨A', c', (hb.cell (p := ⟨b, off + k, none⟩) hlt).trans h1, h2, h3.be hb⟩

theorem cellsRow : Try.prog.cellsOf 23 = 1 := by kernel_rfl

set_option maxRecDepth 100000 in
theorem openTrees {H : Type} {enc : TypeId × Value → H} {W : World} {fuel : Nat} {v : Value} {y : DataW H × List MemPlace}
    (h : DataW.trod enc Try.prog W 0 (fun _ => true) true fuel 44 [v] = some y) (hlt : ∀ x ∈ y.2, x.block < W.heap.size) :
    ∃ (A : Option Addr) (c : Nat) (zss : List (List Int)), v = .slice A zss.length c ∧ zss.length ≤ 9223372036854775807 ∧ TreesL W A zss := by
  rcases DataW.trod_slice Try.underlying44 h with ⟨hcs, _⟩ | ⟨a, len, cap, elems, rest, n, _, hcs, hy, _, hl, hm, hlen, hel, _, _⟩
  · obtain rfl : v = .slice none 0 0 := by simpa using hcs
    exact ⟨none, 0, [], rfl, by simp, fun hp => by simp at hp⟩
  · obtain rfl : v = .slice (some a) len cap := by simpa using hcs
    subst hy
    have hE : ∀ i, ∃ zs : List Int, i < len → ∃ A' c', W.cell? (a.add i) = some (.slice A' zs.length c') ∧ zs.length ≤ 9223372036854775807 ∧ Ints W W.heap.size A' zs := fun i => by
      by_cases hi : i < len
      · have he := hel i hi
        have hei : elems[i]? = some elems[i] := List.getElem?_eq_getElem (by omega)
        rw [hei, cellsTree, Nat.mul_one, Option.bind_eq_some_iff] at he
        obtain ⟨cs, hcs', htr⟩ := he
        obtain ⟨xs, n', _, hx, hcl, hxl, hg⟩ := DataW.trod_struct Try.underlying25 htr
        rw [cellsTree] at hcl
        match cs, hcl, hcs' with
        | [c0], _, hcs' =>
          have hc0 := cell_of_cells?_one hcs'
          obtain ⟨y0, hx0⟩ : ∃ y0, xs[0]? = some y0 := ⟨_, List.getElem?_eq_getElem (by rw [hxl]; decide)⟩
          have hg0 : DataW.trod enc Try.prog W 0 (fun _ => true) true n' 23 (List.take (Try.prog.cellsOf 23) (List.drop 0 [c0])) = xs[0]? := hg 0 _ rfl
          rw [cellsRow, hx0] at hg0
          have hg1 : DataW.trod enc Try.prog W 0 (fun _ => true) true n' 23 [c0] = some y0 := hg0
          obtain ⟨A', c', zs, rfl, h1, h2, _⟩ := openInts hg1 (fun x hx' => hlt x (by
            refine List.mem_append_right _ (List.mem_flatMap.2 ⟨elems[i], List.mem_append_left _ (List.getElem_mem _), ?_⟩)
            rw [hx]
            exact List.mem_flatMap.2 ⟨y0, List.mem_of_getElem? hx0, hx'⟩))
          exact ⟨zs, fun _ => ⟨A', c', hc0, h1, h2⟩⟩
      · exact ⟨[], fun h => absurd h hi⟩
    obtain ⟨f, hf⟩ := Classical.skolem.1 hE
    have hL : ((List.range len).map f).length = len := by simp
    refine ⟨some a, cap, (List.range len).map f, by rw [hL], by rw [hL]; simp only [maxLen] at hm; omega, fun hp => ?_⟩
    rw [hL] at hp
    obtain ⟨_, _, h0, _⟩ := hf 0 hp
    obtain ⟨b, off, spot⟩ := a
    have hspot : spot = none := by simpa [Addr.add] using World.cell?_spot h0
    subst hspot
    refine ⟨b, off, rfl, World.block_lt_of_cell? _ _ h0, fun k zs hk => ?_⟩
    have hkl : k < len := by have := (List.getElem?_eq_some_iff.1 hk).1; simpa using this
    rw [List.getElem?_map, List.getElem?_range hkl] at hk
    injection hk with hk
    obtain ⟨A', c', h1, h2, h3⟩ := hf k hkl
    rw [add_plain] at h1
    rw [hk] at h1 h2 h3
    exact ⟨A', c', h1, h2, h3⟩

set_option maxRecDepth 100000 in
set_option maxHeartbeats 2000000 in
theorem szTreeS (A : Option Addr) (zss : List (List Int)) (n c : Nat) (w : World) (hn : Hid (zss.length = n)) (hn' : n ≤ 9223372036854775807) (h : Hid (TreesL w A zss)) :
    Calls Try.prog 36 #[.slice A n c, .int .i64 1048576] w fun e w' => ∃ r : Int, e = .returned (.int .i64 r) ∧ (0 ≤ r → n + M.tot zss ≤ 1048576 ∧ r = 1048576 - (n : Int) - (M.tot zss : Int)) ∧ (r < 0 → r = -1) ∧ Below w.heap.size w w' := by
  by_cases h0 : (1048576 : Int) - (n : Int) < 0
  · go_enter Try.func36, Try.ntmps36
    go_wp2
    go_ret
    exact ⟨-1, rfl, fun e => by omega, fun _ => rfl, Below.refl _ _⟩
  · go_enter Try.func36, Try.ntmps36
    go_wp2
    go_loopw [1, 5] (fun q i wr => ∃ (k : Nat) (l : Int), k ≤ n ∧ i = .int .i64 (k : Int) ∧ q = .int .i64 l ∧ 0 ≤ l ∧ Hid (l = 1048576 - (n : Int) - (M.tot (zss.take k) : Int)) ∧ Hid (Below w.heap.size w wr)) (fun _ i _ => n - (intOf i).toNat)
    case atStart => exact ⟨0, 1048576 - (n : Int), Nat.zero_le _, rfl, by simp, by omega, by simp [M.tot, Hid], b0 w⟩
    case round =>
      obtain ⟨k, l, hk, rfl, rfl, hl0, hl, hb⟩ := hrel
      by_cases hlt : k < n
      · have hki : (k : Int) < (n : Int) := by omega
        have hk0 : (0 : Int) ≤ (k : Int) := by omega
        have hl1 : l ≤ 1048576 := by have := hl.out; omega
        have hkz : k < zss.length := by rw [hn.out]; exact hlt
        have hat : zss[k]? = some zss[k] := List.getElem?_eq_getElem hkz
        have hts := Lib.hid (M.tot_take hat)
        generalize zss[k] = zs at hat hts
        obtain ⟨b, off, rfl, hbl, hc⟩ := h.out (by omega)
        obtain ⟨A1, c1, h1, h2, h3⟩ := hc k zs hat
        have hcl : wr.cell? ⟨b, off + k, none⟩ = some (.slice A1 zs.length c1) := (hb.out.cell (p := ⟨b, off + k, none⟩) hbl).trans h1
        have HSz := Lib.hid (szTree A1 zs.length c1 l wr h2 hl1 hl0)
        clear hc h1 hkz hat hbl
        by_cases hneg : l - (zs.length : Int) < 0
        · rw [if_pos hneg] at HSz
          clear hneg
          go_wp2_with fail
          refine HSz.out.mono ?_
          rintro e w7 ⟨rfl, hb7⟩
          have hB := Lib.hid (btr hb.out hb7)
          clear hb7 hcl
          go_wp2
          go_ret
          exact ⟨-1, rfl, fun e => by omega, fun _ => rfl, hB.out⟩
        · rw [if_neg hneg] at HSz
          go_wp2_with fail
          refine HSz.out.mono ?_
          rintro e w7 ⟨rfl, hb7⟩
          have hB := Lib.hid (btr hb.out hb7)
          have hl2 : Hid (l - (zs.length : Int) = 1048576 - (n : Int) - (M.tot (zss.take (k + 1)) : Int)) := by show _ = _; rw [hts.out, hl.out]; omega
          clear hb7 hcl hl hts
          go_wp2
          go_roundw
          case rel => exact ⟨k + 1, l - (zs.length : Int), by omega, by go_num, rfl, by omega, hl2, hB⟩
          case measure => simp [intOf]; omega
      · obtain rfl : k = n := by omega
        have hge : ¬ (k : Int) < (k : Int) := by omega
        have htot : M.tot (zss.take k) = M.tot zss := by rw [List.take_of_length_le (by rw [hn.out]; exact Nat.le_refl _)]
        have hl3 : Hid (l = 1048576 - (k : Int) - (M.tot zss : Int)) := by show _ = _; rw [hl.out, htot]
        clear hl htot
        go_wp2
        go_ret
        exact ⟨l, rfl, fun _ => ⟨by have := hl3.out; omega, hl3.out⟩, fun e => by omega, hb.out⟩

/-- the copy under way -/
structure WoodsP (w : World) (B g n : Nat) (hs : List Hdr) (zss : List (List Int)) : Prop where
  row : w.ownsRow B 29 1 (.slice (some ⟨g, 0, none⟩) n n) n (hs.map hdr ++ List.replicate (n - hs.length) (.slice none 0 0))
  len : hs.length = zss.length
  each : ∀ (k : Nat) (h : Hdr) (zs : List Int), hs[k]? = some h → zss[k]? = some zs → Own64 w B (hdr h) zs
  apart : ∀ (i j : Nat) (h h' : Hdr), hs[i]? = some h → hs[j]? = some h' → i ≠ j → h.1 ≠ h'.1
theorem WoodsP.be {w w' : World} {B g n : Nat} {hs : List Hdr} {zss : List (List Int)} (h : WoodsP w B g n hs zss) (hb : Below w.heap.size w w') : WoodsP w' B g n hs zss :=
  ⟨own_be h.row hb, h.len, fun k h' zs hk hz => own_be (h.each k h' zs hk hz) hb, h.apart⟩
theorem WoodsP.lt {w : World} {B g n : Nat} {hs : List Hdr} {zss : List (List Int)} (h : WoodsP w B g n hs zss) {h' : Hdr} (hh : h' ∈ hs) : h'.1 < w.heap.size := by
  obtain ⟨k, hk⟩ := List.getElem?_of_mem hh
  have hl : k < zss.length := by rw [← h.len]; exact (List.getElem?_eq_some_iff.1 hk).1
  exact (World.ownsRow.lt (h.each k h' _ hk (List.getElem?_eq_getElem hl)) h'.1 rfl).2
theorem rows_ne {w : World} {B g n : Nat} {hs : List Hdr} {zss : List (List Int)} (h : WoodsP w B g n hs zss) {h' : Hdr} (hh : h' ∈ hs) : h'.1 ≠ g := by
  intro e
  obtain ⟨k, hk⟩ := List.getElem?_of_mem hh
  have hl : k < zss.length := by rw [← h.len]; exact (List.getElem?_eq_some_iff.1 hk).1
  have h1 := h.each k h' _ hk (List.getElem?_eq_getElem hl)
  rcases h.row.2 with ⟨e0, _⟩ | ⟨g1, cap, cur, hv, _, hg, _⟩
  · cases e0
  · rcases h1.2 with ⟨e0, _⟩ | ⟨g', cap', cur', hv', _, hg', _⟩
    · cases e0
    · injection hv with e1
      injection e1 with e1
      injection e1 with e1
      injection hv' with e2
      injection e2 with e2
      injection e2 with e2
      rw [← e1] at hg
      rw [← e2, e, hg] at hg'
      injection hg' with hg'
      injection hg' with _ hg'
      exact absurd hg' (by decide)
theorem WoodsP.start {w : World} {n : Nat} (hn : n ≤ maxLen) : WoodsP (w.alloc (.cells (madeCells #[.slice none 0 0] n) 29)) w.heap.size w.heap.size n [] [] := by
  refine ⟨?_, rfl, fun k h zs hk => by simp at hk, fun i j h h' hi => by simp at hi⟩
  have h := World.ownsRow_lit (e := 29) (size := 1) w (madeCells #[.slice none 0 0] n) n (Nat.le_refl _) hn (by simp [size_madeCells])
  rw [toList_madeCells_one] at h
  simpa using h
theorem WoodsP.stop {w : World} {B g n : Nat} {hs : List Hdr} {zss : List (List Int)} (h : WoodsP w B g n hs zss) (hn : hs.length = n) : Woods w B (.slice (some ⟨g, 0, none⟩) n n) hs zss := by
  refine ⟨?_, h.len, h.each, h.apart⟩
  have := h.row
  rw [hn, Nat.sub_self, List.replicate_zero, List.append_nil] at this
  rw [hn]
  exact this
theorem WoodsP.step {w : World} {B g n : Nat} {hs : List Hdr} {zss : List (List Int)} {h0 : Hdr} {zs : List Int} (h : WoodsP w B g n hs zss) (hn : hs.length < n) (ho : Own64 w B (hdr h0) zs) (hne : h0.1 ≠ g) (hfr : ∀ h' ∈ hs, h'.1 ≠ h0.1 ∧ h'.1 ≠ g) :
    WoodsP (w.setCell ⟨g, hs.length, none⟩ (hdr h0)) B g n (hs ++ [h0]) (zss ++ [zs]) := by
  obtain ⟨hst, hgr⟩ := World.ownsRow.stored h.row hs.length (hdr h0)
  refine ⟨?_, by rw [List.length_append, List.length_append, h.len]; rfl, fun k h' ys hk hy => ?_, fun i j h1 h2 hi hj hij => ?_⟩
  · have e : (hs.map hdr ++ List.replicate (n - hs.length) (Value.slice none 0 0)).set hs.length (hdr h0) = (hs ++ [h0]).map hdr ++ List.replicate (n - (hs ++ [h0]).length) (.slice none 0 0) := by
      obtain ⟨m, hm⟩ : ∃ m, n - hs.length = m + 1 := ⟨n - hs.length - 1, by omega⟩
      have hm2 : n - (hs ++ [h0]).length = m := by rw [List.length_append, List.length_singleton]; omega
      rw [hm, hm2, List.replicate_succ, List.map_append]
      have : hs.length = (hs.map hdr).length := by simp
      rw [this, List.set_append_right _ _ (Nat.le_refl _), Nat.sub_self]
      simp
    rw [e] at hst
    exact hst
  · rcases Nat.lt_or_ge k hs.length with hl | hl
    · rw [List.getElem?_append_left hl] at hk
      rw [List.getElem?_append_left (by rw [← h.len]; exact hl)] at hy
      exact (h.each k h' ys hk hy).kept hgr (.inr fun e => (hfr h' (List.mem_of_getElem? hk)).2 (by injection e))
    · rw [List.getElem?_append_right hl] at hk
      rw [List.getElem?_append_right (by rw [← h.len]; exact hl)] at hy
      have e1 : k - hs.length = 0 := by have := (List.getElem?_eq_some_iff.1 hk).1; simp at this; omega
      rw [e1] at hk
      rw [← h.len, e1] at hy
      injection hk with hk
      injection hy with hy
      subst hk
      subst hy
      exact ho.kept hgr (.inr fun e => hne (by injection e))
  · have hsel : ∀ (k : Nat) (h' : Hdr), (hs ++ [h0])[k]? = some h' → (k < hs.length ∧ hs[k]? = some h') ∨ (k = hs.length ∧ h' = h0) := fun k h' hk => by
      rcases Nat.lt_or_ge k hs.length with hl | hl
      · rw [List.getElem?_append_left hl] at hk; exact .inl ⟨hl, hk⟩
      · rw [List.getElem?_append_right hl] at hk
        have e1 : k - hs.length = 0 := by have := (List.getElem?_eq_some_iff.1 hk).1; simp at this; omega
        rw [e1] at hk
        injection hk with hk
        exact .inr ⟨by omega, hk.symm⟩
    rcases hsel i h1 hi with ⟨a1, a2⟩ | ⟨a1, a2⟩ <;> rcases hsel j h2 hj with ⟨b1, b2⟩ | ⟨b1, b2⟩
    · exact h.apart i j h1 h2 a2 b2 hij
    · rw [b2]; exact (hfr h1 (List.mem_of_getElem? a2)).1
    · rw [a2]; exact fun e => (hfr h2 (List.mem_of_getElem? b2)).1 e.symm
    · omega

set_option maxRecDepth 100000 in
set_option maxHeartbeats 2000000 in
theorem toTreeS (A : Option Addr) (zss : List (List Int)) (n c : Nat) (w : World) (hn : Hid (zss.length = n)) (hn' : n ≤ 1048576) (hz : Hid (∀ zs ∈ zss, zs.length ≤ 1000000000000)) (h : Hid (TreesL w A zss)) :
    Calls Try.prog 38 #[.slice A n c] w fun e w' => ∃ g hs, e = .returned (.slice (some ⟨g, 0, none⟩) n n) ∧ Woods w' w.heap.size (.slice (some ⟨g, 0, none⟩) n n) hs zss ∧ Below w.heap.size w w' := by
  obtain ⟨i0, hi0, hz0, hz1, hz2⟩ := info_parts infoTree
  have hmk : ∀ W : World, (Instr.makeSlice 39 (.int .i64 (n : Int)) (.int .i64 (n : Int))).run Try.prog W = .ok (.slice (some ⟨W.heap.size, 0, none⟩) n n) (W.alloc (.cells (madeCells #[.slice none 0 0] n) 29)) := fun W => by
    have := run_make (P := Try.prog) W 39 29 i0 (.agg #[.slice none 0 0]) Try.underlying39 hi0 hz0 .i64 .i64 (n : Int) (n : Int) (by omega) (Int.le_refl _) (by rw [hz2]; omega) (by omega)
    simpa [hz1, Value.cells] using this
  have hst := Lib.hid (WoodsP.start (w := w) (n := n) (by unfold maxLen; omega))
  go_enter Try.func38, Try.ntmps38
  go_wp2
  clear hmk
  go_loopw [4] (fun i wr => ∃ (k : Nat) (hs : List Hdr), k ≤ n ∧ i = .int .i64 (k : Int) ∧ Hid (hs.length = k) ∧ Hid (WoodsP wr w.heap.size w.heap.size n hs (zss.take k)) ∧ Hid (Below w.heap.size w wr)) (fun i _ => n - (intOf i).toNat)
  case atStart => exact ⟨0, [], Nat.zero_le _, rfl, rfl, by simpa [Hid] using hst.out, bal (b0 w) _⟩
  case round =>
    obtain ⟨k, hs, hk, rfl, hhs, hP, hb⟩ := hrel
    clear hst
    by_cases hlt : k < n
    · have hki : (k : Int) < (n : Int) := by omega
      have hk0 : (0 : Int) ≤ (k : Int) := by omega
      have hkz : k < zss.length := by rw [hn.out]; exact hlt
      have hat : zss[k]? = some zss[k] := List.getElem?_eq_getElem hkz
      have hzk := hz.out _ (List.mem_of_getElem? hat)
      generalize zss[k] = zs at hat hzk
      obtain ⟨b, off, rfl, hbl, hc⟩ := h.out (by omega)
      obtain ⟨A1, c1, h1, h2, h3⟩ := hc k zs hat
      have hcl : wr.cell? ⟨b, off + k, none⟩ = some (.slice A1 zs.length c1) := (hb.out.cell (p := ⟨b, off + k, none⟩) hbl).trans h1
      have HTo := Lib.hid (toTree A1 zs c1 wr hzk (h3.be hb.out))
      have hgw := (World.ownsRow.lt hP.out.row w.heap.size rfl).2
      have htk : Hid (zss.take (k + 1) = zss.take k ++ [zs]) := by show _ = _; rw [List.take_add_one, hat]; rfl
      clear hc h1 hkz hat hbl h2 h3
      go_wp2_with fail
      refine HTo.out.mono ?_
      rintro e w7 ⟨g7, rfl, ho7, hb7⟩
      have hP7 := Lib.hid (hP.out.be hb7)
      have hg7 := (World.ownsRow.lt ho7 g7 rfl).1
      have hB7 := Lib.hid (btr hb.out hb7)
      have hzr := hb.out.size
      have hcs : w7.cell? ⟨w.heap.size, k, none⟩ = some (.slice none 0 0) := by
        refine (World.ownsRow.cellAt hP7.out.row k (by omega)).trans ?_
        have := hhs.out
        rw [List.getElem?_append_right (by simp; omega)]
        rw [List.getElem?_replicate, if_pos (by simp; omega)]
      have hfs := World.ownsRow.frozenAt hP7.out.row k
      have hstep : Hid (WoodsP (w7.setCell ⟨w.heap.size, k, none⟩ (.slice (some ⟨g7, 0, none⟩) zs.length zs.length)) w.heap.size w.heap.size n (hs ++ [(g7, zs.length, zs.length)]) (zss.take (k + 1))) := by
        have hl := hhs.out
        have := hP7.out.step (h0 := (g7, zs.length, zs.length)) (zs := zs) (by omega) (own_mono ho7 hzr) (by show g7 ≠ _; omega) (fun h' hh => by have := hP.out.lt hh; exact ⟨by show h'.1 ≠ g7; omega, rows_ne hP.out hh⟩)
        rw [hl] at this
        rw [htk.out]
        exact this
      have hB8 : Hid (Below w.heap.size w (w7.setCell ⟨w.heap.size, k, none⟩ (.slice (some ⟨g7, 0, none⟩) zs.length zs.length))) := below_setCell hB7.out (Nat.le_refl _) _
      have hhs2 : Hid ((hs ++ [(g7, zs.length, zs.length)]).length = k + 1) := by show _ = _; rw [List.length_append, List.length_singleton, hhs.out]
      clear hP hP7 hb7 ho7 hb hB7 hcl hhs HTo
      go_wp2
      go_roundw
      case rel => exact ⟨k + 1, _, by omega, by go_num, hhs2, hstep, hB8⟩
      case measure => simp [intOf]; omega
    · obtain rfl : k = n := by omega
      have hge : ¬ (k : Int) < (k : Int) := by omega
      have hW := Lib.hid (hP.out.stop hhs.out)
      rw [List.take_of_length_le (by rw [hn.out]; exact Nat.le_refl _)] at hW
      clear hP
      go_wp2
      go_ret
      exact ⟨w.heap.size, rfl, ⟨hs, hW.out⟩, hb.out⟩
end Go.Proofs.Ytbdmmeoelagdcaa

/- The length and the capacity of a row of the call's own. -/
namespace Go.Proofs.Ytbdmmeoelagdcaa
open Go.RowKit

theorem own_caps {w : World} {B n c : Nat} {A : Option Addr} {zs : List Int} (h : Own64 w B (.slice A n c) zs) : n ≤ c ∧ c ≤ 9223372036854775807 := by
  rcases h.2 with ⟨e, _⟩ | ⟨g, cap, cur, hv, _, _, h4, h5, _⟩
  · injection e with e1 e2 e3; omega
  · injection hv with e1 e2 e3
    subst e3
    unfold maxLen at h5
    omega
end Go.Proofs.Ytbdmmeoelagdcaa

/- Binary trees and their texts of digits: the mathematics. No program is named here. -/
namespace Go.Proofs.Ytbdmmeoelagdcaa.M
/-- a text by its bytes -/
def bs (l : List UInt8) : ByteArray := ⟨l.toArray⟩
theorem bs_self (s : ByteArray) : bs s.data.toList = s := rfl
theorem bs_data (l : List UInt8) : (bs l).data.toList = l := rfl
theorem bs_size (l : List UInt8) : (bs l).size = l.length := rfl
theorem bs_append (a b : List UInt8) : bs a ++ bs b = bs (a ++ b) := by
  apply ByteArray.ext
  rw [ByteArray.data_append]
  simp [bs]
theorem bs_extract (l : List UInt8) (a b : Nat) : (bs l).extract a b = bs ((l.drop a).take (b - a)) := by
  apply ByteArray.ext
  rw [ByteArray.data_extract]
  simp [bs, List.extract_eq_take_drop]
theorem bs_inj {a b : List UInt8} (h : bs a = bs b) : a = b := by
  have := congrArg (fun s => s.data.toList) h
  exact this
inductive Bin where
  | nil : Bin
  | node (l r : Bin) : Bin

/-- the number of nodes -/
def Bin.n : Bin → Nat
  | .nil => 0
  | .node l r => l.n + r.n + 1
/-- the text of digits -/
def Bin.txt : Bin → List UInt8
  | .nil => [48]
  | .node l r => 49 :: (l.txt ++ r.txt)
theorem Bin.txt_len : ∀ t : Bin, t.txt.length = 2 * t.n + 1
  | .nil => rfl
  | .node l r => by simp only [Bin.txt, Bin.n, List.length_cons, List.length_append, l.txt_len, r.txt_len]; omega
/-- what stands behind o parts -/
def after : List UInt8 → Nat → Option (List UInt8)
  | l, 0 => some l
  | [], _ + 1 => none
  | c :: r, o + 1 => if c = 48 then after r o else if c = 49 then after r (o + 2) else none
theorem after_zero (l : List UInt8) : after l 0 = some l := by cases l <;> rfl
theorem after_nil (o : Nat) : after [] (o + 1) = none := rfl
theorem after_0 (r : List UInt8) (o : Nat) : after (48 :: r) (o + 1) = after r o := by rw [after, if_pos rfl]
theorem after_1 (r : List UInt8) (o : Nat) : after (49 :: r) (o + 1) = after r (o + 2) := by rw [after, if_neg (by decide), if_pos rfl]
theorem after_x {c : UInt8} (r : List UInt8) (o : Nat) (h : c ≠ 48) (h' : c ≠ 49) : after (c :: r) (o + 1) = none := by rw [after, if_neg h, if_neg h']
theorem after_txt : ∀ (t : Bin) (r : List UInt8) (o : Nat), after (t.txt ++ r) (o + 1) = after r o
  | .nil, r, o => after_0 r o
  | .node a b, r, o => by
    rw [Bin.txt, List.cons_append, after_1, List.append_assoc, after_txt a, after_txt b]
theorem after_inv : ∀ (m : Nat) (l : List UInt8) (o : Nat) (r : List UInt8), l.length ≤ m → after l (o + 1) = some r → ∃ (t : Bin) (l' : List UInt8), l = t.txt ++ l' ∧ after l' o = some r := by
  intro m
  induction m with
  | zero =>
    intro l o r h e
    obtain rfl : l = [] := List.eq_nil_of_length_eq_zero (by omega)
    rw [after_nil] at e
    cases e
  | succ m ih =>
    intro l o r h e
    cases l with
    | nil => rw [after_nil] at e; cases e
    | cons c l =>
      simp only [List.length_cons] at h
      by_cases h0 : c = 48
      · subst h0; rw [after_0] at e; exact ⟨.nil, l, rfl, e⟩
      · by_cases h1 : c = 49
        · subst h1
          rw [after_1] at e
          obtain ⟨a, l1, rfl, e1⟩ := ih l (o + 1) r (by omega) e
          obtain ⟨b, l2, rfl, e2⟩ := ih l1 o r (by simp only [List.length_append] at h; omega) e1
          exact ⟨.node a b, l2, by simp [Bin.txt], e2⟩
        · rw [after_x _ _ h0 h1] at e; cases e
theorem after_one {l r : List UInt8} (h : after l 1 = some r) : ∃ t : Bin, l = t.txt ++ r := by
  obtain ⟨t, l', e, e'⟩ := after_inv _ l 0 r (Nat.le_refl _) h
  rw [after_zero] at e'
  injection e' with e'
  exact ⟨t, e' ▸ e⟩
theorem after_two (l : List UInt8) : after l 2 = (after l 1).bind fun r => after r 1 := by
  cases h : after l 1 with
  | some r =>
    obtain ⟨t, rfl⟩ := after_one h
    rw [after_txt]; rfl
  | none =>
    show _ = none
    cases h2 : after l 2 with
    | none => rfl
    | some r =>
      obtain ⟨t, l', rfl, _⟩ := after_inv _ l 1 r (Nat.le_refl _) h2
      rw [after_txt, after_zero] at h
      cases h
theorem after_len {l r : List UInt8} (h : after l 1 = some r) : r.length < l.length := by
  obtain ⟨t, rfl⟩ := after_one h
  have := t.txt_len
  simp only [List.length_append]
  omega
theorem after_self (t : Bin) : after t.txt 1 = some [] := by
  have := after_txt t [] 0
  rwa [List.append_nil, after_zero] at this
theorem txt_inj {a b : Bin} : ∀ {r s : List UInt8}, a.txt ++ r = b.txt ++ s → a = b ∧ r = s := by
  induction a generalizing b with
  | nil =>
    intro r s h
    cases b with
    | nil => simp only [Bin.txt, List.cons_append, List.nil_append, List.cons.injEq] at h; exact ⟨rfl, h.2⟩
    | node c d => simp only [Bin.txt, List.cons_append, List.cons.injEq] at h; exact absurd h.1 (by decide)
  | node l r ihl ihr =>
    intro r' s h
    cases b with
    | nil => simp only [Bin.txt, List.cons_append, List.cons.injEq] at h; exact absurd h.1 (by decide)
    | node c d =>
      simp only [Bin.txt, List.cons_append, List.cons.injEq, true_and, List.append_assoc] at h
      obtain ⟨e1, h1⟩ := ihl h
      obtain ⟨e2, h2⟩ := ihr h1
      exact ⟨by rw [e1, e2], h2⟩
/-- whether the bytes are those of the text of a binary tree -/
def isBin (l : List UInt8) : Bool := decide (l.length ≤ 47) && (after l 1 == some [])
theorem isBin_txt {t : Bin} (h : t.n ≤ 23) : isBin t.txt = true := by
  have := t.txt_len
  simp only [isBin, after_self, Bool.and_eq_true, decide_eq_true_eq, beq_self_eq_true, and_true]
  omega
theorem isBin_inv {l : List UInt8} (h : isBin l = true) : ∃ t : Bin, l = t.txt ∧ t.n ≤ 23 := by
  simp only [isBin, Bool.and_eq_true, decide_eq_true_eq, beq_iff_eq] at h
  obtain ⟨t, e⟩ := after_one h.2
  rw [List.append_nil] at e
  have := t.txt_len
  exact ⟨t, e, by rw [← e] at this; omega⟩
/-- the parts that are still to come at a place of a text -/
theorem after_place : ∀ (k : Nat) (l : List UInt8) (o : Nat) (r : List UInt8), after l o = some r → k + r.length < l.length → ∃ o', after (l.drop k) (o' + 1) = some r := by
  intro k
  induction k with
  | zero =>
    intro l o r h hk
    cases o with
    | zero => rw [after_zero] at h; injection h with h; subst h; omega
    | succ o => exact ⟨o, h⟩
  | succ k ih =>
    intro l o r h hk
    cases o with
    | zero => rw [after_zero] at h; injection h with h; subst h; omega
    | succ o =>
      cases l with
      | nil => rw [after_nil] at h; cases h
      | cons c l =>
        simp only [List.length_cons] at hk
        rw [List.drop_succ_cons]
        by_cases h0 : c = 48
        · subst h0; rw [after_0] at h; exact ih l o r h (by omega)
        · by_cases h1 : c = 49
          · subst h1; rw [after_1] at h; exact ih l (o + 2) r h (by omega)
          · rw [after_x _ _ h0 h1] at h; cases h
end Go.Proofs.Ytbdmmeoelagdcaa.M

/- Patterns and their texts: the mathematics. No program is named here. -/
namespace Go.Proofs.Ytbdmmeoelagdcaa.M
/-- a letter of patterns -/
def isL (c : UInt8) : Bool := decide (97 ≤ c.toNat) && decide (c.toNat ≤ 104)
theorem isL_iff {c : UInt8} : isL c = true ↔ 97 ≤ c.toNat ∧ c.toNat ≤ 104 := by simp [isL]
theorem isL_40 : isL 40 = false := by decide
theorem isL_41 : isL 41 = false := by decide
/-- what stands behind all that o brackets hold open -/
def close : List UInt8 → Nat → Option (List UInt8)
  | l, 0 => some l
  | [], _ + 1 => none
  | c :: r, o + 1 => if c = 41 then close r o else if isL c then close r (o + 1) else if c = 40 then close r (o + 2) else none
/-- what stands behind the piece that begins a text -/
def piece : List UInt8 → Option (List UInt8)
  | [] => none
  | c :: r => if isL c then some r else if c = 40 then close r 1 else none
theorem close_zero (l : List UInt8) : close l 0 = some l := by cases l <;> rfl
theorem close_nil (o : Nat) : close [] (o + 1) = none := rfl
theorem close_shut (r : List UInt8) (o : Nat) : close (41 :: r) (o + 1) = close r o := by rw [close, if_pos rfl]
theorem ne_shut {c : UInt8} (h : isL c = true) : c ≠ 41 := fun e => by rw [e] at h; cases h
theorem ne_open {c : UInt8} (h : isL c = true) : c ≠ 40 := fun e => by rw [e] at h; cases h
theorem close_let {c : UInt8} (h : isL c = true) (r : List UInt8) (o : Nat) : close (c :: r) (o + 1) = close r (o + 1) := by rw [close, if_neg (ne_shut h), if_pos h]
theorem close_open (r : List UInt8) (o : Nat) : close (40 :: r) (o + 1) = close r (o + 2) := by rw [close, if_neg (by decide), if_neg (by decide), if_pos rfl]
theorem close_bad {c : UInt8} (h : isL c = false) (h1 : c ≠ 40) (h2 : c ≠ 41) (r : List UInt8) (o : Nat) : close (c :: r) (o + 1) = none := by rw [close, if_neg h2, if_neg (by simp [h]), if_neg h1]
theorem piece_let {c : UInt8} (h : isL c = true) (r : List UInt8) : piece (c :: r) = some r := by rw [piece, if_pos h]
theorem piece_open (r : List UInt8) : piece (40 :: r) = close r 1 := by rw [piece, if_neg (by decide), if_pos rfl]
theorem piece_bad {c : UInt8} (h : isL c = false) (h1 : c ≠ 40) (r : List UInt8) : piece (c :: r) = none := by rw [piece, if_neg (by simp [h]), if_neg h1]
theorem piece_shut (r : List UInt8) : piece (41 :: r) = none := piece_bad (by decide) (by decide) r
theorem close_drop : ∀ (l : List UInt8) (o : Nat) (r : List UInt8), close l o = some r → r.length + o ≤ l.length ∧ l.drop (l.length - r.length) = r := by
  intro l
  induction l with
  | nil => intro o r h; cases o with
    | zero => rw [close_zero] at h; injection h with h; subst h; simp
    | succ o => rw [close_nil] at h; cases h
  | cons c l ih =>
    intro o r h
    have step : ∀ o', close l o' = some r → r.length + o' ≤ l.length ∧ (c :: l).drop ((c :: l).length - r.length) = r := fun o' h' => by
      obtain ⟨h1, h2⟩ := ih o' r h'
      refine ⟨h1, ?_⟩
      rw [List.length_cons, show l.length + 1 - r.length = (l.length - r.length) + 1 by omega, List.drop_succ_cons, h2]
    cases o with
    | zero => rw [close_zero] at h; injection h with h; subst h; simp
    | succ o =>
      rw [close] at h
      rw [List.length_cons] at *
      split at h
      · have := step o h; exact ⟨by omega, by simpa using this.2⟩
      · split at h
        · have := step (o + 1) h; exact ⟨by omega, by simpa using this.2⟩
        · split at h
          · have := step (o + 2) h; exact ⟨by omega, by simpa using this.2⟩
          · cases h
theorem piece_drop {l r : List UInt8} (h : piece l = some r) : r.length < l.length ∧ l.drop (l.length - r.length) = r := by
  cases l with
  | nil => cases h
  | cons c l =>
    have e : ∀ k : Nat, k ≤ l.length → (c :: l).drop ((c :: l).length - k) = l.drop (l.length - k) := fun k hk => by
      rw [List.length_cons, show l.length + 1 - k = (l.length - k) + 1 by omega, List.drop_succ_cons]
    rw [piece] at h
    split at h
    · injection h with h; subst h
      exact ⟨by simp, by rw [e _ (Nat.le_refl _)]; simp⟩
    · split at h
      · obtain ⟨h1, h2⟩ := close_drop _ _ _ h
        exact ⟨by simp; omega, by rw [e _ (by omega), h2]⟩
      · cases h
theorem piece_take {l r : List UInt8} (h : piece l = some r) : l.take (l.length - r.length) ++ r = l := by
  have := List.take_append_drop (l.length - r.length) l
  rwa [(piece_drop h).2] at this
theorem close_add : ∀ (l : List UInt8) (a b : Nat), close l (a + b) = (close l a).bind (close · b) := by
  intro l
  induction l with
  | nil => intro a b; cases a with
    | zero => rw [close_zero, Nat.zero_add]; rfl
    | succ a => rw [show a + 1 + b = (a + b) + 1 by omega, close_nil, close_nil]; rfl
  | cons c l ih =>
    intro a b
    cases a with
    | zero => rw [close_zero, Nat.zero_add]; rfl
    | succ a =>
      rw [show a + 1 + b = (a + b) + 1 by omega, close, close]
      split
      · exact ih a b
      · split
        · rw [show a + b + 1 = a + 1 + b by omega]; exact ih (a + 1) b
        · split
          · rw [show a + b + 2 = a + 2 + b by omega]; exact ih (a + 2) b
          · rfl
theorem close_piece {c : UInt8} (h : c ≠ 41) (r : List UInt8) (o : Nat) : close (c :: r) (o + 1) = (piece (c :: r)).bind (close · (o + 1)) := by
  rw [close, if_neg h, piece]
  split
  · rfl
  · split
    · rw [show o + 2 = 1 + (o + 1) by omega]; exact close_add r 1 (o + 1)
    · rfl

/-- the same, with letters that have stood -/
def closeU : List UInt8 → Nat → List Bool → Option (List UInt8 × List Bool)
  | l, 0, U => some (l, U)
  | [], _ + 1, _ => none
  | c :: r, o + 1, U => if c = 41 then closeU r o U else if isL c then (if U.getD (c.toNat - 97) true then none else closeU r (o + 1) (U.set (c.toNat - 97) true)) else if c = 40 then closeU r (o + 2) U else none
def pieceU : List UInt8 → List Bool → Option (List UInt8 × List Bool)
  | [], _ => none
  | c :: r, U => if isL c then (if U.getD (c.toNat - 97) true then none else some (r, U.set (c.toNat - 97) true)) else if c = 40 then closeU r 1 U else none
theorem closeU_zero (l : List UInt8) (U : List Bool) : closeU l 0 U = some (l, U) := by cases l <;> rfl
theorem closeU_nil (o : Nat) (U : List Bool) : closeU [] (o + 1) U = none := rfl
theorem closeU_shut (r : List UInt8) (o : Nat) (U : List Bool) : closeU (41 :: r) (o + 1) U = closeU r o U := by rw [closeU, if_pos rfl]
theorem pieceU_used {c : UInt8} (h : isL c = true) (r : List UInt8) {U : List Bool} (hu : U.getD (c.toNat - 97) true = true) : pieceU (c :: r) U = none := by rw [pieceU, if_pos h, if_pos hu]
theorem pieceU_let {c : UInt8} (h : isL c = true) (r : List UInt8) {U : List Bool} (hu : U.getD (c.toNat - 97) true = false) : pieceU (c :: r) U = some (r, U.set (c.toNat - 97) true) := by rw [pieceU, if_pos h, if_neg (by rw [hu]; decide)]
theorem pieceU_open (r : List UInt8) (U : List Bool) : pieceU (40 :: r) U = closeU r 1 U := by rw [pieceU, if_neg (by decide), if_pos rfl]
theorem pieceU_bad {c : UInt8} (h : isL c = false) (h1 : c ≠ 40) (r : List UInt8) (U : List Bool) : pieceU (c :: r) U = none := by rw [pieceU, if_neg (by simp [h]), if_neg h1]
theorem closeU_add : ∀ (l : List UInt8) (a b : Nat) (U : List Bool), closeU l (a + b) U = (closeU l a U).bind fun x => closeU x.1 b x.2 := by
  intro l
  induction l with
  | nil => intro a b U; cases a with
    | zero => rw [closeU_zero, Nat.zero_add]; rfl
    | succ a => rw [show a + 1 + b = (a + b) + 1 by omega, closeU_nil, closeU_nil]; rfl
  | cons c l ih =>
    intro a b U
    cases a with
    | zero => rw [closeU_zero, Nat.zero_add]; rfl
    | succ a =>
      rw [show a + 1 + b = (a + b) + 1 by omega, closeU, closeU]
      split
      · exact ih a b U
      · split
        · split
          · rfl
          · rw [show a + b + 1 = a + 1 + b by omega]; exact ih (a + 1) b _
        · split
          · rw [show a + b + 2 = a + 2 + b by omega]; exact ih (a + 2) b U
          · rfl
theorem closeU_piece {c : UInt8} (h : c ≠ 41) (r : List UInt8) (o : Nat) (U : List Bool) : closeU (c :: r) (o + 1) U = (pieceU (c :: r) U).bind fun x => closeU x.1 (o + 1) x.2 := by
  rw [closeU, if_neg h, pieceU]
  split
  · split <;> rfl
  · split
    · rw [show o + 2 = 1 + (o + 1) by omega]; exact closeU_add r 1 (o + 1) U
    · rfl
theorem closeU_len : ∀ (l : List UInt8) (o : Nat) (U : List Bool) (x : List UInt8 × List Bool), closeU l o U = some x → x.2.length = U.length ∧ x.1.length + o ≤ l.length ∧ l.drop (l.length - x.1.length) = x.1 := by
  intro l
  induction l with
  | nil => intro o U x h; cases o with
    | zero => rw [closeU_zero] at h; injection h with h; subst h; simp
    | succ o => rw [closeU_nil] at h; cases h
  | cons c l ih =>
    intro o U x h
    have step : ∀ o' (V : List Bool), V.length = U.length → closeU l o' V = some x → x.2.length = U.length ∧ x.1.length + o' ≤ l.length ∧ (c :: l).drop (l.length + 1 - x.1.length) = x.1 := fun o' V hV h' => by
      obtain ⟨h0, h1, h2⟩ := ih o' V x h'
      refine ⟨h0.trans hV, h1, ?_⟩
      rw [show l.length + 1 - x.1.length = (l.length - x.1.length) + 1 by omega, List.drop_succ_cons, h2]
    cases o with
    | zero => rw [closeU_zero] at h; injection h with h; subst h; simp
    | succ o =>
      rw [closeU] at h
      rw [List.length_cons]
      split at h
      · obtain ⟨a, b, c⟩ := step o U rfl h; exact ⟨a, by omega, c⟩
      · split at h
        · split at h
          · cases h
          · obtain ⟨a, b, c⟩ := step (o + 1) _ (by simp) h; exact ⟨a, by omega, c⟩
        · split at h
          · obtain ⟨a, b, c⟩ := step (o + 2) U rfl h; exact ⟨a, by omega, c⟩
          · cases h
theorem pieceU_len {l : List UInt8} {U : List Bool} {x : List UInt8 × List Bool} (h : pieceU l U = some x) : x.2.length = U.length ∧ x.1.length < l.length ∧ l.drop (l.length - x.1.length) = x.1 := by
  cases l with
  | nil => cases h
  | cons c l =>
    have e : ∀ k : Nat, k ≤ l.length → (c :: l).drop ((c :: l).length - k) = l.drop (l.length - k) := fun k hk => by
      rw [List.length_cons, show l.length + 1 - k = (l.length - k) + 1 by omega, List.drop_succ_cons]
    rw [pieceU] at h
    split at h
    · split at h
      · cases h
      · injection h with h; subst h
        exact ⟨by simp, by simp, by rw [e _ (Nat.le_refl _)]; simp⟩
    · split at h
      · obtain ⟨h0, h1, h2⟩ := closeU_len _ _ _ _ h
        exact ⟨h0, by simp; omega, by rw [e _ (by omega), h2]⟩
      · cases h
/-- how often the letter i stands in a text -/
def cntL (l : List UInt8) (i : Nat) : Nat := l.countP fun c => c.toNat == 97 + i
theorem cntL_nil (i : Nat) : cntL [] i = 0 := rfl
theorem cntL_cons (c : UInt8) (l : List UInt8) (i : Nat) : cntL (c :: l) i = cntL l i + (if c.toNat = 97 + i then 1 else 0) := by
  rw [cntL, cntL, List.countP_cons]
  by_cases h : c.toNat = 97 + i <;> simp [h]
theorem cntL_other {c : UInt8} (h : isL c = false) (l : List UInt8) {i : Nat} (hi : i < 8) : cntL (c :: l) i = cntL l i := by
  have : ¬ c.toNat = 97 + i := fun e => by simp [isL, e] at h; omega
  rw [cntL_cons, if_neg this]; omega
def usd (U : List Bool) (i : Nat) : Nat := if U.getD i true then 1 else 0
theorem usd_set (U : List Bool) (hU : U.length = 8) {k i : Nat} (hk : k < 8) (hi : i < 8) : usd (U.set k true) i = if i = k then 1 else usd U i := by
  have h2 : (U.set k true).getD i true = if i = k then true else U.getD i true := by
    rw [List.getD_eq_getElem?_getD, List.getD_eq_getElem?_getD, List.getElem?_set]
    by_cases h : k = i
    · subst h; simp [hU, hk]
    · rw [if_neg h, if_neg (fun e => h e.symm)]
  rw [usd, usd, h2]
  by_cases h : i = k
  · rw [if_pos h, if_pos h, if_pos rfl]
  · rw [if_neg h, if_neg h]
theorem closeU_iff : ∀ (l : List UInt8) (o : Nat) (U : List Bool), U.length = 8 → ((∃ V, closeU l o U = some ([], V)) ↔ (close l o = some [] ∧ ∀ i, i < 8 → cntL l i + usd U i ≤ 1)) := by
  intro l
  have hu1 : ∀ (U : List Bool) i, usd U i ≤ 1 := fun U i => by rw [usd]; split <;> omega
  induction l with
  | nil =>
    intro o U hU
    cases o with
    | zero =>
      rw [closeU_zero, close_zero]
      exact ⟨fun _ => ⟨rfl, fun i _ => (by rw [cntL_nil]; have := hu1 U i; omega)⟩, fun _ => ⟨U, rfl⟩⟩
    | succ o =>
      rw [closeU_nil, close_nil]
      exact ⟨fun ⟨_, h⟩ => (by cases h), fun ⟨h, _⟩ => by cases h⟩
  | cons c l ih =>
    intro o U hU
    cases o with
    | zero =>
      rw [closeU_zero, close_zero]
      exact ⟨fun ⟨_, h⟩ => (by injection h with h; injection h with h _; cases h), fun ⟨h, _⟩ => (by injection h with h; cases h)⟩
    | succ o =>
      by_cases h41 : c = 41
      · subst h41
        rw [closeU_shut, close_shut, ih o U hU]
        exact and_congr_right fun _ => forall_congr' fun i => forall_congr' fun hi => by rw [cntL_other (by decide) l hi]
      · cases hL : isL c
        · by_cases h40 : c = 40
          · subst h40
            rw [closeU, if_neg (by decide), if_neg (by decide), if_pos rfl, close_open, ih (o + 2) U hU]
            exact and_congr_right fun _ => forall_congr' fun i => forall_congr' fun hi => by rw [cntL_other (by decide) l hi]
          · rw [closeU, if_neg h41, if_neg (by simp [hL]), if_neg h40, close_bad hL h40 h41]
            exact ⟨fun ⟨_, h⟩ => (by cases h), fun ⟨h, _⟩ => by cases h⟩
        · have hk := isL_iff.1 hL
          rw [closeU, if_neg h41, if_pos hL, close_let hL]
          cases hb : U.getD (c.toNat - 97) true
          · rw [if_neg (by decide), ih (o + 1) _ (by simpa using hU)]
            have h0 : usd U (c.toNat - 97) = 0 := by rw [usd, hb]; rfl
            refine and_congr_right fun _ => forall_congr' fun i => forall_congr' fun hi => ?_
            rw [usd_set U hU (by omega) hi, cntL_cons]
            by_cases he : i = c.toNat - 97
            · have h2 : c.toNat = 97 + i := by omega
              rw [if_pos he, if_pos h2, he, h0]
            · rw [if_neg he, if_neg (by omega)]
              omega
          · rw [if_pos rfl]
            refine ⟨fun ⟨_, h⟩ => (by cases h), fun ⟨_, h⟩ => ?_⟩
            have := h (c.toNat - 97) (by omega)
            rw [cntL_cons, if_pos (by omega), usd, hb, if_pos rfl] at this
            omega
theorem pieceU_iff (l : List UInt8) (U : List Bool) (hU : U.length = 8) : (∃ V, pieceU l U = some ([], V)) ↔ (piece l = some [] ∧ ∀ i, i < 8 → cntL l i + usd U i ≤ 1) := by
  have hu1 : ∀ (U : List Bool) i, usd U i ≤ 1 := fun U i => by rw [usd]; split <;> omega
  cases l with
  | nil => exact ⟨fun ⟨_, h⟩ => (by cases h), fun ⟨h, _⟩ => by cases h⟩
  | cons c l =>
    cases hL : isL c
    · by_cases h40 : c = 40
      · subst h40
        rw [pieceU_open, piece_open, closeU_iff l 1 U hU]
        exact and_congr_right fun _ => forall_congr' fun i => forall_congr' fun hi => by rw [cntL_other (by decide) l hi]
      · rw [pieceU_bad hL h40, piece_bad hL h40]
        exact ⟨fun ⟨_, h⟩ => (by cases h), fun ⟨h, _⟩ => by cases h⟩
    · have hk := isL_iff.1 hL
      rw [piece_let hL]
      cases hb : U.getD (c.toNat - 97) true
      · rw [pieceU_let hL l hb]
        have h0 : usd U (c.toNat - 97) = 0 := by rw [usd, hb]; rfl
        constructor
        · rintro ⟨V, h⟩
          injection h with h
          injection h with h1 h2
          subst h1
          refine ⟨rfl, fun i hi => ?_⟩
          rw [cntL_cons, cntL_nil]
          split
          · have e : i = c.toNat - 97 := by omega
            rw [e, h0]; omega
          · have := hu1 U i; omega
        · rintro ⟨h, _⟩
          injection h with h
          subst h
          exact ⟨_, rfl⟩
      · rw [pieceU_used hL l hb]
        refine ⟨fun ⟨_, h⟩ => (by cases h), fun ⟨_, h⟩ => ?_⟩
        have := h (c.toNat - 97) (by omega)
        rw [cntL_cons, if_pos (by omega), usd, hb, if_pos rfl] at this
        omega
/-- whether a text is a pattern -/
def isPat (l : List UInt8) : Bool := decide (0 < l.length) && decide (l.length ≤ 60) && (piece l == some []) && ((List.range 8).all fun i => decide (cntL l i ≤ 1))
theorem isPat_iff {l : List UInt8} : isPat l = true ↔ l.length ≤ 60 ∧ piece l = some [] ∧ ∀ i, i < 8 → cntL l i ≤ 1 := by
  simp only [isPat, Bool.and_eq_true, decide_eq_true_eq, beq_iff_eq, List.all_eq_true, List.mem_range]
  exact ⟨fun ⟨⟨⟨_, b⟩, c⟩, d⟩ => ⟨b, c, d⟩, fun ⟨b, c, d⟩ => ⟨⟨⟨by have := (piece_drop c).1; simp at this; omega, b⟩, c⟩, d⟩⟩
theorem isPat_U {l : List UInt8} (h60 : l.length ≤ 60) : isPat l = true ↔ ∃ V, pieceU l (List.replicate 8 false) = some ([], V) := by
  rw [isPat_iff, pieceU_iff l _ (by simp)]
  have h : ∀ i, i < 8 → usd (List.replicate 8 false) i = 0 := by decide
  exact ⟨fun ⟨_, b, c⟩ => ⟨b, fun i hi => by rw [h i hi]; exact c i hi⟩, fun ⟨b, c⟩ => ⟨h60, b, fun i hi => by have := c i hi; rw [h i hi] at this; exact this⟩⟩

/-- what has to stand at the letters of a pattern, so that a text comes -/
def mt : List UInt8 → List UInt8 → Option (List (List UInt8))
  | [], _ => some []
  | c :: P, T => if isL c then (match piece T with | none => none | some r => (mt P r).map (T.take (T.length - r.length) :: ·)) else (match T with | [] => none | d :: T' => if d = c then mt P T' else none)
theorem mt_nil (T : List UInt8) : mt [] T = some [] := by rw [mt]
theorem mt_let {c : UInt8} (h : isL c = true) (P : List UInt8) {T r : List UInt8} (hr : piece T = some r) : mt (c :: P) T = (mt P r).map (T.take (T.length - r.length) :: ·) := by rw [mt.eq_def]; simp [h, hr]
theorem mt_none {c : UInt8} (h : isL c = true) (P : List UInt8) {T : List UInt8} (hr : piece T = none) : mt (c :: P) T = none := by rw [mt.eq_def]; simp [h, hr]
theorem mt_same {c : UInt8} (h : isL c = false) (P T : List UInt8) : mt (c :: P) (c :: T) = mt P T := by rw [mt.eq_def]; simp [h]
theorem mt_other {c d : UInt8} (h : isL c = false) (P T : List UInt8) (hd : d ≠ c) : mt (c :: P) (d :: T) = none := by rw [mt.eq_def]; simp [h, hd]
theorem mt_end {c : UInt8} (P : List UInt8) : mt (c :: P) [] = none := by rw [mt.eq_def]; cases h : isL c <;> simp [h, piece]
/-- both texts are read side by side -/
def both (P T : List UInt8) : Prop := (piece P = some [] ∧ piece T = some []) ∨ ∃ o, close P o = some [] ∧ close T o = some []
theorem both_end {T : List UInt8} (h : both [] T) : T = [] := by
  rcases h with ⟨h, _⟩ | ⟨o, h1, h2⟩
  · cases h
  · cases o with
    | zero => rw [close_zero] at h2; injection h2
    | succ o => rw [close_nil] at h1; cases h1
theorem both_more {c : UInt8} {P : List UInt8} (h : both (c :: P) []) : False := by
  rcases h with ⟨_, h⟩ | ⟨o, h1, h2⟩
  · cases h
  · cases o with
    | zero => rw [close_zero] at h1; injection h1 with h1; cases h1
    | succ o => rw [close_nil] at h2; cases h2
theorem both_kind {c : UInt8} {P T : List UInt8} (h : both (c :: P) T) : isL c = true ∨ c = 40 ∨ c = 41 := by
  cases hL : isL c
  · by_cases h0 : c = 40
    · exact .inr (.inl h0)
    · by_cases h1 : c = 41
      · exact .inr (.inr h1)
      · exfalso
        rcases h with ⟨h, _⟩ | ⟨o, h, _⟩
        · rw [piece_bad hL h0] at h; cases h
        · cases o with
          | zero => rw [close_zero] at h; injection h with h; cases h
          | succ o => rw [close_bad hL h0 h1] at h; cases h
  · exact .inl rfl
theorem both_let {c d : UInt8} {P T : List UInt8} (h : both (c :: P) (d :: T)) (hL : isL c = true) (hd : d ≠ 41) : ∃ r, piece (d :: T) = some r ∧ both P r := by
  rcases h with ⟨h1, h2⟩ | ⟨o, h1, h2⟩
  · rw [piece_let hL] at h1
    injection h1 with h1
    subst h1
    exact ⟨[], h2, .inr ⟨0, close_zero _, close_zero _⟩⟩
  · cases o with
    | zero => rw [close_zero] at h1; injection h1 with h1; cases h1
    | succ o =>
      rw [close_let hL] at h1
      rw [close_piece hd] at h2
      cases hp : piece (d :: T) with
      | none => rw [hp] at h2; cases h2
      | some r =>
        rw [hp] at h2
        exact ⟨r, rfl, .inr ⟨o + 1, h1, h2⟩⟩
theorem both_same {c : UInt8} {P T : List UInt8} (h : both (c :: P) (c :: T)) (hL : isL c = false) : both P T := by
  rcases h with ⟨h1, h2⟩ | ⟨o, h1, h2⟩
  · by_cases h0 : c = 40
    · subst h0
      rw [piece_open] at h1 h2
      exact .inr ⟨1, h1, h2⟩
    · rw [piece_bad hL h0] at h1; cases h1
  · cases o with
    | zero => rw [close_zero] at h1; injection h1 with h1; cases h1
    | succ o =>
      by_cases h0 : c = 41
      · subst h0
        rw [close_shut] at h1 h2
        exact .inr ⟨o, h1, h2⟩
      · by_cases h4 : c = 40
        · subst h4
          rw [close_open] at h1 h2
          exact .inr ⟨o + 2, h1, h2⟩
        · rw [close_bad hL h4 h0] at h1; cases h1
theorem mt_shut {c : UInt8} (hL : isL c = true) (P T : List UInt8) : mt (c :: P) (41 :: T) = none := mt_none hL P (piece_shut T)
end Go.Proofs.Ytbdmmeoelagdcaa.M

/- Texts of brackets alone are texts of trees; what stands at the letters of a pattern. The mathematics. -/
namespace Go.Proofs.Ytbdmmeoelagdcaa.M
def isB (c : UInt8) : Prop := c = 40 ∨ c = 41
def toI (l : List UInt8) : List Int := l.map fun b => (b.toNat : Int)
theorem close_prun : ∀ (l : List UInt8) (o : Nat) (r : List UInt8), (∀ c ∈ l, isB c) → close l o = some r → ∀ (ds st : List Int), o ≤ st.length → (o = 0 ∨ ds ≠ []) →
    ∃ ds', prun ds st (toI l) = prun ds' (st.take (st.length - o)) (toI r) ∧ (ds ≠ [] → ds' ≠ []) ∧ ds'.length ≤ ds.length + (l.length - r.length) := by
  intro l
  induction l with
  | nil =>
    intro o r _ h ds st ho _
    cases o with
    | zero => rw [close_zero] at h; injection h with h; subst h; exact ⟨ds, by rw [Nat.sub_zero, List.take_length], id, by omega⟩
    | succ o => rw [close_nil] at h; cases h
  | cons c l ih =>
    intro o r hb h ds st ho hds
    cases o with
    | zero => rw [close_zero] at h; injection h with h; subst h; exact ⟨ds, by rw [Nat.sub_zero, List.take_length], id, by omega⟩
    | succ o =>
      have hb' : ∀ c ∈ l, isB c := fun b h => hb b (List.mem_cons_of_mem _ h)
      have hdn : ds ≠ [] := hds.resolve_left (by omega)
      rcases hb c (List.mem_cons_self ..) with rfl | rfl
      · rw [close_open] at h
        have hr := (close_drop _ _ _ h).1
        obtain ⟨ds', h1, h2, h3⟩ := ih (o + 2) r hb' h (ds.set (st[st.length - 1]?.getD 0).toNat ((ds[(st[st.length - 1]?.getD 0).toNat]?.getD 0) + 1) ++ [0]) (st ++ [(ds.length : Int)]) (by simp; omega) (.inr (by simp))
        refine ⟨ds', ?_, fun _ => h2 (by simp), ?_⟩
        · have e1 : prun ds st (toI (40 :: l)) = prun (ds.set (st[st.length - 1]?.getD 0).toNat ((ds[(st[st.length - 1]?.getD 0).toNat]?.getD 0) + 1) ++ [0]) (st ++ [(ds.length : Int)]) (toI l) := by
            show prun ds st (40 :: toI l) = _
            rw [prun, pstep, if_pos rfl, if_pos (by omega)]
          rw [e1, h1]
          congr 1
          rw [List.length_append, List.length_singleton, show st.length + 1 - (o + 2) = st.length - (o + 1) by omega, List.take_append_of_le_length (by omega)]
        · simp at h3
          simp
          omega
      · rw [close_shut] at h
        have hr := (close_drop _ _ _ h).1
        obtain ⟨ds', h1, h2, h3⟩ := ih o r hb' h ds st.dropLast (by simp; omega) (.inr hdn)
        refine ⟨ds', ?_, h2, ?_⟩
        · have e1 : prun ds st (toI (41 :: l)) = prun ds st.dropLast (toI l) := by
            show prun ds st (41 :: toI l) = _
            rw [prun, pstep, if_neg (by decide), if_pos rfl, if_pos (by omega)]
          rw [e1, h1]
          congr 1
          rw [List.length_dropLast, List.dropLast_eq_take, List.take_take]
          congr 1
          omega
        · simp
          omega
theorem piece_parse {l : List UInt8} (hb : ∀ c ∈ l, isB c) (h : piece l = some []) (hl : l.length ≤ 48) : (parse (toI l)).2 = 0 ∧ (parse (toI l)).1 ≠ [] ∧ (parse (toI l)).1.length ≤ 48 := by
  cases l with
  | nil => cases h
  | cons c l =>
    rcases hb c (List.mem_cons_self ..) with rfl | rfl
    · rw [piece_open] at h
      obtain ⟨ds', h1, h2, h3⟩ := close_prun l 1 [] (fun b h => hb b (List.mem_cons_of_mem _ h)) h [0] [0] (by simp) (.inr (by simp))
      have e1 : prun [] [] (toI (40 :: l)) = some (ds', []) := by
        show prun [] [] (40 :: toI l) = _
        rw [prun, pstep, if_pos rfl, if_neg (by simp), if_pos rfl]
        show prun [0] [0] (toI l) = _
        rw [h1]
        rfl
      have hne := h2 (by simp)
      have e2 : parse (toI (40 :: l)) = (ds', 0) := by
        rw [parse, if_neg (by simp [toI] at hl ⊢; omega), e1]
        simp [hne]
      rw [e2]
      exact ⟨rfl, hne, by simp at h3 hl ⊢; omega⟩
    · rw [piece_shut] at h; cases h
theorem close_take : ∀ (l : List UInt8) (o : Nat) (r : List UInt8), close l o = some r → close (l.take (l.length - r.length)) o = some [] := by
  intro l
  induction l with
  | nil =>
    intro o r h
    cases o with
    | zero => rw [close_zero] at h; injection h with h; subst h; rfl
    | succ o => rw [close_nil] at h; cases h
  | cons c l ih =>
    intro o r h
    have hr := (close_drop _ _ _ h).1
    cases o with
    | zero => rw [close_zero] at h; injection h with h; subst h; simp [close_zero]
    | succ o =>
      have e1 : (c :: l).take ((c :: l).length - r.length) = c :: l.take (l.length - r.length) := by
        rw [List.length_cons] at hr ⊢
        rw [show l.length + 1 - r.length = (l.length - r.length) + 1 by omega, List.take_succ_cons]
      rw [e1, close]
      rw [close] at h
      split
      · rename_i e; rw [if_pos e] at h; exact ih o r h
      · rename_i e
        rw [if_neg e] at h
        split
        · rename_i e2; rw [if_pos e2] at h; exact ih (o + 1) r h
        · rename_i e2
          rw [if_neg e2] at h
          split
          · rename_i e3; rw [if_pos e3] at h; exact ih (o + 2) r h
          · rename_i e3; rw [if_neg e3] at h; cases h
theorem piece_whole {l r : List UInt8} (h : piece l = some r) : piece (l.take (l.length - r.length)) = some [] := by
  have hr := (piece_drop h).1
  cases l with
  | nil => cases h
  | cons c l =>
    have e1 : (c :: l).take ((c :: l).length - r.length) = c :: l.take (l.length - r.length) := by
      rw [List.length_cons] at hr ⊢
      rw [show l.length + 1 - r.length = (l.length - r.length) + 1 by omega, List.take_succ_cons]
    rw [e1, piece]
    rw [piece] at h
    split
    · rename_i e
      rw [if_pos e] at h
      injection h with h
      subst h
      simp
    · rename_i e
      rw [if_neg e] at h
      split
      · rename_i e2; rw [if_pos e2] at h; exact close_take _ _ _ h
      · rename_i e2; rw [if_neg e2] at h; cases h
theorem mt_pieces : ∀ (P T : List UInt8) (ts : List (List UInt8)), mt P T = some ts → ts.length ≤ P.length ∧ ∀ Y ∈ ts, piece Y = some [] ∧ Y.length ≤ T.length ∧ ∀ c ∈ Y, c ∈ T := by
  intro P
  induction P with
  | nil => intro T ts h; rw [mt_nil] at h; injection h with h; subst h; exact ⟨by simp, fun Y h => by cases h⟩
  | cons c P ih =>
    intro T ts h
    cases hc : isL c
    · cases T with
      | nil => rw [mt_end] at h; cases h
      | cons d T =>
        by_cases hd : d = c
        · subst hd
          rw [mt_same hc] at h
          obtain ⟨h1, h2⟩ := ih T ts h
          exact ⟨by simp; omega, fun Y hY => ⟨(h2 Y hY).1, by have := (h2 Y hY).2.1; simp; omega, fun b hb => List.mem_cons_of_mem _ ((h2 Y hY).2.2 b hb)⟩⟩
        · rw [mt_other hc _ _ hd] at h; cases h
    · cases hp : piece T with
      | none => rw [mt_none hc P hp] at h; cases h
      | some r =>
        rw [mt_let hc P hp, Option.map_eq_some_iff] at h
        obtain ⟨ts', h', rfl⟩ := h
        obtain ⟨h1, h2⟩ := ih r ts' h'
        have hd := piece_drop hp
        refine ⟨by simp; omega, fun Y hY => ?_⟩
        rcases List.mem_cons.1 hY with rfl | hY
        · exact ⟨piece_whole hp, by rw [List.length_take]; omega, fun b hb => List.mem_of_mem_take hb⟩
        · exact ⟨(h2 Y hY).1, by have := (h2 Y hY).2.1; omega, fun b hb => by
            have := (h2 Y hY).2.2 b hb
            rw [← hd.2] at this
            exact List.mem_of_mem_drop this⟩
end Go.Proofs.Ytbdmmeoelagdcaa.M

/- Patterns filled with texts: the mathematics. -/
namespace Go.Proofs.Ytbdmmeoelagdcaa.M
/-- a pattern with texts in the place of its letters -/
def fillT : List UInt8 → List (List UInt8) → List UInt8
  | [], _ => []
  | c :: P, ts => if isL c then ts.headD [] ++ fillT P ts.tail else c :: fillT P ts
def nL (P : List UInt8) : Nat := P.countP isL
theorem nL_nil : nL [] = 0 := rfl
theorem nL_let {c : UInt8} (h : isL c = true) (P : List UInt8) : nL (c :: P) = nL P + 1 := by rw [nL, nL, List.countP_cons_of_pos h]
theorem nL_other {c : UInt8} (h : isL c = false) (P : List UInt8) : nL (c :: P) = nL P := by rw [nL, nL, List.countP_cons_of_neg (by simp [h])]
theorem nL_le (P : List UInt8) : nL P ≤ P.length := List.countP_le_length
theorem fillT_let {c : UInt8} (h : isL c = true) (P Y : List UInt8) (ts : List (List UInt8)) : fillT (c :: P) (Y :: ts) = Y ++ fillT P ts := by rw [fillT, if_pos h]; rfl
theorem fillT_other {c : UInt8} (h : isL c = false) (P : List UInt8) (ts : List (List UInt8)) : fillT (c :: P) ts = c :: fillT P ts := by rw [fillT, if_neg (by simp [h])]
/-- a text that reads as one piece wherever it stands -/
def Whole (Y : List UInt8) : Prop := piece Y = some [] ∧ (∀ (r : List UInt8) o, close (Y ++ r) (o + 1) = close r (o + 1)) ∧ ∀ c ∈ Y, isB c
theorem fill_close : ∀ (P : List UInt8) (o : Nat) (ts : List (List UInt8)), close P o = some [] → nL P = ts.length → (∀ Y ∈ ts, Whole Y) → close (fillT P ts) o = some [] ∧ ∀ c ∈ fillT P ts, isB c := by
  intro P
  induction P with
  | nil => intro o ts h _ _; exact ⟨h, fun c hc => by cases hc⟩
  | cons c P ih =>
    intro o ts h hn hw
    cases o with
    | zero => rw [close_zero] at h; injection h with h; cases h
    | succ o =>
      by_cases h41 : c = 41
      · subst h41
        rw [nL_other (by decide)] at hn
        rw [close_shut] at h
        obtain ⟨a, b⟩ := ih o ts h hn hw
        rw [fillT_other (by decide), close_shut]
        exact ⟨a, fun d hd => by rcases List.mem_cons.1 hd with rfl | hd; exact .inr rfl; exact b d hd⟩
      · cases hL : isL c
        · by_cases h40 : c = 40
          · subst h40
            rw [nL_other (by decide)] at hn
            rw [close_open] at h
            obtain ⟨a, b⟩ := ih (o + 2) ts h hn hw
            rw [fillT_other (by decide), close_open]
            exact ⟨a, fun d hd => by rcases List.mem_cons.1 hd with rfl | hd; exact .inl rfl; exact b d hd⟩
          · rw [close_bad hL h40 h41] at h; cases h
        · rw [nL_let hL] at hn
          rw [close_let hL] at h
          cases ts with
          | nil => simp at hn
          | cons Y ts =>
            obtain ⟨w1, w2, w3⟩ := hw Y (List.mem_cons_self ..)
            obtain ⟨a, b⟩ := ih (o + 1) ts h (by simpa using hn) (fun Y h => hw Y (List.mem_cons_of_mem _ h))
            rw [fillT_let hL, w2]
            exact ⟨a, fun d hd => by rcases List.mem_append.1 hd with hd | hd; exact w3 d hd; exact b d hd⟩
theorem fill_piece {P : List UInt8} {ts : List (List UInt8)} (h : piece P = some []) (hn : nL P = ts.length) (hw : ∀ Y ∈ ts, Whole Y) : piece (fillT P ts) = some [] ∧ ∀ c ∈ fillT P ts, isB c := by
  cases P with
  | nil => cases h
  | cons c P =>
    cases hL : isL c
    · by_cases h40 : c = 40
      · subst h40
        rw [nL_other (by decide)] at hn
        rw [piece_open] at h
        obtain ⟨a, b⟩ := fill_close P 1 ts h hn hw
        rw [fillT_other (by decide), piece_open]
        exact ⟨a, fun d hd => by rcases List.mem_cons.1 hd with rfl | hd; exact .inl rfl; exact b d hd⟩
      · rw [piece_bad hL h40] at h; cases h
    · rw [piece_let hL] at h
      injection h with h
      subst h
      rw [nL_let hL, nL_nil] at hn
      cases ts with
      | nil => simp at hn
      | cons Y ts =>
        cases ts with
        | cons _ _ => simp at hn
        | nil =>
          obtain ⟨w1, w2, w3⟩ := hw Y (List.mem_cons_self ..)
          rw [fillT_let hL]
          simp only [fillT, List.append_nil]
          exact ⟨w1, w3⟩
theorem fill_len : ∀ (P : List UInt8) (ts : List (List UInt8)), (∀ Y ∈ ts, Y.length ≤ 48) → (fillT P ts).length ≤ 48 * P.length := by
  intro P
  induction P with
  | nil => intro ts _; simp [fillT]
  | cons c P ih =>
    intro ts h
    cases hL : isL c
    · rw [fillT_other hL]
      have := ih ts h
      simp only [List.length_cons]; omega
    · cases ts with
      | nil =>
        rw [fillT, if_pos hL]
        have := ih [] h
        simp only [List.length_cons, List.headD_nil, List.nil_append, List.tail_nil]; omega
      | cons Y ts =>
        rw [fillT_let hL, List.length_append]
        have := ih ts (fun Y h' => h Y (List.mem_cons_of_mem _ h'))
        have := h Y (List.mem_cons_self ..)
        simp only [List.length_cons]; omega
end Go.Proofs.Ytbdmmeoelagdcaa.M

/- What functions of patterns must do, as F says. -/
namespace Go.Proofs.Ytbdmmeoelagdcaa
open Go.RowKit

/-- a text to a bool -/
def GivesP1 (f : Nat) (F : ByteArray → Bool) : Prop :=
  ∀ (s : ByteArray) (w : World), s.size ≤ 1048576 → Calls Try.prog f #[.string s] w fun e w' => e = .returned (.bool (F s)) ∧ Hid (Below w.heap.size w w')
/-- two texts to a bool and a code -/
def GivesPB (f : Nat) (F : ByteArray → ByteArray → Bool × Int) : Prop :=
  ∀ (s u : ByteArray) (w : World), s.size ≤ 1048576 → u.size ≤ 1048576 → Calls Try.prog f #[.string s, .string u] w fun e w' => e = .returned (.tuple #[.bool (F s u).1, .int .i64 (F s u).2]) ∧ Hid (Below w.heap.size w w')
/-- two texts to a text and a code -/
def GivesPS (f : Nat) (F : ByteArray → ByteArray → ByteArray × Int) : Prop :=
  ∀ (s u : ByteArray) (w : World), s.size ≤ 1048576 → u.size ≤ 1048576 → Calls Try.prog f #[.string s, .string u] w fun e w' => e = .returned (.tuple #[.string (F s u).1, .int .i64 (F s u).2]) ∧ Hid (Below w.heap.size w w')
end Go.Proofs.Ytbdmmeoelagdcaa

/- Contracts of three functions of the library, laid at this program: strings.IndexByte, stringslite.Clone, strings.Map. No conditions but those that each states. -/
namespace Go.Proofs
open Go.Shelf
def Try.lays137_ren : Go.Shelf.Ren := ⟨fun | 137 => 144 | 217 => 165 | 266 => 178 | n => n, fun | 9 => 9 | 5 => 5 | 3 => 3 | n => n, fun | n => n⟩
theorem Try.lays137 : Go.Proofs.Lays.n137 Try.prog Try.lays137_ren := {
  mixed := by kernel_rfl
  f137 := Try.func144.trans (congrArg some (by kernel_rfl))
  f217 := Try.func165.trans (congrArg some (by kernel_rfl))
  f266 := Try.func178.trans (congrArg some (by kernel_rfl))
  t3 := Try.underlying3
  a3 := Try.isAgg3
  z3 := Try.sizeOf3
  v3 := Try.zeroValue3
  t5 := Try.underlying5
  a5 := Try.isAgg5
  z5 := Try.sizeOf5
  v5 := Try.zeroValue5
  t9 := Try.underlying9
  a9 := Try.isAgg9
  z9 := Try.sizeOf9
  v9 := Try.zeroValue9 }
open Go.RowKit in
theorem Try.strings_IndexByte (s : ByteArray) (c : Int) (w : World) :
    Calls Try.prog 144 #[.string s, .int .u8 c] w fun e w' => e = .returned (.int .i64 (Lib.indexByte s.data.toList c.toNat.toUInt8)) ∧ w' = w := Any.strings_IndexByte Try.lays137 s c w
def Try.laysM316_ren : Go.Shelf.Ren := ⟨fun | 316 => 148 | n => n, fun | 9 => 9 | 3 => 3 | 4 => 4 | 37 => 98 | 0 => 0 | 127 => 163 | 5 => 5 | n => n, fun | n => n⟩
theorem Try.laysM316 : Go.Proofs.LaysM.n316 Try.prog Try.laysM316_ren := {
  mixed := by kernel_rfl
  f316 := Try.func148.trans (congrArg some (by kernel_rfl))
  t0 := Try.underlying0
  a0 := Try.isAgg0
  z0 := Try.sizeOf0
  v0 := Try.zeroValue0
  t3 := Try.underlying3
  a3 := Try.isAgg3
  z3 := Try.sizeOf3
  v3 := Try.zeroValue3
  t4 := Try.underlying4
  a4 := Try.isAgg4
  z4 := Try.sizeOf4
  v4 := Try.zeroValue4
  t9 := Try.underlying9
  a9 := Try.isAgg9
  z9 := Try.sizeOf9
  v9 := Try.zeroValue9
  t37 := Try.underlying98
  a37 := Try.isAgg98
  z37 := Try.sizeOf98
  v37 := Try.zeroValue98
  t127 := Try.underlying163
  a127 := Try.isAgg163
  z127 := Try.sizeOf163
  v127 := Try.zeroValue163
  t5 := Try.underlying5
  a5 := Try.isAgg5
  z5 := Try.sizeOf5
  v5 := Try.zeroValue5
  i0 := by kernel_rfl
  i3 := by kernel_rfl
  i4 := by kernel_rfl
  i5 := by kernel_rfl
  i9 := by kernel_rfl
  i37 := by kernel_rfl
  i127 := by kernel_rfl }
open Go.RowKit in
theorem Try.stringslite_Clone (s : ByteArray) (w : World) (hlim : s.size ≤ 281474976710656) :
    Calls Try.prog 148 #[.string s] w fun e w' => e = .returned (.string s) ∧ Below w.heap.size w w' := Any.stringslite_Clone Try.laysM316 s w hlim
def Try.lays138_ren : Go.Shelf.Ren := ⟨fun | 138 => 67 | 195 => 125 | 218 => 126 | 143 => 127 | 219 => 160 | 217 => 165 | 225 => 168 | 224 => 167 | 267 => 177 | 266 => 178 | 314 => 183 | n => n, fun | 9 => 9 | 3 => 3 | 4 => 4 | 5 => 5 | 0 => 0 | 46 => 161 | 146 => 177 | 51 => 176 | n => n, fun | 1 => 0 | n => n⟩
theorem Try.lays138 : Go.Proofs.Lays.n138 Try.prog Try.lays138_ren := {
  mixed := by kernel_rfl
  f138 := Try.func67.trans (congrArg some (by kernel_rfl))
  f143 := Try.func127.trans (congrArg some (by kernel_rfl))
  f195 := Try.func125.trans (congrArg some (by kernel_rfl))
  f217 := Try.func165.trans (congrArg some (by kernel_rfl))
  f218 := Try.func126.trans (congrArg some (by kernel_rfl))
  f219 := Try.func160.trans (congrArg some (by kernel_rfl))
  f224 := Try.func167.trans (congrArg some (by kernel_rfl))
  f225 := Try.func168.trans (congrArg some (by kernel_rfl))
  f266 := Try.func178.trans (congrArg some (by kernel_rfl))
  f267 := Try.func177.trans (congrArg some (by kernel_rfl))
  f314 := Try.func183.trans (congrArg some (by kernel_rfl))
  t0 := Try.underlying0
  a0 := Try.isAgg0
  z0 := Try.sizeOf0
  v0 := Try.zeroValue0
  t3 := Try.underlying3
  a3 := Try.isAgg3
  z3 := Try.sizeOf3
  v3 := Try.zeroValue3
  t4 := Try.underlying4
  a4 := Try.isAgg4
  z4 := Try.sizeOf4
  v4 := Try.zeroValue4
  t5 := Try.underlying5
  a5 := Try.isAgg5
  z5 := Try.sizeOf5
  v5 := Try.zeroValue5
  t9 := Try.underlying9
  a9 := Try.isAgg9
  z9 := Try.sizeOf9
  v9 := Try.zeroValue9
  t46 := Try.underlying161
  a46 := Try.isAgg161
  z46 := Try.sizeOf161
  v46 := Try.zeroValue161
  t51 := Try.underlying176
  a51 := Try.isAgg176
  z51 := Try.sizeOf176
  v51 := Try.zeroValue176
  t146 := Try.underlying177
  a146 := Try.isAgg177
  z146 := Try.sizeOf177
  v146 := Try.zeroValue177
  g1 := by kernel_rfl }
open Go.RowKit Go.Lib in
theorem Try.strings_Count_one (s : ByteArray) (c : UInt8) (w : World) :
    Calls Try.prog 67 #[.string s, .string ⟨#[c]⟩] w fun e w' => e = .returned (.int .i64 (Lib.countByte s.data.toList c)) ∧ w' = w := Any.strings_Count_one Try.lays138 s c w
def Try.lays99_ren : Go.Shelf.Ren := ⟨fun | 99 => 134 | 206 => 161 | n => n, fun | 9 => 9 | 4 => 4 | 3 => 3 | n => n, fun | n => n⟩
theorem Try.lays99 : Go.Proofs.Lays.n99 Try.prog Try.lays99_ren := {
  mixed := by kernel_rfl
  f99 := Try.func134.trans (congrArg some (by kernel_rfl))
  f206 := Try.func161.trans (congrArg some (by kernel_rfl))
  t3 := Try.underlying3
  a3 := Try.isAgg3
  z3 := Try.sizeOf3
  v3 := Try.zeroValue3
  t4 := Try.underlying4
  a4 := Try.isAgg4
  z4 := Try.sizeOf4
  v4 := Try.zeroValue4
  t9 := Try.underlying9
  a9 := Try.isAgg9
  z9 := Try.sizeOf9
  v9 := Try.zeroValue9 }
open Go.RowKit Go.Lib in
theorem Try.strings_HasPrefix (s p : ByteArray) (w : World) :
    Calls Try.prog 134 #[.string s, .string p] w fun e w' => e = .returned (.bool (Lib.hasPrefix s.data.toList p.data.toList)) ∧ w' = w := Any.strings_HasPrefix Try.lays99 s p w
end Go.Proofs

/- isLetter: whether a byte is a letter of patterns. -/
namespace Go.Proofs.Ytbdmmeoelagdcaa
open Go.RowKit

theorem index_all : ∀ n : Fin 256, decide (0 ≤ Lib.indexByte [97, 98, 99, 100, 101, 102, 103, 104] (UInt8.ofNat n.1)) = (decide (97 ≤ n.1) && decide (n.1 ≤ 104)) := by decide +kernel
theorem index_isL (c : UInt8) : decide (0 ≤ Lib.indexByte [97, 98, 99, 100, 101, 102, 103, 104] c) = M.isL c := by
  have h := index_all ⟨c.toNat, c.toNat_lt⟩
  rw [M.isL]
  simpa using h
theorem isLetter (c : UInt8) (w : World) : Calls Try.prog 98 #[.int .u8 (c.toNat : Int)] w fun e w' => e = .returned (.bool (M.isL c)) ∧ w' = w := by
  have h := Try.strings_IndexByte ⟨#[97, 98, 99, 100, 101, 102, 103, 104]⟩ (c.toNat : Int) w
  have hc : ((c.toNat : Int)).toNat.toUInt8 = c := by simp
  rw [hc] at h
  have h2 := index_isL c
  have h3 : (⟨#[97, 98, 99, 100, 101, 102, 103, 104]⟩ : ByteArray).data.toList = [97, 98, 99, 100, 101, 102, 103, 104] := rfl
  rw [h3] at h
  rw [← h2]
  have H := Lib.hid h
  clear h h2 h3 hc
  generalize Lib.indexByte [97, 98, 99, 100, 101, 102, 103, 104] c = z at *
  go_enter Try.func98, Try.ntmps98
  go_wp2_with (go_at_call 144; refine H.out.mono ?_; rintro e w' ⟨rfl, hw⟩; subst hw)
  go_ret
  exact ⟨rfl, rfl⟩
end Go.Proofs.Ytbdmmeoelagdcaa

/- A scope in which the run jumps to labels, several of them: what holds at each jump, and a measure that each pass lowers. No program is named here. -/
namespace Go.Proofs.Ytbdmmeoelagdcaa
open Go

/-- as Q; by a goto to a label l: J l -/
def jumpsTo (J : Nat → Act → World → Prop) (Q : Exit → Act → World → Prop) : Exit → Act → World → Prop
  | .goto l, a, w => J l a w
  | e, a, w => Q e a w

theorem wp_scope_labels {P : Program} {a : Act} {w : World} {Q : Exit → Act → World → Prop} {c : Code} (J : Nat → Act → World → Prop) (μ : Nat → Act → World → Nat)
    (m : Nat) (first : c.wp P (jumpsTo (fun l a w => J l a w ∧ μ l a w < m) Q) a w)
    (pass : ∀ l a w, J l a w → ∃ rest, findLabel c l = some rest ∧ rest.wp P (jumpsTo (fun l' a' w' => J l' a' w' ∧ μ l' a' w' < μ l a w) Q) a w) : (Code.scope c).wp P Q a w := by
  intro b k cs
  have hg : ∀ l rest, findLabel c l = some rest → gotoIn l (.inScope c :: k) = some (.code rest :: .inScope c :: k) := fun l rest hf => by simp [gotoIn, hf]
  have key : ∀ n l a w rest, findLabel c l = some rest → μ l a w = n → J l a w → ∃ e a' w', Q e a' w' ∧ Arrives P (lone (b.at a (.code rest :: .inScope c :: k)) cs w) b k cs e a' w' := by
    intro n
    induction n using Nat.strongRecOn with
    | _ n ih =>
      intro l a w rest hf hn hJ
      obtain ⟨rest', hf', hp⟩ := pass l a w hJ
      rw [hf] at hf'
      injection hf' with hf'
      subst hf'
      obtain ⟨e, a₁, w₁, hq, harr⟩ := hp b (.inScope c :: k) cs
      cases e with
      | normal => exact ⟨.normal, a₁, w₁, hq, Steps.trans harr (.one step_inScope)⟩
      | exit id => exact ⟨.exit id, a₁, w₁, hq, fun k' hk => harr k' (by simp [exitTo, hk])⟩
      | goto l' =>
        obtain ⟨hJ', hlt⟩ := hq
        obtain ⟨r2, hf2, _⟩ := pass l' a₁ w₁ hJ'
        obtain ⟨e₂, a₂, w₂, hq₂, harr₂⟩ := ih _ (by omega) l' a₁ w₁ r2 hf2 rfl hJ'
        exact ⟨e₂, a₂, w₂, hq₂, .of_steps (harr _ (hg _ _ hf2)) harr₂⟩
      | ret => exact ⟨_, a₁, w₁, hq, harr⟩
      | panic ch => exact ⟨_, a₁, w₁, hq, harr⟩
      | outgrown => exact ⟨_, a₁, w₁, hq, harr⟩
  obtain ⟨e, a₁, w₁, hq, harr⟩ := first b (.inScope c :: k) cs
  cases e with
  | normal => exact ⟨.normal, a₁, w₁, hq, .head step_scope (Steps.trans harr (.one step_inScope))⟩
  | exit id => exact ⟨.exit id, a₁, w₁, hq, fun k' hk => .head step_scope (harr k' (by simp [exitTo, hk]))⟩
  | goto l' =>
    obtain ⟨r2, hf2, _⟩ := pass l' a₁ w₁ hq.1
    obtain ⟨e₂, a₂, w₂, hq₂, harr₂⟩ := key _ l' a₁ w₁ r2 hf2 rfl hq.1
    exact ⟨e₂, a₂, w₂, hq₂, .of_steps (.head step_scope (harr _ (hg _ _ hf2))) harr₂⟩
  | ret => exact ⟨_, a₁, w₁, hq, .of_steps (.one step_scope) harr⟩
  | panic ch => exact ⟨_, a₁, w₁, hq, .of_steps (.one step_scope) harr⟩
  | outgrown => exact ⟨_, a₁, w₁, hq, .of_steps (.one step_scope) harr⟩
end Go.Proofs.Ytbdmmeoelagdcaa

/- pieceOf: the piece with which a text begins (a machine with three labels). -/
namespace Go.Proofs.Ytbdmmeoelagdcaa
open Go.RowKit

/-- the piece with which a text begins, or nothing -/
def M.pieceT (l : List UInt8) : List UInt8 := match M.piece l with | none => [] | some r => l.take (l.length - r.length)
theorem M.pieceT_none {l : List UInt8} (h : M.piece l = none) : M.pieceT l = [] := by rw [M.pieceT, h]
theorem M.pieceT_some {l r : List UInt8} (h : M.piece l = some r) : M.pieceT l = l.take (l.length - r.length) := by rw [M.pieceT, h]
/-- what the machine's numbers tell at its labels -/
def at0 (L : List UInt8) (R : Option (List UInt8)) (k o : Nat) : Prop := (o = 0 ∧ k = 0 ∧ M.piece L = R) ∨ (0 < o ∧ (∀ c, L[k]? = some c → c ≠ 41) ∧ M.close (L.drop k) o = R)
def at1 (L : List UInt8) (R : Option (List UInt8)) (k o : Nat) : Prop := 0 < o ∧ M.close (L.drop k) o = R
def at2 (L : List UInt8) (R : Option (List UInt8)) (k o : Nat) : Prop := k < L.length ∧ M.close (L.drop (k + 1)) o = R
def rankOf : Nat → Nat
  | 0 => 1
  | 1 => 0
  | _ => 2
theorem at0_end {L : List UInt8} {R : Option (List UInt8)} {k o : Nat} (h : at0 L R k o) (hk : L.drop k = []) : R = none := by
  rcases h with ⟨rfl, rfl, h⟩ | ⟨h0, _, h⟩
  · rw [List.drop_zero] at hk; rw [← h, hk]; rfl
  · obtain ⟨m, rfl⟩ : ∃ m, o = m + 1 := ⟨o - 1, by omega⟩
    rw [← h, hk]; rfl
theorem at0_let {L : List UInt8} {R : Option (List UInt8)} {k o : Nat} {c : UInt8} (h : at0 L R k o) (hk : L.drop k = c :: L.drop (k + 1)) (hlt : k < L.length) (hc : M.isL c = true) : at2 L R k o := by
  refine ⟨hlt, ?_⟩
  rcases h with ⟨rfl, rfl, h⟩ | ⟨h0, _, h⟩
  · rw [List.drop_zero] at hk
    have e : M.piece L = M.piece (c :: L.drop 1) := congrArg M.piece hk
    rw [← h, e, M.piece_let hc, M.close_zero]
  · obtain ⟨m, rfl⟩ : ∃ m, o = m + 1 := ⟨o - 1, by omega⟩
    rw [← h, hk, M.close_let hc]
theorem at0_open {L : List UInt8} {R : Option (List UInt8)} {k o : Nat} (h : at0 L R k o) (hk : L.drop k = 40 :: L.drop (k + 1)) : at1 L R (k + 1) (o + 1) := by
  refine ⟨by omega, ?_⟩
  rcases h with ⟨rfl, rfl, h⟩ | ⟨h0, _, h⟩
  · rw [List.drop_zero] at hk
    have e : M.piece L = M.piece (40 :: L.drop 1) := congrArg M.piece hk
    rw [← h, e, M.piece_open]
  · obtain ⟨m, rfl⟩ : ∃ m, o = m + 1 := ⟨o - 1, by omega⟩
    rw [← h, hk, M.close_open]
theorem at0_bad {L : List UInt8} {R : Option (List UInt8)} {k o : Nat} {c : UInt8} (h : at0 L R k o) (hk : L.drop k = c :: L.drop (k + 1)) (hkc : L[k]? = some c) (hc : M.isL c = false) (h40 : c ≠ 40) : R = none := by
  rcases h with ⟨rfl, rfl, h⟩ | ⟨h0, h1, h⟩
  · rw [List.drop_zero] at hk; rw [← h, hk, M.piece_bad hc h40]
  · obtain ⟨m, rfl⟩ : ∃ m, o = m + 1 := ⟨o - 1, by omega⟩
    rw [← h, hk, M.close_bad hc h40 (h1 c hkc)]
theorem at1_on {L : List UInt8} {R : Option (List UInt8)} {k o : Nat} (h : at1 L R k o) (h1 : ∀ c, L[k]? = some c → c ≠ 41) : at0 L R k o := .inr ⟨h.1, h1, h.2⟩
theorem at1_shut {L : List UInt8} {R : Option (List UInt8)} {k o : Nat} (h : at1 L R k (o + 1)) (hk : L.drop k = 41 :: L.drop (k + 1)) (hlt : k < L.length) : at2 L R k o := ⟨hlt, by rw [← h.2, hk, M.close_shut]⟩
theorem at2_on {L : List UInt8} {R : Option (List UInt8)} {k o : Nat} (h : at2 L R k o) (h0 : 0 < o) : at1 L R (k + 1) o := ⟨h0, h.2⟩
theorem at2_end {L : List UInt8} {k : Nat} (h : at2 L (M.piece L) k 0) : M.pieceT L = L.take (k + 1) := by
  have h2 := h.2
  rw [M.close_zero] at h2
  rw [M.pieceT_some h2.symm, List.length_drop]
  congr 1
  have := h.1
  omega
theorem ne_byte {b c : UInt8} (h : b ≠ c) : ((b.toNat : Int) != (c.toNat : Int)) = true := bne_iff_ne.2 fun e => h (UInt8.toNat_inj.1 (by omega))
theorem byte_here (s : ByteArray) {k : Nat} (h : k < s.size) : s.data.toList.drop k = s[k] :: s.data.toList.drop (k + 1) := by
  have h2 : k < s.data.toList.length := by rw [← Lib.size_eq]; exact h
  rw [List.drop_eq_getElem_cons h2]
  congr 1
theorem take_str (s : ByteArray) (k : Nat) : s.extract 0 k = M.bs (s.data.toList.take k) := by
  rw [Lib.extract_eq, List.drop_zero]
  rfl

/-- what holds at a label: 0 where a piece begins, 2 inside a piece, 1 at a piece's last byte -/
def atL (L : List UInt8) (R : Option (List UInt8)) (l k o : Nat) : Prop := (l = 0 ∧ at0 L R k o) ∨ (l = 2 ∧ at1 L R k o) ∨ (l = 1 ∧ at2 L R k o)
theorem atL0 {L : List UInt8} {R : Option (List UInt8)} {k o : Nat} (h : at0 L R k o) : atL L R 0 k o := .inl ⟨rfl, h⟩
theorem atL2 {L : List UInt8} {R : Option (List UInt8)} {k o : Nat} (h : at1 L R k o) : atL L R 2 k o := .inr (.inl ⟨rfl, h⟩)
theorem atL1 {L : List UInt8} {R : Option (List UInt8)} {k o : Nat} (h : at2 L R k o) : atL L R 1 k o := .inr (.inr ⟨rfl, h⟩)
/-- the frame at a jump -/
def Fr (s : ByteArray) (i j : Int) (a : Act) : Prop := ∃ u1 u2 u5 u6 u7 u8 u9 u10 u11 u12 u13 u14 u15 u16 u17 u18 u19 u20 u21 u22 u23 u24 u25 u26 u27 u28 u29 u30 u31 u32 u33 u34 u35 u36 u37 u38 u39 : Value, a = { tmps := #[.string s, u1, u2, .int .i64 i, .int .i64 j, u5, u6, u7, u8, u9, u10, u11, u12, u13, u14, u15, u16, u17, u18, u19, u20, u21, u22, u23, u24, u25, u26, u27, u28, u29, u30, u31, u32, u33, u34, u35, u36, u37, u38, u39], defers := [] }

set_option maxRecDepth 100000 in
set_option maxHeartbeats 4000000 in
theorem pieceOf (s : ByteArray) (w : World) (hs : s.size ≤ 1048576) :
    Calls Try.prog 107 #[.string s] w fun e w' => e = .returned (.string (M.bs (M.pieceT s.data.toList))) ∧ w' = w := by
  have hL : Hid (s.data.toList.length = s.size) := (Lib.size_eq s).symm
  have hby : Hid (∀ k (h : k < s.size), s.data.toList.drop k = s[k] :: s.data.toList.drop (k + 1)) := fun k h => byte_here s h
  have hat : Hid (∀ k (h : k < s.size), s.data.toList[k]? = some s[k]) := fun k h => by
    rw [← List.head?_drop, byte_here s h]; rfl
  have hIs : Hid (∀ c W, Calls Try.prog 98 #[.int .u8 ((c : UInt8).toNat : Int)] W fun e w' => e = .returned (.bool (M.isL c)) ∧ w' = W) := isLetter
  have hTk : Hid (∀ k, s.extract 0 k = M.bs (s.data.toList.take k)) := take_str s
  have hEnd : Hid (∀ k, at2 s.data.toList (M.piece s.data.toList) k 0 → M.pieceT s.data.toList = s.data.toList.take (k + 1)) := fun k h => at2_end h
  have hNo : Hid (M.piece s.data.toList = none → M.bs (M.pieceT s.data.toList) = ⟨#[]⟩) := fun h => by rw [M.pieceT_none h]; rfl
  have hB0 : Hid (at0 s.data.toList (M.piece s.data.toList) 0 0) := .inl ⟨rfl, rfl, rfl⟩
  generalize s.data.toList = L at *
  go_enter Try.func107, Try.ntmps107
  go_wp2
  refine wp_scope_labels (fun l a' w' => w' = w ∧ ∃ (k o : Nat) (i j : Int), i = (k : Int) ∧ j = (o : Int) ∧ k ≤ s.size ∧ o ≤ k + 1 ∧ Fr s i j a' ∧ Hid (atL L (M.piece L) l k o)) (fun l a' _ => 3 * (s.size - (intOf (a'.tmps.getD 3 undef)).toNat) + rankOf l) (3 * s.size + 3) ?_ ?_
  · go_wp2
    go_step3
    by_cases hlt : 0 < s.size
    · have hi0 : (((0 : Nat) : Int) == (s.size : Int)) = false := beq_eq_false_iff_ne.2 (by omega)
      have hd0 := Lib.hid (hby.out (0) hlt)
      have hg0 := Lib.hid (hat.out (0) hlt)
      cases hc : M.isL s[0]
      · have hI := fun W => Lib.hid (hIs.out s[0] W)
        rw [hc] at hI
        by_cases h40 : s[0] = 40
        · have e40 : ((s[0].toNat : Int) != 40) = false := by rw [h40]; rfl
          have h2 : Hid (at1 L (M.piece L) (0 + 1) (0 + 1)) := at0_open hB0.out (by rw [hd0.out, h40])
          clear hd0 hg0 h40 hc
          go_wp2_with (go_at_call 98; refine (hI _).out.mono ?_; rintro e w' ⟨rfl, hw⟩; subst hw)
          go_step3
          by_cases hle : 0 + 1 < s.size
          · have hi1 : (((0 + 1 : Nat) : Int) == (s.size : Int)) = false := beq_eq_false_iff_ne.2 (by omega)
            have hd := Lib.hid (hby.out (0 + 1) hle)
            have hg := Lib.hid (hat.out (0 + 1) hle)
            by_cases h41 : s[0 + 1] = 41
            · have e41 : ((s[0 + 1].toNat : Int) != 41) = false := by rw [h41]; rfl
              obtain ⟨m, hm⟩ : ∃ m, 0 + 1 = m + 1 := ⟨0 + 1 - 1, by have := h2.out.1; omega⟩
              have hJ2 : Hid (at2 L (M.piece L) (0 + 1) m) := at1_shut (hm ▸ h2.out) (by rw [hd.out, h41]) (by have := hL.out; omega)
              have hw1 : IntKind.i64.wrap (((0 + 1 : Nat) : Int) - 1) = (m : Int) := by rw [IntWalk.i64_in _ (by omega)]; omega
              clear h41 hd hg
              by_cases h0 : 0 < m
              · have hoi : (0 : Int) < ((m : Nat) : Int) := by omega
                have hJ := Lib.hid (atL2 (at2_on hJ2.out h0))
                clear hEnd hNo hTk hby
                go_wp2
                all_goals go_step3
                all_goals go_wp2
                all_goals go_step3
                all_goals refine ⟨⟨rfl, 0 + 1 + 1, m, _, _, ?_, ?_, by omega, by omega, ⟨_, _, _, _, _, _, _, _, _, _, _, _, _, _, _, _, _, _, _, _, _, _, _, _, _, _, _, _, _, _, _, _, _, _, _, _, _, rfl⟩, hJ⟩, ?_⟩
                all_goals (first | omega | (simp [intOf, rankOf]; done) | (simp [intOf, rankOf]; omega))
              · obtain rfl : m = 0 := by omega
                have hE := Lib.hid (hEnd.out _ hJ2.out)
                clear hEnd hNo hby
                have hx := Lib.hid (hTk.out (0 + 1 + 1))
                go_wp2
                all_goals go_step3
                all_goals go_wp2
                all_goals simp only [jumpsTo]
                all_goals go_ret
                all_goals rw [hE.out, ← hx.out]
                all_goals exact ⟨rfl, rfl⟩
            · have e41 : ((s[0 + 1].toNat : Int) != 41) = true := ne_byte h41
              have hJ := Lib.hid (atL0 (at1_on h2.out fun c hc => by rw [hg.out] at hc; injection hc with hc; rw [← hc]; exact h41))
              clear hEnd hNo hTk hby h41 hd hg
              go_wp2
              all_goals go_step3
              all_goals refine ⟨⟨rfl, 0 + 1, 0 + 1, _, _, ?_, ?_, by omega, by omega, ⟨_, _, _, _, _, _, _, _, _, _, _, _, _, _, _, _, _, _, _, _, _, _, _, _, _, _, _, _, _, _, _, _, _, _, _, _, _, rfl⟩, hJ⟩, ?_⟩
              all_goals (first | omega | (simp [intOf, rankOf]; done) | (simp [intOf, rankOf]; omega))
          · have hi1 : (((0 + 1 : Nat) : Int) == (s.size : Int)) = true := beq_iff_eq.2 (by omega)
            have hJ := Lib.hid (atL0 (at1_on h2.out fun c hc => by have := (List.getElem?_eq_some_iff.1 hc).1; have := hL.out; omega))
            clear hEnd hNo hTk hby
            go_wp2
            all_goals go_step3
            all_goals refine ⟨⟨rfl, 0 + 1, 0 + 1, _, _, ?_, ?_, by omega, by omega, ⟨_, _, _, _, _, _, _, _, _, _, _, _, _, _, _, _, _, _, _, _, _, _, _, _, _, _, _, _, _, _, _, _, _, _, _, _, _, rfl⟩, hJ⟩, ?_⟩
            all_goals (first | omega | (simp [intOf, rankOf]; done) | (simp [intOf, rankOf]; omega))
        · have e40 : ((s[0].toNat : Int) != 40) = true := ne_byte h40
          have hE := Lib.hid (hNo.out (at0_bad hB0.out hd0.out hg0.out hc h40))
          clear hEnd hNo hTk hby hd0 hg0 hc h40
          go_wp2_with (go_at_call 98; refine (hI _).out.mono ?_; rintro e w' ⟨rfl, hw⟩; subst hw)
          simp only [jumpsTo]
          go_ret
          rw [hE.out]
          exact ⟨rfl, rfl⟩
      · have hI := fun W => Lib.hid (hIs.out s[0] W)
        rw [hc] at hI
        have hJ := Lib.hid (atL1 (at0_let hB0.out hd0.out (by have := hL.out; omega) hc))
        clear hEnd hNo hTk hby hd0 hg0 hc
        go_wp2_with (go_at_call 98; refine (hI _).out.mono ?_; rintro e w' ⟨rfl, hw⟩; subst hw)
        all_goals go_step3
        all_goals refine ⟨⟨rfl, 0, 0, _, _, ?_, ?_, by omega, by omega, ⟨_, _, _, _, _, _, _, _, _, _, _, _, _, _, _, _, _, _, _, _, _, _, _, _, _, _, _, _, _, _, _, _, _, _, _, _, _, rfl⟩, hJ⟩, ?_⟩
        all_goals (first | omega | (simp [intOf, rankOf]; done) | (simp [intOf, rankOf]; omega))
    · have hi0 : (((0 : Nat) : Int) == (s.size : Int)) = true := beq_iff_eq.2 (by omega)
      have hE := Lib.hid (hNo.out (at0_end hB0.out (List.drop_of_length_le (by have := hL.out; omega))))
      clear hEnd hNo hTk hby
      go_wp2
      simp only [jumpsTo]
      go_ret
      rw [hE.out]
      exact ⟨rfl, rfl⟩
  · rintro l a' w' ⟨rfl, k, o, i, j, rfl, rfl, hk, ho, ⟨u1, u2, u5, u6, u7, u8, u9, u10, u11, u12, u13, u14, u15, u16, u17, u18, u19, u20, u21, u22, u23, u24, u25, u26, u27, u28, u29, u30, u31, u32, u33, u34, u35, u36, u37, u38, u39, rfl⟩, hj⟩
    rcases hj.out with ⟨rfl, h⟩ | ⟨rfl, h⟩ | ⟨rfl, h⟩
    · refine ⟨_, rfl, ?_⟩
      replace h := Lib.hid h
      clear hj hB0
      by_cases hlt : k < s.size
      · have hi0 : (((k : Nat) : Int) == (s.size : Int)) = false := beq_eq_false_iff_ne.2 (by omega)
        have hd0 := Lib.hid (hby.out (k) hlt)
        have hg0 := Lib.hid (hat.out (k) hlt)
        cases hc : M.isL s[k]
        · have hI := fun W => Lib.hid (hIs.out s[k] W)
          rw [hc] at hI
          by_cases h40 : s[k] = 40
          · have e40 : ((s[k].toNat : Int) != 40) = false := by rw [h40]; rfl
            have h2 : Hid (at1 L (M.piece L) (k + 1) (o + 1)) := at0_open h.out (by rw [hd0.out, h40])
            clear hd0 hg0 h40 hc
            go_wp2_with (go_at_call 98; refine (hI _).out.mono ?_; rintro e w' ⟨rfl, hw⟩; subst hw)
            go_step3
            by_cases hle : k + 1 < s.size
            · have hi1 : (((k + 1 : Nat) : Int) == (s.size : Int)) = false := beq_eq_false_iff_ne.2 (by omega)
              have hd := Lib.hid (hby.out (k + 1) hle)
              have hg := Lib.hid (hat.out (k + 1) hle)
              by_cases h41 : s[k + 1] = 41
              · have e41 : ((s[k + 1].toNat : Int) != 41) = false := by rw [h41]; rfl
                obtain ⟨m, hm⟩ : ∃ m, o + 1 = m + 1 := ⟨o + 1 - 1, by have := h2.out.1; omega⟩
                have hJ2 : Hid (at2 L (M.piece L) (k + 1) m) := at1_shut (hm ▸ h2.out) (by rw [hd.out, h41]) (by have := hL.out; omega)
                have hw1 : IntKind.i64.wrap (((o + 1 : Nat) : Int) - 1) = (m : Int) := by rw [IntWalk.i64_in _ (by omega)]; omega
                clear h41 hd hg
                by_cases h0 : 0 < m
                · have hoi : (0 : Int) < ((m : Nat) : Int) := by omega
                  have hJ := Lib.hid (atL2 (at2_on hJ2.out h0))
                  clear hEnd hNo hTk hby
                  go_wp2
                  all_goals go_step3
                  all_goals go_wp2
                  all_goals go_step3
                  all_goals refine ⟨⟨rfl, k + 1 + 1, m, _, _, ?_, ?_, by omega, by omega, ⟨_, _, _, _, _, _, _, _, _, _, _, _, _, _, _, _, _, _, _, _, _, _, _, _, _, _, _, _, _, _, _, _, _, _, _, _, _, rfl⟩, hJ⟩, ?_⟩
                  all_goals (first | omega | (simp [intOf, rankOf]; done) | (simp [intOf, rankOf]; omega))
                · obtain rfl : m = 0 := by omega
                  have hE := Lib.hid (hEnd.out _ hJ2.out)
                  clear hEnd hNo hby
                  have hx := Lib.hid (hTk.out (k + 1 + 1))
                  go_wp2
                  all_goals go_step3
                  all_goals go_wp2
                  all_goals simp only [jumpsTo]
                  all_goals go_ret
                  all_goals rw [hE.out, ← hx.out]
                  all_goals exact ⟨rfl, rfl⟩
              · have e41 : ((s[k + 1].toNat : Int) != 41) = true := ne_byte h41
                have hJ := Lib.hid (atL0 (at1_on h2.out fun c hc => by rw [hg.out] at hc; injection hc with hc; rw [← hc]; exact h41))
                clear hEnd hNo hTk hby h41 hd hg
                go_wp2
                all_goals go_step3
                all_goals refine ⟨⟨rfl, k + 1, o + 1, _, _, ?_, ?_, by omega, by omega, ⟨_, _, _, _, _, _, _, _, _, _, _, _, _, _, _, _, _, _, _, _, _, _, _, _, _, _, _, _, _, _, _, _, _, _, _, _, _, rfl⟩, hJ⟩, ?_⟩
                all_goals (first | omega | (simp [intOf, rankOf]; done) | (simp [intOf, rankOf]; omega))
            · have hi1 : (((k + 1 : Nat) : Int) == (s.size : Int)) = true := beq_iff_eq.2 (by omega)
              have hJ := Lib.hid (atL0 (at1_on h2.out fun c hc => by have := (List.getElem?_eq_some_iff.1 hc).1; have := hL.out; omega))
              clear hEnd hNo hTk hby
              go_wp2
              all_goals go_step3
              all_goals refine ⟨⟨rfl, k + 1, o + 1, _, _, ?_, ?_, by omega, by omega, ⟨_, _, _, _, _, _, _, _, _, _, _, _, _, _, _, _, _, _, _, _, _, _, _, _, _, _, _, _, _, _, _, _, _, _, _, _, _, rfl⟩, hJ⟩, ?_⟩
              all_goals (first | omega | (simp [intOf, rankOf]; done) | (simp [intOf, rankOf]; omega))
          · have e40 : ((s[k].toNat : Int) != 40) = true := ne_byte h40
            have hE := Lib.hid (hNo.out (at0_bad h.out hd0.out hg0.out hc h40))
            clear hEnd hNo hTk hby hd0 hg0 hc h40
            go_wp2_with (go_at_call 98; refine (hI _).out.mono ?_; rintro e w' ⟨rfl, hw⟩; subst hw)
            simp only [jumpsTo]
            go_ret
            rw [hE.out]
            exact ⟨rfl, rfl⟩
        · have hI := fun W => Lib.hid (hIs.out s[k] W)
          rw [hc] at hI
          have hJ := Lib.hid (atL1 (at0_let h.out hd0.out (by have := hL.out; omega) hc))
          clear hEnd hNo hTk hby hd0 hg0 hc
          go_wp2_with (go_at_call 98; refine (hI _).out.mono ?_; rintro e w' ⟨rfl, hw⟩; subst hw)
          all_goals go_step3
          all_goals refine ⟨⟨rfl, k, o, _, _, ?_, ?_, by omega, by omega, ⟨_, _, _, _, _, _, _, _, _, _, _, _, _, _, _, _, _, _, _, _, _, _, _, _, _, _, _, _, _, _, _, _, _, _, _, _, _, rfl⟩, hJ⟩, ?_⟩
          all_goals (first | omega | (simp [intOf, rankOf]; done) | (simp [intOf, rankOf]; omega))
      · have hi0 : (((k : Nat) : Int) == (s.size : Int)) = true := beq_iff_eq.2 (by omega)
        have hE := Lib.hid (hNo.out (at0_end h.out (List.drop_of_length_le (by have := hL.out; omega))))
        clear hEnd hNo hTk hby
        go_wp2
        simp only [jumpsTo]
        go_ret
        rw [hE.out]
        exact ⟨rfl, rfl⟩
    · refine ⟨_, rfl, ?_⟩
      replace h := Lib.hid h
      clear hj hB0
      by_cases hle : k < s.size
      · have hi1 : (((k : Nat) : Int) == (s.size : Int)) = false := beq_eq_false_iff_ne.2 (by omega)
        have hd := Lib.hid (hby.out (k) hle)
        have hg := Lib.hid (hat.out (k) hle)
        by_cases h41 : s[k] = 41
        · have e41 : ((s[k].toNat : Int) != 41) = false := by rw [h41]; rfl
          obtain ⟨m, hm⟩ : ∃ m, o = m + 1 := ⟨o - 1, by have := h.out.1; omega⟩
          have hJ2 : Hid (at2 L (M.piece L) (k) m) := at1_shut (hm ▸ h.out) (by rw [hd.out, h41]) (by have := hL.out; omega)
          have hw1 : IntKind.i64.wrap (((o : Nat) : Int) - 1) = (m : Int) := by rw [IntWalk.i64_in _ (by omega)]; omega
          clear h41 hd hg
          by_cases h0 : 0 < m
          · have hoi : (0 : Int) < ((m : Nat) : Int) := by omega
            have hJ := Lib.hid (atL2 (at2_on hJ2.out h0))
            clear hEnd hNo hTk hby
            go_wp2
            all_goals go_step3
            all_goals go_wp2
            all_goals go_step3
            all_goals refine ⟨⟨rfl, k + 1, m, _, _, ?_, ?_, by omega, by omega, ⟨_, _, _, _, _, _, _, _, _, _, _, _, _, _, _, _, _, _, _, _, _, _, _, _, _, _, _, _, _, _, _, _, _, _, _, _, _, rfl⟩, hJ⟩, ?_⟩
            all_goals (first | omega | (simp [intOf, rankOf]; done) | (simp [intOf, rankOf]; omega))
          · obtain rfl : m = 0 := by omega
            have hE := Lib.hid (hEnd.out _ hJ2.out)
            clear hEnd hNo hby
            have hx := Lib.hid (hTk.out (k + 1))
            go_wp2
            all_goals go_step3
            all_goals go_wp2
            all_goals simp only [jumpsTo]
            all_goals go_ret
            all_goals rw [hE.out, ← hx.out]
            all_goals exact ⟨rfl, rfl⟩
        · have e41 : ((s[k].toNat : Int) != 41) = true := ne_byte h41
          have hJ := Lib.hid (atL0 (at1_on h.out fun c hc => by rw [hg.out] at hc; injection hc with hc; rw [← hc]; exact h41))
          clear hEnd hNo hTk hby h41 hd hg
          go_wp2
          all_goals go_step3
          all_goals refine ⟨⟨rfl, k, o, _, _, ?_, ?_, by omega, by omega, ⟨_, _, _, _, _, _, _, _, _, _, _, _, _, _, _, _, _, _, _, _, _, _, _, _, _, _, _, _, _, _, _, _, _, _, _, _, _, rfl⟩, hJ⟩, ?_⟩
          all_goals (first | omega | (simp [intOf, rankOf]; done) | (simp [intOf, rankOf]; omega))
      · have hi1 : (((k : Nat) : Int) == (s.size : Int)) = true := beq_iff_eq.2 (by omega)
        have hJ := Lib.hid (atL0 (at1_on h.out fun c hc => by have := (List.getElem?_eq_some_iff.1 hc).1; have := hL.out; omega))
        clear hEnd hNo hTk hby
        go_wp2
        all_goals go_step3
        all_goals refine ⟨⟨rfl, k, o, _, _, ?_, ?_, by omega, by omega, ⟨_, _, _, _, _, _, _, _, _, _, _, _, _, _, _, _, _, _, _, _, _, _, _, _, _, _, _, _, _, _, _, _, _, _, _, _, _, rfl⟩, hJ⟩, ?_⟩
        all_goals (first | omega | (simp [intOf, rankOf]; done) | (simp [intOf, rankOf]; omega))
    · refine ⟨_, rfl, ?_⟩
      replace h := Lib.hid h
      clear hj hB0
      have hlt : k < s.size := by have := h.out.1; have := hL.out; omega
      by_cases h0 : 0 < o
      · have hoi : (0 : Int) < ((o : Nat) : Int) := by omega
        have hJ := Lib.hid (atL2 (at2_on h.out h0))
        clear hEnd hNo hTk hby
        go_wp2
        all_goals go_step3
        all_goals refine ⟨⟨rfl, k + 1, o, _, _, ?_, ?_, by omega, by omega, ⟨_, _, _, _, _, _, _, _, _, _, _, _, _, _, _, _, _, _, _, _, _, _, _, _, _, _, _, _, _, _, _, _, _, _, _, _, _, rfl⟩, hJ⟩, ?_⟩
        all_goals (first | omega | (simp [intOf, rankOf]; done) | (simp [intOf, rankOf]; omega))
      · obtain rfl : o = 0 := by omega
        have hE := Lib.hid (hEnd.out _ h.out)
        clear hEnd hNo hby
        have hx := Lib.hid (hTk.out (k + 1))
        go_wp2
        all_goals simp only [jumpsTo]
        all_goals go_ret
        all_goals rw [hE.out, ← hx.out]
        all_goals exact ⟨rfl, rfl⟩
end Go.Proofs.Ytbdmmeoelagdcaa

/- Rows of texts that a call owns: an empty one, append of one text. -/
namespace Go.Proofs.Ytbdmmeoelagdcaa
open Go.RowKit

/-- the slice value v owns a row of texts -/
abbrev OwnS (w : World) (B : Nat) (v : Value) (ts : List ByteArray) : Prop := w.ownsRow B 9 1 v ts.length (ts.map Value.string)
theorem infoStr : (Try.prog.info? 9).map (fun i => (i.zero, i.size, i.bytes)) = some (some (.string ⟨#[]⟩), 1, 16) := by kernel_rfl
theorem ownS_len {w : World} {B n c : Nat} {A : Option Addr} {ts : List ByteArray} (h : OwnS w B (.slice A n c) ts) : n = ts.length := by
  rcases h.2 with ⟨h1, h2⟩ | ⟨g, cap, cur, hv, _⟩
  · injection h1 with _ h1 _; omega
  · injection hv
theorem ownS_nil (w : World) (B : Nat) : OwnS w B (.slice none 0 0) [] := World.ownsRow_nil _ _ _ _
theorem ownS_empty {w : World} {B : Nat} (hB : B ≤ w.heap.size) : OwnS (w.alloc (.cells #[] 9)) B (.slice (some ⟨w.heap.size, 0, none⟩) 0 0) [] := by
  have := World.ownsRow_made (e := 9) (size := 1) w #[] 0 hB (by simp [maxLen]) (by simp)
  exact this
theorem ownS_eq {w : World} {B : Nat} {v : Value} {zs ys : List ByteArray} (h : OwnS w B v zs) (e : zs = ys) : OwnS w B v ys := e ▸ h
/-- a row of the call's own is as it was after what writes above alone -/
theorem ownS_be {w w' : World} {B : Nat} {v : Value} {ts : List ByteArray} (h : OwnS w B v ts) (hb : Below w.heap.size w w') : OwnS w' B v ts := by
  refine ⟨h.1, ?_⟩
  rcases h.2 with h2 | ⟨g, cap, cur, hv, hg, hh, r⟩
  · exact .inl h2
  · exact .inr ⟨g, cap, cur, hv, hg, (hb.block g (Array.getElem?_eq_some_iff.1 hh).1).trans hh, r⟩
theorem ownS_cell {w : World} {B n c k : Nat} {A : Option Addr} {ts : List ByteArray} {x : ByteArray} (h : OwnS w B (.slice A n c) ts) (hx : ts[k]? = some x) :
    ∃ g, A = some ⟨g, 0, none⟩ ∧ w.cell? ⟨g, k, none⟩ = some (.string x) ∧ g < w.heap.size := by
  have hn := ownS_len h
  have hk := (List.getElem?_eq_some_iff.1 hx).1
  subst hn
  rcases h.2 with ⟨h1, h2⟩ | ⟨g, cap, cur, hv, _⟩
  · injection h1 with e1 e2 e3; omega
  · injection hv with e1
    subst e1
    have hl := World.ownsRow.lt h g rfl
    exact ⟨g, rfl, (World.ownsRow.cellAt h k (by omega)).trans (by simp [hx]), hl.2⟩

theorem pushS {ops : Array Oper} {rest : List Oper} {o : Oper} {a : Act} {Q : Exit → Act → World → Prop} (hgd : o.guard = none) (s x : Operand)
    (ho : o.op = .call { callee := .builtin .append, args := #[s, x], argTypes := #[78, 78] }) (w : World) (B : Nat) (A : Option Addr) (n c : Nat) (ts : List ByteArray) (y : ByteArray)
    (hs : a.eval s = .slice A n c) (hx : a.eval x = .slice (some ⟨w.heap.size, 0, none⟩) 1 1) (hown : Hid (OwnS w B (.slice A n c) ts)) (hB : B ≤ w.heap.size) (hlen : n ≤ 1000000)
    (h : ∀ A' c' w', Hid (OwnS w' B (.slice A' (n + 1) c') (ts ++ [y])) → Hid (Below B w w') → wpList Try.prog ops Q rest (a.put o.dst (.slice A' (n + 1) c')) w') :
    wpList Try.prog ops Q (o :: rest) a (w.alloc (.cells #[.string y] 9)) := by
  obtain ⟨i0, hi0, hz0, hz1, hz2⟩ := info_parts infoStr
  have hown := hown.out
  have hn := ownS_len hown
  subst hn
  refine wpList_append_own _ hgd s x 78 ho B 9 i0 (.string ⟨#[]⟩) 1 16 Try.underlying78 hi0 hz0 hz1 hz2 rfl (by decide) _ ts.length (ts.map Value.string) hs (hown.alloc _) ⟨w.heap.size, 0, none⟩ 1 1 [.string y] hx rfl ?_ ?_ ?_ ?_ ?_ ?_
  · intro j u hj
    match j, hj with
    | 0, hj => simp at hj; subst hj; simp [Addr.add]
  · intro u hu; simp at hu; subst hu; rfl
  · unfold maxLen; omega
  · omega
  · simp; omega
  · intro v' w1 hown1 hg1 _
    obtain ⟨A, c, rfl⟩ : ∃ A c, v' = .slice A (ts.length + 1) c := by
      rcases hown1.2 with ⟨rfl, h0⟩ | ⟨g, cap, _, rfl, _⟩
      · omega
      · exact ⟨_, _, rfl⟩
    refine h A c w1 ?_ ?_
    · have e : (ts ++ [y]).length = ts.length + 1 := by simp
      show OwnS _ _ _ _
      unfold OwnS
      rw [e]
      simpa using hown1
    · exact ((Below.refl B w).alloc hB _).grown hg1 (by simp; omega) (fun k hk => (hown.lt k hk).1)
end Go.Proofs.Ytbdmmeoelagdcaa
