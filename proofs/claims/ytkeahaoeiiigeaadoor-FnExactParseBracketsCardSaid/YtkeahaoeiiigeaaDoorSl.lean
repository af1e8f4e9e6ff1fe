/- The walks of the laws' own helpers over slices of int64: szInt64S, eqInt64S, toInt64S, markInt64S, heldInt64S. No conditions but lengths. -/
import Derived.Test.YtkeahaoeiiigeaaDoorBase
namespace Go.Proofs.YtkeahaoeiiigeaaDoor
open Go.RowKit

theorem take_eq_succ {xs ys : List Int} {k : Nat} {x : Int} (hx : Hid (xs[k]? = some x)) (hy : Hid (ys[k]? = some x)) (h : Hid (xs.take k = ys.take k)) : Hid (xs.take (k + 1) = ys.take (k + 1)) := by
  have hx' : xs[k]? = some x := hx
  have hy' : ys[k]? = some x := hy
  have h' : xs.take k = ys.take k := h
  show xs.take (k + 1) = ys.take (k + 1)
  rw [List.take_add_one, List.take_add_one, h', hx', hy']
theorem ne_of_at {xs ys : List Int} {k : Nat} {x y : Int} (hx : Hid (xs[k]? = some x)) (hy : Hid (ys[k]? = some y)) (he : x ≠ y) : ¬ xs = ys := fun e => by
  have hx' : xs[k]? = some x := hx
  have hy' : ys[k]? = some y := hy
  rw [e, hy'] at hx'
  injection hx' with h
  exact he h.symm

set_option maxHeartbeats 400000 in
theorem eqInts (A A' : Option Addr) (xs ys : List Int) (c c' : Nat) (w : World) (hy : ys.length ≤ 1000000000000000)
    (h : Ints w w.heap.size A xs) (h' : Ints w w.heap.size A' ys) :
    Calls Tryd.prog 26 #[.slice A xs.length c, .slice A' ys.length c'] w fun e w' => e = .returned (.bool (decide (xs = ys))) ∧ Below w.heap.size w w' := by
  by_cases hl : xs.length = ys.length
  · have hl' : ((xs.length : Int) != (ys.length : Int)) = false := by simp [hl]
    have Hl := Lib.hid hl
    have hl1 : xs.length ≤ ys.length := by omega
    clear hl
    go_enter Tryd.func26, Tryd.ntmps26
    go_wp2
    go_loopw [5] (fun i wr => ∃ k : Nat, k ≤ xs.length ∧ i = .int .i64 k ∧ Hid (xs.take k = ys.take k) ∧ Below w.heap.size w wr) (fun i _ => xs.length - (intOf i).toNat)
    case atStart => exact ⟨0, Nat.zero_le _, rfl, rfl, Below.refl _ _⟩
    case round =>
      obtain ⟨k, hk, rfl, he, hb⟩ := hrel
      by_cases hlt : k < xs.length
      · obtain ⟨b, off, x, rfl, hbB, g, hX⟩ := (h.below hb (Nat.le_refl _)).at_ hlt
        obtain ⟨b', off', y, rfl, hbB', g', hY⟩ := (h'.below hb (Nat.le_refl _)).at_ (k := k) (by omega)
        clear h h'
        by_cases hq : x = y
        · subst hq
          have hs := take_eq_succ hX hY he
          go_wp2
          go_quiet (fail)
          go_wp2
          go_roundw
          case rel => exact ⟨k + 1, by omega, by go_num, hs, below_drewN hb _⟩
          case measure => simp [intOf]; omega
        · have hq' : (x != y) = true := by simp [hq]
          have hs := ne_of_at hX hY hq
          clear hq
          go_wp2
          go_quiet (fail)
          go_wp2
          go_ret
          exact ⟨by simp [hs], below_drewN hb _⟩
      · obtain rfl : k = xs.length := by omega
        have hs : xs = ys := by
          have := he.out
          rw [List.take_length, Hl.out, List.take_length] at this
          exact this
        have Hs := Lib.hid hs
        clear hs
        go_wp2
        go_ret
        exact ⟨by simp [Hs.out], hb⟩
  · have hl' : ((xs.length : Int) != (ys.length : Int)) = true := by simp; omega
    go_enter Tryd.func26, Tryd.ntmps26
    go_wp2
    go_ret
    refine ⟨?_, Below.refl _ _⟩
    have : ¬ xs = ys := fun e => hl (by rw [e])
    simp [this]

theorem take_set_succ {xs ys : List Int} {k : Nat} {x : Int} (hl : Hid (ys.length = xs.length)) (hx : Hid (xs[k]? = some x)) (h : Hid (ys.take k = xs.take k)) : Hid ((ys.set k x).take (k + 1) = xs.take (k + 1)) := by
  have hl' : ys.length = xs.length := hl
  have hx' : xs[k]? = some x := hx
  have h' : ys.take k = xs.take k := h
  have hk : k < ys.length := by rw [hl']; exact (List.getElem?_eq_some_iff.1 hx').1
  show (ys.set k x).take (k + 1) = xs.take (k + 1)
  rw [List.take_add_one, List.take_add_one, hx', List.getElem?_set_self hk, List.take_set_of_le (Nat.le_refl _), h']

set_option maxHeartbeats 400000 in
theorem toInts (A : Option Addr) (xs : List Int) (c : Nat) (w : World) (hx : xs.length ≤ 1000000000000) (h : Ints w w.heap.size A xs) :
    Calls Tryd.prog 36 #[.slice A xs.length c] w fun e w' => ∃ g, e = .returned (.slice (some ⟨g, 0, none⟩) xs.length xs.length) ∧
      Own64 w' w.heap.size (.slice (some ⟨g, 0, none⟩) xs.length xs.length) xs ∧ Below w.heap.size w w' := by
  have hmk := run_make_row' (P := Tryd.prog) 29 2 (.int .i64 0) 8 Tryd.underlying29 info64 rfl .i64 .i64 xs.length (by omega) (by omega)
  have hstart := own64_made (w := w) (B := w.heap.size) (n := xs.length) (Nat.le_refl _) (by unfold maxLen; omega)
  go_enter Tryd.func36, Tryd.ntmps36
  go_wp2
  clear hmk
  go_loopw [4] (fun i wr => ∃ (k : Nat) (ys : List Int), k ≤ xs.length ∧ i = .int .i64 k ∧ Hid (ys.length = xs.length) ∧ Hid (ys.take k = xs.take k) ∧
      Hid (Own64 wr w.heap.size (.slice (some ⟨w.heap.size, 0, none⟩) xs.length xs.length) ys) ∧ Below w.heap.size w wr) (fun i _ => xs.length - (intOf i).toNat)
  case atStart => exact ⟨0, List.replicate xs.length 0, Nat.zero_le _, rfl, by simp [Hid], rfl, hstart, (Below.refl _ _).alloc (Nat.le_refl _) _⟩
  case round =>
    obtain ⟨k, ys, hk, rfl, hly, he, ho, hb⟩ := hrel
    clear hstart
    by_cases hlt : k < xs.length
    · obtain ⟨b, off, x, rfl, hbB, g, hX⟩ := (h.below hb (Nat.le_refl _)).at_ hlt
      clear h
      have hly' : ys.length = xs.length := hly
      obtain ⟨c1, c2, c3, c4⟩ := own64_cell ho.out hly' (k := k) (x := ys[k]) (List.getElem?_eq_getElem (by omega))
      have hs := take_set_succ hly hX he
      have ho' : Hid (Own64 _ _ _ _) := own64_set ho.out hly' k x
      generalize ys[k] = y at c1
      clear hly'
      go_wp2
      go_roundw
      case rel => exact ⟨k + 1, ys.set k x, by omega, by go_num, by simp [Hid]; exact hly.out, hs, ho', below_setCell hb (Nat.le_refl _) _⟩
      case measure => simp [intOf]; omega
    · obtain rfl : k = xs.length := by omega
      have hys : ys = xs := by
        have := he.out
        rw [← hly.out, List.take_length, hly.out, List.take_length] at this
        exact this
      have Hs := Lib.hid hys
      clear hys
      go_wp2
      go_ret
      exact ⟨_, rfl, by rw [← Hs.out]; have := ho.out; rw [← hly.out] at this; exact this, hb⟩

/-- the marks that the laws write: k, k + 1, .. -/
def marks (k : Int) (n : Nat) : List Int := (List.range n).map fun (i : Nat) => k + (i : Int)
theorem marks_length (k : Int) (n : Nat) : (marks k n).length = n := by simp [marks]
theorem marks_at (k : Int) {n i : Nat} (h : i < n) : (marks k n)[i]? = some (k + i) := by simp [marks, h]

theorem take_marks_succ {ys : List Int} {k : Int} {n i : Nat} (hl : Hid (ys.length = n)) (hi : i < n) (h : Hid (ys.take i = (marks k n).take i)) : Hid ((ys.set i (k + i)).take (i + 1) = (marks k n).take (i + 1)) :=
  take_set_succ (xs := marks k n) (by show ys.length = _; rw [marks_length]; exact hl) (marks_at k hi) h

theorem grown_set {a w : World} {g : Nat} (h : a.grownBy w (some g)) (k : Nat) (u : Value) : a.grownBy (w.setCell ⟨g, k, none⟩ u) (some g) :=
  ⟨h.os, h.tape, h.output, by simpa [World.setCell] using h.size, fun i hi hne => (Below.heap_setCell w ⟨g, k, none⟩ u i (fun e => hne (by rw [e]))).trans (h.block i hi hne)⟩

set_option maxHeartbeats 400000 in
theorem markInts (A : Option Addr) (n c : Nat) (zs : List Int) (m : Int) (B : Nat) (w : World) (hn : zs.length = n) (hn' : n ≤ 1000000000000) (hm : 0 ≤ m) (hm' : m ≤ 1000000000000) (ho : Own64 w B (.slice A n c) zs) :
    Calls Tryd.prog 27 #[.slice A n c, .int .i64 m] w fun e w' => e = .returned (.int .i64 (m + n)) ∧ Own64 w' B (.slice A n c) (marks m n) ∧ w.grownBy w' (Value.slice A n c).ownBlock := by
  rcases Nat.eq_zero_or_pos n with h0 | h0
  · subst h0
    obtain rfl : zs = [] := List.eq_nil_of_length_eq_zero hn
    clear hn
    go_enter Tryd.func27, Tryd.ntmps27
    go_wp2
    refine wp_loop_rounds 1 ?_
    rw [rounds_succ]
    go_wp2
    go_ret
    exact ⟨by simp, by simpa [marks] using ho, World.grownBy.refl _ _⟩
  · obtain ⟨g, rfl⟩ : ∃ g, A = some ⟨g, 0, none⟩ := by
      rcases ho.2 with ⟨_, h⟩ | ⟨g, _, _, h, _⟩
      · omega
      · injection h with h; exact ⟨g, h⟩
    have Hn := Lib.hid hn
    clear hn
    go_enter Tryd.func27, Tryd.ntmps27
    go_wp2
    go_loopw [1, 5] (fun q i wr => ∃ (k : Nat) (ys : List Int), k ≤ n ∧ i = .int .i64 k ∧ q = .int .i64 (m + k) ∧ Hid (ys.length = n) ∧ Hid (ys.take k = (marks m n).take k) ∧
        Hid (Own64 wr B (.slice (some ⟨g, 0, none⟩) n c) ys) ∧ w.grownBy wr (some g)) (fun _ i _ => n - (intOf i).toNat)
    case atStart => exact ⟨0, zs, Nat.zero_le _, rfl, by simp, Hn, rfl, ho, World.grownBy.refl _ _⟩
    case round =>
      obtain ⟨k, ys, hk, rfl, rfl, hly, he, ho', hb⟩ := hrel
      clear ho
      by_cases hlt : k < n
      · have hly' : ys.length = n := hly
        obtain ⟨c1, c2, c3, c4⟩ := own64_cell ho'.out hly' (k := k) (x := ys[k]) (List.getElem?_eq_getElem (by omega))
        have hs := take_marks_succ hly hlt he
        have ho2 : Hid (Own64 _ _ _ _) := own64_set ho'.out hly' k (m + k)
        generalize ys[k] = y at c1
        clear hly'
        go_wp2
        go_roundw
        case rel => exact ⟨k + 1, ys.set k (m + k), by omega, by go_num, by go_num, by simp [Hid]; exact hly.out, hs, ho2, grown_set hb _ _⟩
        case measure => simp [intOf]; omega
      · obtain rfl : k = n := by omega
        have hys : ys = marks m k := by
          have h1 := he.out
          have h2 := hly.out
          rw [← h2, List.take_length, h2] at h1
          rw [h1, List.take_of_length_le (by rw [marks_length]; exact Nat.le_refl _)]
        have Hs := Lib.hid hys
        clear hys
        go_wp2
        go_ret
        exact ⟨rfl, by rw [← Hs.out]; exact ho'.out, hb⟩

set_option maxHeartbeats 400000 in
theorem heldInts (A : Option Addr) (n c : Nat) (m : Int) (w : World) (hn' : n ≤ 1000000000000) (hm : 0 ≤ m) (hm' : m ≤ 1000000000000) (h : Ints w w.heap.size A (marks m n)) :
    Calls Tryd.prog 28 #[.slice A n c, .int .i64 m] w fun e w' => e = .returned (.int .i64 (m + n)) ∧ w = w' := by
  go_enter Tryd.func28, Tryd.ntmps28
  go_wp2
  go_loop [1, 5] (fun q i => ∃ (k : Nat), k ≤ n ∧ i = .int .i64 k ∧ q = .int .i64 (m + k)) (fun _ i => n - (intOf i).toNat)
  case atStart => exact ⟨0, Nat.zero_le _, rfl, by simp⟩
  case round =>
    obtain ⟨k, hk, rfl, rfl⟩ := hrel
    by_cases hlt : k < n
    · obtain ⟨b, off, x, rfl, hbB, g, hX⟩ := h.at_ (k := k) (by rw [marks_length]; exact hlt)
      clear h
      obtain rfl : x = m + k := by
        have h1 := hX.out
        rw [marks_at m hlt] at h1
        injection h1 with h1
        exact h1.symm
      go_wp2
      go_round
      case rel => exact ⟨k + 1, by omega, by go_num, by go_num⟩
      case measure => simp [intOf]; omega
    · obtain rfl : k = n := by omega
      go_wp2
      go_ret
      exact ⟨rfl, rfl⟩
end Go.Proofs.YtkeahaoeiiigeaaDoor
