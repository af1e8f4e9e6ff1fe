/- Forests in memory, and what the program does with them: lastRoot, ahead, below, withoutRoot, span. -/
import Derived.Test.YtgcabcmnhdaepaaTree
import Derived.Test.YtgcabcmnhdaepaaMost
import Derived.Deep.RegionHeld3
namespace Go.Proofs.Ytgcabcmnhdaepaa
open Go.RowKit

/-- block b holds the nodes of xs in postorder, each with the size of its subtree -/
def For (w : World) (b : Nat) (xs : List Int) : Prop := b < w.heap.size ∧ ∀ j v, (M.posts xs)[j]? = some v → w.cell? ⟨b, j * 2, none⟩ = some (.int .i64 v) ∧ w.cell? ⟨b, j * 2 + 1, none⟩ = some (.int .i64 (M.szAt xs j : Int))
theorem For.be {w w' : World} {b : Nat} {xs : List Int} (h : For w b xs) (hb : Below w.heap.size w w') : For w' b xs :=
  ⟨Nat.lt_of_lt_of_le h.1 hb.size, fun j v hj => ⟨((bcell hb).1 _ _ h.1).trans (h.2 j v hj).1, ((bcell hb).1 _ _ h.1).trans (h.2 j v hj).2⟩⟩
theorem For.grown {w w' : World} {b B : Nat} {xs : List Int} (h : For w b xs) (hg : w.grownBy w' (some B)) (hne : b ≠ B) : For w' b xs :=
  ⟨Nat.lt_of_lt_of_le h.1 hg.size, fun j v hj => ⟨hg.cell (h.2 j v hj).1 (fun e => hne (by injection e)), hg.cell (h.2 j v hj).2 (fun e => hne (by injection e))⟩⟩

theorem fieldNode (x y : Int) (w : World) : (Instr.field 161 (.agg #[.int .i64 x, .int .i64 y]) 0).run Try.prog w = .ok (.int .i64 x) w := by kernel_rfl
theorem fieldSize (x y : Int) (w : World) : (Instr.field 161 (.agg #[.int .i64 x, .int .i64 y]) 1).run Try.prog w = .ok (.int .i64 y) w := by kernel_rfl
attribute [local go_sem] fieldNode fieldSize
/-- a box of two numbers that may be written -/
structure Boxed2 (w : World) (B : Nat) (x y : Int) : Prop where
  c0 : w.cell? ⟨B, 0, none⟩ = some (.int .i64 x)
  c1 : w.cell? ⟨B, 1, none⟩ = some (.int .i64 y)
  f0 : w.frozen? ⟨B, 0, none⟩ = false
  f1 : w.frozen? ⟨B, 1, none⟩ = false
theorem Boxed2.lt {w : World} {B : Nat} {x y : Int} (h : Boxed2 w B x y) : B < w.heap.size := World.block_lt_of_cell? _ _ h.c0
theorem Boxed2.be {w w' : World} {B : Nat} {x y : Int} (h : Boxed2 w B x y) (hb : Below w.heap.size w w') : Boxed2 w' B x y :=
  ⟨((bcell hb).1 _ _ h.lt).trans h.c0, ((bcell hb).1 _ _ h.lt).trans h.c1, ((bcell hb).2 _ _ h.lt).trans h.f0, ((bcell hb).2 _ _ h.lt).trans h.f1⟩
theorem Boxed2.new (w : World) (x y : Int) (t : TypeId) : Boxed2 (w.alloc (.cells #[.int .i64 x, .int .i64 y] t)) w.heap.size x y := ⟨by simp [go_sem], by simp [go_sem], by simp [go_sem], by simp [go_sem]⟩

set_option maxRecDepth 100000 in
theorem lastRoot (b a n c r : Nat) (xs : List Int) (v : Int) (w : World) (h : Hid (For w b xs)) (hn : 0 < n) (hn' : n ≤ 1000) (hr : r = a + (n - 1)) (hv : Hid ((M.posts xs)[r]? = some v)) :
    Calls Try.prog 147 #[.slice (some ⟨b, a * 2, none⟩) n c] w fun e w' => e = .returned (.agg #[.int .i64 v, .int .i64 (M.szAt xs r : Int)]) ∧ Hid (Below w.heap.size w w') := by
  obtain ⟨h1, h2⟩ := h.out.2 r v hv.out
  have hb := h.out.1
  obtain ⟨m, hm⟩ : ∃ m, n - 1 = m := ⟨_, rfl⟩
  rw [hm] at hr
  have e1 : (n : Int) - 1 = (m : Int) := by omega
  have e2 : m < n := by omega
  have e3 : r * 2 = a * 2 + m * 2 := by omega
  rw [e3] at h1 h2
  generalize M.szAt xs r = s at *
  clear hm hr e3
  go_enter Try.func147, Try.ntmps147
  go_wp2
  refine bodyPost_ret (v := .agg #[.int .i64 v, .int .i64 (s : Int)]) (by simp [results, Try.results147, go_sem]) rfl ?_
  exact ⟨rfl, bal (b0 w) _⟩

set_option maxRecDepth 100000 in
theorem withoutRoot (b a n c m : Nat) (w : World) (hn : 0 < n) (hc : n ≤ c) (hn' : n ≤ 1000) (hm : n - 1 = m) :
    Calls Try.prog 106 #[.slice (some ⟨b, a * 2, none⟩) n c] w fun e w' => e = .returned (.slice (some ⟨b, a * 2, none⟩) m c) ∧ w = w' := by
  have e1 : (n : Int) - 1 = (m : Int) := by omega
  have e2 : (m : Int) ≤ (c : Int) := by omega
  clear hm
  go_enter Try.func106, Try.ntmps106
  go_wp2
  go_ret
  exact ⟨rfl, rfl⟩

set_option maxRecDepth 100000 in
theorem ahead (b a n c r p : Nat) (xs : List Int) (v : Int) (w : World) (h : Hid (For w b xs)) (hn : 0 < n) (hn' : n ≤ 1000) (hc : n ≤ c) (hr : r = a + (n - 1)) (hv : Hid ((M.posts xs)[r]? = some v)) (hp : p + M.szAt xs r = n) :
    Calls Try.prog 113 #[.slice (some ⟨b, a * 2, none⟩) n c] w fun e w' => e = .returned (.slice (some ⟨b, a * 2, none⟩) p c) ∧ Hid (Below w.heap.size w w') := by
  have HL := Lib.hid (lastRoot b a n c r xs v w h hn hn' hr hv)
  generalize M.szAt xs r = s at *
  have e1 : (n : Int) - (s : Int) = (p : Int) := by omega
  have e2 : (p : Int) ≤ (c : Int) := by omega
  clear hp hr
  go_enter Try.func113, Try.ntmps113
  go_wp2_with fail
  refine HL.out.mono ?_
  rintro e w1 ⟨rfl, hb⟩
  go_wp2
  go_ret
  exact ⟨rfl, hb⟩

set_option maxRecDepth 100000 in
theorem below (b a n c r p m : Nat) (xs : List Int) (v : Int) (w : World) (h : Hid (For w b xs)) (hn : 0 < n) (hn' : n ≤ 1000) (hc : n ≤ c) (hr : r = a + (n - 1)) (hv : Hid ((M.posts xs)[r]? = some v)) (hp : p + M.szAt xs r = n) (hs : 1 ≤ M.szAt xs r) (hm : p + m = n - 1) :
    Calls Try.prog 192 #[.slice (some ⟨b, a * 2, none⟩) n c] w fun e w' => ∃ c', e = .returned (.slice (some ⟨b, (a + p) * 2, none⟩) m c') ∧ m ≤ c' ∧ c' ≤ c ∧ Hid (Below w.heap.size w w') := by
  have HL := Lib.hid (ahead b a n c r p xs v w h hn hn' hc hr hv hp)
  obtain ⟨k, hk⟩ : ∃ k, p + m = k := ⟨_, rfl⟩
  have e1 : (n : Int) - 1 = (k : Int) := by omega
  have e2 : (k : Int) ≤ (c : Int) := by omega
  have e3 : (p : Int) ≤ (k : Int) := by omega
  have e4 : ¬ c = p := by omega
  have e5 : k - p = m := by omega
  have e6 : a * 2 + p * 2 = (a + p) * 2 := by omega
  have e7 : m ≤ c - p ∧ c - p ≤ c := by omega
  have E7 := Lib.hid e7
  clear hp hr hm hs e7
  go_enter Try.func192, Try.ntmps192
  go_wp2_with fail
  refine HL.out.mono ?_
  rintro e w1 ⟨rfl, hb⟩
  go_wp2
  go_ret
  exact ⟨_, rfl, E7.out.1, E7.out.2, hb⟩

set_option maxRecDepth 100000 in
theorem span (b a n c r : Nat) (xs : List Int) (u v : Int) (w : World) (h : Hid (For w b xs)) (hn : 0 < n) (hn' : n ≤ 1000) (hr : r = a + (n - 1)) (hu : Hid ((M.posts xs)[a]? = some u)) (hv : Hid ((M.posts xs)[r]? = some v)) :
    Calls Try.prog 163 #[.slice (some ⟨b, a * 2, none⟩) n c] w fun e w' => e = .returned (.agg #[.int .i64 u, .int .i64 v]) ∧ Hid (Below w.heap.size w w') := by
  obtain ⟨W, hW⟩ : ∃ W, W = w.alloc (.cells #[.int .i64 0, .int .i64 0] 179) := ⟨_, rfl⟩
  have hBW : Hid (Below w.heap.size w W) := by subst hW; exact bal (b0 w) _
  have hF : Hid (For W b xs) := h.out.be hBW.out
  have HL : Hid (∀ W', Hid (Below W.heap.size W W') → Calls Try.prog 147 #[.slice (some ⟨b, a * 2, none⟩) n c] W' fun e w' => e = .returned (.agg #[.int .i64 v, .int .i64 (M.szAt xs r : Int)]) ∧ Hid (Below W.heap.size W w')) := fun W' hW' =>
    (lastRoot b a n c r xs v W' (Lib.hid (hF.out.be hW'.out)) hn hn' hr hv).mono fun e w' ⟨he, hb⟩ => ⟨he, btr hW'.out hb.out⟩
  have h1 := (hF.out.2 a u hu.out).1
  have HS : Hid (∀ W', Hid (Below W.heap.size W W') → W'.cell? ⟨b, a * 2, none⟩ = some (.int .i64 u)) := fun W' hW' => ((bcell hW'.out).1 _ _ hF.out.1).trans h1
  have hX : Hid (Boxed2 W w.heap.size 0 0) := by subst hW; exact Boxed2.new _ _ _ _
  have K0 : Hid (Below W.heap.size W W.drew) := (Below.refl _ _).drew
  have h10 : W.drew.cell? ⟨b, a * 2, none⟩ = some (.int .i64 u) := h1
  have HW := Lib.hid hW
  generalize M.szAt xs r = s at *
  clear hW
  go_enter Try.func163, Try.ntmps163
  go_wp2
  rw [← HW.out]
  clear HW
  go_region_with (go_at_call 147; refine (HL.out _ K0).mono ?_; rintro e w7 ⟨rfl, hb7⟩; have h17 := HS.out _ hb7; obtain ⟨x0, x1, x2, x3⟩ := hX.out.be hb7.out)
  all_goals
    have hB7 := btr hBW.out hb7.out
    have hz := hBW.out.size
    go_wp2
    refine bodyPost_ret (v := .agg #[.int .i64 u, .int .i64 v]) (by simp [results, Try.results163, go_sem, x0, x1]) rfl ?_
    exact ⟨rfl, below_setCell (below_setCell hB7 (Nat.le_refl _) _) (Nat.le_refl _) _⟩
end Go.Proofs.Ytgcabcmnhdaepaa
