/- A list that closures append to: its box and its row; what an append leaves. -/
import Derived.Test.YtkeahaoeiiigeaaDoorSides
import Derived.Test.YtkeahaoeiiigeaaDoorSl
import Derived.Test.YtkeahaoeiiigeaaDoorTree
import Derived.Test.YtkeahaoeiiigeaaDoorApp
import Derived.RangeFuncBox
namespace Go.Proofs.YtkeahaoeiiigeaaDoor
open Go.RowKit

/-- append, closed: the walk does not lay it open -/
@[irreducible] def appOp (ts : Array TypeId) (t : TypeId) (args : Array Value) : Sem Value := Builtin.append_ ts t args
theorem appOp_eq (ts : Array TypeId) (t : TypeId) (args : Array Value) : Builtin.append_ ts t args = appOp ts t args := by unfold appOp; rfl

/-- append of one to a row of one's own, as a run -/
theorem push_run (w : World) (L n c g7 : Nat) (A : Option Addr) (ys : List Int) (y : Int) (h : Own64 w L (.slice A n c) ys) (h7 : w.cell? ⟨g7, 0, none⟩ = some (.int .i64 y)) (hn : n ≤ 1000) (hL : L ≤ w.heap.size) :
    ∃ A8 c8 w8, Hid ((appOp #[29, 29] 29 #[.slice A n c, .slice (some ⟨g7, 0, none⟩) 1 1]).run Tryd.prog w = .ok (.slice A8 (n + 1) c8) w8) ∧
      Hid (Own64 w8 L (.slice A8 (n + 1) c8) (ys ++ [y])) ∧ Hid (w.grownBy w8 (Value.slice A n c).ownBlock) := by
  obtain ⟨i0, hi0, hz0, hz1, hz2⟩ := info_parts info64
  have e1 := own64_len h
  subst e1
  obtain ⟨v8, w8, hrun, ho, hg, hnil, hat⟩ := run_append_own_at (P := Tryd.prog) (w := w) L 29 29 2 i0 (.int .i64 0) 1 8 Tryd.underlying29 hi0 hz0 hz1 hz2 rfl (by decide) _ ys.length (ys.map (Value.int .i64)) h ⟨g7, 0, none⟩ 1 1 ([y].map (Value.int .i64)) (by simp)
    (fun j u hj => by
      cases j with
      | zero => simp only [List.map_cons, List.map_nil, List.getElem?_cons_zero, Option.some.injEq] at hj; subst hj; simpa [Addr.add] using h7
      | succ j => simp at hj) (by
      intro u hu
      obtain ⟨z, _, rfl⟩ := List.mem_map.1 hu
      rfl) (by unfold maxLen; omega) (by omega) hL
  obtain ⟨g8, c8, rfl⟩ := ownsRow_succ ho
  rw [appOp_eq] at hrun
  refine ⟨some ⟨g8, 0, none⟩, c8, w8, hrun, ?_, hg⟩
  show Own64 _ _ _ _
  unfold Own64
  rw [List.length_append, List.map_append]
  exact ho

/-- no row of numbers -/
def NotInts (o : Obj) : Prop := ∀ cs fz, o ≠ .cells cs 2 fz
/-- nothing below b has turned, and behind it nothing but b's own cell and rows of numbers -/
def Away (b : Nat) (W W' : World) : Prop := Below b W W' ∧ ∀ q o, W.heap[q]? = some o → q ≠ b → NotInts o → W'.heap[q]? = some o
theorem Away.trans {b : Nat} {X Y Z : World} (h : Away b X Y) (k : Away b Y Z) : Away b X Z := ⟨h.1.trans k.1, fun q o e hq hn => k.2 q o (h.2 q o e hq hn) hq hn⟩
theorem Away.of {b : Nat} {W W' : World} (h : Below W.heap.size W W') (hb : b ≤ W.heap.size) : Away b W W' := ⟨h.mono hb, fun q _ e _ _ => (h.block q (Array.getElem?_eq_some_iff.1 e).1).trans e⟩
/-- the list that lies at a box -/
def Col (b : Nat) (zs : List Int) (W : World) : Prop := ∃ A n c, Boxed W b 29 (.slice A n c) ∧ Own64 W (b + 1) (.slice A n c) zs
theorem Col.lt {b : Nat} {zs : List Int} {W : World} (h : Col b zs W) : b < W.heap.size := by obtain ⟨A, n, c, h1, _⟩ := h; exact h1.lt
theorem Col.up {b : Nat} {zs : List Int} {W W' : World} (h : Col b zs W) (hb : Below W.heap.size W W') : Col b zs W' := by
  obtain ⟨A, n, c, h1, h2⟩ := h
  exact ⟨A, n, c, (hb.block b h1.lt).trans h1, own_be h2 hb⟩
theorem Col.new (w : World) : Col w.heap.size [] (w.alloc (.cells #[.slice none 0 0] 29)) := ⟨none, 0, 0, Boxed.new w _ _, own64_nil _ _⟩
theorem slice_not_int : (29 : TypeId) ≠ 2 := by decide
/-- one more, stored back -/
theorem Col.step {b n c n8 c8 : Nat} {A A8 : Option Addr} {zs ys : List Int} {W w8 : World} (h1 : Boxed W b 29 (.slice A n c)) (h2 : Own64 W (b + 1) (.slice A n c) zs) (ho : Own64 w8 (b + 1) (.slice A8 n8 c8) ys) (hg : W.grownBy w8 (Value.slice A n c).ownBlock) :
    Col b ys (w8.setCell ⟨b, 0, none⟩ (.slice A8 n8 c8)) ∧ Away b W (w8.setCell ⟨b, 0, none⟩ (.slice A8 n8 c8)) := by
  have hne : some b ≠ (Value.slice A n c).ownBlock := h1.not_row slice_not_int h2
  have h8 : Boxed w8 b 29 (.slice A n c) := h1.kept hg hne
  have hr : ∀ k, (Value.slice A n c).ownBlock = some k → b + 1 ≤ k := fun k e => (World.ownsRow.lt h2 k e).1
  refine ⟨⟨A8, n8, c8, h8.set _, ho.kept (grownBy_setCell' w8 b _) (.inr (h8.not_row slice_not_int ho).symm)⟩, ⟨hg.os, hg.tape, hg.output, by simpa using hg.size, fun k hk => ?_⟩, fun q o e hq hn => ?_⟩
  · have e1 := (grownBy_setCell' w8 b (.slice A8 n8 c8)).block k (by have := h8.lt; omega) (fun e => by injection e with e; omega)
    rw [e1]
    exact hg.block k (by have := h1.lt; omega) (fun e => by have := hr k e.symm; omega)
  · have hq' : some q ≠ (Value.slice A n c).ownBlock := fun e2 => by
      rcases h2.2 with ⟨e3, _⟩ | ⟨g, cap, cur, e3, _, e4, _⟩
      · rw [e3] at e2; simp [Value.ownBlock] at e2
      · rw [e3] at e2
        obtain rfl : q = g := by simpa [Value.ownBlock] using e2
        rw [e] at e4
        exact hn _ _ (Option.some.inj e4)
    have hl := (Array.getElem?_eq_some_iff.1 e).1
    have e1 := (grownBy_setCell' w8 b (.slice A8 n8 c8)).block q (by have := hg.size; omega) (fun e => by injection e with e; omega)
    rw [e1]
    exact (hg.block q hl hq').trans e
end Go.Proofs.YtkeahaoeiiigeaaDoor
