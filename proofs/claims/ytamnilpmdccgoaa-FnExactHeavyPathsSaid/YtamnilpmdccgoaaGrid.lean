/- Rows of rows in memory: a slice whose elements are slices of numbers, each in a block of its own; append of one row. -/
import Derived.Test.YtamnilpmdccgoaaTwo
namespace Go.Proofs.Ytamnilpmdccgoaa
open Go.RowKit

theorem infoRow : (Try.prog.info? 22).map (fun i => (i.zero, i.size, i.bytes)) = some (some (.slice none 0 0), 1, 24) := by kernel_rfl

abbrev rowV (m : Nat) (g : Nat) : Value := .slice (some ⟨g, 0, none⟩) m m
/-- the slice value v has k rows of m numbers: row l is R l; all lies from block B on -/
def Grid (w : World) (B : Nat) (v : Value) (m : Nat) (R : Nat → List Int) (k : Nat) : Prop :=
  ∃ gs : List Nat, gs.length = k ∧ w.ownsRow B 22 1 v k (gs.map (rowV m)) ∧ ∀ (l g : Nat), gs[l]? = some g → (R l).length = m ∧ Own64 w B (rowV m g) (R l) ∧ v.ownBlock ≠ some g

theorem Grid.be {w w' : World} {B : Nat} {v : Value} {m k : Nat} {R : Nat → List Int} (h : Grid w B v m R k) (hb : Below w.heap.size w w') : Grid w' B v m R k := by
  obtain ⟨gs, h1, h2, h3⟩ := h
  exact ⟨gs, h1, own_be h2 hb, fun l g hg => ⟨(h3 l g hg).1, own_be (h3 l g hg).2.1 hb, (h3 l g hg).2.2⟩⟩
theorem Grid.mono {w : World} {B B' : Nat} {v : Value} {m k : Nat} {R : Nat → List Int} (h : Grid w B v m R k) (hB : B' ≤ B) : Grid w B' v m R k := by
  obtain ⟨gs, h1, h2, h3⟩ := h
  exact ⟨gs, h1, own_mono h2 hB, fun l g hg => ⟨(h3 l g hg).1, own_mono (h3 l g hg).2.1 hB, (h3 l g hg).2.2⟩⟩
theorem Grid.shape {w : World} {B : Nat} {v : Value} {m k : Nat} {R : Nat → List Int} (h : Grid w B v m R k) : ∃ A c, v = .slice A k c := by
  obtain ⟨gs, h1, h2, h3⟩ := h
  exact own_shape h2
theorem Grid.shape1 {w : World} {B : Nat} {A : Option Addr} {n c : Nat} {m k : Nat} {R : Nat → List Int} (h : Grid w B (.slice A n c) m R k) (hk : 0 < k) : n = k ∧ ∃ g, A = some ⟨g, 0, none⟩ := by
  obtain ⟨gs, h1, h2, h3⟩ := h
  rcases h2.2 with ⟨h0, h4⟩ | ⟨g, cap, cur, hv, _⟩
  · omega
  · injection hv with e1 e2; exact ⟨e2, g, e1⟩
/-- a cell: the row's value, and the number in it -/
theorem Grid.at_ {w : World} {B : Nat} {G n c : Nat} {m k : Nat} {R : Nat → List Int} (h : Grid w B (.slice (some ⟨G, 0, none⟩) n c) m R k) {l : Nat} (hl : l < k) :
    ∃ g, w.cell? ⟨G, l, none⟩ = some (rowV m g) ∧ ∀ (j : Nat) (x : Int), (R l)[j]? = some x → w.cell? ⟨g, j, none⟩ = some (.int .i64 x) := by
  obtain ⟨gs, h1, h2, h3⟩ := h
  obtain ⟨g, hg⟩ : ∃ g, gs[l]? = some g := ⟨_, List.getElem?_eq_getElem (by omega)⟩
  refine ⟨g, ?_, fun j x hx => (own64_cell (h3 l g hg).2.1 (h3 l g hg).1 hx).1⟩
  have := h2.cells (g := G) rfl l (rowV m g) (by simp [hg])
  have ha : (⟨G, 0, none⟩ : Addr).add l = ⟨G, l, none⟩ := by unfold Addr.add; split <;> simp_all
  rw [ha] at this
  exact this

theorem grid_empty {w : World} {B : Nat} (hB : B ≤ w.heap.size) (m : Nat) (R : Nat → List Int) : Grid (w.alloc (.cells #[] 22)) B (.slice (some ⟨w.heap.size, 0, none⟩) 0 0) m R 0 :=
  ⟨[], rfl, World.ownsRow_made (e := 22) (size := 1) w #[] 0 hB (by simp [maxLen]) (by simp), fun l g h => by simp at h⟩

set_option maxRecDepth 100000 in
theorem pushRow {ops : Array Oper} {rest : List Oper} {o : Oper} {a : Act} {Q : Exit → Act → World → Prop} (hgd : o.guard = none) (s x : Operand)
    (ho : o.op = .call { callee := .builtin .append, args := #[s, x], argTypes := #[42, 42] }) (w : World) (B : Nat) (A : Option Addr) (n c m : Nat) (R : Nat → List Int) (g : Nat)
    (hs : a.eval s = .slice A n c) (hx : a.eval x = .slice (some ⟨w.heap.size, 0, none⟩) 1 1) (ht : Hid (Grid w B (.slice A n c) m R n)) (hrow : Hid (Own64 w B (rowV m g) (R n))) (hm : (R n).length = m) (hne : Hid ((Value.slice A n c).ownBlock ≠ some g)) (hB : B ≤ w.heap.size) (hlen : n ≤ 1000000)
    (h : ∀ A' c' w', Hid (Grid w' B (.slice A' (n + 1) c') m R (n + 1)) → Hid (Below B w w') → wpList Try.prog ops Q rest (a.put o.dst (.slice A' (n + 1) c')) w') :
    wpList Try.prog ops Q (o :: rest) a (w.alloc (.cells #[rowV m g] 22)) := by
  obtain ⟨i0, hi0, hz0, hz1, hz2⟩ := info_parts infoRow
  obtain ⟨gs, h1, h2, h3⟩ := ht.out
  refine wpList_append_own_at _ hgd s x 42 ho B 22 i0 (.slice none 0 0) 1 24 Try.underlying42 hi0 hz0 hz1 hz2 rfl (by decide) _ n (gs.map (rowV m)) hs (h2.alloc _) ⟨w.heap.size, 0, none⟩ 1 1 [rowV m g] hx rfl (cell_one_new _ _ _) ?_ ?_ ?_ ?_ ?_
  · intro u hu; simp at hu; subst hu; rfl
  · unfold maxLen; omega
  · omega
  · simp; omega
  · intro v' w1 hown1 hg1 _ hat
    obtain ⟨A', c', rfl⟩ : ∃ A' c', v' = .slice A' (n + 1) c' := own_shape hown1
    have hkeep : ∀ (q : Nat) (l : List Int), Own64 w B (rowV m q) l → (Value.slice A n c).ownBlock ≠ some q → Own64 w1 B (rowV m q) l ∧ (Value.slice A' (n + 1) c').ownBlock ≠ some q := fun q l ho hq => by
      refine ⟨(ho.alloc _).kept hg1 (.inr fun e => hq e.symm), fun e => ?_⟩
      rcases hat with e1 | e1
      · exact hq (e1 ▸ e)
      · have h4 := ho.lt q rfl
        rw [e] at e1
        injection e1 with e1
        simp at e1
        omega
    refine h A' c' w1 ⟨gs ++ [g], by simp [h1], by rw [List.map_append]; exact hown1, fun l q hq => ?_⟩ ?_
    · rcases Nat.lt_or_ge l n with hl | hl
      · rw [List.getElem?_append_left (by omega)] at hq
        obtain ⟨a1, a2, a3⟩ := h3 l q hq
        obtain ⟨b1, b2⟩ := hkeep q _ a2 a3
        exact ⟨a1, b1, b2⟩
      · rw [List.getElem?_append_right (by omega), h1] at hq
        have hl2 : l - n = 0 := by
          rcases Nat.eq_zero_or_pos (l - n) with e | e
          · exact e
          · rw [List.getElem?_eq_none (by simp; omega)] at hq; cases hq
        rw [hl2] at hq
        injection hq with hq
        subst hq
        obtain rfl : l = n := by omega
        obtain ⟨b1, b2⟩ := hkeep g _ hrow.out hne.out
        exact ⟨hm, b1, b2⟩
    · exact ((Below.refl B w).alloc hB _).grown hg1 (by simp; omega) (fun k hk => (h2.lt k hk).1)
end Go.Proofs.Ytamnilpmdccgoaa
