/- The opposite automaton: what holds while it is made, in a box. -/
import Derived.Test.YtgcabcmnhdaepaaOppStep
namespace Go.Proofs.Ytgcabcmnhdaepaa
open Go.RowKit

/-- an automaton of one's own that lies in box X -/
structure OppI (w : World) (B X : Nat) (st : Int) (A1 : Option Addr) (k c1 : Nat) (hs : List Hdr) (Rs : List (List Int)) (A2 : Option Addr) (l c2 : Nat) (ns : List Int) : Prop where
  au : AutoO w B A1 k c1 hs Rs A2 l c2 ns
  box : w.heap[X]? = some (.cells #[.int .i64 st, .slice A1 k c1, .slice A2 l c2] 27 (0, 0))

theorem own_offT {w : World} {B e T size n X : Nat} {v : Value} {xs : List Value} {cs : Array Value} {p : Nat × Nat} (h : w.ownsRow B e size v n xs) (hX : w.heap[X]? = some (.cells cs T p)) (he : e ≠ T) : v.ownBlock ≠ some X := by
  intro hk
  rcases h.2 with ⟨e0, _⟩ | ⟨g, cap, cur, hv, _, hg, _⟩
  · rw [e0] at hk; cases hk
  · rw [hv] at hk
    have e1 : g = X := by injection hk
    rw [e1, hX] at hg
    injection hg with hg
    injection hg with _ hg
    exact he hg.symm

theorem grown_setX (w : World) (X i : Nat) (u : Value) : w.grownBy (w.setCell ⟨X, i, none⟩ u) (some X) :=
  ⟨rfl, rfl, rfl, by simp, fun k _ hne => heap_setCell_other _ _ _ _ (fun e => hne (by rw [e]))⟩

theorem box_set {w : World} {X i T : Nat} {cs : Array Value} {p : Nat × Nat} (h : w.heap[X]? = some (.cells cs T p)) (u : Value) : (w.setCell ⟨X, i, none⟩ u).heap[X]? = some (.cells (cs.setIfInBounds i u) T p) := by
  simp [World.setCell, Array.getElem?_modify, h]

theorem AutoO.set {w : World} {B X i m cm g cg : Nat} {As Ag : Option Addr} {hs : List Hdr} {Ss : List (List Int)} {gs : List Int} {cs : Array Value} {p : Nat × Nat} (h : AutoO w B As m cm hs Ss Ag g cg gs) (hX : w.heap[X]? = some (.cells cs 27 p)) (u : Value) : AutoO (w.setCell ⟨X, i, none⟩ u) B As m cm hs Ss Ag g cg gs := by
  have e1 := own_offT h.rows.row hX (by decide)
  have e2 := own_offT h.good hX (by decide)
  have e3 : ∀ h' ∈ hs, h'.1 ≠ X := fun h' hh e => by
    obtain ⟨k, hk, rfl⟩ := List.getElem_of_mem hh
    obtain ⟨zs, hz⟩ : ∃ zs, Ss[k]? = some zs := ⟨_, List.getElem?_eq_getElem (by rw [← h.rows.len]; exact hk)⟩
    have ho := h.rows.each k _ zs (List.getElem?_eq_getElem hk) hz
    exact own_offT ho hX (by decide) (by rw [← e]; rfl)
  refine ⟨h.rows.kept (grown_setX w X i u) (fun k e => ?_), h.good.kept (grown_setX w X i u) (.inr e2), h.apart⟩
  injection e with e
  subst e
  exact ⟨e1, e3⟩

theorem OppI.cells {w : World} {B X : Nat} {st : Int} {A1 : Option Addr} {k c1 : Nat} {hs : List Hdr} {Rs : List (List Int)} {A2 : Option Addr} {l c2 : Nat} {ns : List Int} (h : OppI w B X st A1 k c1 hs Rs A2 l c2 ns) :
    (w.cell? ⟨X, 0, none⟩ = some (.int .i64 st) ∧ w.cell? ⟨X, 1, none⟩ = some (.slice A1 k c1) ∧ w.cell? ⟨X, 2, none⟩ = some (.slice A2 l c2)) ∧ w.frozen? ⟨X, 1, none⟩ = false ∧ w.frozen? ⟨X, 2, none⟩ = false ∧ X < w.heap.size := by
  refine ⟨⟨?_, ?_, ?_⟩, ?_, ?_, (Array.getElem?_eq_some_iff.1 h.box).1⟩ <;> simp [World.cell?, World.frozen?, h.box]

theorem OppI.be {w w' : World} {B X : Nat} {st : Int} {A1 : Option Addr} {k c1 : Nat} {hs : List Hdr} {Rs : List (List Int)} {A2 : Option Addr} {l c2 : Nat} {ns : List Int} (h : OppI w B X st A1 k c1 hs Rs A2 l c2 ns) (hb : Below w.heap.size w w') : OppI w' B X st A1 k c1 hs Rs A2 l c2 ns :=
  ⟨h.au.be hb, (hb.block _ h.cells.2.2.2).trans h.box⟩

theorem OppI.boxAt {w w3 w4 : World} {B X : Nat} {st : Int} {A1 : Option Addr} {k c1 : Nat} {hs : List Hdr} {Rs : List (List Int)} {A2 : Option Addr} {l c2 : Nat} {ns : List Int} {row : Option Nat} (h : OppI w B X st A1 k c1 hs Rs A2 l c2 ns) (hb : Below w.heap.size w w3)
    (hg : w3.grownBy w4 row) (hr : row = (Value.slice A1 k c1).ownBlock ∨ row = (Value.slice A2 l c2).ownBlock) : (w4.cell? ⟨X, 1, none⟩ = some (.slice A1 k c1) ∧ w4.frozen? ⟨X, 1, none⟩ = false) ∧ w4.cell? ⟨X, 2, none⟩ = some (.slice A2 l c2) ∧ w4.frozen? ⟨X, 2, none⟩ = false := by
  have hX := h.cells.2.2.2
  have hX3 := (hb.block _ hX).trans h.box
  have hu := h.au.be hb
  have hX4 : w4.heap[X]? = _ := (hg.block X (Nat.lt_of_lt_of_le hX hb.size) (fun e => by
    rcases hr with e2 | e2
    · exact own_offT hu.rows.row hX3 (by decide) (by rw [← e2]; exact e.symm)
    · exact own_offT hu.good hX3 (by decide) (by rw [← e2]; exact e.symm))).trans hX3
  refine ⟨⟨?_, ?_⟩, ?_, ?_⟩ <;> simp [World.cell?, World.frozen?, hX4]

theorem AutoO.below_set {w : World} {B m cm g cg : Nat} {As Ag : Option Addr} {hs : List Hdr} {Ss : List (List Int)} {gs : List Int} (h : AutoO w B As m cm hs Ss Ag g cg gs) {q i : Nat} (hq : q < B) (u : Value) : AutoO (w.setCell ⟨q, i, none⟩ u) B As m cm hs Ss Ag g cg gs :=
  ⟨h.rows.below_set hq, own_far h.good hq u, h.apart⟩

/-- a row more -/
theorem OppI.row {w w3 w4 : World} {B X : Nat} {st : Int} {A1 A' : Option Addr} {k c1 c' : Nat} {hs : List Hdr} {h0 : Hdr} {Rs : List (List Int)} {zs : List Int} {A2 : Option Addr} {l c2 : Nat} {ns : List Int} (h : OppI w B X st A1 k c1 hs Rs A2 l c2 ns) (hb : Below w.heap.size w w3) (h0l : w.heap.size ≤ h0.1)
    (hR : Rws w4 B (.slice A' (k + 1) c') (hs ++ [h0]) (Rs ++ [zs])) (hg : w3.grownBy w4 (Value.slice A1 k c1).ownBlock) : OppI (w4.setCell ⟨X, 1, none⟩ (.slice A' (k + 1) c')) B X st A' (k + 1) c' (hs ++ [h0]) (Rs ++ [zs]) A2 l c2 ns := by
  have hX := h.cells.2.2.2
  have hX3 := (hb.block _ hX).trans h.box
  have hu := h.au.be hb
  have hX4 : w4.heap[X]? = _ := (hg.block X (Nat.lt_of_lt_of_le hX hb.size) (fun e => own_offT hu.rows.row hX3 (by decide) e.symm)).trans hX3
  have hgd : Own64 w4 B (.slice A2 l c2) ns := hu.good.kept hg (by
    rcases hq : (Value.slice A2 l c2).ownBlock with _ | q
    · exact .inl rfl
    · exact .inr (fun e => own_off hu.good hu.rows.row (by decide) hq e.symm))
  have hau : AutoO w4 B A' (k + 1) c' (hs ++ [h0]) (Rs ++ [zs]) A2 l c2 ns := ⟨hR, hgd, fun h' hh => by
    rcases List.mem_append.1 hh with hh | hh
    · exact h.au.apart h' hh
    · simp only [List.mem_singleton] at hh
      subst hh
      intro e
      have := (World.ownsRow.lt h.au.good _ e).2
      omega⟩
  exact ⟨hau.set hX4 _, by rw [box_set hX4]; rfl⟩

/-- a good state more -/
theorem OppI.good {w w3 w4 : World} {B X : Nat} {st : Int} {A1 A' : Option Addr} {k c1 c' : Nat} {hs : List Hdr} {Rs : List (List Int)} {A2 : Option Addr} {l c2 : Nat} {ns : List Int} {y : Int} (h : OppI w B X st A1 k c1 hs Rs A2 l c2 ns) (hb : Below w.heap.size w w3)
    (hR : Own64 w4 B (.slice A' (l + 1) c') (ns ++ [y])) (hwh : (Value.slice A' (l + 1) c').ownBlock = (Value.slice A2 l c2).ownBlock ∨ (Value.slice A' (l + 1) c').ownBlock = some w3.heap.size) (hg : w3.grownBy w4 (Value.slice A2 l c2).ownBlock) : OppI (w4.setCell ⟨X, 2, none⟩ (.slice A' (l + 1) c')) B X st A1 k c1 hs Rs A' (l + 1) c' (ns ++ [y]) := by
  have hX := h.cells.2.2.2
  have hX3 := (hb.block _ hX).trans h.box
  have hu := h.au.be hb
  have hX4 : w4.heap[X]? = _ := (hg.block X (Nat.lt_of_lt_of_le hX hb.size) (fun e => own_offT hu.good hX3 (by decide) e.symm)).trans hX3
  have hrw : Rws w4 B (.slice A1 k c1) hs Rs := hu.rows.kept hg (fun q e => ⟨fun e2 => own_off hu.rows.row hu.good (by decide) e2 e, fun h' hh e2 => hu.apart h' hh (by rw [e, e2])⟩)
  have hau : AutoO w4 B A1 k c1 hs Rs A' (l + 1) c' (ns ++ [y]) := ⟨hrw, hR, fun h' hh e => by
    rcases hwh with e2 | e2
    · exact h.au.apart h' hh (by rw [← e2]; exact e)
    · rw [e2] at e
      injection e with e
      have := (h.au.rows.lt hh).2
      have := hb.size
      omega⟩
  exact ⟨hau.set hX4 _, by rw [box_set hX4]; rfl⟩
end Go.Proofs.Ytgcabcmnhdaepaa
