/- The walks of the laws' own helpers over trees (structs of one slice): szTree, toTree, eqTree, markTree, heldTree. No conditions but lengths. -/
import Derived.Test.YtkeahaoeiiigeaaDoorSl
import Derived.Maps.AppendAt
namespace Go.Proofs.YtkeahaoeiiigeaaDoor
open Go.RowKit

theorem bcell {W w1 : World} (hb : Below W.heap.size W w1) : (∀ b o, b < W.heap.size → w1.cell? ⟨b, o, none⟩ = W.cell? ⟨b, o, none⟩) ∧ (∀ b o, b < W.heap.size → w1.frozen? ⟨b, o, none⟩ = W.frozen? ⟨b, o, none⟩) :=
  ⟨fun b o h => hb.cell (p := ⟨b, o, none⟩) h, fun b o h => hb.frozen (p := ⟨b, o, none⟩) h⟩

theorem own_shape {w : World} {B e : Nat} {v : Value} {n : Nat} {zs : List Value} (h : w.ownsRow B e 1 v n zs) : ∃ A c, v = .slice A n c := by
  rcases h.2 with ⟨rfl, rfl⟩ | ⟨g, cap, _, rfl, _⟩
  · exact ⟨none, 0, rfl⟩
  · exact ⟨_, _, rfl⟩

/-- a step that keeps all that was there: what a law knows of its own memory stays -/
theorem own_be {w w' : World} {base e size n : Nat} {v : Value} {xs : List Value} (h : w.ownsRow base e size v n xs) (hb : Below w.heap.size w w') : w'.ownsRow base e size v n xs := own_below h hb (Nat.le_refl _)

theorem cell_be {w w' : World} {b : Nat} {v : Value} (h : w.cell? ⟨b, 0, none⟩ = some v) (hb : Below w.heap.size w w') : w'.cell? ⟨b, 0, none⟩ = some v :=
  ((bcell hb).1 _ _ (World.block_lt_of_cell? _ _ h)).trans h

theorem cell_grown {w w' : World} {b : Nat} {v : Value} {row : Option Nat} (h : w.cell? ⟨b, 0, none⟩ = some v) (hb : w.grownBy w' row) (hne : ∀ k, row = some k → k ≠ b) : w'.cell? ⟨b, 0, none⟩ = some v :=
  hb.cell h (fun e => hne b e.symm rfl)

theorem own_grown {w w' : World} {base e size n : Nat} {v : Value} {xs : List Value} {row : Option Nat} (h : w.ownsRow base e size v n xs) (hb : w.grownBy w' row) (hne : ∀ k, row = some k → k < base ∨ w.heap.size ≤ k) : w'.ownsRow base e size v n xs := by
  refine h.kept hb ?_
  cases hv : v.ownBlock with
  | none => exact .inl rfl
  | some k =>
    refine .inr fun e => ?_
    have h1 := h.lt k hv
    have h2 := hne k e.symm
    omega

theorem below_grown {a w w' : World} {row : Option Nat} (h : Below a.heap.size a w) (hb : w.grownBy w' row) (hne : ∀ k, row = some k → a.heap.size ≤ k) : Below a.heap.size a w' :=
  h.grown hb h.size hne

theorem eqIntsT (A A' : Option Addr) (xs : List Int) (c c' : Nat) (w : World) (hy : xs.length ≤ 1000000000000000)
    (h : Ints w w.heap.size A xs) (h' : Ints w w.heap.size A' xs) :
    Calls Tryd.prog 26 #[.slice A xs.length c, .slice A' xs.length c'] w fun e w' => e = .returned (.bool true) ∧ Below w.heap.size w w' :=
  (eqInts A A' xs xs c c' w hy h h').mono fun _ _ ⟨he, hb⟩ => ⟨by rw [he]; simp, hb⟩

/-- what a function of a tree that hands back a list and a code must do, as F says -/
def GivesList (f : Nat) (F : List Int → List Int × Int) : Prop :=
  ∀ (A : Option Addr) (xs : List Int) (c : Nat) (w : World), xs.length ≤ 1048576 → xs.length ≤ c ∧ c ≤ 9223372036854775807 → Ints w w.heap.size A xs →
    Calls Tryd.prog f #[.agg #[.slice A xs.length c]] w fun e w' => ∃ A' c', e = .returned (.tuple #[.slice A' (F xs).1.length c', .int .i64 (F xs).2]) ∧
      Own64 w' w.heap.size (.slice A' (F xs).1.length c') (F xs).1 ∧ Below w.heap.size w w'
end Go.Proofs.YtkeahaoeiiigeaaDoor
