/- Rows of bools: which nodes are there; what one operation of a drawn region held by a fact does. -/
import Derived.Test.YtbdmmeoelagdcaaGrowIn
import Derived.Deep.RegionHeld3
namespace Go.Proofs.Ytbdmmeoelagdcaa
open Go.RowKit

/-- the slice value v owns a row of bools -/
abbrev OwnB (w : World) (B : Nat) (v : Value) (U : List Bool) : Prop := w.ownsRow B 4 1 v U.length (U.map Value.bool)
theorem infoB : (Try.prog.info? 4).map (fun i => (i.zero, i.size, i.bytes)) = some (some (.bool false), 1, 1) := by kernel_rfl
theorem ownB_set {w : World} {B g n c : Nat} {U : List Bool} (h : OwnB w B (.slice (some ⟨g, 0, none⟩) n c) U) (hn : U.length = n) (k : Nat) (x : Bool) :
    OwnB (w.setCell ⟨g, k, none⟩ (.bool x)) B (.slice (some ⟨g, 0, none⟩) n c) (U.set k x) := by
  subst hn
  have := (World.ownsRow.stored h k (.bool x)).1
  simpa [OwnB, List.map_set] using this
theorem ownB_cell {w : World} {B g n c : Nat} {U : List Bool} (h : OwnB w B (.slice (some ⟨g, 0, none⟩) n c) U) (hn : U.length = n) {k : Nat} {x : Bool} (hx : U[k]? = some x) :
    w.cell? ⟨g, k, none⟩ = some (.bool x) ∧ w.frozen? ⟨g, k, none⟩ = false ∧ B ≤ g ∧ g < w.heap.size := by
  subst hn
  have hk : k < U.length := (List.getElem?_eq_some_iff.1 hx).1
  have hl := World.ownsRow.lt h g rfl
  exact ⟨(World.ownsRow.cellAt h k (by omega)).trans (by simp [hx]), World.ownsRow.frozenAt h k, hl.1, hl.2⟩
theorem ownB_made {w : World} {B n : Nat} (hB : B ≤ w.heap.size) (hn : n ≤ maxLen) :
    OwnB (w.alloc (.cells (madeCells #[.bool false] n) 4)) B (.slice (some ⟨w.heap.size, 0, none⟩) n n) (List.replicate n false) := by
  have h := World.ownsRow_lit (e := 4) (size := 1) w (madeCells #[.bool false] n) n hB hn (by simp [size_madeCells])
  rw [toList_madeCells_one] at h
  simpa [OwnB] using h

namespace M
/-- which nodes are among the first k ones -/
def metRow (n : Nat) (l : List Int) (k : Nat) : List Bool := (List.range n).map fun v : Nat => decide ((v : Int) ∈ l.take k)
theorem metRow_len (n : Nat) (l : List Int) (k : Nat) : (metRow n l k).length = n := by simp [metRow]
theorem metRow_zero (n : Nat) (l : List Int) : metRow n l 0 = List.replicate n false := by simp [metRow, List.map_const']
theorem metRow_at {n : Nat} {l : List Int} {k v : Nat} (h : v < n) : (metRow n l k)[v]? = some (decide ((v : Int) ∈ l.take k)) := by simp [metRow, h]
theorem metRow_step {n : Nat} {l : List Int} {k v : Nat} (hx : l[k]? = some (v : Int)) : (metRow n l k).set v true = metRow n l (k + 1) := by
  refine List.ext_getElem? fun i => ?_
  rcases Nat.lt_or_ge i n with hi | hi
  · rw [List.getElem?_set, metRow_len, metRow_at hi, metRow_at hi, take_add_one hx]
    by_cases e : v = i
    · subst e
      rw [if_pos rfl, if_pos hi]
      simp
    · rw [if_neg e]
      have : (i : Int) ≠ (v : Int) := by omega
      simp [this]
  · rw [List.getElem?_eq_none (by simp [metRow]; omega), List.getElem?_eq_none (by rw [metRow_len]; omega)]
end M

theorem anyTake {P : Program} {ops : Array Oper} {Q : Exit → Act → World → Prop} {md : Region.Mode} {S : World → Prop} {oi : Oper} {fuel : Nat} {listed : Array Bool} {a : Act} {w : World} (i : Nat) (d : Option Tmp) (v : Value) (hi : ops[i]? = some oi) (hd : oi.dst = d)
    (hs : Region.noSelect ops = true) (hf : Region.free md ops listed i = true) (hr : (Region.ready md ops listed).contains i = true)
    (hQ : ∀ c a w, Q (.panic c) (a.put d v) w → Q (.panic c) a w) (hw : Region.wanted oi (yielded ops a.tmps) = true) (hy : ∀ w, S w → (execOp a.eval oi).run P w = .ok (.value v) w) (hS : S w)
    (h : wpAnyH P md ops Q S fuel (listed.setIfInBounds i true) (a.put d v) w) : wpAnyH P md ops Q S (fuel + 1) listed a w := by
  subst hd; exact wpAnyH_take hi hs hf hr hQ (.inl ⟨hw, hy⟩) hS h

theorem anySkip {P : Program} {ops : Array Oper} {Q : Exit → Act → World → Prop} {md : Region.Mode} {S : World → Prop} {oi : Oper} {fuel : Nat} {listed : Array Bool} {a : Act} {w : World} (i : Nat) (d : Option Tmp) (hi : ops[i]? = some oi) (hd : oi.dst = d)
    (hs : Region.noSelect ops = true) (hf : Region.free md ops listed i = true) (hr : (Region.ready md ops listed).contains i = true)
    (hQ : ∀ c a w, Q (.panic c) (a.put d undef) w → Q (.panic c) a w) (hw : Region.wanted oi (yielded ops a.tmps) = false) (hS : S w)
    (h : wpAnyH P md ops Q S fuel (listed.setIfInBounds i true) (a.put d undef) w) : wpAnyH P md ops Q S (fuel + 1) listed a w := by
  subst hd; exact wpAnyH_take hi hs hf hr hQ (.inr ⟨hw, rfl⟩) hS h
end Go.Proofs.Ytbdmmeoelagdcaa
