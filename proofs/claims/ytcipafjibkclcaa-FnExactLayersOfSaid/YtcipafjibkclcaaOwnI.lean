/- Owned rows of ints (Go's int): made, read, written. -/
import Derived.Test.YtcipafjibkclcaaBase
namespace Go.Proofs.Ytcipafjibkclcaa
open Go.RowKit

theorem infoInt : (Try.prog.info? 3).map (fun i => (i.zero, i.size, i.bytes)) = some (some (.int .i64 0), 1, 8) := by kernel_rfl
/-- the slice value v owns a row of ints that reads zs -/
abbrev OwnI (w : World) (B : Nat) (v : Value) (zs : List Int) : Prop := w.ownsRow B 3 1 v zs.length (zs.map (Value.int .i64))
theorem ownI_made {w : World} {B n : Nat} (hB : B ≤ w.heap.size) (hn : n ≤ maxLen) :
    OwnI (w.alloc (.cells (madeCells #[.int .i64 0] n) 3)) B (.slice (some ⟨w.heap.size, 0, none⟩) n n) (List.replicate n 0) := by
  have h := World.ownsRow_lit (e := 3) (size := 1) w (madeCells #[.int .i64 0] n) n hB hn (by simp [size_madeCells])
  rw [toList_madeCells_one] at h
  simpa [OwnI] using h
theorem ownI_set {w : World} {B g n c : Nat} {zs : List Int} (h : OwnI w B (.slice (some ⟨g, 0, none⟩) n c) zs) (hn : zs.length = n) (k : Nat) (x : Int) :
    OwnI (w.setCell ⟨g, k, none⟩ (.int .i64 x)) B (.slice (some ⟨g, 0, none⟩) n c) (zs.set k x) := by
  subst hn
  have := (World.ownsRow.stored h k (.int .i64 x)).1
  simpa [OwnI, List.map_set] using this
theorem ownI_cell {w : World} {B g n c : Nat} {zs : List Int} (h : OwnI w B (.slice (some ⟨g, 0, none⟩) n c) zs) (hn : zs.length = n) {k : Nat} {x : Int} (hx : zs[k]? = some x) :
    w.cell? ⟨g, k, none⟩ = some (.int .i64 x) ∧ w.frozen? ⟨g, k, none⟩ = false ∧ B ≤ g ∧ g < w.heap.size := by
  subst hn
  have hk : k < zs.length := (List.getElem?_eq_some_iff.1 hx).1
  have hl := World.ownsRow.lt h g rfl
  exact ⟨(World.ownsRow.cellAt h k (by omega)).trans (by simp [hx]), World.ownsRow.frozenAt h k, hl.1, hl.2⟩
end Go.Proofs.Ytcipafjibkclcaa
