/- The listed variable errNoVector opened; a list of numbers opened. -/
import Derived.Test.YtkeahaoeiiigeaaDoorDoorOpen
import Derived.SizedLaws
import Derived.Lib.SmallJoins
import Derived.Deep.Slices
import Derived.Deep.Fields
namespace Go.Proofs.YtkeahaoeiiigeaaDoor
open Go.RowKit Go.Joins Go.ChangeShapes Go.WideShapes Go.ChangeAt Go.Deep

theorem cells64 : Tryd.prog.cellsOf 2 = 1 := by kernel_rfl
/-- the variable's name -/
def nameV : String := Rows.fnExactBinaryOfVectorRow.named.headD default
theorem gV : Tryd.prog.globalNamed nameV = some 1 := by kernel_rfl
theorem gVType : (Tryd.prog.globals[1]?).map (·.type) = some 65 := by kernel_rfl
theorem of_laidV {W : World} (h : laidMetH Tryd.prog Rows.fnExactBinaryOfVectorRow.laid W) : ∃ a, W.var? Tryd.prog nameV = some #[errV a] := by
  rw [MakeChecks.laidMetH_plain _ _ _ (by kernel_rfl)] at h
  obtain ⟨a, s, h1, _⟩ := laid_sentinel (tp := 105) h gV gVType Tryd.underlying65 (fun u hu => typeName_ptr_named (nm := "errors.errorString") (by kernel_rfl) (by kernel_rfl) (by decide) u (hu.trans (congrArg some (by decide))))
    Tryd.underlying105 Tryd.underlying119 rfl rfl Tryd.underlying9 errCells strCells
  exact ⟨a, h1⟩
theorem cellV {W : World} {a : Addr} (h : W.var? Tryd.prog nameV = some #[errV a]) : W.cell? ⟨1, 0, none⟩ = some (errV a) := by simpa using World.var?_cell gV h 0
theorem varsV {H : Type} (enc : TypeId × Value → H) {W : World} {a : Addr} (h : W.var? Tryd.prog nameV = some #[errV a]) (sp : Nat → Bool) : DataW.TrodVars enc Tryd.prog W sp [nameV] [tok enc (errV a)] [.cell 1 0] :=
  vars_read1 enc gV gVType Tryd.underlying65 h trivial sp
theorem doorV (os : Os) (args : Array Value) : laidMetH Tryd.prog Rows.fnExactBinaryOfVectorRow.laid ((World.doorLaid Tryd.prog 400 os).forCall (fun _ _ => 0) ⟨#[], args, []⟩).memory :=
  laidMetH_of_parts3 (fuel := 8) (laidMet_of_run' 8 (by kernel_rfl) (by kernel_rfl)) (by kernel_rfl) (by kernel_rfl)
/-- a slice of int64 as read, in this seat's words -/
theorem openInts {H : Type} {enc : TypeId × Value → H} {W : World} {fuel : Nat} {v : Value} {y : DataW H × List MemPlace}
    (h : DataW.trod enc Tryd.prog W 0 (fun _ => true) true fuel 29 [v] = some y) (hlt : ∀ x ∈ y.2, x.block < W.heap.size) :
    ∃ (A : Option Addr) (c : Nat) (xs : List Int), v = .slice A xs.length c ∧ xs.length ≤ 9223372036854775807 ∧ Ints W W.heap.size A xs ∧ ∀ x ∈ xs, -9223372036854775808 ≤ x ∧ x ≤ 9223372036854775807 := by
  rcases open_ints Tryd.underlying29 Tryd.underlying2 cells64 h with ⟨hcs, hx⟩ | ⟨a, len', cap', zs, hcs, _, hl, hm, hz, hx, hcell, hwz⟩
  · obtain rfl : v = .slice none 0 0 := by simpa using hcs
    exact ⟨none, 0, [], rfl, by simp, Ints.nil_ _ _ _, by simp⟩
  · obtain rfl : v = .slice (some a) len' cap' := by simpa using hcs
    simp only [if_true] at hz
    have hlz : len' ≤ zs.length := by omega
    have htl : (zs.take len').length = len' := by simp; omega
    subst hx
    refine ⟨some a, cap', zs.take len', by rw [htl], by rw [htl]; simp only [maxLen] at hm; omega, fun hpos => ?_, fun x hxm => ?_⟩
    · rw [htl] at hpos
      obtain ⟨b, off, spot⟩ := a
      have hspot : spot = none := by simpa [Addr.add] using World.cell?_spot (hcell 0 (by omega))
      subst hspot
      refine ⟨b, off, rfl, hlt (.cell b off) (MemPlace.mem_row.2 ⟨0, by omega, by simp⟩), fun j x hj => ?_⟩
      have hj' : j < zs.length := by
        have := (List.getElem?_eq_some_iff.1 hj).1
        rw [htl] at this
        omega
      have hj2 : zs[j]? = some x := by
        rw [List.getElem?_take] at hj
        split at hj
        · exact hj
        · cases hj
      rw [← add_plain, hcell j hj']
      simp [List.getD, hj2]
    · have := hwz x (List.mem_of_mem_take hxm)
      simpa [Lit.wf, IntKind.min, IntKind.max, IntKind.signed, IntKind.bits] using this

end Go.Proofs.YtkeahaoeiiigeaaDoor
