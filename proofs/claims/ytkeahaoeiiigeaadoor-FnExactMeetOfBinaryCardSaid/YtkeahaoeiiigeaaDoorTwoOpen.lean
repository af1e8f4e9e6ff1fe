/- Both listed variables opened. -/
import Derived.Test.YtkeahaoeiiigeaaDoorVecOpen
import Derived.Stop.LaidTwo
namespace Go.Proofs.YtkeahaoeiiigeaaDoor
open Go.RowKit Go.ChangeShapes Go.WideShapes Go.ChangeAt

theorem of_laid2 {W : World} (h : laidMetH Tryd.prog Rows.fnExactMeetOfBinaryRow.laid W) : ∃ a b, W.var? Tryd.prog nameB = some #[errV a] ∧ W.var? Tryd.prog nameV = some #[errV b] := by
  rw [MakeChecks.laidMetH_plain _ _ _ (by kernel_rfl)] at h
  obtain ⟨a, b, _, _, _, _, _, _, h1, h2, _⟩ := laid_sentinels2 (tp := 105) h gB gBType gV gVType Tryd.underlying65 (fun u hu => typeName_ptr_named (nm := "errors.errorString") (by kernel_rfl) (by kernel_rfl) (by decide) u (hu.trans (congrArg some (by decide))))
    Tryd.underlying105 Tryd.underlying119 rfl rfl Tryd.underlying9 errCells strCells
  exact ⟨a, b, h1, h2⟩
theorem vars2 {H : Type} (enc : TypeId × Value → H) {W : World} {a b : Addr} (h : W.var? Tryd.prog nameB = some #[errV a]) (h2 : W.var? Tryd.prog nameV = some #[errV b]) (sp : Nat → Bool) : DataW.TrodVars enc Tryd.prog W sp [nameB, nameV] [tok enc (errV a), tok enc (errV b)] [.cell 0 0, .cell 1 0] :=
  vars_read2 enc gB gBType Tryd.underlying65 h trivial gV gVType Tryd.underlying65 h2 trivial sp
theorem door2 (os : Os) (args : Array Value) : laidMetH Tryd.prog Rows.fnExactMeetOfBinaryRow.laid ((World.doorLaid Tryd.prog 400 os).forCall (fun _ _ => 0) ⟨#[], args, []⟩).memory :=
  laidMetH_of_parts3 (fuel := 8) (laidMet_of_run' 8 (by kernel_rfl) (by kernel_rfl)) (by kernel_rfl) (by kernel_rfl)
end Go.Proofs.YtkeahaoeiiigeaaDoor
