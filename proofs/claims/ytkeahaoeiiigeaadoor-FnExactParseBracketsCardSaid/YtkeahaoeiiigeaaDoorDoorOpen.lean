/- The listed variable opened: what the condition of the rows gives. -/
import Derived.Test.YtkeahaoeiiigeaaDoorCodeB
import Derived.Test.YtkeahaoeiiigeaaDoorRows
import Derived.ProofKit
import Derived.LaidMore
import Derived.OpenShut
import Derived.ChangeVars
import Derived.RowKitTokens
import Derived.Stop.Joined
import Derived.Stop.LaidErr
import Derived.Stop.ErrReads
import Derived.ChangeMaps5
namespace Go.Proofs.YtkeahaoeiiigeaaDoor
open Go.ChangeShapes Go.WideShapes Go.ChangeAt Go.RowKit

theorem own : ownKnob Tryd.prog.godebug = none := by kernel_rfl
theorem laidOut : laidOutB Tryd.prog = true := by kernel_rfl
/-- the variable's name -/
def nameB : String := Rows.fnExactIsBinaryRow.named.headD default
theorem gB : Tryd.prog.globalNamed nameB = some 0 := by kernel_rfl
theorem gBType : (Tryd.prog.globals[0]?).map (·.type) = some 65 := by kernel_rfl
theorem errCells : Tryd.prog.cellsOf 119 = 1 := by kernel_rfl
theorem strCells : Tryd.prog.cellsOf 9 = 1 := by kernel_rfl

theorem of_laidB {W : World} (h : laidMetH Tryd.prog Rows.fnExactIsBinaryRow.laid W) : ∃ a, W.var? Tryd.prog nameB = some #[errV a] := by
  rw [MakeChecks.laidMetH_plain _ _ _ (by kernel_rfl)] at h
  obtain ⟨a, s, h1, _⟩ := laid_sentinel (tp := 105) h gB gBType Tryd.underlying65 (fun u hu => typeName_ptr_named (nm := "errors.errorString") (by kernel_rfl) (by kernel_rfl) (by decide) u (hu.trans (congrArg some (by decide))))
    Tryd.underlying105 Tryd.underlying119 rfl rfl Tryd.underlying9 errCells strCells
  exact ⟨a, h1⟩
theorem var_up {W W' : World} {n : String} {cs : Array Value} (h : W.var? Tryd.prog n = some cs) (hb : Below W.heap.size W W') : W'.var? Tryd.prog n = some cs := by
  unfold World.var? at h ⊢
  cases hg : Tryd.prog.globalNamed n with
  | none => rw [hg] at h; cases h
  | some g =>
    rw [hg] at h
    simp only [Option.bind_some] at h ⊢
    have hlt : g < W.heap.size := by
      rcases Nat.lt_or_ge g W.heap.size with h' | h'
      · exact h'
      · rw [Array.getElem?_eq_none h'] at h; cases h
    rw [hb.block g hlt]
    exact h
theorem cellB {W : World} {a : Addr} (h : W.var? Tryd.prog nameB = some #[errV a]) : W.cell? ⟨0, 0, none⟩ = some (errV a) := by simpa using World.var?_cell gB h 0
theorem varsB {H : Type} (enc : TypeId × Value → H) {W : World} {a : Addr} (h : W.var? Tryd.prog nameB = some #[errV a]) (sp : Nat → Bool) : DataW.TrodVars enc Tryd.prog W sp [nameB] [tok enc (errV a)] [.cell 0 0] :=
  vars_read1 enc gB gBType Tryd.underlying65 h trivial sp
theorem doorB (os : Os) (args : Array Value) : laidMetH Tryd.prog Rows.fnExactIsBinaryRow.laid ((World.doorLaid Tryd.prog 400 os).forCall (fun _ _ => 0) ⟨#[], args, []⟩).memory :=
  laidMetH_of_parts3 (fuel := 8) (laidMet_of_run' 8 (by kernel_rfl) (by kernel_rfl)) (by kernel_rfl) (by kernel_rfl)
end Go.Proofs.YtkeahaoeiiigeaaDoor
