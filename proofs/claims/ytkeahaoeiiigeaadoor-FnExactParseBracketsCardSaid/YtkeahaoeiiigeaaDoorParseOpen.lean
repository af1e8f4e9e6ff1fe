/- The listed variables of ParseBrackets opened: the program's error and the tables of runes. -/
import Derived.Test.YtkeahaoeiiigeaaDoorDoorOpen
import Derived.Test.YtkeahaoeiiigeaaDoorShelf
import Derived.Lib.LaidU8
import Derived.Lib.LaidTab
import Derived.PinnedBridge
namespace Go.Proofs.YtkeahaoeiiigeaaDoor
open Go.RowKit Go.ChangeShapes Go.WideShapes Go.ChangeAt

theorem accept_eq : (Rows.laid_unicode_utf8_acceptRanges : DataW Unit) = Lib.acceptData := by kernel_rfl
theorem first_eq : Rows.laid_unicode_utf8_first = Lib.firstData := by kernel_rfl
theorem of_laidP {W : World} (h : laidMetH Tryd.prog Rows.fnExactParseBracketsRow.laid W) : (∃ a, W.var? Tryd.prog nameB = some #[errV a]) ∧ Lib.Utf8Tabs 2 3 W := by
  rw [MakeChecks.laidMetH_plain _ _ _ (by kernel_rfl)] at h
  refine ⟨?_, ?_⟩
  · obtain ⟨a, s, h1, _⟩ := laid_sentinel (tp := 105) h.tail gB gBType Tryd.underlying65 (fun u hu => typeName_ptr_named (nm := "errors.errorString") (by kernel_rfl) (by kernel_rfl) (by decide) u (hu.trans (congrArg some (by decide))))
      Tryd.underlying105 Tryd.underlying119 rfl rfl Tryd.underlying9 errCells strCells
    exact ⟨a, h1⟩
  · exact utf8Tabs_of_reads (ρ := Tryd.lays230_ren) { Tryd.lays230 with } ⟨by kernel_rfl, by kernel_rfl, by kernel_rfl, by kernel_rfl, by kernel_rfl, by kernel_rfl, by kernel_rfl⟩
      (first_eq ▸ Lib.laidMet.reads h (.tail _ (.tail _ (.head _)))) (accept_eq ▸ Lib.laidMet.reads h (.head _))
/-- the witness: the door's world with both tables laid -/
noncomputable def laidP (os : Os) : World :=
  let w0 := World.doorLaid Tryd.prog 400 os
  let put (h : Array Obj) (g : Nat) (cs : Array Value) : Array Obj := h.modify g fun
    | .cells _ t frozen => .cells cs t frozen
    | o => o
  let h1 := put w0.heap 2 (Lib.firstTab.map fun z => Value.int .u8 z).toArray
  let h2 := put h1 3 ((List.range 16).flatMap fun i => [Value.int .u8 (Lib.accLo i), Value.int .u8 (Lib.accHi i)]).toArray
  { w0 with heap := h2 }
theorem doorP (os : Os) (args : Array Value) : laidMetH Tryd.prog Rows.fnExactParseBracketsRow.laid ((laidP os).forCall (fun _ _ => 0) ⟨#[], args, []⟩).memory :=
  laidMetH_of_parts3 (fuel := 8) (laidMet_of_run' 8 (by kernel_rfl) (by kernel_rfl)) (by kernel_rfl) (by kernel_rfl)
end Go.Proofs.YtkeahaoeiiigeaaDoor
