/- The door behind which readers panic: what the deferred closure does. -/
import Derived.Test.YtkeahaoeiiigeaaDoorDig
import Derived.Defers
import Derived.Recover
namespace Go.Proofs.YtkeahaoeiiigeaaDoor
open Go.RowKit

theorem assert_hit (p : Addr) (w : World) : (Instr.typeAssert (.iface 105 (.pointer (some p))) 20 65 true).run Tryd.prog w = .ok (.tuple #[.iface 105 (.pointer (some p)), .bool true]) w := by kernel_rfl
theorem assert_none (w : World) : (Instr.typeAssert .nilIface 20 65 true).run Tryd.prog w = .ok (.tuple #[.nilIface, .bool false]) w := by kernel_rfl

set_option maxRecDepth 100000 in
theorem catch_panicking (a : Addr) (p : Addr) (older : List PanicEntry) (w : World) (hc : w.cell? a = some .nilIface) (hz : w.frozen? a = false) :
    CallsD Tryd.prog 90 #[.pointer (some a)] (.panicking ({ v := errV p, recovered := false } :: older)) w fun e u' w' =>
      e = .returned (.tuple #[]) ∧ u' = .panicking ({ v := errV p, recovered := true } :: older) ∧ w' = w.setCell a (errV p) := by
  refine callsD_of_wpS Tryd.func90 rfl fun c₀ cs hu => ?_
  rw [errV] at hu ⊢
  apply wpS_seq
  apply wpS_region
  simp [wpOpsS, go_sem, recoverD, hu, Tryd.ntmps90, Exit.thenS, assert_hit]
  apply wpS_seq
  apply wpS_region
  simp [wpOpsS, go_sem, Exit.thenS]
  refine wpS_cond (t := true) (by simp [Act.eval, Array.replicate]) ?_
  simp only [if_true]
  apply wpS_region
  simp [wpOpsS, go_sem, hc, hz, bodyPostS, results, Tryd.results90, Array.replicate]

set_option maxRecDepth 100000 in
theorem catch_idle (a : Addr) (w : World) :
    CallsD Tryd.prog 90 #[.pointer (some a)] .returning w fun e u' w' => e = .returned (.tuple #[]) ∧ u' = .returning ∧ w' = w := by
  refine callsD_of_wpS Tryd.func90 rfl fun c₀ cs hu => ?_
  apply wpS_seq
  apply wpS_region
  simp [wpOpsS, go_sem, recoverD, hu, Tryd.ntmps90, Exit.thenS, assert_none]
  apply wpS_seq
  apply wpS_region
  simp [wpOpsS, go_sem, Exit.thenS]
  refine wpS_cond (t := false) (by simp [Act.eval, Array.replicate]) ?_
  simp only [Bool.false_eq_true, if_false]
  refine wpS_of_wp (wp_skip ?_)
  cases c₀
  simp_all [bodyPostS, results, Tryd.results90]
end Go.Proofs.YtkeahaoeiiigeaaDoor
