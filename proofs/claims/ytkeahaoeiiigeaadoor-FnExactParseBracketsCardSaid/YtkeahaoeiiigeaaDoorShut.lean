/- What every row of this seat asks of the whole program, once: three facts on how the cut was made (each takes the kernel near a minute and 9 GB). -/
import Derived.Test.YtkeahaoeiiigeaaDoorRows
import Derived.JoinedOf
namespace Go.Proofs.YtkeahaoeiiigeaaDoor

set_option maxHeartbeats 4000000 in
theorem shut_mayEnter : Tryd.pinned.checked.prog.mayEnter = true := by kernel_rfl
set_option maxHeartbeats 4000000 in
theorem shut_lifts : (false == Tryd.pinned.checked.prog.liftsFinal) = true := by kernel_rfl
set_option maxHeartbeats 4000000 in
theorem shut_make : (Tryd.pinned.checked.prog.make == some .cut) = true := by kernel_rfl
end Go.Proofs.YtkeahaoeiiigeaaDoor
