/- IsBinary, the program's and the model's. -/
import Derived.Test.YtkeahaoeiiigeaaDoorGivesB
namespace Go.Proofs.YtkeahaoeiiigeaaDoor
open Go.RowKit

def F_IsBinary (s : ByteArray) : Bool := okB s
set_option maxRecDepth 100000 in
theorem impl_IsBinary : GivesB1 17 F_IsBinary := by
  intro p s w hs hc
  have hC := Lib.hid (codeB1 p s w hc)
  rw [F_IsBinary]
  clear hc
  generalize okB s = b at *
  cases b
  · go_enter Tryd.func17, Tryd.ntmps17
    go_wp2_with (go_at_call 47; refine hC.out.mono ?_; rintro e w' ⟨rfl, hb⟩)
    go_ret
    exact ⟨rfl, hb⟩
  · go_enter Tryd.func17, Tryd.ntmps17
    go_wp2_with (go_at_call 47; refine hC.out.mono ?_; rintro e w' ⟨rfl, hb⟩)
    go_ret
    exact ⟨rfl, hb⟩
set_option maxRecDepth 100000 in
theorem spec_IsBinary : GivesB1 16 F_IsBinary := by
  intro p s w hs _
  have hC := Lib.hid (l03Is s w hs)
  rw [F_IsBinary]
  generalize okB s = b at *
  go_enter Tryd.func16, Tryd.ntmps16
  go_wp2_with (go_at_call 46; refine hC.out.mono ?_; rintro e w' ⟨rfl, hw⟩; subst hw)
  go_ret
  exact ⟨rfl, b0 _⟩
end Go.Proofs.YtkeahaoeiiigeaaDoor
