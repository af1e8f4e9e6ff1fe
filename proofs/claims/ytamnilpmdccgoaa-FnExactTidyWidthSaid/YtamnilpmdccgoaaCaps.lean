/- The length and the capacity of a row of the call's own. -/
import Derived.Test.YtamnilpmdccgoaaBase
namespace Go.Proofs.Ytamnilpmdccgoaa
open Go.RowKit

theorem own_caps {w : World} {B n c : Nat} {A : Option Addr} {zs : List Int} (h : Own64 w B (.slice A n c) zs) : n ≤ c ∧ c ≤ 9223372036854775807 := by
  rcases h.2 with ⟨e, _⟩ | ⟨g, cap, cur, hv, _, _, h4, h5, _⟩
  · injection e with e1 e2 e3; omega
  · injection hv with e1 e2 e3
    subst e3
    unfold maxLen at h5
    omega
end Go.Proofs.Ytamnilpmdccgoaa
