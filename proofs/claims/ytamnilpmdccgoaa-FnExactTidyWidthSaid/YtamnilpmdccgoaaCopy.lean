/- the model's subtree. -/
import Derived.Test.YtamnilpmdccgoaaNodes
import Derived.Test.YtamnilpmdccgoaaClone
import Derived.Test.YtamnilpmdccgoaaGives
import Derived.Laws.AppendOwnNone
import Derived.WalkSpells
import Derived.RangeFuncRecord
namespace Go.Proofs.Ytamnilpmdccgoaa
open Go.RowKit

theorem ints_sub {w : World} {B b off : Nat} {xs : List Int} (h : Ints w B (some ⟨b, off, none⟩) xs) (v m : Nat) : Ints w B (some ⟨b, off + v, none⟩) ((xs.drop v).take m) := fun hpos => by
  have hl : 0 < xs.length := by simp only [List.length_take, List.length_drop] at hpos; omega
  obtain ⟨b', off', e, hb, hc⟩ := h hl
  injection e with e
  injection e with e1 e2
  subst e1
  subst e2
  refine ⟨b, off + v, rfl, hb, fun j x hj => ?_⟩
  rw [List.getElem?_take] at hj
  split at hj
  · rw [List.getElem?_drop] at hj
    rw [Nat.add_assoc]
    exact hc _ _ hj
  · cases hj

end Go.Proofs.Ytamnilpmdccgoaa
