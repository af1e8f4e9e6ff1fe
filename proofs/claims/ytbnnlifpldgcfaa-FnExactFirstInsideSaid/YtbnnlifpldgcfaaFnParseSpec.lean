/- ParseTree, the model's. -/
import Derived.Test.YtbnnlifpldgcfaaFnParseTree
namespace Go.Proofs.Ytbnnlifpldgcfaa
open Go.RowKit

/-- what the model's reader of a text must do -/
def GivesRead (f : Nat) : Prop :=
  ∀ (s : ByteArray) (w : World), s.size ≤ 1048576 →
    Calls Try.prog f #[.string s] w fun e w' => ∃ A' c', e = .returned (.tuple #[.agg #[.slice A' (M.parse (bytesOf s)).1.length c'], .bool ((M.parse (bytesOf s)).2 == 0)]) ∧
      Own64 w' w.heap.size (.slice A' (M.parse (bytesOf s)).1.length c') (M.parse (bytesOf s)).1 ∧ Below w.heap.size w w'

theorem two_empty (w : World) (t : TypeId) : Two (((w.alloc (.cells #[.slice none 0 0] t)).alloc (.cells #[] 2)).alloc (.cells #[] 2)) (w.heap.size + 1)
    (.slice (some ⟨w.heap.size + 1, 0, none⟩) 0 0) (.slice (some ⟨w.heap.size + 2, 0, none⟩) 0 0) [] [] := by
  have h1 := own64_empty (w := w.alloc (.cells #[.slice none 0 0] t)) (B := w.heap.size + 1) (by simp)
  have h2 := own64_empty (w := (w.alloc (.cells #[.slice none 0 0] t)).alloc (.cells #[] 2)) (B := w.heap.size + 1) (by simp)
  simp only [World.size_alloc] at h1 h2
  exact ⟨h1.alloc _, h2, fun b h h' => by simp [Value.ownBlock] at h h'; omega⟩

theorem M.parse_or (l : List Int) : M.parse l = ([], 6) ∨ (M.parse l).2 = 0 := by
  simp only [M.parse]
  split
  · exact .inl rfl
  · split
    · split
      · exact .inl rfl
      · exact .inr rfl
    · exact .inl rfl

end Go.Proofs.Ytbnnlifpldgcfaa
