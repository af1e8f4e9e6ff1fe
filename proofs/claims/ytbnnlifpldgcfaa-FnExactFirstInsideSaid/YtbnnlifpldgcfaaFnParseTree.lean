/- ParseTree, the program's and the model's: the tree with a text, or a code. -/
import Derived.Test.YtbnnlifpldgcfaaTwo
namespace Go.Proofs.Ytbnnlifpldgcfaa
open Go.RowKit

/-- the bytes of a string, as numbers -/
def bytesOf (s : ByteArray) : List Int := s.data.toList.map fun b => (b.toNat : Int)
theorem bytesOf_length (s : ByteArray) : (bytesOf s).length = s.size := by simp [bytesOf]
theorem bytesOf_at (s : ByteArray) {k : Nat} (h : k < s.size) : (bytesOf s)[k]? = some (s[k].toNat : Int) := by
  have h' : k < s.data.toList.length := by simpa using h
  simp only [bytesOf, List.getElem?_map, List.getElem?_eq_getElem h']
  rfl

/-- what a function of a text that hands back a tree and a code must do -/
def GivesParse (f : Nat) : Prop :=
  ∀ (s : ByteArray) (w : World), s.size ≤ 1048576 →
    Calls Try.prog f #[.string s] w fun e w' => ∃ A' c', e = .returned (.tuple #[.agg #[.slice A' (M.parse (bytesOf s)).1.length c'], .int .i64 (M.parse (bytesOf s)).2]) ∧
      Own64 w' w.heap.size (.slice A' (M.parse (bytesOf s)).1.length c') (M.parse (bytesOf s)).1 ∧ Below w.heap.size w w'

theorem two_nil (w : World) (B : Nat) : Two w B (.slice none 0 0) (.slice none 0 0) [] [] := ⟨own64_nil _ _, own64_nil _ _, fun b h => by simp [Value.ownBlock] at h⟩

theorem parse_nil : M.parse (bytesOf ByteArray.empty) = ([], 6) := by simp [bytesOf, M.parse, M.prun]

end Go.Proofs.Ytbnnlifpldgcfaa
