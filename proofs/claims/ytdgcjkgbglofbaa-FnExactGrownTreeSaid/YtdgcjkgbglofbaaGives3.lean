/- A tree and three numbers to a tree and a code. -/
import Derived.Test.YtdgcjkgbglofbaaGives
namespace Go.Proofs.Ytdgcjkgbglofbaa
open Go.RowKit

def GivesTree3 (f : Nat) (F : List Int → Int → Int → Int → List Int × Int) : Prop :=
  ∀ (A : Option Addr) (xs : List Int) (c : Nat) (v i k : Int) (w : World), xs.length ≤ 1048576 → xs.length ≤ c ∧ c ≤ 9223372036854775807 → Ints w w.heap.size A xs →
    Calls Try.prog f #[.agg #[.slice A xs.length c], .int .i64 v, .int .i64 i, .int .i64 k] w fun e w' => ∃ A' c', e = .returned (.tuple #[.agg #[.slice A' (F xs v i k).1.length c'], .int .i64 (F xs v i k).2]) ∧
      Own64 w' w.heap.size (.slice A' (F xs v i k).1.length c') (F xs v i k).1 ∧ Below w.heap.size w w'
end Go.Proofs.Ytdgcjkgbglofbaa
