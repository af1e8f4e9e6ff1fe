/- MeetOf, the program's and the model's: the deepest node that has both nodes below it, or a code. -/
import Derived.Test.YtamnilpmdccgoaaParents
import Derived.Test.YtamnilpmdccgoaaFnIsBelow
namespace Go.Proofs.Ytamnilpmdccgoaa
open Go.RowKit

namespace M
def meetOf (xs : List Int) (v u : Int) : Int × Int := if code xs [v, u] = 0 then ((meet xs v.toNat u.toNat : Int), 0) else (0, code xs [v, u])
theorem meetOf_yes {xs : List Int} {v u : Nat} (h : code xs [(v : Int), (u : Int)] = 0) : meetOf xs v u = ((meet xs v u : Int), 0) := by simp [meetOf, h]
theorem meetOf_no {xs : List Int} {v u : Int} (h : code xs [v, u] ≠ 0) : meetOf xs v u = (0, code xs [v, u]) := by simp [meetOf, h]
theorem below_bel (xs : List Int) (v u : Nat) : below xs (v : Int) (u : Int) = bel xs v u := by
  have e1 : decide ((u : Int) ≤ (v : Int)) = decide (u ≤ v) := decide_eq_decide.2 (by omega)
  have e2 : decide ((v : Int) < (u : Int) + (span 1 (xs.drop u) : Int)) = decide (v < u + span 1 (xs.drop u)) := decide_eq_decide.2 (by omega)
  simp only [below, bel, fin, Int.toNat_natCast]
  rw [e1, e2, Bool.eq_iff_iff]
  simp only [Bool.and_eq_true, decide_eq_true_eq]
  exact ⟨fun h => ⟨h.1, decide_eq_true h.2⟩, fun h => ⟨h.1, of_decide_eq_true h.2⟩⟩
theorem bel_root {xs : List Int} (ht : isTree xs = true) {v : Nat} (hv : v < xs.length) : bel xs v 0 = true := bel_iff.2 ⟨Nat.zero_le _, by rw [fin_root ht]; exact hv⟩
end M

/-- what a function of a tree and two numbers that hands back a number and a code must do, as F says -/
def GivesNum2 (f : Nat) (F : List Int → Int → Int → Int × Int) : Prop :=
  ∀ (A : Option Addr) (xs : List Int) (c : Nat) (v u : Int) (w : World), xs.length ≤ 1048576 → xs.length ≤ c ∧ c ≤ 1000000000000 → Ints w w.heap.size A xs →
    Calls Try.prog f #[.agg #[.slice A xs.length c], .int .i64 v, .int .i64 u] w fun e w' => e = .returned (.tuple #[.int .i64 (F xs v u).1, .int .i64 (F xs v u).2]) ∧ Below w.heap.size w w'

end Go.Proofs.Ytamnilpmdccgoaa
