/- What functions of a tree, or of numbers, must do, as F says. -/
import Derived.Test.YtkeahaoeiiigeaaDoorTree
namespace Go.Proofs.YtkeahaoeiiigeaaDoor
open Go.RowKit

/-- a tree to a tree and a code -/
def GivesTree (f : Nat) (F : List Int → List Int × Int) : Prop :=
  ∀ (A : Option Addr) (xs : List Int) (c : Nat) (w : World), xs.length ≤ 1048576 → xs.length ≤ c ∧ c ≤ 9223372036854775807 → Ints w w.heap.size A xs →
    Calls Tryd.prog f #[.agg #[.slice A xs.length c]] w fun e w' => ∃ A' c', e = .returned (.tuple #[.agg #[.slice A' (F xs).1.length c'], .int .i64 (F xs).2]) ∧
      Own64 w' w.heap.size (.slice A' (F xs).1.length c') (F xs).1 ∧ Below w.heap.size w w'
/-- a tree to a number and a code -/
def GivesNum (f : Nat) (F : List Int → Int × Int) : Prop :=
  ∀ (A : Option Addr) (xs : List Int) (c : Nat) (w : World), xs.length ≤ 1048576 → xs.length ≤ c ∧ c ≤ 9223372036854775807 → Ints w w.heap.size A xs →
    Calls Tryd.prog f #[.agg #[.slice A xs.length c]] w fun e w' => e = .returned (.tuple #[.int .i64 (F xs).1, .int .i64 (F xs).2]) ∧ Below w.heap.size w w'
/-- what a function of a tree that hands back a text and a code must do, as F says -/
def GivesText (f : Nat) (F : List Int → ByteArray × Int) : Prop :=
  ∀ (A : Option Addr) (xs : List Int) (c : Nat) (w : World), xs.length ≤ 1048576 → xs.length ≤ c ∧ c ≤ 9223372036854775807 → Ints w w.heap.size A xs →
    Calls Tryd.prog f #[.agg #[.slice A xs.length c]] w fun e w' => e = .returned (.tuple #[.string (F xs).1, .int .i64 (F xs).2]) ∧ Below w.heap.size w w'
/-- a number to a tree and a code -/
def GivesTreeN1 (f : Nat) (F : Int → List Int × Int) : Prop :=
  ∀ (n : Int) (w : World), -9223372036854775808 ≤ n → n ≤ 9223372036854775807 →
    Calls Tryd.prog f #[.int .i64 n] w fun e w' => ∃ A' c', e = .returned (.tuple #[.agg #[.slice A' (F n).1.length c'], .int .i64 (F n).2]) ∧ Own64 w' w.heap.size (.slice A' (F n).1.length c') (F n).1 ∧ Below w.heap.size w w'
/-- two numbers to a tree and a code -/
def GivesTreeN2 (f : Nat) (F : Int → Int → List Int × Int) : Prop :=
  ∀ (n r : Int) (w : World), -9223372036854775808 ≤ n → n ≤ 9223372036854775807 → -9223372036854775808 ≤ r → r ≤ 9223372036854775807 →
    Calls Tryd.prog f #[.int .i64 n, .int .i64 r] w fun e w' => ∃ A' c', e = .returned (.tuple #[.agg #[.slice A' (F n r).1.length c'], .int .i64 (F n r).2]) ∧ Own64 w' w.heap.size (.slice A' (F n r).1.length c') (F n r).1 ∧ Below w.heap.size w w'
/-- a number to a number and a code -/
def GivesNumN1 (f : Nat) (F : Int → Int × Int) : Prop :=
  ∀ (n : Int) (w : World), -9223372036854775808 ≤ n → n ≤ 9223372036854775807 →
    Calls Tryd.prog f #[.int .i64 n] w fun e w' => e = .returned (.tuple #[.int .i64 (F n).1, .int .i64 (F n).2]) ∧ Below w.heap.size w w'
/-- two numbers to a number and a code -/
def GivesNumN2 (f : Nat) (F : Int → Int → Int × Int) : Prop :=
  ∀ (n r : Int) (w : World), -9223372036854775808 ≤ n → n ≤ 9223372036854775807 → -9223372036854775808 ≤ r → r ≤ 9223372036854775807 →
    Calls Tryd.prog f #[.int .i64 n, .int .i64 r] w fun e w' => e = .returned (.tuple #[.int .i64 (F n r).1, .int .i64 (F n r).2]) ∧ Below w.heap.size w w'
/-- numbers of a list to a number and a code -/
def GivesNumI (f : Nat) (F : List Int → Int × Int) : Prop :=
  ∀ (A : Option Addr) (xs : List Int) (c : Nat) (w : World), xs.length ≤ 1048576 → xs.length ≤ c ∧ c ≤ 9223372036854775807 → Ints w w.heap.size A xs → (∀ x ∈ xs, -9223372036854775808 ≤ x ∧ x ≤ 9223372036854775807) →
    Calls Tryd.prog f #[.slice A xs.length c] w fun e w' => e = .returned (.tuple #[.int .i64 (F xs).1, .int .i64 (F xs).2]) ∧ Below w.heap.size w w'
/-- what a function of a tree and a number that hands back a tree and a code must do, as F says -/
def GivesTree1 (f : Nat) (F : List Int → Int → List Int × Int) : Prop :=
  ∀ (A : Option Addr) (xs : List Int) (c : Nat) (v : Int) (w : World), xs.length ≤ 1048576 → xs.length ≤ c ∧ c ≤ 9223372036854775807 → Ints w w.heap.size A xs →
    Calls Tryd.prog f #[.agg #[.slice A xs.length c], .int .i64 v] w fun e w' => ∃ A' c', e = .returned (.tuple #[.agg #[.slice A' (F xs v).1.length c'], .int .i64 (F xs v).2]) ∧
      Own64 w' w.heap.size (.slice A' (F xs v).1.length c') (F xs v).1 ∧ Below w.heap.size w w'
/-- what a function of a tree and a number that hands back a list and a code must do, as F says -/
def GivesList1 (f : Nat) (F : List Int → Int → List Int × Int) : Prop :=
  ∀ (A : Option Addr) (xs : List Int) (c : Nat) (v : Int) (w : World), xs.length ≤ 1048576 → xs.length ≤ c ∧ c ≤ 9223372036854775807 → Ints w w.heap.size A xs →
    Calls Tryd.prog f #[.agg #[.slice A xs.length c], .int .i64 v] w fun e w' => ∃ A' c', e = .returned (.tuple #[.slice A' (F xs v).1.length c', .int .i64 (F xs v).2]) ∧
      Own64 w' w.heap.size (.slice A' (F xs v).1.length c') (F xs v).1 ∧ Below w.heap.size w w'
end Go.Proofs.YtkeahaoeiiigeaaDoor
