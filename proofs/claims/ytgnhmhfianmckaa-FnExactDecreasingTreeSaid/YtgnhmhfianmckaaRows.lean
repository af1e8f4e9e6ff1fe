/-
  No cell of these rows narrows 'for every input' (looked for: loops, veiled, ifaces, maps, wideKeys, modest, calm, conditions, laid).
  DERIVED. THE GIVEN ROWS OF THIS SEAT. 14 by the template 'for every input the law returns true; each argument reads behind the call as it read before'; 0 by the template 'total and deterministic' (their statements: YtgnhmhfianmckaaTotals.lean).
  GIVEN WITH THE SEED: the statements are not yours to turn. If you find one false, say at which input.
  Laid BY PROGRAM, IN A SANDBOX (cutbox-rows.mjs): the forced cells as the released guide's own fill.sh prints them over the translation 1e3520effcdb1c0d… (all of the seat's roots in one cut). By AI agents, Wed Nov 11 2026. No macro, syntax, notation, axiom, sorry.
-/
import Derived.Test.YtgnhmhfianmckaaChecked
import GoSem.Claim
import GoSem.ClaimJoined
import GoSem.ClaimMapViews
import Derived.JoinedTies
import Derived.KernelRfl
namespace Go.Proofs.Ytgnhmhfianmckaa
/- THE CELL 'sum', in the pinned program and in every row, IS THE sha256 OF THE DUMP (.gsa) THAT YtgnhmhfianmckaaProg.lean LOADS. Nothing in Lean hashes anything: it is a label: what it is worth is what the hold of that sum in a sandbox is worth. -/
noncomputable def Try.pinned : Pinned := { name := "ytgnhmhfianmckaa", sum := "1e3520effcdb1c0d2f1e1455678d8a5197eda51488dbfc5e50bd39bf88b855c6", checked := Try.checked }
namespace Rows
def none {H : Type} : Left H := { results := [], args := [] }

/-- 'laws.FnExactIsGrowing': WHATEVER THE INPUT: true; the input reads as it did. -/
def fnExactIsGrowingSpec : ChangeSpec := { name := "fnExactIsGrowing", fn := fun _ => fun
  | [d1, d2] => { results := [.lit (.bool true)], args := [d1, d2] }
  | _ => none }
def fnExactIsGrowingRow : OpenClaim := { program := "ytgnhmhfianmckaa", sum := "1e3520effcdb1c0d2f1e1455678d8a5197eda51488dbfc5e50bd39bf88b855c6", func := "loop.example/g01391/laws.FnExactIsGrowing", spec := "fnExactIsGrowing", unfollowed := true, recurses := true, apart := false }
def FnExactIsGrowingSaid : Prop := fnExactIsGrowingRow.holds Try.pinned (OpenSpec.ofChange fnExactIsGrowingSpec)

/-- ITS FALSE NEIGHBOUR: 'it returns false'. Refute it at one input. -/
def fnExactIsGrowingWrong : ChangeSpec := { name := "fnExactIsGrowing", fn := fun _ => fun
  | [d1, d2] => { results := [.lit (.bool false)], args := [d1, d2] }
  | _ => none }
def FnExactIsGrowingWrongFalsely : Prop := fnExactIsGrowingRow.holds Try.pinned (OpenSpec.ofChange fnExactIsGrowingWrong)

/-- 'laws.FnExactCountGrowing': WHATEVER THE INPUT: true; the input reads as it did. -/
def fnExactCountGrowingSpec : ChangeSpec := { name := "fnExactCountGrowing", fn := fun _ => fun
  | [d] => { results := [.lit (.bool true)], args := [d] }
  | _ => none }
def fnExactCountGrowingRow : OpenClaim := { program := "ytgnhmhfianmckaa", sum := "1e3520effcdb1c0d2f1e1455678d8a5197eda51488dbfc5e50bd39bf88b855c6", func := "loop.example/g01391/laws.FnExactCountGrowing", spec := "fnExactCountGrowing", unfollowed := true, recurses := true, apart := false }
def FnExactCountGrowingSaid : Prop := fnExactCountGrowingRow.holds Try.pinned (OpenSpec.ofChange fnExactCountGrowingSpec)

/-- ITS FALSE NEIGHBOUR: 'it returns false'. Refute it at one input. -/
def fnExactCountGrowingWrong : ChangeSpec := { name := "fnExactCountGrowing", fn := fun _ => fun
  | [d] => { results := [.lit (.bool false)], args := [d] }
  | _ => none }
def FnExactCountGrowingWrongFalsely : Prop := fnExactCountGrowingRow.holds Try.pinned (OpenSpec.ofChange fnExactCountGrowingWrong)

/-- 'laws.FnExactFirstGrowing': WHATEVER THE INPUT: true; the input reads as it did. -/
def fnExactFirstGrowingSpec : ChangeSpec := { name := "fnExactFirstGrowing", fn := fun _ => fun
  | [d] => { results := [.lit (.bool true)], args := [d] }
  | _ => none }
def fnExactFirstGrowingRow : OpenClaim := { program := "ytgnhmhfianmckaa", sum := "1e3520effcdb1c0d2f1e1455678d8a5197eda51488dbfc5e50bd39bf88b855c6", func := "loop.example/g01391/laws.FnExactFirstGrowing", spec := "fnExactFirstGrowing", apart := false }
def FnExactFirstGrowingSaid : Prop := fnExactFirstGrowingRow.holds Try.pinned (OpenSpec.ofChange fnExactFirstGrowingSpec)

/-- ITS FALSE NEIGHBOUR: 'it returns false'. Refute it at one input. -/
def fnExactFirstGrowingWrong : ChangeSpec := { name := "fnExactFirstGrowing", fn := fun _ => fun
  | [d] => { results := [.lit (.bool false)], args := [d] }
  | _ => none }
def FnExactFirstGrowingWrongFalsely : Prop := fnExactFirstGrowingRow.holds Try.pinned (OpenSpec.ofChange fnExactFirstGrowingWrong)

/-- 'laws.FnExactLastGrowing': WHATEVER THE INPUT: true; the input reads as it did. -/
def fnExactLastGrowingSpec : ChangeSpec := { name := "fnExactLastGrowing", fn := fun _ => fun
  | [d] => { results := [.lit (.bool true)], args := [d] }
  | _ => none }
def fnExactLastGrowingRow : OpenClaim := { program := "ytgnhmhfianmckaa", sum := "1e3520effcdb1c0d2f1e1455678d8a5197eda51488dbfc5e50bd39bf88b855c6", func := "loop.example/g01391/laws.FnExactLastGrowing", spec := "fnExactLastGrowing", unfollowed := true, recurses := true, apart := false }
def FnExactLastGrowingSaid : Prop := fnExactLastGrowingRow.holds Try.pinned (OpenSpec.ofChange fnExactLastGrowingSpec)

/-- ITS FALSE NEIGHBOUR: 'it returns false'. Refute it at one input. -/
def fnExactLastGrowingWrong : ChangeSpec := { name := "fnExactLastGrowing", fn := fun _ => fun
  | [d] => { results := [.lit (.bool false)], args := [d] }
  | _ => none }
def FnExactLastGrowingWrongFalsely : Prop := fnExactLastGrowingRow.holds Try.pinned (OpenSpec.ofChange fnExactLastGrowingWrong)

/-- 'laws.FnExactNextGrowing': WHATEVER THE INPUT: true; the input reads as it did. -/
def fnExactNextGrowingSpec : ChangeSpec := { name := "fnExactNextGrowing", fn := fun _ => fun
  | [d1, d2] => { results := [.lit (.bool true)], args := [d1, d2] }
  | _ => none }
def fnExactNextGrowingRow : OpenClaim := { program := "ytgnhmhfianmckaa", sum := "1e3520effcdb1c0d2f1e1455678d8a5197eda51488dbfc5e50bd39bf88b855c6", func := "loop.example/g01391/laws.FnExactNextGrowing", spec := "fnExactNextGrowing", unfollowed := true, recurses := true, apart := false }
def FnExactNextGrowingSaid : Prop := fnExactNextGrowingRow.holds Try.pinned (OpenSpec.ofChange fnExactNextGrowingSpec)

/-- ITS FALSE NEIGHBOUR: 'it returns false'. Refute it at one input. -/
def fnExactNextGrowingWrong : ChangeSpec := { name := "fnExactNextGrowing", fn := fun _ => fun
  | [d1, d2] => { results := [.lit (.bool false)], args := [d1, d2] }
  | _ => none }
def FnExactNextGrowingWrongFalsely : Prop := fnExactNextGrowingRow.holds Try.pinned (OpenSpec.ofChange fnExactNextGrowingWrong)

/-- 'laws.FnExactRankOfGrowing': WHATEVER THE INPUT: true; the input reads as it did. -/
def fnExactRankOfGrowingSpec : ChangeSpec := { name := "fnExactRankOfGrowing", fn := fun _ => fun
  | [d1, d2] => { results := [.lit (.bool true)], args := [d1, d2] }
  | _ => none }
def fnExactRankOfGrowingRow : OpenClaim := { program := "ytgnhmhfianmckaa", sum := "1e3520effcdb1c0d2f1e1455678d8a5197eda51488dbfc5e50bd39bf88b855c6", func := "loop.example/g01391/laws.FnExactRankOfGrowing", spec := "fnExactRankOfGrowing", unfollowed := true, recurses := true, apart := false }
def FnExactRankOfGrowingSaid : Prop := fnExactRankOfGrowingRow.holds Try.pinned (OpenSpec.ofChange fnExactRankOfGrowingSpec)

/-- ITS FALSE NEIGHBOUR: 'it returns false'. Refute it at one input. -/
def fnExactRankOfGrowingWrong : ChangeSpec := { name := "fnExactRankOfGrowing", fn := fun _ => fun
  | [d1, d2] => { results := [.lit (.bool false)], args := [d1, d2] }
  | _ => none }
def FnExactRankOfGrowingWrongFalsely : Prop := fnExactRankOfGrowingRow.holds Try.pinned (OpenSpec.ofChange fnExactRankOfGrowingWrong)

/-- 'laws.FnExactGrowingOfRank': WHATEVER THE INPUT: true; the input reads as it did. -/
def fnExactGrowingOfRankSpec : ChangeSpec := { name := "fnExactGrowingOfRank", fn := fun _ => fun
  | [d1, d2] => { results := [.lit (.bool true)], args := [d1, d2] }
  | _ => none }
def fnExactGrowingOfRankRow : OpenClaim := { program := "ytgnhmhfianmckaa", sum := "1e3520effcdb1c0d2f1e1455678d8a5197eda51488dbfc5e50bd39bf88b855c6", func := "loop.example/g01391/laws.FnExactGrowingOfRank", spec := "fnExactGrowingOfRank", unfollowed := true, recurses := true, apart := false }
def FnExactGrowingOfRankSaid : Prop := fnExactGrowingOfRankRow.holds Try.pinned (OpenSpec.ofChange fnExactGrowingOfRankSpec)

/-- ITS FALSE NEIGHBOUR: 'it returns false'. Refute it at one input. -/
def fnExactGrowingOfRankWrong : ChangeSpec := { name := "fnExactGrowingOfRank", fn := fun _ => fun
  | [d1, d2] => { results := [.lit (.bool false)], args := [d1, d2] }
  | _ => none }
def FnExactGrowingOfRankWrongFalsely : Prop := fnExactGrowingOfRankRow.holds Try.pinned (OpenSpec.ofChange fnExactGrowingOfRankWrong)

/-- 'laws.FnExactLabelsOf': WHATEVER THE INPUT: true; the input reads as it did. -/
def fnExactLabelsOfSpec : ChangeSpec := { name := "fnExactLabelsOf", fn := fun _ => fun
  | [d1, d2] => { results := [.lit (.bool true)], args := [d1, d2] }
  | _ => none }
def fnExactLabelsOfRow : OpenClaim := { program := "ytgnhmhfianmckaa", sum := "1e3520effcdb1c0d2f1e1455678d8a5197eda51488dbfc5e50bd39bf88b855c6", func := "loop.example/g01391/laws.FnExactLabelsOf", spec := "fnExactLabelsOf", unfollowed := true, recurses := true, apart := false }
def FnExactLabelsOfSaid : Prop := fnExactLabelsOfRow.holds Try.pinned (OpenSpec.ofChange fnExactLabelsOfSpec)

/-- ITS FALSE NEIGHBOUR: 'it returns false'. Refute it at one input. -/
def fnExactLabelsOfWrong : ChangeSpec := { name := "fnExactLabelsOf", fn := fun _ => fun
  | [d1, d2] => { results := [.lit (.bool false)], args := [d1, d2] }
  | _ => none }
def FnExactLabelsOfWrongFalsely : Prop := fnExactLabelsOfRow.holds Try.pinned (OpenSpec.ofChange fnExactLabelsOfWrong)

/-- 'laws.FnExactFreePlaces': WHATEVER THE INPUT: true; the input reads as it did. -/
def fnExactFreePlacesSpec : ChangeSpec := { name := "fnExactFreePlaces", fn := fun _ => fun
  | [d1, d2] => { results := [.lit (.bool true)], args := [d1, d2] }
  | _ => none }
def fnExactFreePlacesRow : OpenClaim := { program := "ytgnhmhfianmckaa", sum := "1e3520effcdb1c0d2f1e1455678d8a5197eda51488dbfc5e50bd39bf88b855c6", func := "loop.example/g01391/laws.FnExactFreePlaces", spec := "fnExactFreePlaces", unfollowed := true, recurses := true, apart := false }
def FnExactFreePlacesSaid : Prop := fnExactFreePlacesRow.holds Try.pinned (OpenSpec.ofChange fnExactFreePlacesSpec)

/-- ITS FALSE NEIGHBOUR: 'it returns false'. Refute it at one input. -/
def fnExactFreePlacesWrong : ChangeSpec := { name := "fnExactFreePlaces", fn := fun _ => fun
  | [d1, d2] => { results := [.lit (.bool false)], args := [d1, d2] }
  | _ => none }
def FnExactFreePlacesWrongFalsely : Prop := fnExactFreePlacesRow.holds Try.pinned (OpenSpec.ofChange fnExactFreePlacesWrong)

/-- 'laws.FnExactExchangeAt': WHATEVER THE INPUT: true; the input reads as it did. -/
def fnExactExchangeAtSpec : ChangeSpec := { name := "fnExactExchangeAt", fn := fun _ => fun
  | [d1, d2, d3] => { results := [.lit (.bool true)], args := [d1, d2, d3] }
  | _ => none }
def fnExactExchangeAtRow : OpenClaim := { program := "ytgnhmhfianmckaa", sum := "1e3520effcdb1c0d2f1e1455678d8a5197eda51488dbfc5e50bd39bf88b855c6", func := "loop.example/g01391/laws.FnExactExchangeAt", spec := "fnExactExchangeAt", unfollowed := true, recurses := true, apart := false }
def FnExactExchangeAtSaid : Prop := fnExactExchangeAtRow.holds Try.pinned (OpenSpec.ofChange fnExactExchangeAtSpec)

/-- ITS FALSE NEIGHBOUR: 'it returns false'. Refute it at one input. -/
def fnExactExchangeAtWrong : ChangeSpec := { name := "fnExactExchangeAt", fn := fun _ => fun
  | [d1, d2, d3] => { results := [.lit (.bool false)], args := [d1, d2, d3] }
  | _ => none }
def FnExactExchangeAtWrongFalsely : Prop := fnExactExchangeAtRow.holds Try.pinned (OpenSpec.ofChange fnExactExchangeAtWrong)

/-- 'laws.FnExactBreaksOf': WHATEVER THE INPUT: true; the input reads as it did. -/
def fnExactBreaksOfSpec : ChangeSpec := { name := "fnExactBreaksOf", fn := fun _ => fun
  | [d1, d2] => { results := [.lit (.bool true)], args := [d1, d2] }
  | _ => none }
def fnExactBreaksOfRow : OpenClaim := { program := "ytgnhmhfianmckaa", sum := "1e3520effcdb1c0d2f1e1455678d8a5197eda51488dbfc5e50bd39bf88b855c6", func := "loop.example/g01391/laws.FnExactBreaksOf", spec := "fnExactBreaksOf", unfollowed := true, recurses := true, apart := false }
def FnExactBreaksOfSaid : Prop := fnExactBreaksOfRow.holds Try.pinned (OpenSpec.ofChange fnExactBreaksOfSpec)

/-- ITS FALSE NEIGHBOUR: 'it returns false'. Refute it at one input. -/
def fnExactBreaksOfWrong : ChangeSpec := { name := "fnExactBreaksOf", fn := fun _ => fun
  | [d1, d2] => { results := [.lit (.bool false)], args := [d1, d2] }
  | _ => none }
def FnExactBreaksOfWrongFalsely : Prop := fnExactBreaksOfRow.holds Try.pinned (OpenSpec.ofChange fnExactBreaksOfWrong)

/-- 'laws.FnExactGrownTree': WHATEVER THE INPUT: true; the input reads as it did. -/
def fnExactGrownTreeSpec : ChangeSpec := { name := "fnExactGrownTree", fn := fun _ => fun
  | [d] => { results := [.lit (.bool true)], args := [d] }
  | _ => none }
def fnExactGrownTreeRow : OpenClaim := { program := "ytgnhmhfianmckaa", sum := "1e3520effcdb1c0d2f1e1455678d8a5197eda51488dbfc5e50bd39bf88b855c6", func := "loop.example/g01391/laws.FnExactGrownTree", spec := "fnExactGrownTree", unfollowed := true, recurses := true, apart := false }
def FnExactGrownTreeSaid : Prop := fnExactGrownTreeRow.holds Try.pinned (OpenSpec.ofChange fnExactGrownTreeSpec)

/-- ITS FALSE NEIGHBOUR: 'it returns false'. Refute it at one input. -/
def fnExactGrownTreeWrong : ChangeSpec := { name := "fnExactGrownTree", fn := fun _ => fun
  | [d] => { results := [.lit (.bool false)], args := [d] }
  | _ => none }
def FnExactGrownTreeWrongFalsely : Prop := fnExactGrownTreeRow.holds Try.pinned (OpenSpec.ofChange fnExactGrownTreeWrong)

/-- 'laws.FnExactListOfGrowth': WHATEVER THE INPUT: true; the input reads as it did. -/
def fnExactListOfGrowthSpec : ChangeSpec := { name := "fnExactListOfGrowth", fn := fun _ => fun
  | [d1, d2] => { results := [.lit (.bool true)], args := [d1, d2] }
  | _ => none }
def fnExactListOfGrowthRow : OpenClaim := { program := "ytgnhmhfianmckaa", sum := "1e3520effcdb1c0d2f1e1455678d8a5197eda51488dbfc5e50bd39bf88b855c6", func := "loop.example/g01391/laws.FnExactListOfGrowth", spec := "fnExactListOfGrowth", unfollowed := true, recurses := true, apart := false }
def FnExactListOfGrowthSaid : Prop := fnExactListOfGrowthRow.holds Try.pinned (OpenSpec.ofChange fnExactListOfGrowthSpec)

/-- ITS FALSE NEIGHBOUR: 'it returns false'. Refute it at one input. -/
def fnExactListOfGrowthWrong : ChangeSpec := { name := "fnExactListOfGrowth", fn := fun _ => fun
  | [d1, d2] => { results := [.lit (.bool false)], args := [d1, d2] }
  | _ => none }
def FnExactListOfGrowthWrongFalsely : Prop := fnExactListOfGrowthRow.holds Try.pinned (OpenSpec.ofChange fnExactListOfGrowthWrong)

/-- 'laws.FnExactDecreasingTree': WHATEVER THE INPUT: true; the input reads as it did. -/
def fnExactDecreasingTreeSpec : ChangeSpec := { name := "fnExactDecreasingTree", fn := fun _ => fun
  | [d] => { results := [.lit (.bool true)], args := [d] }
  | _ => none }
def fnExactDecreasingTreeRow : OpenClaim := { program := "ytgnhmhfianmckaa", sum := "1e3520effcdb1c0d2f1e1455678d8a5197eda51488dbfc5e50bd39bf88b855c6", func := "loop.example/g01391/laws.FnExactDecreasingTree", spec := "fnExactDecreasingTree", recurses := true, apart := false }
def FnExactDecreasingTreeSaid : Prop := fnExactDecreasingTreeRow.holds Try.pinned (OpenSpec.ofChange fnExactDecreasingTreeSpec)

/-- ITS FALSE NEIGHBOUR: 'it returns false'. Refute it at one input. -/
def fnExactDecreasingTreeWrong : ChangeSpec := { name := "fnExactDecreasingTree", fn := fun _ => fun
  | [d] => { results := [.lit (.bool false)], args := [d] }
  | _ => none }
def FnExactDecreasingTreeWrongFalsely : Prop := fnExactDecreasingTreeRow.holds Try.pinned (OpenSpec.ofChange fnExactDecreasingTreeWrong)

/- THE SECOND FORM. 'bulk': how many values and letters a reading holds, each counted each time it is reached (what is shared counts as often as it is met; a slice's spare places count too). A statement '..UptoSaid' is the law's where the arguments, and the package variables that the reading takes, are together of bulk at most 1048576: NARROWER than '..Said'. Prove '..Said' where nothing that the law and all that it calls make is longer than what came in: it says more and counts as full. Else prove '..UptoSaid'. A law counts once. -/
mutual
def uptoBulk {H : Type} : DataW H → Nat
  | .lit (.string bytes) => bytes.length + 1
  | .lit _ => 1
  | .nil => 1
  | .ptr d => uptoBulk d + 1
  | .slice elems spare => uptoBulkAll elems + uptoBulkAll spare + 1
  | .agg parts => uptoBulkAll parts + 1
  | .iface _ d => uptoBulk d + 1
  | .map entries => uptoBulkEntries entries + 1
  | .held _ => 1
def uptoBulkAll {H : Type} : List (DataW H) → Nat
  | [] => 0
  | d :: r => uptoBulk d + uptoBulkAll r
def uptoBulkEntries {H : Type} : List (Lit × DataW H) → Nat
  | [] => 0
  | x :: r => uptoBulkEntry x + uptoBulkEntries r
def uptoBulkEntry {H : Type} : Lit × DataW H → Nat
  | (.string bytes, d) => bytes.length + uptoBulk d + 1
  | (_, d) => uptoBulk d + 1
 end
def uptoSmall : (H : Type) → List (DataW H) → Bool := fun _ ds => decide (uptoBulkAll ds ≤ 1048576)
def OpenSpec.upto (s : _root_.Go.ChangeSpec) : _root_.Go.OpenSpec := { _root_.Go.OpenSpec.ofChange s with cond := some uptoSmall }

/-- 'laws.FnExactIsGrowing', WHERE WHAT IT READS IS OF BULK AT MOST 1048576: true; the input reads as it did. -/
def fnExactIsGrowingUptoRow : OpenClaim := { program := "ytgnhmhfianmckaa", sum := "1e3520effcdb1c0d2f1e1455678d8a5197eda51488dbfc5e50bd39bf88b855c6", func := "loop.example/g01391/laws.FnExactIsGrowing", spec := "fnExactIsGrowing", unfollowed := true, recurses := true, apart := false, narrowed := true }
def FnExactIsGrowingUptoSaid : Prop := fnExactIsGrowingUptoRow.holds Try.pinned (OpenSpec.upto fnExactIsGrowingSpec)

/-- 'laws.FnExactCountGrowing', WHERE WHAT IT READS IS OF BULK AT MOST 1048576: true; the input reads as it did. -/
def fnExactCountGrowingUptoRow : OpenClaim := { program := "ytgnhmhfianmckaa", sum := "1e3520effcdb1c0d2f1e1455678d8a5197eda51488dbfc5e50bd39bf88b855c6", func := "loop.example/g01391/laws.FnExactCountGrowing", spec := "fnExactCountGrowing", unfollowed := true, recurses := true, apart := false, narrowed := true }
def FnExactCountGrowingUptoSaid : Prop := fnExactCountGrowingUptoRow.holds Try.pinned (OpenSpec.upto fnExactCountGrowingSpec)

/-- 'laws.FnExactFirstGrowing', WHERE WHAT IT READS IS OF BULK AT MOST 1048576: true; the input reads as it did. -/
def fnExactFirstGrowingUptoRow : OpenClaim := { program := "ytgnhmhfianmckaa", sum := "1e3520effcdb1c0d2f1e1455678d8a5197eda51488dbfc5e50bd39bf88b855c6", func := "loop.example/g01391/laws.FnExactFirstGrowing", spec := "fnExactFirstGrowing", apart := false, narrowed := true }
def FnExactFirstGrowingUptoSaid : Prop := fnExactFirstGrowingUptoRow.holds Try.pinned (OpenSpec.upto fnExactFirstGrowingSpec)

/-- 'laws.FnExactLastGrowing', WHERE WHAT IT READS IS OF BULK AT MOST 1048576: true; the input reads as it did. -/
def fnExactLastGrowingUptoRow : OpenClaim := { program := "ytgnhmhfianmckaa", sum := "1e3520effcdb1c0d2f1e1455678d8a5197eda51488dbfc5e50bd39bf88b855c6", func := "loop.example/g01391/laws.FnExactLastGrowing", spec := "fnExactLastGrowing", unfollowed := true, recurses := true, apart := false, narrowed := true }
def FnExactLastGrowingUptoSaid : Prop := fnExactLastGrowingUptoRow.holds Try.pinned (OpenSpec.upto fnExactLastGrowingSpec)

/-- 'laws.FnExactNextGrowing', WHERE WHAT IT READS IS OF BULK AT MOST 1048576: true; the input reads as it did. -/
def fnExactNextGrowingUptoRow : OpenClaim := { program := "ytgnhmhfianmckaa", sum := "1e3520effcdb1c0d2f1e1455678d8a5197eda51488dbfc5e50bd39bf88b855c6", func := "loop.example/g01391/laws.FnExactNextGrowing", spec := "fnExactNextGrowing", unfollowed := true, recurses := true, apart := false, narrowed := true }
def FnExactNextGrowingUptoSaid : Prop := fnExactNextGrowingUptoRow.holds Try.pinned (OpenSpec.upto fnExactNextGrowingSpec)

/-- 'laws.FnExactRankOfGrowing', WHERE WHAT IT READS IS OF BULK AT MOST 1048576: true; the input reads as it did. -/
def fnExactRankOfGrowingUptoRow : OpenClaim := { program := "ytgnhmhfianmckaa", sum := "1e3520effcdb1c0d2f1e1455678d8a5197eda51488dbfc5e50bd39bf88b855c6", func := "loop.example/g01391/laws.FnExactRankOfGrowing", spec := "fnExactRankOfGrowing", unfollowed := true, recurses := true, apart := false, narrowed := true }
def FnExactRankOfGrowingUptoSaid : Prop := fnExactRankOfGrowingUptoRow.holds Try.pinned (OpenSpec.upto fnExactRankOfGrowingSpec)

/-- 'laws.FnExactGrowingOfRank', WHERE WHAT IT READS IS OF BULK AT MOST 1048576: true; the input reads as it did. -/
def fnExactGrowingOfRankUptoRow : OpenClaim := { program := "ytgnhmhfianmckaa", sum := "1e3520effcdb1c0d2f1e1455678d8a5197eda51488dbfc5e50bd39bf88b855c6", func := "loop.example/g01391/laws.FnExactGrowingOfRank", spec := "fnExactGrowingOfRank", unfollowed := true, recurses := true, apart := false, narrowed := true }
def FnExactGrowingOfRankUptoSaid : Prop := fnExactGrowingOfRankUptoRow.holds Try.pinned (OpenSpec.upto fnExactGrowingOfRankSpec)

/-- 'laws.FnExactLabelsOf', WHERE WHAT IT READS IS OF BULK AT MOST 1048576: true; the input reads as it did. -/
def fnExactLabelsOfUptoRow : OpenClaim := { program := "ytgnhmhfianmckaa", sum := "1e3520effcdb1c0d2f1e1455678d8a5197eda51488dbfc5e50bd39bf88b855c6", func := "loop.example/g01391/laws.FnExactLabelsOf", spec := "fnExactLabelsOf", unfollowed := true, recurses := true, apart := false, narrowed := true }
def FnExactLabelsOfUptoSaid : Prop := fnExactLabelsOfUptoRow.holds Try.pinned (OpenSpec.upto fnExactLabelsOfSpec)

/-- 'laws.FnExactFreePlaces', WHERE WHAT IT READS IS OF BULK AT MOST 1048576: true; the input reads as it did. -/
def fnExactFreePlacesUptoRow : OpenClaim := { program := "ytgnhmhfianmckaa", sum := "1e3520effcdb1c0d2f1e1455678d8a5197eda51488dbfc5e50bd39bf88b855c6", func := "loop.example/g01391/laws.FnExactFreePlaces", spec := "fnExactFreePlaces", unfollowed := true, recurses := true, apart := false, narrowed := true }
def FnExactFreePlacesUptoSaid : Prop := fnExactFreePlacesUptoRow.holds Try.pinned (OpenSpec.upto fnExactFreePlacesSpec)

/-- 'laws.FnExactExchangeAt', WHERE WHAT IT READS IS OF BULK AT MOST 1048576: true; the input reads as it did. -/
def fnExactExchangeAtUptoRow : OpenClaim := { program := "ytgnhmhfianmckaa", sum := "1e3520effcdb1c0d2f1e1455678d8a5197eda51488dbfc5e50bd39bf88b855c6", func := "loop.example/g01391/laws.FnExactExchangeAt", spec := "fnExactExchangeAt", unfollowed := true, recurses := true, apart := false, narrowed := true }
def FnExactExchangeAtUptoSaid : Prop := fnExactExchangeAtUptoRow.holds Try.pinned (OpenSpec.upto fnExactExchangeAtSpec)

/-- 'laws.FnExactBreaksOf', WHERE WHAT IT READS IS OF BULK AT MOST 1048576: true; the input reads as it did. -/
def fnExactBreaksOfUptoRow : OpenClaim := { program := "ytgnhmhfianmckaa", sum := "1e3520effcdb1c0d2f1e1455678d8a5197eda51488dbfc5e50bd39bf88b855c6", func := "loop.example/g01391/laws.FnExactBreaksOf", spec := "fnExactBreaksOf", unfollowed := true, recurses := true, apart := false, narrowed := true }
def FnExactBreaksOfUptoSaid : Prop := fnExactBreaksOfUptoRow.holds Try.pinned (OpenSpec.upto fnExactBreaksOfSpec)

/-- 'laws.FnExactGrownTree', WHERE WHAT IT READS IS OF BULK AT MOST 1048576: true; the input reads as it did. -/
def fnExactGrownTreeUptoRow : OpenClaim := { program := "ytgnhmhfianmckaa", sum := "1e3520effcdb1c0d2f1e1455678d8a5197eda51488dbfc5e50bd39bf88b855c6", func := "loop.example/g01391/laws.FnExactGrownTree", spec := "fnExactGrownTree", unfollowed := true, recurses := true, apart := false, narrowed := true }
def FnExactGrownTreeUptoSaid : Prop := fnExactGrownTreeUptoRow.holds Try.pinned (OpenSpec.upto fnExactGrownTreeSpec)

/-- 'laws.FnExactListOfGrowth', WHERE WHAT IT READS IS OF BULK AT MOST 1048576: true; the input reads as it did. -/
def fnExactListOfGrowthUptoRow : OpenClaim := { program := "ytgnhmhfianmckaa", sum := "1e3520effcdb1c0d2f1e1455678d8a5197eda51488dbfc5e50bd39bf88b855c6", func := "loop.example/g01391/laws.FnExactListOfGrowth", spec := "fnExactListOfGrowth", unfollowed := true, recurses := true, apart := false, narrowed := true }
def FnExactListOfGrowthUptoSaid : Prop := fnExactListOfGrowthUptoRow.holds Try.pinned (OpenSpec.upto fnExactListOfGrowthSpec)

/-- 'laws.FnExactDecreasingTree', WHERE WHAT IT READS IS OF BULK AT MOST 1048576: true; the input reads as it did. -/
def fnExactDecreasingTreeUptoRow : OpenClaim := { program := "ytgnhmhfianmckaa", sum := "1e3520effcdb1c0d2f1e1455678d8a5197eda51488dbfc5e50bd39bf88b855c6", func := "loop.example/g01391/laws.FnExactDecreasingTree", spec := "fnExactDecreasingTree", recurses := true, apart := false, narrowed := true }
def FnExactDecreasingTreeUptoSaid : Prop := fnExactDecreasingTreeUptoRow.holds Try.pinned (OpenSpec.upto fnExactDecreasingTreeSpec)

end Rows
end Go.Proofs.Ytgnhmhfianmckaa
