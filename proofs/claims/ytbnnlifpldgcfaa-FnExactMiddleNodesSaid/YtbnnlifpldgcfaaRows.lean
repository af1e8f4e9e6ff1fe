/-
  No cell of these rows narrows 'for every input' (looked for: loops, veiled, ifaces, maps, wideKeys, modest, calm, conditions, laid).
  DERIVED. THE GIVEN ROWS OF THIS SEAT. 13 by the template 'for every input the law returns true; each argument reads behind the call as it read before'; 0 by the template 'total and deterministic' (their statements: YtbnnlifpldgcfaaTotals.lean).
  GIVEN WITH THE SEED: the statements are not yours to turn. If you find one false, say at which input.
  Laid BY PROGRAM, IN A SANDBOX (cutbox-rows.mjs): the forced cells as the released guide's own fill.sh prints them over the translation 81c90511d6677233… (all of the seat's roots in one cut). By AI agents, Wed Nov 11 2026. No macro, syntax, notation, axiom, sorry.
-/
import Derived.Test.YtbnnlifpldgcfaaChecked
import GoSem.Claim
import GoSem.ClaimJoined
import GoSem.ClaimMapViews
import Derived.JoinedTies
import Derived.KernelRfl
namespace Go.Proofs.Ytbnnlifpldgcfaa
/- THE CELL 'sum', in the pinned program and in every row, IS THE sha256 OF THE DUMP (.gsa) THAT YtbnnlifpldgcfaaProg.lean LOADS. Nothing in Lean hashes anything: it is a label: what it is worth is what the hold of that sum in a sandbox is worth. -/
noncomputable def Try.pinned : Pinned := { name := "ytbnnlifpldgcfaa", sum := "81c90511d6677233e8bda63778a00cdbee83059c700f320ea99b5c81cda8548f", checked := Try.checked }
namespace Rows
def none {H : Type} : Left H := { results := [], args := [] }

/-- 'laws.FnExactTreeOfDepths': WHATEVER THE INPUT: true; the input reads as it did. -/
def fnExactTreeOfDepthsSpec : ChangeSpec := { name := "fnExactTreeOfDepths", fn := fun _ => fun
  | [d] => { results := [.lit (.bool true)], args := [d] }
  | _ => none }
def fnExactTreeOfDepthsRow : OpenClaim := { program := "ytbnnlifpldgcfaa", sum := "81c90511d6677233e8bda63778a00cdbee83059c700f320ea99b5c81cda8548f", func := "loop.example/g01391/laws.FnExactTreeOfDepths", spec := "fnExactTreeOfDepths", apart := false }
def FnExactTreeOfDepthsSaid : Prop := fnExactTreeOfDepthsRow.holds Try.pinned (OpenSpec.ofChange fnExactTreeOfDepthsSpec)

/-- ITS FALSE NEIGHBOUR: 'it returns false'. Refute it at one input. -/
def fnExactTreeOfDepthsWrong : ChangeSpec := { name := "fnExactTreeOfDepths", fn := fun _ => fun
  | [d] => { results := [.lit (.bool false)], args := [d] }
  | _ => none }
def FnExactTreeOfDepthsWrongFalsely : Prop := fnExactTreeOfDepthsRow.holds Try.pinned (OpenSpec.ofChange fnExactTreeOfDepthsWrong)

/-- 'laws.FnExactWidthsOf': WHATEVER THE INPUT: true; the input reads as it did. -/
def fnExactWidthsOfSpec : ChangeSpec := { name := "fnExactWidthsOf", fn := fun _ => fun
  | [d] => { results := [.lit (.bool true)], args := [d] }
  | _ => none }
def fnExactWidthsOfRow : OpenClaim := { program := "ytbnnlifpldgcfaa", sum := "81c90511d6677233e8bda63778a00cdbee83059c700f320ea99b5c81cda8548f", func := "loop.example/g01391/laws.FnExactWidthsOf", spec := "fnExactWidthsOf", unfollowed := true, recurses := true, apart := false }
def FnExactWidthsOfSaid : Prop := fnExactWidthsOfRow.holds Try.pinned (OpenSpec.ofChange fnExactWidthsOfSpec)

/-- ITS FALSE NEIGHBOUR: 'it returns false'. Refute it at one input. -/
def fnExactWidthsOfWrong : ChangeSpec := { name := "fnExactWidthsOf", fn := fun _ => fun
  | [d] => { results := [.lit (.bool false)], args := [d] }
  | _ => none }
def FnExactWidthsOfWrongFalsely : Prop := fnExactWidthsOfRow.holds Try.pinned (OpenSpec.ofChange fnExactWidthsOfWrong)

/-- 'laws.FnExactWayBetween': WHATEVER THE INPUT: true; the input reads as it did. -/
def fnExactWayBetweenSpec : ChangeSpec := { name := "fnExactWayBetween", fn := fun _ => fun
  | [d1, d2, d3] => { results := [.lit (.bool true)], args := [d1, d2, d3] }
  | _ => none }
def fnExactWayBetweenRow : OpenClaim := { program := "ytbnnlifpldgcfaa", sum := "81c90511d6677233e8bda63778a00cdbee83059c700f320ea99b5c81cda8548f", func := "loop.example/g01391/laws.FnExactWayBetween", spec := "fnExactWayBetween", unfollowed := true, recurses := true, apart := false }
def FnExactWayBetweenSaid : Prop := fnExactWayBetweenRow.holds Try.pinned (OpenSpec.ofChange fnExactWayBetweenSpec)

/-- ITS FALSE NEIGHBOUR: 'it returns false'. Refute it at one input. -/
def fnExactWayBetweenWrong : ChangeSpec := { name := "fnExactWayBetween", fn := fun _ => fun
  | [d1, d2, d3] => { results := [.lit (.bool false)], args := [d1, d2, d3] }
  | _ => none }
def FnExactWayBetweenWrongFalsely : Prop := fnExactWayBetweenRow.holds Try.pinned (OpenSpec.ofChange fnExactWayBetweenWrong)

/-- 'laws.FnExactStepsBetween': WHATEVER THE INPUT: true; the input reads as it did. -/
def fnExactStepsBetweenSpec : ChangeSpec := { name := "fnExactStepsBetween", fn := fun _ => fun
  | [d1, d2, d3] => { results := [.lit (.bool true)], args := [d1, d2, d3] }
  | _ => none }
def fnExactStepsBetweenRow : OpenClaim := { program := "ytbnnlifpldgcfaa", sum := "81c90511d6677233e8bda63778a00cdbee83059c700f320ea99b5c81cda8548f", func := "loop.example/g01391/laws.FnExactStepsBetween", spec := "fnExactStepsBetween", unfollowed := true, recurses := true, apart := false }
def FnExactStepsBetweenSaid : Prop := fnExactStepsBetweenRow.holds Try.pinned (OpenSpec.ofChange fnExactStepsBetweenSpec)

/-- ITS FALSE NEIGHBOUR: 'it returns false'. Refute it at one input. -/
def fnExactStepsBetweenWrong : ChangeSpec := { name := "fnExactStepsBetween", fn := fun _ => fun
  | [d1, d2, d3] => { results := [.lit (.bool false)], args := [d1, d2, d3] }
  | _ => none }
def FnExactStepsBetweenWrongFalsely : Prop := fnExactStepsBetweenRow.holds Try.pinned (OpenSpec.ofChange fnExactStepsBetweenWrong)

/-- 'laws.FnExactReachesOf': WHATEVER THE INPUT: true; the input reads as it did. -/
def fnExactReachesOfSpec : ChangeSpec := { name := "fnExactReachesOf", fn := fun _ => fun
  | [d] => { results := [.lit (.bool true)], args := [d] }
  | _ => none }
def fnExactReachesOfRow : OpenClaim := { program := "ytbnnlifpldgcfaa", sum := "81c90511d6677233e8bda63778a00cdbee83059c700f320ea99b5c81cda8548f", func := "loop.example/g01391/laws.FnExactReachesOf", spec := "fnExactReachesOf", unfollowed := true, recurses := true, apart := false }
def FnExactReachesOfSaid : Prop := fnExactReachesOfRow.holds Try.pinned (OpenSpec.ofChange fnExactReachesOfSpec)

/-- ITS FALSE NEIGHBOUR: 'it returns false'. Refute it at one input. -/
def fnExactReachesOfWrong : ChangeSpec := { name := "fnExactReachesOf", fn := fun _ => fun
  | [d] => { results := [.lit (.bool false)], args := [d] }
  | _ => none }
def FnExactReachesOfWrongFalsely : Prop := fnExactReachesOfRow.holds Try.pinned (OpenSpec.ofChange fnExactReachesOfWrong)

/-- 'laws.FnExactCentresOf': WHATEVER THE INPUT: true; the input reads as it did. -/
def fnExactCentresOfSpec : ChangeSpec := { name := "fnExactCentresOf", fn := fun _ => fun
  | [d] => { results := [.lit (.bool true)], args := [d] }
  | _ => none }
def fnExactCentresOfRow : OpenClaim := { program := "ytbnnlifpldgcfaa", sum := "81c90511d6677233e8bda63778a00cdbee83059c700f320ea99b5c81cda8548f", func := "loop.example/g01391/laws.FnExactCentresOf", spec := "fnExactCentresOf", unfollowed := true, recurses := true, apart := false }
def FnExactCentresOfSaid : Prop := fnExactCentresOfRow.holds Try.pinned (OpenSpec.ofChange fnExactCentresOfSpec)

/-- ITS FALSE NEIGHBOUR: 'it returns false'. Refute it at one input. -/
def fnExactCentresOfWrong : ChangeSpec := { name := "fnExactCentresOf", fn := fun _ => fun
  | [d] => { results := [.lit (.bool false)], args := [d] }
  | _ => none }
def FnExactCentresOfWrongFalsely : Prop := fnExactCentresOfRow.holds Try.pinned (OpenSpec.ofChange fnExactCentresOfWrong)

/-- 'laws.FnExactMiddleNodes': WHATEVER THE INPUT: true; the input reads as it did. -/
def fnExactMiddleNodesSpec : ChangeSpec := { name := "fnExactMiddleNodes", fn := fun _ => fun
  | [d] => { results := [.lit (.bool true)], args := [d] }
  | _ => none }
def fnExactMiddleNodesRow : OpenClaim := { program := "ytbnnlifpldgcfaa", sum := "81c90511d6677233e8bda63778a00cdbee83059c700f320ea99b5c81cda8548f", func := "loop.example/g01391/laws.FnExactMiddleNodes", spec := "fnExactMiddleNodes", unfollowed := true, recurses := true, apart := false }
def FnExactMiddleNodesSaid : Prop := fnExactMiddleNodesRow.holds Try.pinned (OpenSpec.ofChange fnExactMiddleNodesSpec)

/-- ITS FALSE NEIGHBOUR: 'it returns false'. Refute it at one input. -/
def fnExactMiddleNodesWrong : ChangeSpec := { name := "fnExactMiddleNodes", fn := fun _ => fun
  | [d] => { results := [.lit (.bool false)], args := [d] }
  | _ => none }
def FnExactMiddleNodesWrongFalsely : Prop := fnExactMiddleNodesRow.holds Try.pinned (OpenSpec.ofChange fnExactMiddleNodesWrong)

/-- 'laws.FnExactSumOfDistances': WHATEVER THE INPUT: true; the input reads as it did. -/
def fnExactSumOfDistancesSpec : ChangeSpec := { name := "fnExactSumOfDistances", fn := fun _ => fun
  | [d] => { results := [.lit (.bool true)], args := [d] }
  | _ => none }
def fnExactSumOfDistancesRow : OpenClaim := { program := "ytbnnlifpldgcfaa", sum := "81c90511d6677233e8bda63778a00cdbee83059c700f320ea99b5c81cda8548f", func := "loop.example/g01391/laws.FnExactSumOfDistances", spec := "fnExactSumOfDistances", unfollowed := true, recurses := true, apart := false }
def FnExactSumOfDistancesSaid : Prop := fnExactSumOfDistancesRow.holds Try.pinned (OpenSpec.ofChange fnExactSumOfDistancesSpec)

/-- ITS FALSE NEIGHBOUR: 'it returns false'. Refute it at one input. -/
def fnExactSumOfDistancesWrong : ChangeSpec := { name := "fnExactSumOfDistances", fn := fun _ => fun
  | [d] => { results := [.lit (.bool false)], args := [d] }
  | _ => none }
def FnExactSumOfDistancesWrongFalsely : Prop := fnExactSumOfDistancesRow.holds Try.pinned (OpenSpec.ofChange fnExactSumOfDistancesWrong)

/-- 'laws.FnExactLayersOf': WHATEVER THE INPUT: true; the input reads as it did. -/
def fnExactLayersOfSpec : ChangeSpec := { name := "fnExactLayersOf", fn := fun _ => fun
  | [d] => { results := [.lit (.bool true)], args := [d] }
  | _ => none }
def fnExactLayersOfRow : OpenClaim := { program := "ytbnnlifpldgcfaa", sum := "81c90511d6677233e8bda63778a00cdbee83059c700f320ea99b5c81cda8548f", func := "loop.example/g01391/laws.FnExactLayersOf", spec := "fnExactLayersOf", unfollowed := true, recurses := true, apart := false }
def FnExactLayersOfSaid : Prop := fnExactLayersOfRow.holds Try.pinned (OpenSpec.ofChange fnExactLayersOfSpec)

/-- ITS FALSE NEIGHBOUR: 'it returns false'. Refute it at one input. -/
def fnExactLayersOfWrong : ChangeSpec := { name := "fnExactLayersOf", fn := fun _ => fun
  | [d] => { results := [.lit (.bool false)], args := [d] }
  | _ => none }
def FnExactLayersOfWrongFalsely : Prop := fnExactLayersOfRow.holds Try.pinned (OpenSpec.ofChange fnExactLayersOfWrong)

/-- 'laws.FnExactAroundOf': WHATEVER THE INPUT: true; the input reads as it did. -/
def fnExactAroundOfSpec : ChangeSpec := { name := "fnExactAroundOf", fn := fun _ => fun
  | [d1, d2] => { results := [.lit (.bool true)], args := [d1, d2] }
  | _ => none }
def fnExactAroundOfRow : OpenClaim := { program := "ytbnnlifpldgcfaa", sum := "81c90511d6677233e8bda63778a00cdbee83059c700f320ea99b5c81cda8548f", func := "loop.example/g01391/laws.FnExactAroundOf", spec := "fnExactAroundOf", unfollowed := true, recurses := true, apart := false }
def FnExactAroundOfSaid : Prop := fnExactAroundOfRow.holds Try.pinned (OpenSpec.ofChange fnExactAroundOfSpec)

/-- ITS FALSE NEIGHBOUR: 'it returns false'. Refute it at one input. -/
def fnExactAroundOfWrong : ChangeSpec := { name := "fnExactAroundOf", fn := fun _ => fun
  | [d1, d2] => { results := [.lit (.bool false)], args := [d1, d2] }
  | _ => none }
def FnExactAroundOfWrongFalsely : Prop := fnExactAroundOfRow.holds Try.pinned (OpenSpec.ofChange fnExactAroundOfWrong)

/-- 'laws.FnExactLongestWay': WHATEVER THE INPUT: true; the input reads as it did. -/
def fnExactLongestWaySpec : ChangeSpec := { name := "fnExactLongestWay", fn := fun _ => fun
  | [d] => { results := [.lit (.bool true)], args := [d] }
  | _ => none }
def fnExactLongestWayRow : OpenClaim := { program := "ytbnnlifpldgcfaa", sum := "81c90511d6677233e8bda63778a00cdbee83059c700f320ea99b5c81cda8548f", func := "loop.example/g01391/laws.FnExactLongestWay", spec := "fnExactLongestWay", unfollowed := true, recurses := true, apart := false }
def FnExactLongestWaySaid : Prop := fnExactLongestWayRow.holds Try.pinned (OpenSpec.ofChange fnExactLongestWaySpec)

/-- ITS FALSE NEIGHBOUR: 'it returns false'. Refute it at one input. -/
def fnExactLongestWayWrong : ChangeSpec := { name := "fnExactLongestWay", fn := fun _ => fun
  | [d] => { results := [.lit (.bool false)], args := [d] }
  | _ => none }
def FnExactLongestWayWrongFalsely : Prop := fnExactLongestWayRow.holds Try.pinned (OpenSpec.ofChange fnExactLongestWayWrong)

/-- 'laws.FnExactFirstInside': WHATEVER THE INPUT: true; the input reads as it did. -/
def fnExactFirstInsideSpec : ChangeSpec := { name := "fnExactFirstInside", fn := fun _ => fun
  | [d1, d2] => { results := [.lit (.bool true)], args := [d1, d2] }
  | _ => none }
def fnExactFirstInsideRow : OpenClaim := { program := "ytbnnlifpldgcfaa", sum := "81c90511d6677233e8bda63778a00cdbee83059c700f320ea99b5c81cda8548f", func := "loop.example/g01391/laws.FnExactFirstInside", spec := "fnExactFirstInside", unfollowed := true, recurses := true, apart := false }
def FnExactFirstInsideSaid : Prop := fnExactFirstInsideRow.holds Try.pinned (OpenSpec.ofChange fnExactFirstInsideSpec)

/-- ITS FALSE NEIGHBOUR: 'it returns false'. Refute it at one input. -/
def fnExactFirstInsideWrong : ChangeSpec := { name := "fnExactFirstInside", fn := fun _ => fun
  | [d1, d2] => { results := [.lit (.bool false)], args := [d1, d2] }
  | _ => none }
def FnExactFirstInsideWrongFalsely : Prop := fnExactFirstInsideRow.holds Try.pinned (OpenSpec.ofChange fnExactFirstInsideWrong)

/-- 'laws.FnExactCountInside': WHATEVER THE INPUT: true; the input reads as it did. -/
def fnExactCountInsideSpec : ChangeSpec := { name := "fnExactCountInside", fn := fun _ => fun
  | [d1, d2] => { results := [.lit (.bool true)], args := [d1, d2] }
  | _ => none }
def fnExactCountInsideRow : OpenClaim := { program := "ytbnnlifpldgcfaa", sum := "81c90511d6677233e8bda63778a00cdbee83059c700f320ea99b5c81cda8548f", func := "loop.example/g01391/laws.FnExactCountInside", spec := "fnExactCountInside", unfollowed := true, recurses := true, apart := false }
def FnExactCountInsideSaid : Prop := fnExactCountInsideRow.holds Try.pinned (OpenSpec.ofChange fnExactCountInsideSpec)

/-- ITS FALSE NEIGHBOUR: 'it returns false'. Refute it at one input. -/
def fnExactCountInsideWrong : ChangeSpec := { name := "fnExactCountInside", fn := fun _ => fun
  | [d1, d2] => { results := [.lit (.bool false)], args := [d1, d2] }
  | _ => none }
def FnExactCountInsideWrongFalsely : Prop := fnExactCountInsideRow.holds Try.pinned (OpenSpec.ofChange fnExactCountInsideWrong)

/- THE SECOND FORM. 'bulk': how many values and letters a reading holds, each counted each time it is reached (what is shared counts as often as it is met; a slice's spare places count too). A statement '..UptoSaid' is the law's where the arguments, and the package variables that the reading takes, are together of bulk at most 1048576: NARROWER than '..Said'. Prove '..Said' where nothing that the law and all that it calls make is longer than what came in: it says more and counts as full. Else prove '..UptoSaid'. A law counts once. -/
mutual
def uptoBulk {H : Type} : DataW H → Nat
  | .lit (.string bytes) => bytes.length + 1
  | .lit _ => 1
  | .nil => 1
  | .ptr d => uptoBulk d + 1
  | .slice elems spare => uptoBulkAll elems + uptoBulkAll spare + 1
  | .agg parts => uptoBulkAll parts + 1
  | .iface _ d => uptoBulk d + 1
  | .map entries => uptoBulkEntries entries + 1
  | .held _ => 1
def uptoBulkAll {H : Type} : List (DataW H) → Nat
  | [] => 0
  | d :: r => uptoBulk d + uptoBulkAll r
def uptoBulkEntries {H : Type} : List (Lit × DataW H) → Nat
  | [] => 0
  | x :: r => uptoBulkEntry x + uptoBulkEntries r
def uptoBulkEntry {H : Type} : Lit × DataW H → Nat
  | (.string bytes, d) => bytes.length + uptoBulk d + 1
  | (_, d) => uptoBulk d + 1
 end
def uptoSmall : (H : Type) → List (DataW H) → Bool := fun _ ds => decide (uptoBulkAll ds ≤ 1048576)
def OpenSpec.upto (s : _root_.Go.ChangeSpec) : _root_.Go.OpenSpec := { _root_.Go.OpenSpec.ofChange s with cond := some uptoSmall }

/-- 'laws.FnExactTreeOfDepths', WHERE WHAT IT READS IS OF BULK AT MOST 1048576: true; the input reads as it did. -/
def fnExactTreeOfDepthsUptoRow : OpenClaim := { program := "ytbnnlifpldgcfaa", sum := "81c90511d6677233e8bda63778a00cdbee83059c700f320ea99b5c81cda8548f", func := "loop.example/g01391/laws.FnExactTreeOfDepths", spec := "fnExactTreeOfDepths", apart := false, narrowed := true }
def FnExactTreeOfDepthsUptoSaid : Prop := fnExactTreeOfDepthsUptoRow.holds Try.pinned (OpenSpec.upto fnExactTreeOfDepthsSpec)

/-- 'laws.FnExactWidthsOf', WHERE WHAT IT READS IS OF BULK AT MOST 1048576: true; the input reads as it did. -/
def fnExactWidthsOfUptoRow : OpenClaim := { program := "ytbnnlifpldgcfaa", sum := "81c90511d6677233e8bda63778a00cdbee83059c700f320ea99b5c81cda8548f", func := "loop.example/g01391/laws.FnExactWidthsOf", spec := "fnExactWidthsOf", unfollowed := true, recurses := true, apart := false, narrowed := true }
def FnExactWidthsOfUptoSaid : Prop := fnExactWidthsOfUptoRow.holds Try.pinned (OpenSpec.upto fnExactWidthsOfSpec)

/-- 'laws.FnExactWayBetween', WHERE WHAT IT READS IS OF BULK AT MOST 1048576: true; the input reads as it did. -/
def fnExactWayBetweenUptoRow : OpenClaim := { program := "ytbnnlifpldgcfaa", sum := "81c90511d6677233e8bda63778a00cdbee83059c700f320ea99b5c81cda8548f", func := "loop.example/g01391/laws.FnExactWayBetween", spec := "fnExactWayBetween", unfollowed := true, recurses := true, apart := false, narrowed := true }
def FnExactWayBetweenUptoSaid : Prop := fnExactWayBetweenUptoRow.holds Try.pinned (OpenSpec.upto fnExactWayBetweenSpec)

/-- 'laws.FnExactStepsBetween', WHERE WHAT IT READS IS OF BULK AT MOST 1048576: true; the input reads as it did. -/
def fnExactStepsBetweenUptoRow : OpenClaim := { program := "ytbnnlifpldgcfaa", sum := "81c90511d6677233e8bda63778a00cdbee83059c700f320ea99b5c81cda8548f", func := "loop.example/g01391/laws.FnExactStepsBetween", spec := "fnExactStepsBetween", unfollowed := true, recurses := true, apart := false, narrowed := true }
def FnExactStepsBetweenUptoSaid : Prop := fnExactStepsBetweenUptoRow.holds Try.pinned (OpenSpec.upto fnExactStepsBetweenSpec)

/-- 'laws.FnExactReachesOf', WHERE WHAT IT READS IS OF BULK AT MOST 1048576: true; the input reads as it did. -/
def fnExactReachesOfUptoRow : OpenClaim := { program := "ytbnnlifpldgcfaa", sum := "81c90511d6677233e8bda63778a00cdbee83059c700f320ea99b5c81cda8548f", func := "loop.example/g01391/laws.FnExactReachesOf", spec := "fnExactReachesOf", unfollowed := true, recurses := true, apart := false, narrowed := true }
def FnExactReachesOfUptoSaid : Prop := fnExactReachesOfUptoRow.holds Try.pinned (OpenSpec.upto fnExactReachesOfSpec)

/-- 'laws.FnExactCentresOf', WHERE WHAT IT READS IS OF BULK AT MOST 1048576: true; the input reads as it did. -/
def fnExactCentresOfUptoRow : OpenClaim := { program := "ytbnnlifpldgcfaa", sum := "81c90511d6677233e8bda63778a00cdbee83059c700f320ea99b5c81cda8548f", func := "loop.example/g01391/laws.FnExactCentresOf", spec := "fnExactCentresOf", unfollowed := true, recurses := true, apart := false, narrowed := true }
def FnExactCentresOfUptoSaid : Prop := fnExactCentresOfUptoRow.holds Try.pinned (OpenSpec.upto fnExactCentresOfSpec)

/-- 'laws.FnExactMiddleNodes', WHERE WHAT IT READS IS OF BULK AT MOST 1048576: true; the input reads as it did. -/
def fnExactMiddleNodesUptoRow : OpenClaim := { program := "ytbnnlifpldgcfaa", sum := "81c90511d6677233e8bda63778a00cdbee83059c700f320ea99b5c81cda8548f", func := "loop.example/g01391/laws.FnExactMiddleNodes", spec := "fnExactMiddleNodes", unfollowed := true, recurses := true, apart := false, narrowed := true }
def FnExactMiddleNodesUptoSaid : Prop := fnExactMiddleNodesUptoRow.holds Try.pinned (OpenSpec.upto fnExactMiddleNodesSpec)

/-- 'laws.FnExactSumOfDistances', WHERE WHAT IT READS IS OF BULK AT MOST 1048576: true; the input reads as it did. -/
def fnExactSumOfDistancesUptoRow : OpenClaim := { program := "ytbnnlifpldgcfaa", sum := "81c90511d6677233e8bda63778a00cdbee83059c700f320ea99b5c81cda8548f", func := "loop.example/g01391/laws.FnExactSumOfDistances", spec := "fnExactSumOfDistances", unfollowed := true, recurses := true, apart := false, narrowed := true }
def FnExactSumOfDistancesUptoSaid : Prop := fnExactSumOfDistancesUptoRow.holds Try.pinned (OpenSpec.upto fnExactSumOfDistancesSpec)

/-- 'laws.FnExactLayersOf', WHERE WHAT IT READS IS OF BULK AT MOST 1048576: true; the input reads as it did. -/
def fnExactLayersOfUptoRow : OpenClaim := { program := "ytbnnlifpldgcfaa", sum := "81c90511d6677233e8bda63778a00cdbee83059c700f320ea99b5c81cda8548f", func := "loop.example/g01391/laws.FnExactLayersOf", spec := "fnExactLayersOf", unfollowed := true, recurses := true, apart := false, narrowed := true }
def FnExactLayersOfUptoSaid : Prop := fnExactLayersOfUptoRow.holds Try.pinned (OpenSpec.upto fnExactLayersOfSpec)

/-- 'laws.FnExactAroundOf', WHERE WHAT IT READS IS OF BULK AT MOST 1048576: true; the input reads as it did. -/
def fnExactAroundOfUptoRow : OpenClaim := { program := "ytbnnlifpldgcfaa", sum := "81c90511d6677233e8bda63778a00cdbee83059c700f320ea99b5c81cda8548f", func := "loop.example/g01391/laws.FnExactAroundOf", spec := "fnExactAroundOf", unfollowed := true, recurses := true, apart := false, narrowed := true }
def FnExactAroundOfUptoSaid : Prop := fnExactAroundOfUptoRow.holds Try.pinned (OpenSpec.upto fnExactAroundOfSpec)

/-- 'laws.FnExactLongestWay', WHERE WHAT IT READS IS OF BULK AT MOST 1048576: true; the input reads as it did. -/
def fnExactLongestWayUptoRow : OpenClaim := { program := "ytbnnlifpldgcfaa", sum := "81c90511d6677233e8bda63778a00cdbee83059c700f320ea99b5c81cda8548f", func := "loop.example/g01391/laws.FnExactLongestWay", spec := "fnExactLongestWay", unfollowed := true, recurses := true, apart := false, narrowed := true }
def FnExactLongestWayUptoSaid : Prop := fnExactLongestWayUptoRow.holds Try.pinned (OpenSpec.upto fnExactLongestWaySpec)

/-- 'laws.FnExactFirstInside', WHERE WHAT IT READS IS OF BULK AT MOST 1048576: true; the input reads as it did. -/
def fnExactFirstInsideUptoRow : OpenClaim := { program := "ytbnnlifpldgcfaa", sum := "81c90511d6677233e8bda63778a00cdbee83059c700f320ea99b5c81cda8548f", func := "loop.example/g01391/laws.FnExactFirstInside", spec := "fnExactFirstInside", unfollowed := true, recurses := true, apart := false, narrowed := true }
def FnExactFirstInsideUptoSaid : Prop := fnExactFirstInsideUptoRow.holds Try.pinned (OpenSpec.upto fnExactFirstInsideSpec)

/-- 'laws.FnExactCountInside', WHERE WHAT IT READS IS OF BULK AT MOST 1048576: true; the input reads as it did. -/
def fnExactCountInsideUptoRow : OpenClaim := { program := "ytbnnlifpldgcfaa", sum := "81c90511d6677233e8bda63778a00cdbee83059c700f320ea99b5c81cda8548f", func := "loop.example/g01391/laws.FnExactCountInside", spec := "fnExactCountInside", unfollowed := true, recurses := true, apart := false, narrowed := true }
def FnExactCountInsideUptoSaid : Prop := fnExactCountInsideUptoRow.holds Try.pinned (OpenSpec.upto fnExactCountInsideSpec)

end Rows
end Go.Proofs.Ytbnnlifpldgcfaa
