/-
  No cell of these rows narrows 'for every input' (looked for: loops, veiled, ifaces, maps, wideKeys, modest, calm, conditions, laid).
  DERIVED. THE GIVEN ROWS OF THIS SEAT. 15 by the template 'for every input the law returns true; each argument reads behind the call as it read before'; 0 by the template 'total and deterministic' (their statements: YtgcabcmnhdaepaaTotals.lean).
  GIVEN WITH THE SEED: the statements are not yours to turn. If you find one false, say at which input.
  Laid BY PROGRAM, IN A SANDBOX (cutbox-rows.mjs): the forced cells as the released guide's own fill.sh prints them over the translation 64e8bf76d4b236e1… (all of the seat's roots in one cut). By AI agents, Wed Nov 11 2026. No macro, syntax, notation, axiom, sorry.
-/
import Derived.Test.YtgcabcmnhdaepaaChecked
import GoSem.Claim
import GoSem.ClaimJoined
import GoSem.ClaimMapViews
import Derived.JoinedTies
import Derived.KernelRfl
namespace Go.Proofs.Ytgcabcmnhdaepaa
/- THE CELL 'sum', in the pinned program and in every row, IS THE sha256 OF THE DUMP (.gsa) THAT YtgcabcmnhdaepaaProg.lean LOADS. Nothing in Lean hashes anything: it is a label: what it is worth is what the hold of that sum in a sandbox is worth. -/
noncomputable def Try.pinned : Pinned := { name := "ytgcabcmnhdaepaa", sum := "64e8bf76d4b236e16d4fbafe4c15ba164698753489de9017a24c017bc588e3d7", checked := Try.checked }
namespace Rows
def none {H : Type} : Left H := { results := [], args := [] }

/-- 'laws.FnExactOppositeAutomaton': WHATEVER THE INPUT: true; the input reads as it did. -/
def fnExactOppositeAutomatonSpec : ChangeSpec := { name := "fnExactOppositeAutomaton", fn := fun _ => fun
  | [d] => { results := [.lit (.bool true)], args := [d] }
  | _ => none }
def fnExactOppositeAutomatonRow : OpenClaim := { program := "ytgcabcmnhdaepaa", sum := "64e8bf76d4b236e16d4fbafe4c15ba164698753489de9017a24c017bc588e3d7", func := "loop.example/g01391/laws.FnExactOppositeAutomaton", spec := "fnExactOppositeAutomaton", plainKeys := false, apart := false }
def FnExactOppositeAutomatonSaid : Prop := fnExactOppositeAutomatonRow.holds Try.pinned (OpenSpec.ofChange fnExactOppositeAutomatonSpec)

/-- ITS FALSE NEIGHBOUR: 'it returns false'. Refute it at one input. -/
def fnExactOppositeAutomatonWrong : ChangeSpec := { name := "fnExactOppositeAutomaton", fn := fun _ => fun
  | [d] => { results := [.lit (.bool false)], args := [d] }
  | _ => none }
def FnExactOppositeAutomatonWrongFalsely : Prop := fnExactOppositeAutomatonRow.holds Try.pinned (OpenSpec.ofChange fnExactOppositeAutomatonWrong)

/-- 'laws.FnExactCombineAutomata': WHATEVER THE INPUT: true; the input reads as it did. -/
def fnExactCombineAutomataSpec : ChangeSpec := { name := "fnExactCombineAutomata", fn := fun _ => fun
  | [d1, d2, d3] => { results := [.lit (.bool true)], args := [d1, d2, d3] }
  | _ => none }
def fnExactCombineAutomataRow : OpenClaim := { program := "ytgcabcmnhdaepaa", sum := "64e8bf76d4b236e16d4fbafe4c15ba164698753489de9017a24c017bc588e3d7", func := "loop.example/g01391/laws.FnExactCombineAutomata", spec := "fnExactCombineAutomata", unfollowed := true, recurses := true, plainKeys := false, apart := false }
def FnExactCombineAutomataSaid : Prop := fnExactCombineAutomataRow.holds Try.pinned (OpenSpec.ofChange fnExactCombineAutomataSpec)

/-- ITS FALSE NEIGHBOUR: 'it returns false'. Refute it at one input. -/
def fnExactCombineAutomataWrong : ChangeSpec := { name := "fnExactCombineAutomata", fn := fun _ => fun
  | [d1, d2, d3] => { results := [.lit (.bool false)], args := [d1, d2, d3] }
  | _ => none }
def FnExactCombineAutomataWrongFalsely : Prop := fnExactCombineAutomataRow.holds Try.pinned (OpenSpec.ofChange fnExactCombineAutomataWrong)

/-- 'laws.FnExactReachedStates': WHATEVER THE INPUT: true; the input reads as it did. -/
def fnExactReachedStatesSpec : ChangeSpec := { name := "fnExactReachedStates", fn := fun _ => fun
  | [d] => { results := [.lit (.bool true)], args := [d] }
  | _ => none }
def fnExactReachedStatesRow : OpenClaim := { program := "ytgcabcmnhdaepaa", sum := "64e8bf76d4b236e16d4fbafe4c15ba164698753489de9017a24c017bc588e3d7", func := "loop.example/g01391/laws.FnExactReachedStates", spec := "fnExactReachedStates", recurses := true, plainKeys := false, apart := false }
def FnExactReachedStatesSaid : Prop := fnExactReachedStatesRow.holds Try.pinned (OpenSpec.ofChange fnExactReachedStatesSpec)

/-- ITS FALSE NEIGHBOUR: 'it returns false'. Refute it at one input. -/
def fnExactReachedStatesWrong : ChangeSpec := { name := "fnExactReachedStates", fn := fun _ => fun
  | [d] => { results := [.lit (.bool false)], args := [d] }
  | _ => none }
def FnExactReachedStatesWrongFalsely : Prop := fnExactReachedStatesRow.holds Try.pinned (OpenSpec.ofChange fnExactReachedStatesWrong)

/-- 'laws.FnExactAreAlike': WHATEVER THE INPUT: true; the input reads as it did. -/
def fnExactAreAlikeSpec : ChangeSpec := { name := "fnExactAreAlike", fn := fun _ => fun
  | [d1, d2] => { results := [.lit (.bool true)], args := [d1, d2] }
  | _ => none }
def fnExactAreAlikeRow : OpenClaim := { program := "ytgcabcmnhdaepaa", sum := "64e8bf76d4b236e16d4fbafe4c15ba164698753489de9017a24c017bc588e3d7", func := "loop.example/g01391/laws.FnExactAreAlike", spec := "fnExactAreAlike", plainKeys := false, apart := false }
def FnExactAreAlikeSaid : Prop := fnExactAreAlikeRow.holds Try.pinned (OpenSpec.ofChange fnExactAreAlikeSpec)

/-- ITS FALSE NEIGHBOUR: 'it returns false'. Refute it at one input. -/
def fnExactAreAlikeWrong : ChangeSpec := { name := "fnExactAreAlike", fn := fun _ => fun
  | [d1, d2] => { results := [.lit (.bool false)], args := [d1, d2] }
  | _ => none }
def FnExactAreAlikeWrongFalsely : Prop := fnExactAreAlikeRow.holds Try.pinned (OpenSpec.ofChange fnExactAreAlikeWrong)

/-- 'laws.FnExactFirstOfState': WHATEVER THE INPUT: true; the input reads as it did. -/
def fnExactFirstOfStateSpec : ChangeSpec := { name := "fnExactFirstOfState", fn := fun _ => fun
  | [d1, d2] => { results := [.lit (.bool true)], args := [d1, d2] }
  | _ => none }
def fnExactFirstOfStateRow : OpenClaim := { program := "ytgcabcmnhdaepaa", sum := "64e8bf76d4b236e16d4fbafe4c15ba164698753489de9017a24c017bc588e3d7", func := "loop.example/g01391/laws.FnExactFirstOfState", spec := "fnExactFirstOfState", unfollowed := true, recurses := true, plainKeys := false, apart := false }
def FnExactFirstOfStateSaid : Prop := fnExactFirstOfStateRow.holds Try.pinned (OpenSpec.ofChange fnExactFirstOfStateSpec)

/-- ITS FALSE NEIGHBOUR: 'it returns false'. Refute it at one input. -/
def fnExactFirstOfStateWrong : ChangeSpec := { name := "fnExactFirstOfState", fn := fun _ => fun
  | [d1, d2] => { results := [.lit (.bool false)], args := [d1, d2] }
  | _ => none }
def FnExactFirstOfStateWrongFalsely : Prop := fnExactFirstOfStateRow.holds Try.pinned (OpenSpec.ofChange fnExactFirstOfStateWrong)

/-- 'laws.FnExactFirstTaken': WHATEVER THE INPUT: true; the input reads as it did. -/
def fnExactFirstTakenSpec : ChangeSpec := { name := "fnExactFirstTaken", fn := fun _ => fun
  | [d] => { results := [.lit (.bool true)], args := [d] }
  | _ => none }
def fnExactFirstTakenRow : OpenClaim := { program := "ytgcabcmnhdaepaa", sum := "64e8bf76d4b236e16d4fbafe4c15ba164698753489de9017a24c017bc588e3d7", func := "loop.example/g01391/laws.FnExactFirstTaken", spec := "fnExactFirstTaken", unfollowed := true, recurses := true, plainKeys := false, apart := false }
def FnExactFirstTakenSaid : Prop := fnExactFirstTakenRow.holds Try.pinned (OpenSpec.ofChange fnExactFirstTakenSpec)

/-- ITS FALSE NEIGHBOUR: 'it returns false'. Refute it at one input. -/
def fnExactFirstTakenWrong : ChangeSpec := { name := "fnExactFirstTaken", fn := fun _ => fun
  | [d] => { results := [.lit (.bool false)], args := [d] }
  | _ => none }
def FnExactFirstTakenWrongFalsely : Prop := fnExactFirstTakenRow.holds Try.pinned (OpenSpec.ofChange fnExactFirstTakenWrong)

/-- 'laws.FnExactTakeOut': WHATEVER THE INPUT: true; the input reads as it did. -/
def fnExactTakeOutSpec : ChangeSpec := { name := "fnExactTakeOut", fn := fun _ => fun
  | [d1, d2] => { results := [.lit (.bool true)], args := [d1, d2] }
  | _ => none }
def fnExactTakeOutRow : OpenClaim := { program := "ytgcabcmnhdaepaa", sum := "64e8bf76d4b236e16d4fbafe4c15ba164698753489de9017a24c017bc588e3d7", func := "loop.example/g01391/laws.FnExactTakeOut", spec := "fnExactTakeOut", unfollowed := true, recurses := true, plainKeys := false, apart := false }
def FnExactTakeOutSaid : Prop := fnExactTakeOutRow.holds Try.pinned (OpenSpec.ofChange fnExactTakeOutSpec)

/-- ITS FALSE NEIGHBOUR: 'it returns false'. Refute it at one input. -/
def fnExactTakeOutWrong : ChangeSpec := { name := "fnExactTakeOut", fn := fun _ => fun
  | [d1, d2] => { results := [.lit (.bool false)], args := [d1, d2] }
  | _ => none }
def FnExactTakeOutWrongFalsely : Prop := fnExactTakeOutRow.holds Try.pinned (OpenSpec.ofChange fnExactTakeOutWrong)

/-- 'laws.FnExactPutIn': WHATEVER THE INPUT: true; the input reads as it did. -/
def fnExactPutInSpec : ChangeSpec := { name := "fnExactPutIn", fn := fun _ => fun
  | [d1, d2, d3, d4] => { results := [.lit (.bool true)], args := [d1, d2, d3, d4] }
  | _ => none }
def fnExactPutInRow : OpenClaim := { program := "ytgcabcmnhdaepaa", sum := "64e8bf76d4b236e16d4fbafe4c15ba164698753489de9017a24c017bc588e3d7", func := "loop.example/g01391/laws.FnExactPutIn", spec := "fnExactPutIn", unfollowed := true, recurses := true, plainKeys := false, apart := false }
def FnExactPutInSaid : Prop := fnExactPutInRow.holds Try.pinned (OpenSpec.ofChange fnExactPutInSpec)

/-- ITS FALSE NEIGHBOUR: 'it returns false'. Refute it at one input. -/
def fnExactPutInWrong : ChangeSpec := { name := "fnExactPutIn", fn := fun _ => fun
  | [d1, d2, d3, d4] => { results := [.lit (.bool false)], args := [d1, d2, d3, d4] }
  | _ => none }
def FnExactPutInWrongFalsely : Prop := fnExactPutInRow.holds Try.pinned (OpenSpec.ofChange fnExactPutInWrong)

/-- 'laws.FnExactByTakingOut': WHATEVER THE INPUT: true; the input reads as it did. -/
def fnExactByTakingOutSpec : ChangeSpec := { name := "fnExactByTakingOut", fn := fun _ => fun
  | [d] => { results := [.lit (.bool true)], args := [d] }
  | _ => none }
def fnExactByTakingOutRow : OpenClaim := { program := "ytgcabcmnhdaepaa", sum := "64e8bf76d4b236e16d4fbafe4c15ba164698753489de9017a24c017bc588e3d7", func := "loop.example/g01391/laws.FnExactByTakingOut", spec := "fnExactByTakingOut", unfollowed := true, recurses := true, plainKeys := false, apart := false }
def FnExactByTakingOutSaid : Prop := fnExactByTakingOutRow.holds Try.pinned (OpenSpec.ofChange fnExactByTakingOutSpec)

/-- ITS FALSE NEIGHBOUR: 'it returns false'. Refute it at one input. -/
def fnExactByTakingOutWrong : ChangeSpec := { name := "fnExactByTakingOut", fn := fun _ => fun
  | [d] => { results := [.lit (.bool false)], args := [d] }
  | _ => none }
def FnExactByTakingOutWrongFalsely : Prop := fnExactByTakingOutRow.holds Try.pinned (OpenSpec.ofChange fnExactByTakingOutWrong)

/-- 'laws.FnExactByPuttingIn': WHATEVER THE INPUT: true; the input reads as it did. -/
def fnExactByPuttingInSpec : ChangeSpec := { name := "fnExactByPuttingIn", fn := fun _ => fun
  | [d] => { results := [.lit (.bool true)], args := [d] }
  | _ => none }
def fnExactByPuttingInRow : OpenClaim := { program := "ytgcabcmnhdaepaa", sum := "64e8bf76d4b236e16d4fbafe4c15ba164698753489de9017a24c017bc588e3d7", func := "loop.example/g01391/laws.FnExactByPuttingIn", spec := "fnExactByPuttingIn", unfollowed := true, recurses := true, plainKeys := false, apart := false }
def FnExactByPuttingInSaid : Prop := fnExactByPuttingInRow.holds Try.pinned (OpenSpec.ofChange fnExactByPuttingInSpec)

/-- ITS FALSE NEIGHBOUR: 'it returns false'. Refute it at one input. -/
def fnExactByPuttingInWrong : ChangeSpec := { name := "fnExactByPuttingIn", fn := fun _ => fun
  | [d] => { results := [.lit (.bool false)], args := [d] }
  | _ => none }
def FnExactByPuttingInWrongFalsely : Prop := fnExactByPuttingInRow.holds Try.pinned (OpenSpec.ofChange fnExactByPuttingInWrong)

/-- 'laws.FnExactEditDistance': WHATEVER THE INPUT: true; the input reads as it did. -/
def fnExactEditDistanceSpec : ChangeSpec := { name := "fnExactEditDistance", fn := fun _ => fun
  | [d1, d2] => { results := [.lit (.bool true)], args := [d1, d2] }
  | _ => none }
def fnExactEditDistanceRow : OpenClaim := { program := "ytgcabcmnhdaepaa", sum := "64e8bf76d4b236e16d4fbafe4c15ba164698753489de9017a24c017bc588e3d7", func := "loop.example/g01391/laws.FnExactEditDistance", spec := "fnExactEditDistance", unfollowed := true, recurses := true, plainKeys := false, apart := false }
def FnExactEditDistanceSaid : Prop := fnExactEditDistanceRow.holds Try.pinned (OpenSpec.ofChange fnExactEditDistanceSpec)

/-- ITS FALSE NEIGHBOUR: 'it returns false'. Refute it at one input. -/
def fnExactEditDistanceWrong : ChangeSpec := { name := "fnExactEditDistance", fn := fun _ => fun
  | [d1, d2] => { results := [.lit (.bool false)], args := [d1, d2] }
  | _ => none }
def FnExactEditDistanceWrongFalsely : Prop := fnExactEditDistanceRow.holds Try.pinned (OpenSpec.ofChange fnExactEditDistanceWrong)

/-- 'laws.FnExactNodesInCommon': WHATEVER THE INPUT: true; the input reads as it did. -/
def fnExactNodesInCommonSpec : ChangeSpec := { name := "fnExactNodesInCommon", fn := fun _ => fun
  | [d1, d2] => { results := [.lit (.bool true)], args := [d1, d2] }
  | _ => none }
def fnExactNodesInCommonRow : OpenClaim := { program := "ytgcabcmnhdaepaa", sum := "64e8bf76d4b236e16d4fbafe4c15ba164698753489de9017a24c017bc588e3d7", func := "loop.example/g01391/laws.FnExactNodesInCommon", spec := "fnExactNodesInCommon", unfollowed := true, recurses := true, plainKeys := false, apart := false }
def FnExactNodesInCommonSaid : Prop := fnExactNodesInCommonRow.holds Try.pinned (OpenSpec.ofChange fnExactNodesInCommonSpec)

/-- ITS FALSE NEIGHBOUR: 'it returns false'. Refute it at one input. -/
def fnExactNodesInCommonWrong : ChangeSpec := { name := "fnExactNodesInCommon", fn := fun _ => fun
  | [d1, d2] => { results := [.lit (.bool false)], args := [d1, d2] }
  | _ => none }
def FnExactNodesInCommonWrongFalsely : Prop := fnExactNodesInCommonRow.holds Try.pinned (OpenSpec.ofChange fnExactNodesInCommonWrong)

/-- 'laws.FnExactCanTakeOut': WHATEVER THE INPUT: true; the input reads as it did. -/
def fnExactCanTakeOutSpec : ChangeSpec := { name := "fnExactCanTakeOut", fn := fun _ => fun
  | [d1, d2] => { results := [.lit (.bool true)], args := [d1, d2] }
  | _ => none }
def fnExactCanTakeOutRow : OpenClaim := { program := "ytgcabcmnhdaepaa", sum := "64e8bf76d4b236e16d4fbafe4c15ba164698753489de9017a24c017bc588e3d7", func := "loop.example/g01391/laws.FnExactCanTakeOut", spec := "fnExactCanTakeOut", unfollowed := true, recurses := true, plainKeys := false, apart := false }
def FnExactCanTakeOutSaid : Prop := fnExactCanTakeOutRow.holds Try.pinned (OpenSpec.ofChange fnExactCanTakeOutSpec)

/-- ITS FALSE NEIGHBOUR: 'it returns false'. Refute it at one input. -/
def fnExactCanTakeOutWrong : ChangeSpec := { name := "fnExactCanTakeOut", fn := fun _ => fun
  | [d1, d2] => { results := [.lit (.bool false)], args := [d1, d2] }
  | _ => none }
def FnExactCanTakeOutWrongFalsely : Prop := fnExactCanTakeOutRow.holds Try.pinned (OpenSpec.ofChange fnExactCanTakeOutWrong)

/-- 'laws.FnExactDoAgree': WHATEVER THE INPUT: true; the input reads as it did. -/
def fnExactDoAgreeSpec : ChangeSpec := { name := "fnExactDoAgree", fn := fun _ => fun
  | [d1, d2, d3] => { results := [.lit (.bool true)], args := [d1, d2, d3] }
  | _ => none }
def fnExactDoAgreeRow : OpenClaim := { program := "ytgcabcmnhdaepaa", sum := "64e8bf76d4b236e16d4fbafe4c15ba164698753489de9017a24c017bc588e3d7", func := "loop.example/g01391/laws.FnExactDoAgree", spec := "fnExactDoAgree", unfollowed := true, recurses := true, plainKeys := false, apart := false }
def FnExactDoAgreeSaid : Prop := fnExactDoAgreeRow.holds Try.pinned (OpenSpec.ofChange fnExactDoAgreeSpec)

/-- ITS FALSE NEIGHBOUR: 'it returns false'. Refute it at one input. -/
def fnExactDoAgreeWrong : ChangeSpec := { name := "fnExactDoAgree", fn := fun _ => fun
  | [d1, d2, d3] => { results := [.lit (.bool false)], args := [d1, d2, d3] }
  | _ => none }
def FnExactDoAgreeWrongFalsely : Prop := fnExactDoAgreeRow.holds Try.pinned (OpenSpec.ofChange fnExactDoAgreeWrong)

/-- 'laws.FnExactLeafDistance': WHATEVER THE INPUT: true; the input reads as it did. -/
def fnExactLeafDistanceSpec : ChangeSpec := { name := "fnExactLeafDistance", fn := fun _ => fun
  | [d1, d2] => { results := [.lit (.bool true)], args := [d1, d2] }
  | _ => none }
def fnExactLeafDistanceRow : OpenClaim := { program := "ytgcabcmnhdaepaa", sum := "64e8bf76d4b236e16d4fbafe4c15ba164698753489de9017a24c017bc588e3d7", func := "loop.example/g01391/laws.FnExactLeafDistance", spec := "fnExactLeafDistance", unfollowed := true, recurses := true, plainKeys := false, apart := false }
def FnExactLeafDistanceSaid : Prop := fnExactLeafDistanceRow.holds Try.pinned (OpenSpec.ofChange fnExactLeafDistanceSpec)

/-- ITS FALSE NEIGHBOUR: 'it returns false'. Refute it at one input. -/
def fnExactLeafDistanceWrong : ChangeSpec := { name := "fnExactLeafDistance", fn := fun _ => fun
  | [d1, d2] => { results := [.lit (.bool false)], args := [d1, d2] }
  | _ => none }
def FnExactLeafDistanceWrongFalsely : Prop := fnExactLeafDistanceRow.holds Try.pinned (OpenSpec.ofChange fnExactLeafDistanceWrong)

/- THE SECOND FORM. 'bulk': how many values and letters a reading holds, each counted each time it is reached (what is shared counts as often as it is met; a slice's spare places count too). A statement '..UptoSaid' is the law's where the arguments, and the package variables that the reading takes, are together of bulk at most 1048576: NARROWER than '..Said'. Prove '..Said' where nothing that the law and all that it calls make is longer than what came in: it says more and counts as full. Else prove '..UptoSaid'. A law counts once. -/
mutual
def uptoBulk {H : Type} : DataW H → Nat
  | .lit (.string bytes) => bytes.length + 1
  | .lit _ => 1
  | .nil => 1
  | .ptr d => uptoBulk d + 1
  | .slice elems spare => uptoBulkAll elems + uptoBulkAll spare + 1
  | .agg parts => uptoBulkAll parts + 1
  | .iface _ d => uptoBulk d + 1
  | .map entries => uptoBulkEntries entries + 1
  | .held _ => 1
def uptoBulkAll {H : Type} : List (DataW H) → Nat
  | [] => 0
  | d :: r => uptoBulk d + uptoBulkAll r
def uptoBulkEntries {H : Type} : List (Lit × DataW H) → Nat
  | [] => 0
  | x :: r => uptoBulkEntry x + uptoBulkEntries r
def uptoBulkEntry {H : Type} : Lit × DataW H → Nat
  | (.string bytes, d) => bytes.length + uptoBulk d + 1
  | (_, d) => uptoBulk d + 1
 end
def uptoSmall : (H : Type) → List (DataW H) → Bool := fun _ ds => decide (uptoBulkAll ds ≤ 1048576)
def OpenSpec.upto (s : _root_.Go.ChangeSpec) : _root_.Go.OpenSpec := { _root_.Go.OpenSpec.ofChange s with cond := some uptoSmall }

/-- 'laws.FnExactOppositeAutomaton', WHERE WHAT IT READS IS OF BULK AT MOST 1048576: true; the input reads as it did. -/
def fnExactOppositeAutomatonUptoRow : OpenClaim := { program := "ytgcabcmnhdaepaa", sum := "64e8bf76d4b236e16d4fbafe4c15ba164698753489de9017a24c017bc588e3d7", func := "loop.example/g01391/laws.FnExactOppositeAutomaton", spec := "fnExactOppositeAutomaton", plainKeys := false, apart := false, narrowed := true }
def FnExactOppositeAutomatonUptoSaid : Prop := fnExactOppositeAutomatonUptoRow.holds Try.pinned (OpenSpec.upto fnExactOppositeAutomatonSpec)

/-- 'laws.FnExactCombineAutomata', WHERE WHAT IT READS IS OF BULK AT MOST 1048576: true; the input reads as it did. -/
def fnExactCombineAutomataUptoRow : OpenClaim := { program := "ytgcabcmnhdaepaa", sum := "64e8bf76d4b236e16d4fbafe4c15ba164698753489de9017a24c017bc588e3d7", func := "loop.example/g01391/laws.FnExactCombineAutomata", spec := "fnExactCombineAutomata", unfollowed := true, recurses := true, plainKeys := false, apart := false, narrowed := true }
def FnExactCombineAutomataUptoSaid : Prop := fnExactCombineAutomataUptoRow.holds Try.pinned (OpenSpec.upto fnExactCombineAutomataSpec)

/-- 'laws.FnExactReachedStates', WHERE WHAT IT READS IS OF BULK AT MOST 1048576: true; the input reads as it did. -/
def fnExactReachedStatesUptoRow : OpenClaim := { program := "ytgcabcmnhdaepaa", sum := "64e8bf76d4b236e16d4fbafe4c15ba164698753489de9017a24c017bc588e3d7", func := "loop.example/g01391/laws.FnExactReachedStates", spec := "fnExactReachedStates", recurses := true, plainKeys := false, apart := false, narrowed := true }
def FnExactReachedStatesUptoSaid : Prop := fnExactReachedStatesUptoRow.holds Try.pinned (OpenSpec.upto fnExactReachedStatesSpec)

/-- 'laws.FnExactAreAlike', WHERE WHAT IT READS IS OF BULK AT MOST 1048576: true; the input reads as it did. -/
def fnExactAreAlikeUptoRow : OpenClaim := { program := "ytgcabcmnhdaepaa", sum := "64e8bf76d4b236e16d4fbafe4c15ba164698753489de9017a24c017bc588e3d7", func := "loop.example/g01391/laws.FnExactAreAlike", spec := "fnExactAreAlike", plainKeys := false, apart := false, narrowed := true }
def FnExactAreAlikeUptoSaid : Prop := fnExactAreAlikeUptoRow.holds Try.pinned (OpenSpec.upto fnExactAreAlikeSpec)

/-- 'laws.FnExactFirstOfState', WHERE WHAT IT READS IS OF BULK AT MOST 1048576: true; the input reads as it did. -/
def fnExactFirstOfStateUptoRow : OpenClaim := { program := "ytgcabcmnhdaepaa", sum := "64e8bf76d4b236e16d4fbafe4c15ba164698753489de9017a24c017bc588e3d7", func := "loop.example/g01391/laws.FnExactFirstOfState", spec := "fnExactFirstOfState", unfollowed := true, recurses := true, plainKeys := false, apart := false, narrowed := true }
def FnExactFirstOfStateUptoSaid : Prop := fnExactFirstOfStateUptoRow.holds Try.pinned (OpenSpec.upto fnExactFirstOfStateSpec)

/-- 'laws.FnExactFirstTaken', WHERE WHAT IT READS IS OF BULK AT MOST 1048576: true; the input reads as it did. -/
def fnExactFirstTakenUptoRow : OpenClaim := { program := "ytgcabcmnhdaepaa", sum := "64e8bf76d4b236e16d4fbafe4c15ba164698753489de9017a24c017bc588e3d7", func := "loop.example/g01391/laws.FnExactFirstTaken", spec := "fnExactFirstTaken", unfollowed := true, recurses := true, plainKeys := false, apart := false, narrowed := true }
def FnExactFirstTakenUptoSaid : Prop := fnExactFirstTakenUptoRow.holds Try.pinned (OpenSpec.upto fnExactFirstTakenSpec)

/-- 'laws.FnExactTakeOut', WHERE WHAT IT READS IS OF BULK AT MOST 1048576: true; the input reads as it did. -/
def fnExactTakeOutUptoRow : OpenClaim := { program := "ytgcabcmnhdaepaa", sum := "64e8bf76d4b236e16d4fbafe4c15ba164698753489de9017a24c017bc588e3d7", func := "loop.example/g01391/laws.FnExactTakeOut", spec := "fnExactTakeOut", unfollowed := true, recurses := true, plainKeys := false, apart := false, narrowed := true }
def FnExactTakeOutUptoSaid : Prop := fnExactTakeOutUptoRow.holds Try.pinned (OpenSpec.upto fnExactTakeOutSpec)

/-- 'laws.FnExactPutIn', WHERE WHAT IT READS IS OF BULK AT MOST 1048576: true; the input reads as it did. -/
def fnExactPutInUptoRow : OpenClaim := { program := "ytgcabcmnhdaepaa", sum := "64e8bf76d4b236e16d4fbafe4c15ba164698753489de9017a24c017bc588e3d7", func := "loop.example/g01391/laws.FnExactPutIn", spec := "fnExactPutIn", unfollowed := true, recurses := true, plainKeys := false, apart := false, narrowed := true }
def FnExactPutInUptoSaid : Prop := fnExactPutInUptoRow.holds Try.pinned (OpenSpec.upto fnExactPutInSpec)

/-- 'laws.FnExactByTakingOut', WHERE WHAT IT READS IS OF BULK AT MOST 1048576: true; the input reads as it did. -/
def fnExactByTakingOutUptoRow : OpenClaim := { program := "ytgcabcmnhdaepaa", sum := "64e8bf76d4b236e16d4fbafe4c15ba164698753489de9017a24c017bc588e3d7", func := "loop.example/g01391/laws.FnExactByTakingOut", spec := "fnExactByTakingOut", unfollowed := true, recurses := true, plainKeys := false, apart := false, narrowed := true }
def FnExactByTakingOutUptoSaid : Prop := fnExactByTakingOutUptoRow.holds Try.pinned (OpenSpec.upto fnExactByTakingOutSpec)

/-- 'laws.FnExactByPuttingIn', WHERE WHAT IT READS IS OF BULK AT MOST 1048576: true; the input reads as it did. -/
def fnExactByPuttingInUptoRow : OpenClaim := { program := "ytgcabcmnhdaepaa", sum := "64e8bf76d4b236e16d4fbafe4c15ba164698753489de9017a24c017bc588e3d7", func := "loop.example/g01391/laws.FnExactByPuttingIn", spec := "fnExactByPuttingIn", unfollowed := true, recurses := true, plainKeys := false, apart := false, narrowed := true }
def FnExactByPuttingInUptoSaid : Prop := fnExactByPuttingInUptoRow.holds Try.pinned (OpenSpec.upto fnExactByPuttingInSpec)

/-- 'laws.FnExactEditDistance', WHERE WHAT IT READS IS OF BULK AT MOST 1048576: true; the input reads as it did. -/
def fnExactEditDistanceUptoRow : OpenClaim := { program := "ytgcabcmnhdaepaa", sum := "64e8bf76d4b236e16d4fbafe4c15ba164698753489de9017a24c017bc588e3d7", func := "loop.example/g01391/laws.FnExactEditDistance", spec := "fnExactEditDistance", unfollowed := true, recurses := true, plainKeys := false, apart := false, narrowed := true }
def FnExactEditDistanceUptoSaid : Prop := fnExactEditDistanceUptoRow.holds Try.pinned (OpenSpec.upto fnExactEditDistanceSpec)

/-- 'laws.FnExactNodesInCommon', WHERE WHAT IT READS IS OF BULK AT MOST 1048576: true; the input reads as it did. -/
def fnExactNodesInCommonUptoRow : OpenClaim := { program := "ytgcabcmnhdaepaa", sum := "64e8bf76d4b236e16d4fbafe4c15ba164698753489de9017a24c017bc588e3d7", func := "loop.example/g01391/laws.FnExactNodesInCommon", spec := "fnExactNodesInCommon", unfollowed := true, recurses := true, plainKeys := false, apart := false, narrowed := true }
def FnExactNodesInCommonUptoSaid : Prop := fnExactNodesInCommonUptoRow.holds Try.pinned (OpenSpec.upto fnExactNodesInCommonSpec)

/-- 'laws.FnExactCanTakeOut', WHERE WHAT IT READS IS OF BULK AT MOST 1048576: true; the input reads as it did. -/
def fnExactCanTakeOutUptoRow : OpenClaim := { program := "ytgcabcmnhdaepaa", sum := "64e8bf76d4b236e16d4fbafe4c15ba164698753489de9017a24c017bc588e3d7", func := "loop.example/g01391/laws.FnExactCanTakeOut", spec := "fnExactCanTakeOut", unfollowed := true, recurses := true, plainKeys := false, apart := false, narrowed := true }
def FnExactCanTakeOutUptoSaid : Prop := fnExactCanTakeOutUptoRow.holds Try.pinned (OpenSpec.upto fnExactCanTakeOutSpec)

/-- 'laws.FnExactDoAgree', WHERE WHAT IT READS IS OF BULK AT MOST 1048576: true; the input reads as it did. -/
def fnExactDoAgreeUptoRow : OpenClaim := { program := "ytgcabcmnhdaepaa", sum := "64e8bf76d4b236e16d4fbafe4c15ba164698753489de9017a24c017bc588e3d7", func := "loop.example/g01391/laws.FnExactDoAgree", spec := "fnExactDoAgree", unfollowed := true, recurses := true, plainKeys := false, apart := false, narrowed := true }
def FnExactDoAgreeUptoSaid : Prop := fnExactDoAgreeUptoRow.holds Try.pinned (OpenSpec.upto fnExactDoAgreeSpec)

/-- 'laws.FnExactLeafDistance', WHERE WHAT IT READS IS OF BULK AT MOST 1048576: true; the input reads as it did. -/
def fnExactLeafDistanceUptoRow : OpenClaim := { program := "ytgcabcmnhdaepaa", sum := "64e8bf76d4b236e16d4fbafe4c15ba164698753489de9017a24c017bc588e3d7", func := "loop.example/g01391/laws.FnExactLeafDistance", spec := "fnExactLeafDistance", unfollowed := true, recurses := true, plainKeys := false, apart := false, narrowed := true }
def FnExactLeafDistanceUptoSaid : Prop := fnExactLeafDistanceUptoRow.holds Try.pinned (OpenSpec.upto fnExactLeafDistanceSpec)

end Rows
end Go.Proofs.Ytgcabcmnhdaepaa
