/-
  No cell of these rows narrows 'for every input' (looked for: loops, veiled, ifaces, maps, wideKeys, modest, calm, conditions, laid).
  DERIVED. THE GIVEN ROWS OF THIS SEAT. 14 by the template 'for every input the law returns true; each argument reads behind the call as it read before'; 0 by the template 'total and deterministic' (their statements: YtcipafjibkclcaaTotals.lean).
  GIVEN WITH THE SEED: the statements are not yours to turn. If you find one false, say at which input.
  Laid BY PROGRAM, IN A SANDBOX (cutbox-rows.mjs): the forced cells as the released guide's own fill.sh prints them over the translation 64d7c9aff9cfc3cd… (all of the seat's roots in one cut). By AI agents, Wed Nov 11 2026. No macro, syntax, notation, axiom, sorry.
-/
import Derived.Test.YtcipafjibkclcaaChecked
import GoSem.Claim
import GoSem.ClaimJoined
import GoSem.ClaimMapViews
import Derived.JoinedTies
import Derived.KernelRfl
namespace Go.Proofs.Ytcipafjibkclcaa
/- THE CELL 'sum', in the pinned program and in every row, IS THE sha256 OF THE DUMP (.gsa) THAT YtcipafjibkclcaaProg.lean LOADS. Nothing in Lean hashes anything: it is a label: what it is worth is what the hold of that sum in a sandbox is worth. -/
noncomputable def Try.pinned : Pinned := { name := "ytcipafjibkclcaa", sum := "64d7c9aff9cfc3cd1ef95e08ce213695d82714ecf14093f3f22dd9b3bb8920cd", checked := Try.checked }
namespace Rows
def none {H : Type} : Left H := { results := [], args := [] }

/-- 'laws.FnExactLayersOf': WHATEVER THE INPUT: true; the input reads as it did. -/
def fnExactLayersOfSpec : ChangeSpec := { name := "fnExactLayersOf", fn := fun _ => fun
  | [d] => { results := [.lit (.bool true)], args := [d] }
  | _ => none }
def fnExactLayersOfRow : OpenClaim := { program := "ytcipafjibkclcaa", sum := "64d7c9aff9cfc3cd1ef95e08ce213695d82714ecf14093f3f22dd9b3bb8920cd", func := "loop.example/g01391/laws.FnExactLayersOf", spec := "fnExactLayersOf", unfollowed := true, recurses := true, plainKeys := false, apart := false }
def FnExactLayersOfSaid : Prop := fnExactLayersOfRow.holds Try.pinned (OpenSpec.ofChange fnExactLayersOfSpec)

/-- ITS FALSE NEIGHBOUR: 'it returns false'. Refute it at one input. -/
def fnExactLayersOfWrong : ChangeSpec := { name := "fnExactLayersOf", fn := fun _ => fun
  | [d] => { results := [.lit (.bool false)], args := [d] }
  | _ => none }
def FnExactLayersOfWrongFalsely : Prop := fnExactLayersOfRow.holds Try.pinned (OpenSpec.ofChange fnExactLayersOfWrong)

/-- 'laws.FnExactIsAutomaton': WHATEVER THE INPUT: true; the input reads as it did. -/
def fnExactIsAutomatonSpec : ChangeSpec := { name := "fnExactIsAutomaton", fn := fun _ => fun
  | [d] => { results := [.lit (.bool true)], args := [d] }
  | _ => none }
def fnExactIsAutomatonRow : OpenClaim := { program := "ytcipafjibkclcaa", sum := "64d7c9aff9cfc3cd1ef95e08ce213695d82714ecf14093f3f22dd9b3bb8920cd", func := "loop.example/g01391/laws.FnExactIsAutomaton", spec := "fnExactIsAutomaton", plainKeys := false, apart := false }
def FnExactIsAutomatonSaid : Prop := fnExactIsAutomatonRow.holds Try.pinned (OpenSpec.ofChange fnExactIsAutomatonSpec)

/-- ITS FALSE NEIGHBOUR: 'it returns false'. Refute it at one input. -/
def fnExactIsAutomatonWrong : ChangeSpec := { name := "fnExactIsAutomaton", fn := fun _ => fun
  | [d] => { results := [.lit (.bool false)], args := [d] }
  | _ => none }
def FnExactIsAutomatonWrongFalsely : Prop := fnExactIsAutomatonRow.holds Try.pinned (OpenSpec.ofChange fnExactIsAutomatonWrong)

/-- 'laws.FnExactStatesOf': WHATEVER THE INPUT: true; the input reads as it did. -/
def fnExactStatesOfSpec : ChangeSpec := { name := "fnExactStatesOf", fn := fun _ => fun
  | [d1, d2] => { results := [.lit (.bool true)], args := [d1, d2] }
  | _ => none }
def fnExactStatesOfRow : OpenClaim := { program := "ytcipafjibkclcaa", sum := "64d7c9aff9cfc3cd1ef95e08ce213695d82714ecf14093f3f22dd9b3bb8920cd", func := "loop.example/g01391/laws.FnExactStatesOf", spec := "fnExactStatesOf", unfollowed := true, recurses := true, plainKeys := false, apart := false }
def FnExactStatesOfSaid : Prop := fnExactStatesOfRow.holds Try.pinned (OpenSpec.ofChange fnExactStatesOfSpec)

/-- ITS FALSE NEIGHBOUR: 'it returns false'. Refute it at one input. -/
def fnExactStatesOfWrong : ChangeSpec := { name := "fnExactStatesOf", fn := fun _ => fun
  | [d1, d2] => { results := [.lit (.bool false)], args := [d1, d2] }
  | _ => none }
def FnExactStatesOfWrongFalsely : Prop := fnExactStatesOfRow.holds Try.pinned (OpenSpec.ofChange fnExactStatesOfWrong)

/-- 'laws.FnExactTakesTree': WHATEVER THE INPUT: true; the input reads as it did. -/
def fnExactTakesTreeSpec : ChangeSpec := { name := "fnExactTakesTree", fn := fun _ => fun
  | [d1, d2] => { results := [.lit (.bool true)], args := [d1, d2] }
  | _ => none }
def fnExactTakesTreeRow : OpenClaim := { program := "ytcipafjibkclcaa", sum := "64d7c9aff9cfc3cd1ef95e08ce213695d82714ecf14093f3f22dd9b3bb8920cd", func := "loop.example/g01391/laws.FnExactTakesTree", spec := "fnExactTakesTree", unfollowed := true, recurses := true, plainKeys := false, apart := false }
def FnExactTakesTreeSaid : Prop := fnExactTakesTreeRow.holds Try.pinned (OpenSpec.ofChange fnExactTakesTreeSpec)

/-- ITS FALSE NEIGHBOUR: 'it returns false'. Refute it at one input. -/
def fnExactTakesTreeWrong : ChangeSpec := { name := "fnExactTakesTree", fn := fun _ => fun
  | [d1, d2] => { results := [.lit (.bool false)], args := [d1, d2] }
  | _ => none }
def FnExactTakesTreeWrongFalsely : Prop := fnExactTakesTreeRow.holds Try.pinned (OpenSpec.ofChange fnExactTakesTreeWrong)

/-- 'laws.FnExactCountTaken': WHATEVER THE INPUT: true; the input reads as it did. -/
def fnExactCountTakenSpec : ChangeSpec := { name := "fnExactCountTaken", fn := fun _ => fun
  | [d1, d2] => { results := [.lit (.bool true)], args := [d1, d2] }
  | _ => none }
def fnExactCountTakenRow : OpenClaim := { program := "ytcipafjibkclcaa", sum := "64d7c9aff9cfc3cd1ef95e08ce213695d82714ecf14093f3f22dd9b3bb8920cd", func := "loop.example/g01391/laws.FnExactCountTaken", spec := "fnExactCountTaken", plainKeys := false, apart := false }
def FnExactCountTakenSaid : Prop := fnExactCountTakenRow.holds Try.pinned (OpenSpec.ofChange fnExactCountTakenSpec)

/-- ITS FALSE NEIGHBOUR: 'it returns false'. Refute it at one input. -/
def fnExactCountTakenWrong : ChangeSpec := { name := "fnExactCountTaken", fn := fun _ => fun
  | [d1, d2] => { results := [.lit (.bool false)], args := [d1, d2] }
  | _ => none }
def FnExactCountTakenWrongFalsely : Prop := fnExactCountTakenRow.holds Try.pinned (OpenSpec.ofChange fnExactCountTakenWrong)

/-- 'laws.FnExactCountByState': WHATEVER THE INPUT: true; the input reads as it did. -/
def fnExactCountByStateSpec : ChangeSpec := { name := "fnExactCountByState", fn := fun _ => fun
  | [d1, d2] => { results := [.lit (.bool true)], args := [d1, d2] }
  | _ => none }
def fnExactCountByStateRow : OpenClaim := { program := "ytcipafjibkclcaa", sum := "64d7c9aff9cfc3cd1ef95e08ce213695d82714ecf14093f3f22dd9b3bb8920cd", func := "loop.example/g01391/laws.FnExactCountByState", spec := "fnExactCountByState", plainKeys := false, apart := false }
def FnExactCountByStateSaid : Prop := fnExactCountByStateRow.holds Try.pinned (OpenSpec.ofChange fnExactCountByStateSpec)

/-- ITS FALSE NEIGHBOUR: 'it returns false'. Refute it at one input. -/
def fnExactCountByStateWrong : ChangeSpec := { name := "fnExactCountByState", fn := fun _ => fun
  | [d1, d2] => { results := [.lit (.bool false)], args := [d1, d2] }
  | _ => none }
def FnExactCountByStateWrongFalsely : Prop := fnExactCountByStateRow.holds Try.pinned (OpenSpec.ofChange fnExactCountByStateWrong)

/-- 'laws.FnExactReachedStates': WHATEVER THE INPUT: true; the input reads as it did. -/
def fnExactReachedStatesSpec : ChangeSpec := { name := "fnExactReachedStates", fn := fun _ => fun
  | [d] => { results := [.lit (.bool true)], args := [d] }
  | _ => none }
def fnExactReachedStatesRow : OpenClaim := { program := "ytcipafjibkclcaa", sum := "64d7c9aff9cfc3cd1ef95e08ce213695d82714ecf14093f3f22dd9b3bb8920cd", func := "loop.example/g01391/laws.FnExactReachedStates", spec := "fnExactReachedStates", recurses := true, plainKeys := false, apart := false }
def FnExactReachedStatesSaid : Prop := fnExactReachedStatesRow.holds Try.pinned (OpenSpec.ofChange fnExactReachedStatesSpec)

/-- ITS FALSE NEIGHBOUR: 'it returns false'. Refute it at one input. -/
def fnExactReachedStatesWrong : ChangeSpec := { name := "fnExactReachedStates", fn := fun _ => fun
  | [d] => { results := [.lit (.bool false)], args := [d] }
  | _ => none }
def FnExactReachedStatesWrongFalsely : Prop := fnExactReachedStatesRow.holds Try.pinned (OpenSpec.ofChange fnExactReachedStatesWrong)

/-- 'laws.FnExactFirstOfState': WHATEVER THE INPUT: true; the input reads as it did. -/
def fnExactFirstOfStateSpec : ChangeSpec := { name := "fnExactFirstOfState", fn := fun _ => fun
  | [d1, d2] => { results := [.lit (.bool true)], args := [d1, d2] }
  | _ => none }
def fnExactFirstOfStateRow : OpenClaim := { program := "ytcipafjibkclcaa", sum := "64d7c9aff9cfc3cd1ef95e08ce213695d82714ecf14093f3f22dd9b3bb8920cd", func := "loop.example/g01391/laws.FnExactFirstOfState", spec := "fnExactFirstOfState", unfollowed := true, recurses := true, plainKeys := false, apart := false }
def FnExactFirstOfStateSaid : Prop := fnExactFirstOfStateRow.holds Try.pinned (OpenSpec.ofChange fnExactFirstOfStateSpec)

/-- ITS FALSE NEIGHBOUR: 'it returns false'. Refute it at one input. -/
def fnExactFirstOfStateWrong : ChangeSpec := { name := "fnExactFirstOfState", fn := fun _ => fun
  | [d1, d2] => { results := [.lit (.bool false)], args := [d1, d2] }
  | _ => none }
def FnExactFirstOfStateWrongFalsely : Prop := fnExactFirstOfStateRow.holds Try.pinned (OpenSpec.ofChange fnExactFirstOfStateWrong)

/-- 'laws.FnExactFirstTaken': WHATEVER THE INPUT: true; the input reads as it did. -/
def fnExactFirstTakenSpec : ChangeSpec := { name := "fnExactFirstTaken", fn := fun _ => fun
  | [d] => { results := [.lit (.bool true)], args := [d] }
  | _ => none }
def fnExactFirstTakenRow : OpenClaim := { program := "ytcipafjibkclcaa", sum := "64d7c9aff9cfc3cd1ef95e08ce213695d82714ecf14093f3f22dd9b3bb8920cd", func := "loop.example/g01391/laws.FnExactFirstTaken", spec := "fnExactFirstTaken", unfollowed := true, recurses := true, plainKeys := false, apart := false }
def FnExactFirstTakenSaid : Prop := fnExactFirstTakenRow.holds Try.pinned (OpenSpec.ofChange fnExactFirstTakenSpec)

/-- ITS FALSE NEIGHBOUR: 'it returns false'. Refute it at one input. -/
def fnExactFirstTakenWrong : ChangeSpec := { name := "fnExactFirstTaken", fn := fun _ => fun
  | [d] => { results := [.lit (.bool false)], args := [d] }
  | _ => none }
def FnExactFirstTakenWrongFalsely : Prop := fnExactFirstTakenRow.holds Try.pinned (OpenSpec.ofChange fnExactFirstTakenWrong)

/-- 'laws.FnExactOppositeAutomaton': WHATEVER THE INPUT: true; the input reads as it did. -/
def fnExactOppositeAutomatonSpec : ChangeSpec := { name := "fnExactOppositeAutomaton", fn := fun _ => fun
  | [d] => { results := [.lit (.bool true)], args := [d] }
  | _ => none }
def fnExactOppositeAutomatonRow : OpenClaim := { program := "ytcipafjibkclcaa", sum := "64d7c9aff9cfc3cd1ef95e08ce213695d82714ecf14093f3f22dd9b3bb8920cd", func := "loop.example/g01391/laws.FnExactOppositeAutomaton", spec := "fnExactOppositeAutomaton", plainKeys := false, apart := false }
def FnExactOppositeAutomatonSaid : Prop := fnExactOppositeAutomatonRow.holds Try.pinned (OpenSpec.ofChange fnExactOppositeAutomatonSpec)

/-- ITS FALSE NEIGHBOUR: 'it returns false'. Refute it at one input. -/
def fnExactOppositeAutomatonWrong : ChangeSpec := { name := "fnExactOppositeAutomaton", fn := fun _ => fun
  | [d] => { results := [.lit (.bool false)], args := [d] }
  | _ => none }
def FnExactOppositeAutomatonWrongFalsely : Prop := fnExactOppositeAutomatonRow.holds Try.pinned (OpenSpec.ofChange fnExactOppositeAutomatonWrong)

/-- 'laws.FnExactCombineAutomata': WHATEVER THE INPUT: true; the input reads as it did. -/
def fnExactCombineAutomataSpec : ChangeSpec := { name := "fnExactCombineAutomata", fn := fun _ => fun
  | [d1, d2, d3] => { results := [.lit (.bool true)], args := [d1, d2, d3] }
  | _ => none }
def fnExactCombineAutomataRow : OpenClaim := { program := "ytcipafjibkclcaa", sum := "64d7c9aff9cfc3cd1ef95e08ce213695d82714ecf14093f3f22dd9b3bb8920cd", func := "loop.example/g01391/laws.FnExactCombineAutomata", spec := "fnExactCombineAutomata", unfollowed := true, recurses := true, plainKeys := false, apart := false }
def FnExactCombineAutomataSaid : Prop := fnExactCombineAutomataRow.holds Try.pinned (OpenSpec.ofChange fnExactCombineAutomataSpec)

/-- ITS FALSE NEIGHBOUR: 'it returns false'. Refute it at one input. -/
def fnExactCombineAutomataWrong : ChangeSpec := { name := "fnExactCombineAutomata", fn := fun _ => fun
  | [d1, d2, d3] => { results := [.lit (.bool false)], args := [d1, d2, d3] }
  | _ => none }
def FnExactCombineAutomataWrongFalsely : Prop := fnExactCombineAutomataRow.holds Try.pinned (OpenSpec.ofChange fnExactCombineAutomataWrong)

/-- 'laws.FnExactLeastAutomaton': WHATEVER THE INPUT: true; the input reads as it did. -/
def fnExactLeastAutomatonSpec : ChangeSpec := { name := "fnExactLeastAutomaton", fn := fun _ => fun
  | [d] => { results := [.lit (.bool true)], args := [d] }
  | _ => none }
def fnExactLeastAutomatonRow : OpenClaim := { program := "ytcipafjibkclcaa", sum := "64d7c9aff9cfc3cd1ef95e08ce213695d82714ecf14093f3f22dd9b3bb8920cd", func := "loop.example/g01391/laws.FnExactLeastAutomaton", spec := "fnExactLeastAutomaton", unfollowed := true, recurses := true, plainKeys := false, apart := false }
def FnExactLeastAutomatonSaid : Prop := fnExactLeastAutomatonRow.holds Try.pinned (OpenSpec.ofChange fnExactLeastAutomatonSpec)

/-- ITS FALSE NEIGHBOUR: 'it returns false'. Refute it at one input. -/
def fnExactLeastAutomatonWrong : ChangeSpec := { name := "fnExactLeastAutomaton", fn := fun _ => fun
  | [d] => { results := [.lit (.bool false)], args := [d] }
  | _ => none }
def FnExactLeastAutomatonWrongFalsely : Prop := fnExactLeastAutomatonRow.holds Try.pinned (OpenSpec.ofChange fnExactLeastAutomatonWrong)

/-- 'laws.FnExactAreAlike': WHATEVER THE INPUT: true; the input reads as it did. -/
def fnExactAreAlikeSpec : ChangeSpec := { name := "fnExactAreAlike", fn := fun _ => fun
  | [d1, d2] => { results := [.lit (.bool true)], args := [d1, d2] }
  | _ => none }
def fnExactAreAlikeRow : OpenClaim := { program := "ytcipafjibkclcaa", sum := "64d7c9aff9cfc3cd1ef95e08ce213695d82714ecf14093f3f22dd9b3bb8920cd", func := "loop.example/g01391/laws.FnExactAreAlike", spec := "fnExactAreAlike", plainKeys := false, apart := false }
def FnExactAreAlikeSaid : Prop := fnExactAreAlikeRow.holds Try.pinned (OpenSpec.ofChange fnExactAreAlikeSpec)

/-- ITS FALSE NEIGHBOUR: 'it returns false'. Refute it at one input. -/
def fnExactAreAlikeWrong : ChangeSpec := { name := "fnExactAreAlike", fn := fun _ => fun
  | [d1, d2] => { results := [.lit (.bool false)], args := [d1, d2] }
  | _ => none }
def FnExactAreAlikeWrongFalsely : Prop := fnExactAreAlikeRow.holds Try.pinned (OpenSpec.ofChange fnExactAreAlikeWrong)

/-- 'laws.FnExactAutomatonText': WHATEVER THE INPUT: true; the input reads as it did. -/
def fnExactAutomatonTextSpec : ChangeSpec := { name := "fnExactAutomatonText", fn := fun _ => fun
  | [d] => { results := [.lit (.bool true)], args := [d] }
  | _ => none }
def fnExactAutomatonTextRow : OpenClaim := { program := "ytcipafjibkclcaa", sum := "64d7c9aff9cfc3cd1ef95e08ce213695d82714ecf14093f3f22dd9b3bb8920cd", func := "loop.example/g01391/laws.FnExactAutomatonText", spec := "fnExactAutomatonText", inPlace := ["internal/abi.NoEscape", "internal/bytealg.MakeNoZero"], recurses := true, plainKeys := false, apart := false }
def FnExactAutomatonTextSaid : Prop := fnExactAutomatonTextRow.holds Try.pinned (OpenSpec.ofChange fnExactAutomatonTextSpec)

/-- ITS FALSE NEIGHBOUR: 'it returns false'. Refute it at one input. -/
def fnExactAutomatonTextWrong : ChangeSpec := { name := "fnExactAutomatonText", fn := fun _ => fun
  | [d] => { results := [.lit (.bool false)], args := [d] }
  | _ => none }
def FnExactAutomatonTextWrongFalsely : Prop := fnExactAutomatonTextRow.holds Try.pinned (OpenSpec.ofChange fnExactAutomatonTextWrong)

/- THE SECOND FORM. 'bulk': how many values and letters a reading holds, each counted each time it is reached (what is shared counts as often as it is met; a slice's spare places count too). A statement '..UptoSaid' is the law's where the arguments, and the package variables that the reading takes, are together of bulk at most 1048576: NARROWER than '..Said'. Prove '..Said' where nothing that the law and all that it calls make is longer than what came in: it says more and counts as full. Else prove '..UptoSaid'. A law counts once. -/
mutual
def uptoBulk {H : Type} : DataW H → Nat
  | .lit (.string bytes) => bytes.length + 1
  | .lit _ => 1
  | .nil => 1
  | .ptr d => uptoBulk d + 1
  | .slice elems spare => uptoBulkAll elems + uptoBulkAll spare + 1
  | .agg parts => uptoBulkAll parts + 1
  | .iface _ d => uptoBulk d + 1
  | .map entries => uptoBulkEntries entries + 1
  | .held _ => 1
def uptoBulkAll {H : Type} : List (DataW H) → Nat
  | [] => 0
  | d :: r => uptoBulk d + uptoBulkAll r
def uptoBulkEntries {H : Type} : List (Lit × DataW H) → Nat
  | [] => 0
  | x :: r => uptoBulkEntry x + uptoBulkEntries r
def uptoBulkEntry {H : Type} : Lit × DataW H → Nat
  | (.string bytes, d) => bytes.length + uptoBulk d + 1
  | (_, d) => uptoBulk d + 1
 end
def uptoSmall : (H : Type) → List (DataW H) → Bool := fun _ ds => decide (uptoBulkAll ds ≤ 1048576)
def OpenSpec.upto (s : _root_.Go.ChangeSpec) : _root_.Go.OpenSpec := { _root_.Go.OpenSpec.ofChange s with cond := some uptoSmall }

/-- 'laws.FnExactLayersOf', WHERE WHAT IT READS IS OF BULK AT MOST 1048576: true; the input reads as it did. -/
def fnExactLayersOfUptoRow : OpenClaim := { program := "ytcipafjibkclcaa", sum := "64d7c9aff9cfc3cd1ef95e08ce213695d82714ecf14093f3f22dd9b3bb8920cd", func := "loop.example/g01391/laws.FnExactLayersOf", spec := "fnExactLayersOf", unfollowed := true, recurses := true, plainKeys := false, apart := false, narrowed := true }
def FnExactLayersOfUptoSaid : Prop := fnExactLayersOfUptoRow.holds Try.pinned (OpenSpec.upto fnExactLayersOfSpec)

/-- 'laws.FnExactIsAutomaton', WHERE WHAT IT READS IS OF BULK AT MOST 1048576: true; the input reads as it did. -/
def fnExactIsAutomatonUptoRow : OpenClaim := { program := "ytcipafjibkclcaa", sum := "64d7c9aff9cfc3cd1ef95e08ce213695d82714ecf14093f3f22dd9b3bb8920cd", func := "loop.example/g01391/laws.FnExactIsAutomaton", spec := "fnExactIsAutomaton", plainKeys := false, apart := false, narrowed := true }
def FnExactIsAutomatonUptoSaid : Prop := fnExactIsAutomatonUptoRow.holds Try.pinned (OpenSpec.upto fnExactIsAutomatonSpec)

/-- 'laws.FnExactStatesOf', WHERE WHAT IT READS IS OF BULK AT MOST 1048576: true; the input reads as it did. -/
def fnExactStatesOfUptoRow : OpenClaim := { program := "ytcipafjibkclcaa", sum := "64d7c9aff9cfc3cd1ef95e08ce213695d82714ecf14093f3f22dd9b3bb8920cd", func := "loop.example/g01391/laws.FnExactStatesOf", spec := "fnExactStatesOf", unfollowed := true, recurses := true, plainKeys := false, apart := false, narrowed := true }
def FnExactStatesOfUptoSaid : Prop := fnExactStatesOfUptoRow.holds Try.pinned (OpenSpec.upto fnExactStatesOfSpec)

/-- 'laws.FnExactTakesTree', WHERE WHAT IT READS IS OF BULK AT MOST 1048576: true; the input reads as it did. -/
def fnExactTakesTreeUptoRow : OpenClaim := { program := "ytcipafjibkclcaa", sum := "64d7c9aff9cfc3cd1ef95e08ce213695d82714ecf14093f3f22dd9b3bb8920cd", func := "loop.example/g01391/laws.FnExactTakesTree", spec := "fnExactTakesTree", unfollowed := true, recurses := true, plainKeys := false, apart := false, narrowed := true }
def FnExactTakesTreeUptoSaid : Prop := fnExactTakesTreeUptoRow.holds Try.pinned (OpenSpec.upto fnExactTakesTreeSpec)

/-- 'laws.FnExactCountTaken', WHERE WHAT IT READS IS OF BULK AT MOST 1048576: true; the input reads as it did. -/
def fnExactCountTakenUptoRow : OpenClaim := { program := "ytcipafjibkclcaa", sum := "64d7c9aff9cfc3cd1ef95e08ce213695d82714ecf14093f3f22dd9b3bb8920cd", func := "loop.example/g01391/laws.FnExactCountTaken", spec := "fnExactCountTaken", plainKeys := false, apart := false, narrowed := true }
def FnExactCountTakenUptoSaid : Prop := fnExactCountTakenUptoRow.holds Try.pinned (OpenSpec.upto fnExactCountTakenSpec)

/-- 'laws.FnExactCountByState', WHERE WHAT IT READS IS OF BULK AT MOST 1048576: true; the input reads as it did. -/
def fnExactCountByStateUptoRow : OpenClaim := { program := "ytcipafjibkclcaa", sum := "64d7c9aff9cfc3cd1ef95e08ce213695d82714ecf14093f3f22dd9b3bb8920cd", func := "loop.example/g01391/laws.FnExactCountByState", spec := "fnExactCountByState", plainKeys := false, apart := false, narrowed := true }
def FnExactCountByStateUptoSaid : Prop := fnExactCountByStateUptoRow.holds Try.pinned (OpenSpec.upto fnExactCountByStateSpec)

/-- 'laws.FnExactReachedStates', WHERE WHAT IT READS IS OF BULK AT MOST 1048576: true; the input reads as it did. -/
def fnExactReachedStatesUptoRow : OpenClaim := { program := "ytcipafjibkclcaa", sum := "64d7c9aff9cfc3cd1ef95e08ce213695d82714ecf14093f3f22dd9b3bb8920cd", func := "loop.example/g01391/laws.FnExactReachedStates", spec := "fnExactReachedStates", recurses := true, plainKeys := false, apart := false, narrowed := true }
def FnExactReachedStatesUptoSaid : Prop := fnExactReachedStatesUptoRow.holds Try.pinned (OpenSpec.upto fnExactReachedStatesSpec)

/-- 'laws.FnExactFirstOfState', WHERE WHAT IT READS IS OF BULK AT MOST 1048576: true; the input reads as it did. -/
def fnExactFirstOfStateUptoRow : OpenClaim := { program := "ytcipafjibkclcaa", sum := "64d7c9aff9cfc3cd1ef95e08ce213695d82714ecf14093f3f22dd9b3bb8920cd", func := "loop.example/g01391/laws.FnExactFirstOfState", spec := "fnExactFirstOfState", unfollowed := true, recurses := true, plainKeys := false, apart := false, narrowed := true }
def FnExactFirstOfStateUptoSaid : Prop := fnExactFirstOfStateUptoRow.holds Try.pinned (OpenSpec.upto fnExactFirstOfStateSpec)

/-- 'laws.FnExactFirstTaken', WHERE WHAT IT READS IS OF BULK AT MOST 1048576: true; the input reads as it did. -/
def fnExactFirstTakenUptoRow : OpenClaim := { program := "ytcipafjibkclcaa", sum := "64d7c9aff9cfc3cd1ef95e08ce213695d82714ecf14093f3f22dd9b3bb8920cd", func := "loop.example/g01391/laws.FnExactFirstTaken", spec := "fnExactFirstTaken", unfollowed := true, recurses := true, plainKeys := false, apart := false, narrowed := true }
def FnExactFirstTakenUptoSaid : Prop := fnExactFirstTakenUptoRow.holds Try.pinned (OpenSpec.upto fnExactFirstTakenSpec)

/-- 'laws.FnExactOppositeAutomaton', WHERE WHAT IT READS IS OF BULK AT MOST 1048576: true; the input reads as it did. -/
def fnExactOppositeAutomatonUptoRow : OpenClaim := { program := "ytcipafjibkclcaa", sum := "64d7c9aff9cfc3cd1ef95e08ce213695d82714ecf14093f3f22dd9b3bb8920cd", func := "loop.example/g01391/laws.FnExactOppositeAutomaton", spec := "fnExactOppositeAutomaton", plainKeys := false, apart := false, narrowed := true }
def FnExactOppositeAutomatonUptoSaid : Prop := fnExactOppositeAutomatonUptoRow.holds Try.pinned (OpenSpec.upto fnExactOppositeAutomatonSpec)

/-- 'laws.FnExactCombineAutomata', WHERE WHAT IT READS IS OF BULK AT MOST 1048576: true; the input reads as it did. -/
def fnExactCombineAutomataUptoRow : OpenClaim := { program := "ytcipafjibkclcaa", sum := "64d7c9aff9cfc3cd1ef95e08ce213695d82714ecf14093f3f22dd9b3bb8920cd", func := "loop.example/g01391/laws.FnExactCombineAutomata", spec := "fnExactCombineAutomata", unfollowed := true, recurses := true, plainKeys := false, apart := false, narrowed := true }
def FnExactCombineAutomataUptoSaid : Prop := fnExactCombineAutomataUptoRow.holds Try.pinned (OpenSpec.upto fnExactCombineAutomataSpec)

/-- 'laws.FnExactLeastAutomaton', WHERE WHAT IT READS IS OF BULK AT MOST 1048576: true; the input reads as it did. -/
def fnExactLeastAutomatonUptoRow : OpenClaim := { program := "ytcipafjibkclcaa", sum := "64d7c9aff9cfc3cd1ef95e08ce213695d82714ecf14093f3f22dd9b3bb8920cd", func := "loop.example/g01391/laws.FnExactLeastAutomaton", spec := "fnExactLeastAutomaton", unfollowed := true, recurses := true, plainKeys := false, apart := false, narrowed := true }
def FnExactLeastAutomatonUptoSaid : Prop := fnExactLeastAutomatonUptoRow.holds Try.pinned (OpenSpec.upto fnExactLeastAutomatonSpec)

/-- 'laws.FnExactAreAlike', WHERE WHAT IT READS IS OF BULK AT MOST 1048576: true; the input reads as it did. -/
def fnExactAreAlikeUptoRow : OpenClaim := { program := "ytcipafjibkclcaa", sum := "64d7c9aff9cfc3cd1ef95e08ce213695d82714ecf14093f3f22dd9b3bb8920cd", func := "loop.example/g01391/laws.FnExactAreAlike", spec := "fnExactAreAlike", plainKeys := false, apart := false, narrowed := true }
def FnExactAreAlikeUptoSaid : Prop := fnExactAreAlikeUptoRow.holds Try.pinned (OpenSpec.upto fnExactAreAlikeSpec)

/-- 'laws.FnExactAutomatonText', WHERE WHAT IT READS IS OF BULK AT MOST 1048576: true; the input reads as it did. -/
def fnExactAutomatonTextUptoRow : OpenClaim := { program := "ytcipafjibkclcaa", sum := "64d7c9aff9cfc3cd1ef95e08ce213695d82714ecf14093f3f22dd9b3bb8920cd", func := "loop.example/g01391/laws.FnExactAutomatonText", spec := "fnExactAutomatonText", inPlace := ["internal/abi.NoEscape", "internal/bytealg.MakeNoZero"], recurses := true, plainKeys := false, apart := false, narrowed := true }
def FnExactAutomatonTextUptoSaid : Prop := fnExactAutomatonTextUptoRow.holds Try.pinned (OpenSpec.upto fnExactAutomatonTextSpec)

end Rows
end Go.Proofs.Ytcipafjibkclcaa
