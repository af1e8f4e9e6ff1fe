/-
  No cell of these rows narrows 'for every input' (looked for: loops, veiled, ifaces, maps, wideKeys, modest, calm, conditions, laid).
  DERIVED. THE GIVEN ROWS OF THIS SEAT. 15 by the template 'for every input the law returns true; each argument reads behind the call as it read before'; 0 by the template 'total and deterministic' (their statements: YtamnilpmdccgoaaTotals.lean).
  GIVEN WITH THE SEED: the statements are not yours to turn. If you find one false, say at which input.
  Laid BY PROGRAM, IN A SANDBOX (cutbox-rows.mjs): the forced cells as the released guide's own fill.sh prints them over the translation f9e2074632b83f77… (all of the seat's roots in one cut). By AI agents, Wed Nov 11 2026. No macro, syntax, notation, axiom, sorry.
-/
import Derived.Test.YtamnilpmdccgoaaChecked
import GoSem.Claim
import GoSem.ClaimJoined
import GoSem.ClaimMapViews
import Derived.JoinedTies
import Derived.KernelRfl
namespace Go.Proofs.Ytamnilpmdccgoaa
/- THE CELL 'sum', in the pinned program and in every row, IS THE sha256 OF THE DUMP (.gsa) THAT YtamnilpmdccgoaaProg.lean LOADS. Nothing in Lean hashes anything: it is a label: what it is worth is what the hold of that sum in a sandbox is worth. -/
noncomputable def Try.pinned : Pinned := { name := "ytamnilpmdccgoaa", sum := "f9e2074632b83f7745fea93dd0bb5a029795488d1c0742853494bf2a236689c3", checked := Try.checked }
namespace Rows
def none {H : Type} : Left H := { results := [], args := [] }

/-- 'laws.FnExactEvenColumns': WHATEVER THE INPUT: true; the input reads as it did. -/
def fnExactEvenColumnsSpec : ChangeSpec := { name := "fnExactEvenColumns", fn := fun _ => fun
  | [d] => { results := [.lit (.bool true)], args := [d] }
  | _ => none }
def fnExactEvenColumnsRow : OpenClaim := { program := "ytamnilpmdccgoaa", sum := "f9e2074632b83f7745fea93dd0bb5a029795488d1c0742853494bf2a236689c3", func := "loop.example/g01391/laws.FnExactEvenColumns", spec := "fnExactEvenColumns", unfollowed := true, recurses := true, plainKeys := false, apart := false }
def FnExactEvenColumnsSaid : Prop := fnExactEvenColumnsRow.holds Try.pinned (OpenSpec.ofChange fnExactEvenColumnsSpec)

/-- ITS FALSE NEIGHBOUR: 'it returns false'. Refute it at one input. -/
def fnExactEvenColumnsWrong : ChangeSpec := { name := "fnExactEvenColumns", fn := fun _ => fun
  | [d] => { results := [.lit (.bool false)], args := [d] }
  | _ => none }
def FnExactEvenColumnsWrongFalsely : Prop := fnExactEvenColumnsRow.holds Try.pinned (OpenSpec.ofChange fnExactEvenColumnsWrong)

/-- 'laws.FnExactTidyColumns': WHATEVER THE INPUT: true; the input reads as it did. -/
def fnExactTidyColumnsSpec : ChangeSpec := { name := "fnExactTidyColumns", fn := fun _ => fun
  | [d] => { results := [.lit (.bool true)], args := [d] }
  | _ => none }
def fnExactTidyColumnsRow : OpenClaim := { program := "ytamnilpmdccgoaa", sum := "f9e2074632b83f7745fea93dd0bb5a029795488d1c0742853494bf2a236689c3", func := "loop.example/g01391/laws.FnExactTidyColumns", spec := "fnExactTidyColumns", unfollowed := true, recurses := true, plainKeys := false, apart := false }
def FnExactTidyColumnsSaid : Prop := fnExactTidyColumnsRow.holds Try.pinned (OpenSpec.ofChange fnExactTidyColumnsSpec)

/-- ITS FALSE NEIGHBOUR: 'it returns false'. Refute it at one input. -/
def fnExactTidyColumnsWrong : ChangeSpec := { name := "fnExactTidyColumns", fn := fun _ => fun
  | [d] => { results := [.lit (.bool false)], args := [d] }
  | _ => none }
def FnExactTidyColumnsWrongFalsely : Prop := fnExactTidyColumnsRow.holds Try.pinned (OpenSpec.ofChange fnExactTidyColumnsWrong)

/-- 'laws.FnExactTidyWidth': WHATEVER THE INPUT: true; the input reads as it did. -/
def fnExactTidyWidthSpec : ChangeSpec := { name := "fnExactTidyWidth", fn := fun _ => fun
  | [d] => { results := [.lit (.bool true)], args := [d] }
  | _ => none }
def fnExactTidyWidthRow : OpenClaim := { program := "ytamnilpmdccgoaa", sum := "f9e2074632b83f7745fea93dd0bb5a029795488d1c0742853494bf2a236689c3", func := "loop.example/g01391/laws.FnExactTidyWidth", spec := "fnExactTidyWidth", unfollowed := true, recurses := true, plainKeys := false, apart := false }
def FnExactTidyWidthSaid : Prop := fnExactTidyWidthRow.holds Try.pinned (OpenSpec.ofChange fnExactTidyWidthSpec)

/-- ITS FALSE NEIGHBOUR: 'it returns false'. Refute it at one input. -/
def fnExactTidyWidthWrong : ChangeSpec := { name := "fnExactTidyWidth", fn := fun _ => fun
  | [d] => { results := [.lit (.bool false)], args := [d] }
  | _ => none }
def FnExactTidyWidthWrongFalsely : Prop := fnExactTidyWidthRow.holds Try.pinned (OpenSpec.ofChange fnExactTidyWidthWrong)

/-- 'laws.FnExactIntervalOf': WHATEVER THE INPUT: true; the input reads as it did. -/
def fnExactIntervalOfSpec : ChangeSpec := { name := "fnExactIntervalOf", fn := fun _ => fun
  | [d1, d2] => { results := [.lit (.bool true)], args := [d1, d2] }
  | _ => none }
def fnExactIntervalOfRow : OpenClaim := { program := "ytamnilpmdccgoaa", sum := "f9e2074632b83f7745fea93dd0bb5a029795488d1c0742853494bf2a236689c3", func := "loop.example/g01391/laws.FnExactIntervalOf", spec := "fnExactIntervalOf", plainKeys := false, apart := false }
def FnExactIntervalOfSaid : Prop := fnExactIntervalOfRow.holds Try.pinned (OpenSpec.ofChange fnExactIntervalOfSpec)

/-- ITS FALSE NEIGHBOUR: 'it returns false'. Refute it at one input. -/
def fnExactIntervalOfWrong : ChangeSpec := { name := "fnExactIntervalOf", fn := fun _ => fun
  | [d1, d2] => { results := [.lit (.bool false)], args := [d1, d2] }
  | _ => none }
def FnExactIntervalOfWrongFalsely : Prop := fnExactIntervalOfRow.holds Try.pinned (OpenSpec.ofChange fnExactIntervalOfWrong)

/-- 'laws.FnExactAncestorOf': WHATEVER THE INPUT: true; the input reads as it did. -/
def fnExactAncestorOfSpec : ChangeSpec := { name := "fnExactAncestorOf", fn := fun _ => fun
  | [d1, d2, d3] => { results := [.lit (.bool true)], args := [d1, d2, d3] }
  | _ => none }
def fnExactAncestorOfRow : OpenClaim := { program := "ytamnilpmdccgoaa", sum := "f9e2074632b83f7745fea93dd0bb5a029795488d1c0742853494bf2a236689c3", func := "loop.example/g01391/laws.FnExactAncestorOf", spec := "fnExactAncestorOf", unfollowed := true, recurses := true, plainKeys := false, apart := false }
def FnExactAncestorOfSaid : Prop := fnExactAncestorOfRow.holds Try.pinned (OpenSpec.ofChange fnExactAncestorOfSpec)

/-- ITS FALSE NEIGHBOUR: 'it returns false'. Refute it at one input. -/
def fnExactAncestorOfWrong : ChangeSpec := { name := "fnExactAncestorOf", fn := fun _ => fun
  | [d1, d2, d3] => { results := [.lit (.bool false)], args := [d1, d2, d3] }
  | _ => none }
def FnExactAncestorOfWrongFalsely : Prop := fnExactAncestorOfRow.holds Try.pinned (OpenSpec.ofChange fnExactAncestorOfWrong)

/-- 'laws.FnExactBesideOf': WHATEVER THE INPUT: true; the input reads as it did. -/
def fnExactBesideOfSpec : ChangeSpec := { name := "fnExactBesideOf", fn := fun _ => fun
  | [d] => { results := [.lit (.bool true)], args := [d] }
  | _ => none }
def fnExactBesideOfRow : OpenClaim := { program := "ytamnilpmdccgoaa", sum := "f9e2074632b83f7745fea93dd0bb5a029795488d1c0742853494bf2a236689c3", func := "loop.example/g01391/laws.FnExactBesideOf", spec := "fnExactBesideOf", unfollowed := true, recurses := true, plainKeys := false, apart := false }
def FnExactBesideOfSaid : Prop := fnExactBesideOfRow.holds Try.pinned (OpenSpec.ofChange fnExactBesideOfSpec)

/-- ITS FALSE NEIGHBOUR: 'it returns false'. Refute it at one input. -/
def fnExactBesideOfWrong : ChangeSpec := { name := "fnExactBesideOf", fn := fun _ => fun
  | [d] => { results := [.lit (.bool false)], args := [d] }
  | _ => none }
def FnExactBesideOfWrongFalsely : Prop := fnExactBesideOfRow.holds Try.pinned (OpenSpec.ofChange fnExactBesideOfWrong)

/-- 'laws.FnExactHeavyChildren': WHATEVER THE INPUT: true; the input reads as it did. -/
def fnExactHeavyChildrenSpec : ChangeSpec := { name := "fnExactHeavyChildren", fn := fun _ => fun
  | [d] => { results := [.lit (.bool true)], args := [d] }
  | _ => none }
def fnExactHeavyChildrenRow : OpenClaim := { program := "ytamnilpmdccgoaa", sum := "f9e2074632b83f7745fea93dd0bb5a029795488d1c0742853494bf2a236689c3", func := "loop.example/g01391/laws.FnExactHeavyChildren", spec := "fnExactHeavyChildren", unfollowed := true, recurses := true, plainKeys := false, apart := false }
def FnExactHeavyChildrenSaid : Prop := fnExactHeavyChildrenRow.holds Try.pinned (OpenSpec.ofChange fnExactHeavyChildrenSpec)

/-- ITS FALSE NEIGHBOUR: 'it returns false'. Refute it at one input. -/
def fnExactHeavyChildrenWrong : ChangeSpec := { name := "fnExactHeavyChildren", fn := fun _ => fun
  | [d] => { results := [.lit (.bool false)], args := [d] }
  | _ => none }
def FnExactHeavyChildrenWrongFalsely : Prop := fnExactHeavyChildrenRow.holds Try.pinned (OpenSpec.ofChange fnExactHeavyChildrenWrong)

/-- 'laws.FnExactHeavyPaths': WHATEVER THE INPUT: true; the input reads as it did. -/
def fnExactHeavyPathsSpec : ChangeSpec := { name := "fnExactHeavyPaths", fn := fun _ => fun
  | [d] => { results := [.lit (.bool true)], args := [d] }
  | _ => none }
def fnExactHeavyPathsRow : OpenClaim := { program := "ytamnilpmdccgoaa", sum := "f9e2074632b83f7745fea93dd0bb5a029795488d1c0742853494bf2a236689c3", func := "loop.example/g01391/laws.FnExactHeavyPaths", spec := "fnExactHeavyPaths", unfollowed := true, recurses := true, plainKeys := false, apart := false }
def FnExactHeavyPathsSaid : Prop := fnExactHeavyPathsRow.holds Try.pinned (OpenSpec.ofChange fnExactHeavyPathsSpec)

/-- ITS FALSE NEIGHBOUR: 'it returns false'. Refute it at one input. -/
def fnExactHeavyPathsWrong : ChangeSpec := { name := "fnExactHeavyPaths", fn := fun _ => fun
  | [d] => { results := [.lit (.bool false)], args := [d] }
  | _ => none }
def FnExactHeavyPathsWrongFalsely : Prop := fnExactHeavyPathsRow.holds Try.pinned (OpenSpec.ofChange fnExactHeavyPathsWrong)

/-- 'laws.FnExactLightSteps': WHATEVER THE INPUT: true; the input reads as it did. -/
def fnExactLightStepsSpec : ChangeSpec := { name := "fnExactLightSteps", fn := fun _ => fun
  | [d1, d2] => { results := [.lit (.bool true)], args := [d1, d2] }
  | _ => none }
def fnExactLightStepsRow : OpenClaim := { program := "ytamnilpmdccgoaa", sum := "f9e2074632b83f7745fea93dd0bb5a029795488d1c0742853494bf2a236689c3", func := "loop.example/g01391/laws.FnExactLightSteps", spec := "fnExactLightSteps", unfollowed := true, recurses := true, plainKeys := false, apart := false }
def FnExactLightStepsSaid : Prop := fnExactLightStepsRow.holds Try.pinned (OpenSpec.ofChange fnExactLightStepsSpec)

/-- ITS FALSE NEIGHBOUR: 'it returns false'. Refute it at one input. -/
def fnExactLightStepsWrong : ChangeSpec := { name := "fnExactLightSteps", fn := fun _ => fun
  | [d1, d2] => { results := [.lit (.bool false)], args := [d1, d2] }
  | _ => none }
def FnExactLightStepsWrongFalsely : Prop := fnExactLightStepsRow.holds Try.pinned (OpenSpec.ofChange fnExactLightStepsWrong)

/-- 'laws.FnExactPictureOf': WHATEVER THE INPUT: true; the input reads as it did. -/
def fnExactPictureOfSpec : ChangeSpec := { name := "fnExactPictureOf", fn := fun _ => fun
  | [d] => { results := [.lit (.bool true)], args := [d] }
  | _ => none }
def fnExactPictureOfRow : OpenClaim := { program := "ytamnilpmdccgoaa", sum := "f9e2074632b83f7745fea93dd0bb5a029795488d1c0742853494bf2a236689c3", func := "loop.example/g01391/laws.FnExactPictureOf", spec := "fnExactPictureOf", inPlace := ["internal/bytealg.MakeNoZero"], unfollowed := true, recurses := true, plainKeys := false, apart := false }
def FnExactPictureOfSaid : Prop := fnExactPictureOfRow.holds Try.pinned (OpenSpec.ofChange fnExactPictureOfSpec)

/-- ITS FALSE NEIGHBOUR: 'it returns false'. Refute it at one input. -/
def fnExactPictureOfWrong : ChangeSpec := { name := "fnExactPictureOf", fn := fun _ => fun
  | [d] => { results := [.lit (.bool false)], args := [d] }
  | _ => none }
def FnExactPictureOfWrongFalsely : Prop := fnExactPictureOfRow.holds Try.pinned (OpenSpec.ofChange fnExactPictureOfWrong)

/-- 'laws.FnExactCommonPairs': WHATEVER THE INPUT: true; the input reads as it did. -/
def fnExactCommonPairsSpec : ChangeSpec := { name := "fnExactCommonPairs", fn := fun _ => fun
  | [d1, d2] => { results := [.lit (.bool true)], args := [d1, d2] }
  | _ => none }
def fnExactCommonPairsRow : OpenClaim := { program := "ytamnilpmdccgoaa", sum := "f9e2074632b83f7745fea93dd0bb5a029795488d1c0742853494bf2a236689c3", func := "loop.example/g01391/laws.FnExactCommonPairs", spec := "fnExactCommonPairs", unfollowed := true, recurses := true, plainKeys := false, apart := false }
def FnExactCommonPairsSaid : Prop := fnExactCommonPairsRow.holds Try.pinned (OpenSpec.ofChange fnExactCommonPairsSpec)

/-- ITS FALSE NEIGHBOUR: 'it returns false'. Refute it at one input. -/
def fnExactCommonPairsWrong : ChangeSpec := { name := "fnExactCommonPairs", fn := fun _ => fun
  | [d1, d2] => { results := [.lit (.bool false)], args := [d1, d2] }
  | _ => none }
def FnExactCommonPairsWrongFalsely : Prop := fnExactCommonPairsRow.holds Try.pinned (OpenSpec.ofChange fnExactCommonPairsWrong)

/-- 'laws.FnExactDoAgree': WHATEVER THE INPUT: true; the input reads as it did. -/
def fnExactDoAgreeSpec : ChangeSpec := { name := "fnExactDoAgree", fn := fun _ => fun
  | [d1, d2, d3] => { results := [.lit (.bool true)], args := [d1, d2, d3] }
  | _ => none }
def fnExactDoAgreeRow : OpenClaim := { program := "ytamnilpmdccgoaa", sum := "f9e2074632b83f7745fea93dd0bb5a029795488d1c0742853494bf2a236689c3", func := "loop.example/g01391/laws.FnExactDoAgree", spec := "fnExactDoAgree", unfollowed := true, recurses := true, plainKeys := false, apart := false }
def FnExactDoAgreeSaid : Prop := fnExactDoAgreeRow.holds Try.pinned (OpenSpec.ofChange fnExactDoAgreeSpec)

/-- ITS FALSE NEIGHBOUR: 'it returns false'. Refute it at one input. -/
def fnExactDoAgreeWrong : ChangeSpec := { name := "fnExactDoAgree", fn := fun _ => fun
  | [d1, d2, d3] => { results := [.lit (.bool false)], args := [d1, d2, d3] }
  | _ => none }
def FnExactDoAgreeWrongFalsely : Prop := fnExactDoAgreeRow.holds Try.pinned (OpenSpec.ofChange fnExactDoAgreeWrong)

/-- 'laws.FnExactByTakingOut': WHATEVER THE INPUT: true; the input reads as it did. -/
def fnExactByTakingOutSpec : ChangeSpec := { name := "fnExactByTakingOut", fn := fun _ => fun
  | [d] => { results := [.lit (.bool true)], args := [d] }
  | _ => none }
def fnExactByTakingOutRow : OpenClaim := { program := "ytamnilpmdccgoaa", sum := "f9e2074632b83f7745fea93dd0bb5a029795488d1c0742853494bf2a236689c3", func := "loop.example/g01391/laws.FnExactByTakingOut", spec := "fnExactByTakingOut", unfollowed := true, recurses := true, plainKeys := false, apart := false }
def FnExactByTakingOutSaid : Prop := fnExactByTakingOutRow.holds Try.pinned (OpenSpec.ofChange fnExactByTakingOutSpec)

/-- ITS FALSE NEIGHBOUR: 'it returns false'. Refute it at one input. -/
def fnExactByTakingOutWrong : ChangeSpec := { name := "fnExactByTakingOut", fn := fun _ => fun
  | [d] => { results := [.lit (.bool false)], args := [d] }
  | _ => none }
def FnExactByTakingOutWrongFalsely : Prop := fnExactByTakingOutRow.holds Try.pinned (OpenSpec.ofChange fnExactByTakingOutWrong)

/-- 'laws.FnExactByPuttingIn': WHATEVER THE INPUT: true; the input reads as it did. -/
def fnExactByPuttingInSpec : ChangeSpec := { name := "fnExactByPuttingIn", fn := fun _ => fun
  | [d] => { results := [.lit (.bool true)], args := [d] }
  | _ => none }
def fnExactByPuttingInRow : OpenClaim := { program := "ytamnilpmdccgoaa", sum := "f9e2074632b83f7745fea93dd0bb5a029795488d1c0742853494bf2a236689c3", func := "loop.example/g01391/laws.FnExactByPuttingIn", spec := "fnExactByPuttingIn", unfollowed := true, recurses := true, plainKeys := false, apart := false }
def FnExactByPuttingInSaid : Prop := fnExactByPuttingInRow.holds Try.pinned (OpenSpec.ofChange fnExactByPuttingInSpec)

/-- ITS FALSE NEIGHBOUR: 'it returns false'. Refute it at one input. -/
def fnExactByPuttingInWrong : ChangeSpec := { name := "fnExactByPuttingIn", fn := fun _ => fun
  | [d] => { results := [.lit (.bool false)], args := [d] }
  | _ => none }
def FnExactByPuttingInWrongFalsely : Prop := fnExactByPuttingInRow.holds Try.pinned (OpenSpec.ofChange fnExactByPuttingInWrong)

/-- 'laws.FnExactReachedStates': WHATEVER THE INPUT: true; the input reads as it did. -/
def fnExactReachedStatesSpec : ChangeSpec := { name := "fnExactReachedStates", fn := fun _ => fun
  | [d] => { results := [.lit (.bool true)], args := [d] }
  | _ => none }
def fnExactReachedStatesRow : OpenClaim := { program := "ytamnilpmdccgoaa", sum := "f9e2074632b83f7745fea93dd0bb5a029795488d1c0742853494bf2a236689c3", func := "loop.example/g01391/laws.FnExactReachedStates", spec := "fnExactReachedStates", recurses := true, plainKeys := false, apart := false }
def FnExactReachedStatesSaid : Prop := fnExactReachedStatesRow.holds Try.pinned (OpenSpec.ofChange fnExactReachedStatesSpec)

/-- ITS FALSE NEIGHBOUR: 'it returns false'. Refute it at one input. -/
def fnExactReachedStatesWrong : ChangeSpec := { name := "fnExactReachedStates", fn := fun _ => fun
  | [d] => { results := [.lit (.bool false)], args := [d] }
  | _ => none }
def FnExactReachedStatesWrongFalsely : Prop := fnExactReachedStatesRow.holds Try.pinned (OpenSpec.ofChange fnExactReachedStatesWrong)

/- THE SECOND FORM. 'bulk': how many values and letters a reading holds, each counted each time it is reached (what is shared counts as often as it is met; a slice's spare places count too). A statement '..UptoSaid' is the law's where the arguments, and the package variables that the reading takes, are together of bulk at most 1048576: NARROWER than '..Said'. Prove '..Said' where nothing that the law and all that it calls make is longer than what came in: it says more and counts as full. Else prove '..UptoSaid'. A law counts once. -/
mutual
def uptoBulk {H : Type} : DataW H → Nat
  | .lit (.string bytes) => bytes.length + 1
  | .lit _ => 1
  | .nil => 1
  | .ptr d => uptoBulk d + 1
  | .slice elems spare => uptoBulkAll elems + uptoBulkAll spare + 1
  | .agg parts => uptoBulkAll parts + 1
  | .iface _ d => uptoBulk d + 1
  | .map entries => uptoBulkEntries entries + 1
  | .held _ => 1
def uptoBulkAll {H : Type} : List (DataW H) → Nat
  | [] => 0
  | d :: r => uptoBulk d + uptoBulkAll r
def uptoBulkEntries {H : Type} : List (Lit × DataW H) → Nat
  | [] => 0
  | x :: r => uptoBulkEntry x + uptoBulkEntries r
def uptoBulkEntry {H : Type} : Lit × DataW H → Nat
  | (.string bytes, d) => bytes.length + uptoBulk d + 1
  | (_, d) => uptoBulk d + 1
 end
def uptoSmall : (H : Type) → List (DataW H) → Bool := fun _ ds => decide (uptoBulkAll ds ≤ 1048576)
def OpenSpec.upto (s : _root_.Go.ChangeSpec) : _root_.Go.OpenSpec := { _root_.Go.OpenSpec.ofChange s with cond := some uptoSmall }

/-- 'laws.FnExactEvenColumns', WHERE WHAT IT READS IS OF BULK AT MOST 1048576: true; the input reads as it did. -/
def fnExactEvenColumnsUptoRow : OpenClaim := { program := "ytamnilpmdccgoaa", sum := "f9e2074632b83f7745fea93dd0bb5a029795488d1c0742853494bf2a236689c3", func := "loop.example/g01391/laws.FnExactEvenColumns", spec := "fnExactEvenColumns", unfollowed := true, recurses := true, plainKeys := false, apart := false, narrowed := true }
def FnExactEvenColumnsUptoSaid : Prop := fnExactEvenColumnsUptoRow.holds Try.pinned (OpenSpec.upto fnExactEvenColumnsSpec)

/-- 'laws.FnExactTidyColumns', WHERE WHAT IT READS IS OF BULK AT MOST 1048576: true; the input reads as it did. -/
def fnExactTidyColumnsUptoRow : OpenClaim := { program := "ytamnilpmdccgoaa", sum := "f9e2074632b83f7745fea93dd0bb5a029795488d1c0742853494bf2a236689c3", func := "loop.example/g01391/laws.FnExactTidyColumns", spec := "fnExactTidyColumns", unfollowed := true, recurses := true, plainKeys := false, apart := false, narrowed := true }
def FnExactTidyColumnsUptoSaid : Prop := fnExactTidyColumnsUptoRow.holds Try.pinned (OpenSpec.upto fnExactTidyColumnsSpec)

/-- 'laws.FnExactTidyWidth', WHERE WHAT IT READS IS OF BULK AT MOST 1048576: true; the input reads as it did. -/
def fnExactTidyWidthUptoRow : OpenClaim := { program := "ytamnilpmdccgoaa", sum := "f9e2074632b83f7745fea93dd0bb5a029795488d1c0742853494bf2a236689c3", func := "loop.example/g01391/laws.FnExactTidyWidth", spec := "fnExactTidyWidth", unfollowed := true, recurses := true, plainKeys := false, apart := false, narrowed := true }
def FnExactTidyWidthUptoSaid : Prop := fnExactTidyWidthUptoRow.holds Try.pinned (OpenSpec.upto fnExactTidyWidthSpec)

/-- 'laws.FnExactIntervalOf', WHERE WHAT IT READS IS OF BULK AT MOST 1048576: true; the input reads as it did. -/
def fnExactIntervalOfUptoRow : OpenClaim := { program := "ytamnilpmdccgoaa", sum := "f9e2074632b83f7745fea93dd0bb5a029795488d1c0742853494bf2a236689c3", func := "loop.example/g01391/laws.FnExactIntervalOf", spec := "fnExactIntervalOf", plainKeys := false, apart := false, narrowed := true }
def FnExactIntervalOfUptoSaid : Prop := fnExactIntervalOfUptoRow.holds Try.pinned (OpenSpec.upto fnExactIntervalOfSpec)

/-- 'laws.FnExactAncestorOf', WHERE WHAT IT READS IS OF BULK AT MOST 1048576: true; the input reads as it did. -/
def fnExactAncestorOfUptoRow : OpenClaim := { program := "ytamnilpmdccgoaa", sum := "f9e2074632b83f7745fea93dd0bb5a029795488d1c0742853494bf2a236689c3", func := "loop.example/g01391/laws.FnExactAncestorOf", spec := "fnExactAncestorOf", unfollowed := true, recurses := true, plainKeys := false, apart := false, narrowed := true }
def FnExactAncestorOfUptoSaid : Prop := fnExactAncestorOfUptoRow.holds Try.pinned (OpenSpec.upto fnExactAncestorOfSpec)

/-- 'laws.FnExactBesideOf', WHERE WHAT IT READS IS OF BULK AT MOST 1048576: true; the input reads as it did. -/
def fnExactBesideOfUptoRow : OpenClaim := { program := "ytamnilpmdccgoaa", sum := "f9e2074632b83f7745fea93dd0bb5a029795488d1c0742853494bf2a236689c3", func := "loop.example/g01391/laws.FnExactBesideOf", spec := "fnExactBesideOf", unfollowed := true, recurses := true, plainKeys := false, apart := false, narrowed := true }
def FnExactBesideOfUptoSaid : Prop := fnExactBesideOfUptoRow.holds Try.pinned (OpenSpec.upto fnExactBesideOfSpec)

/-- 'laws.FnExactHeavyChildren', WHERE WHAT IT READS IS OF BULK AT MOST 1048576: true; the input reads as it did. -/
def fnExactHeavyChildrenUptoRow : OpenClaim := { program := "ytamnilpmdccgoaa", sum := "f9e2074632b83f7745fea93dd0bb5a029795488d1c0742853494bf2a236689c3", func := "loop.example/g01391/laws.FnExactHeavyChildren", spec := "fnExactHeavyChildren", unfollowed := true, recurses := true, plainKeys := false, apart := false, narrowed := true }
def FnExactHeavyChildrenUptoSaid : Prop := fnExactHeavyChildrenUptoRow.holds Try.pinned (OpenSpec.upto fnExactHeavyChildrenSpec)

/-- 'laws.FnExactHeavyPaths', WHERE WHAT IT READS IS OF BULK AT MOST 1048576: true; the input reads as it did. -/
def fnExactHeavyPathsUptoRow : OpenClaim := { program := "ytamnilpmdccgoaa", sum := "f9e2074632b83f7745fea93dd0bb5a029795488d1c0742853494bf2a236689c3", func := "loop.example/g01391/laws.FnExactHeavyPaths", spec := "fnExactHeavyPaths", unfollowed := true, recurses := true, plainKeys := false, apart := false, narrowed := true }
def FnExactHeavyPathsUptoSaid : Prop := fnExactHeavyPathsUptoRow.holds Try.pinned (OpenSpec.upto fnExactHeavyPathsSpec)

/-- 'laws.FnExactLightSteps', WHERE WHAT IT READS IS OF BULK AT MOST 1048576: true; the input reads as it did. -/
def fnExactLightStepsUptoRow : OpenClaim := { program := "ytamnilpmdccgoaa", sum := "f9e2074632b83f7745fea93dd0bb5a029795488d1c0742853494bf2a236689c3", func := "loop.example/g01391/laws.FnExactLightSteps", spec := "fnExactLightSteps", unfollowed := true, recurses := true, plainKeys := false, apart := false, narrowed := true }
def FnExactLightStepsUptoSaid : Prop := fnExactLightStepsUptoRow.holds Try.pinned (OpenSpec.upto fnExactLightStepsSpec)

/-- 'laws.FnExactPictureOf', WHERE WHAT IT READS IS OF BULK AT MOST 1048576: true; the input reads as it did. -/
def fnExactPictureOfUptoRow : OpenClaim := { program := "ytamnilpmdccgoaa", sum := "f9e2074632b83f7745fea93dd0bb5a029795488d1c0742853494bf2a236689c3", func := "loop.example/g01391/laws.FnExactPictureOf", spec := "fnExactPictureOf", inPlace := ["internal/bytealg.MakeNoZero"], unfollowed := true, recurses := true, plainKeys := false, apart := false, narrowed := true }
def FnExactPictureOfUptoSaid : Prop := fnExactPictureOfUptoRow.holds Try.pinned (OpenSpec.upto fnExactPictureOfSpec)

/-- 'laws.FnExactCommonPairs', WHERE WHAT IT READS IS OF BULK AT MOST 1048576: true; the input reads as it did. -/
def fnExactCommonPairsUptoRow : OpenClaim := { program := "ytamnilpmdccgoaa", sum := "f9e2074632b83f7745fea93dd0bb5a029795488d1c0742853494bf2a236689c3", func := "loop.example/g01391/laws.FnExactCommonPairs", spec := "fnExactCommonPairs", unfollowed := true, recurses := true, plainKeys := false, apart := false, narrowed := true }
def FnExactCommonPairsUptoSaid : Prop := fnExactCommonPairsUptoRow.holds Try.pinned (OpenSpec.upto fnExactCommonPairsSpec)

/-- 'laws.FnExactDoAgree', WHERE WHAT IT READS IS OF BULK AT MOST 1048576: true; the input reads as it did. -/
def fnExactDoAgreeUptoRow : OpenClaim := { program := "ytamnilpmdccgoaa", sum := "f9e2074632b83f7745fea93dd0bb5a029795488d1c0742853494bf2a236689c3", func := "loop.example/g01391/laws.FnExactDoAgree", spec := "fnExactDoAgree", unfollowed := true, recurses := true, plainKeys := false, apart := false, narrowed := true }
def FnExactDoAgreeUptoSaid : Prop := fnExactDoAgreeUptoRow.holds Try.pinned (OpenSpec.upto fnExactDoAgreeSpec)

/-- 'laws.FnExactByTakingOut', WHERE WHAT IT READS IS OF BULK AT MOST 1048576: true; the input reads as it did. -/
def fnExactByTakingOutUptoRow : OpenClaim := { program := "ytamnilpmdccgoaa", sum := "f9e2074632b83f7745fea93dd0bb5a029795488d1c0742853494bf2a236689c3", func := "loop.example/g01391/laws.FnExactByTakingOut", spec := "fnExactByTakingOut", unfollowed := true, recurses := true, plainKeys := false, apart := false, narrowed := true }
def FnExactByTakingOutUptoSaid : Prop := fnExactByTakingOutUptoRow.holds Try.pinned (OpenSpec.upto fnExactByTakingOutSpec)

/-- 'laws.FnExactByPuttingIn', WHERE WHAT IT READS IS OF BULK AT MOST 1048576: true; the input reads as it did. -/
def fnExactByPuttingInUptoRow : OpenClaim := { program := "ytamnilpmdccgoaa", sum := "f9e2074632b83f7745fea93dd0bb5a029795488d1c0742853494bf2a236689c3", func := "loop.example/g01391/laws.FnExactByPuttingIn", spec := "fnExactByPuttingIn", unfollowed := true, recurses := true, plainKeys := false, apart := false, narrowed := true }
def FnExactByPuttingInUptoSaid : Prop := fnExactByPuttingInUptoRow.holds Try.pinned (OpenSpec.upto fnExactByPuttingInSpec)

/-- 'laws.FnExactReachedStates', WHERE WHAT IT READS IS OF BULK AT MOST 1048576: true; the input reads as it did. -/
def fnExactReachedStatesUptoRow : OpenClaim := { program := "ytamnilpmdccgoaa", sum := "f9e2074632b83f7745fea93dd0bb5a029795488d1c0742853494bf2a236689c3", func := "loop.example/g01391/laws.FnExactReachedStates", spec := "fnExactReachedStates", recurses := true, plainKeys := false, apart := false, narrowed := true }
def FnExactReachedStatesUptoSaid : Prop := fnExactReachedStatesUptoRow.holds Try.pinned (OpenSpec.upto fnExactReachedStatesSpec)

end Rows
end Go.Proofs.Ytamnilpmdccgoaa
