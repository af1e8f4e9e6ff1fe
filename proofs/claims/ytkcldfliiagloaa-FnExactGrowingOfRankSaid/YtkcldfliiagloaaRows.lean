/-
  No cell of these rows narrows 'for every input' (looked for: loops, veiled, ifaces, maps, wideKeys, modest, calm, conditions, laid).
  DERIVED. THE GIVEN ROWS OF THIS SEAT. 14 by the template 'for every input the law returns true; each argument reads behind the call as it read before'; 0 by the template 'total and deterministic' (their statements: YtkcldfliiagloaaTotals.lean).
  GIVEN WITH THE SEED: the statements are not yours to turn. If you find one false, say at which input.
  Laid BY PROGRAM, IN A SANDBOX (cutbox-rows.mjs): the forced cells as the released guide's own fill.sh prints them over the translation d77a1ec5a78f71ee… (all of the seat's roots in one cut). By AI agents, Wed Nov 11 2026. No macro, syntax, notation, axiom, sorry.
-/
import Derived.Test.YtkcldfliiagloaaChecked
import GoSem.Claim
import GoSem.ClaimJoined
import GoSem.ClaimMapViews
import Derived.JoinedTies
import Derived.KernelRfl
namespace Go.Proofs.Ytkcldfliiagloaa
/- THE CELL 'sum', in the pinned program and in every row, IS THE sha256 OF THE DUMP (.gsa) THAT YtkcldfliiagloaaProg.lean LOADS. Nothing in Lean hashes anything: it is a label: what it is worth is what the hold of that sum in a sandbox is worth. -/
noncomputable def Try.pinned : Pinned := { name := "ytkcldfliiagloaa", sum := "d77a1ec5a78f71ee68b85ddd559cc46e06a5e46bee1c559cefc9cd6abf449afa", checked := Try.checked }
namespace Rows
def none {H : Type} : Left H := { results := [], args := [] }

/-- 'laws.FnExactRankOfGrowing': WHATEVER THE INPUT: true; the input reads as it did. -/
def fnExactRankOfGrowingSpec : ChangeSpec := { name := "fnExactRankOfGrowing", fn := fun _ => fun
  | [d1, d2] => { results := [.lit (.bool true)], args := [d1, d2] }
  | _ => none }
def fnExactRankOfGrowingRow : OpenClaim := { program := "ytkcldfliiagloaa", sum := "d77a1ec5a78f71ee68b85ddd559cc46e06a5e46bee1c559cefc9cd6abf449afa", func := "loop.example/g01391/laws.FnExactRankOfGrowing", spec := "fnExactRankOfGrowing", unfollowed := true, recurses := true, plainKeys := false, apart := false }
def FnExactRankOfGrowingSaid : Prop := fnExactRankOfGrowingRow.holds Try.pinned (OpenSpec.ofChange fnExactRankOfGrowingSpec)

/-- ITS FALSE NEIGHBOUR: 'it returns false'. Refute it at one input. -/
def fnExactRankOfGrowingWrong : ChangeSpec := { name := "fnExactRankOfGrowing", fn := fun _ => fun
  | [d1, d2] => { results := [.lit (.bool false)], args := [d1, d2] }
  | _ => none }
def FnExactRankOfGrowingWrongFalsely : Prop := fnExactRankOfGrowingRow.holds Try.pinned (OpenSpec.ofChange fnExactRankOfGrowingWrong)

/-- 'laws.FnExactGrowingOfRank': WHATEVER THE INPUT: true; the input reads as it did. -/
def fnExactGrowingOfRankSpec : ChangeSpec := { name := "fnExactGrowingOfRank", fn := fun _ => fun
  | [d1, d2] => { results := [.lit (.bool true)], args := [d1, d2] }
  | _ => none }
def fnExactGrowingOfRankRow : OpenClaim := { program := "ytkcldfliiagloaa", sum := "d77a1ec5a78f71ee68b85ddd559cc46e06a5e46bee1c559cefc9cd6abf449afa", func := "loop.example/g01391/laws.FnExactGrowingOfRank", spec := "fnExactGrowingOfRank", unfollowed := true, recurses := true, plainKeys := false, apart := false }
def FnExactGrowingOfRankSaid : Prop := fnExactGrowingOfRankRow.holds Try.pinned (OpenSpec.ofChange fnExactGrowingOfRankSpec)

/-- ITS FALSE NEIGHBOUR: 'it returns false'. Refute it at one input. -/
def fnExactGrowingOfRankWrong : ChangeSpec := { name := "fnExactGrowingOfRank", fn := fun _ => fun
  | [d1, d2] => { results := [.lit (.bool false)], args := [d1, d2] }
  | _ => none }
def FnExactGrowingOfRankWrongFalsely : Prop := fnExactGrowingOfRankRow.holds Try.pinned (OpenSpec.ofChange fnExactGrowingOfRankWrong)

/-- 'laws.FnExactGrownTree': WHATEVER THE INPUT: true; the input reads as it did. -/
def fnExactGrownTreeSpec : ChangeSpec := { name := "fnExactGrownTree", fn := fun _ => fun
  | [d] => { results := [.lit (.bool true)], args := [d] }
  | _ => none }
def fnExactGrownTreeRow : OpenClaim := { program := "ytkcldfliiagloaa", sum := "d77a1ec5a78f71ee68b85ddd559cc46e06a5e46bee1c559cefc9cd6abf449afa", func := "loop.example/g01391/laws.FnExactGrownTree", spec := "fnExactGrownTree", unfollowed := true, recurses := true, plainKeys := false, apart := false }
def FnExactGrownTreeSaid : Prop := fnExactGrownTreeRow.holds Try.pinned (OpenSpec.ofChange fnExactGrownTreeSpec)

/-- ITS FALSE NEIGHBOUR: 'it returns false'. Refute it at one input. -/
def fnExactGrownTreeWrong : ChangeSpec := { name := "fnExactGrownTree", fn := fun _ => fun
  | [d] => { results := [.lit (.bool false)], args := [d] }
  | _ => none }
def FnExactGrownTreeWrongFalsely : Prop := fnExactGrownTreeRow.holds Try.pinned (OpenSpec.ofChange fnExactGrownTreeWrong)

/-- 'laws.FnExactListOfGrowth': WHATEVER THE INPUT: true; the input reads as it did. -/
def fnExactListOfGrowthSpec : ChangeSpec := { name := "fnExactListOfGrowth", fn := fun _ => fun
  | [d1, d2] => { results := [.lit (.bool true)], args := [d1, d2] }
  | _ => none }
def fnExactListOfGrowthRow : OpenClaim := { program := "ytkcldfliiagloaa", sum := "d77a1ec5a78f71ee68b85ddd559cc46e06a5e46bee1c559cefc9cd6abf449afa", func := "loop.example/g01391/laws.FnExactListOfGrowth", spec := "fnExactListOfGrowth", unfollowed := true, recurses := true, plainKeys := false, apart := false }
def FnExactListOfGrowthSaid : Prop := fnExactListOfGrowthRow.holds Try.pinned (OpenSpec.ofChange fnExactListOfGrowthSpec)

/-- ITS FALSE NEIGHBOUR: 'it returns false'. Refute it at one input. -/
def fnExactListOfGrowthWrong : ChangeSpec := { name := "fnExactListOfGrowth", fn := fun _ => fun
  | [d1, d2] => { results := [.lit (.bool false)], args := [d1, d2] }
  | _ => none }
def FnExactListOfGrowthWrongFalsely : Prop := fnExactListOfGrowthRow.holds Try.pinned (OpenSpec.ofChange fnExactListOfGrowthWrong)

/-- 'laws.FnExactCommonPairs': WHATEVER THE INPUT: true; the input reads as it did. -/
def fnExactCommonPairsSpec : ChangeSpec := { name := "fnExactCommonPairs", fn := fun _ => fun
  | [d1, d2] => { results := [.lit (.bool true)], args := [d1, d2] }
  | _ => none }
def fnExactCommonPairsRow : OpenClaim := { program := "ytkcldfliiagloaa", sum := "d77a1ec5a78f71ee68b85ddd559cc46e06a5e46bee1c559cefc9cd6abf449afa", func := "loop.example/g01391/laws.FnExactCommonPairs", spec := "fnExactCommonPairs", unfollowed := true, recurses := true, plainKeys := false, apart := false }
def FnExactCommonPairsSaid : Prop := fnExactCommonPairsRow.holds Try.pinned (OpenSpec.ofChange fnExactCommonPairsSpec)

/-- ITS FALSE NEIGHBOUR: 'it returns false'. Refute it at one input. -/
def fnExactCommonPairsWrong : ChangeSpec := { name := "fnExactCommonPairs", fn := fun _ => fun
  | [d1, d2] => { results := [.lit (.bool false)], args := [d1, d2] }
  | _ => none }
def FnExactCommonPairsWrongFalsely : Prop := fnExactCommonPairsRow.holds Try.pinned (OpenSpec.ofChange fnExactCommonPairsWrong)

/-- 'laws.FnExactDoAgree': WHATEVER THE INPUT: true; the input reads as it did. -/
def fnExactDoAgreeSpec : ChangeSpec := { name := "fnExactDoAgree", fn := fun _ => fun
  | [d1, d2, d3] => { results := [.lit (.bool true)], args := [d1, d2, d3] }
  | _ => none }
def fnExactDoAgreeRow : OpenClaim := { program := "ytkcldfliiagloaa", sum := "d77a1ec5a78f71ee68b85ddd559cc46e06a5e46bee1c559cefc9cd6abf449afa", func := "loop.example/g01391/laws.FnExactDoAgree", spec := "fnExactDoAgree", unfollowed := true, recurses := true, plainKeys := false, apart := false }
def FnExactDoAgreeSaid : Prop := fnExactDoAgreeRow.holds Try.pinned (OpenSpec.ofChange fnExactDoAgreeSpec)

/-- ITS FALSE NEIGHBOUR: 'it returns false'. Refute it at one input. -/
def fnExactDoAgreeWrong : ChangeSpec := { name := "fnExactDoAgree", fn := fun _ => fun
  | [d1, d2, d3] => { results := [.lit (.bool false)], args := [d1, d2, d3] }
  | _ => none }
def FnExactDoAgreeWrongFalsely : Prop := fnExactDoAgreeRow.holds Try.pinned (OpenSpec.ofChange fnExactDoAgreeWrong)

/-- 'laws.FnExactByTakingOut': WHATEVER THE INPUT: true; the input reads as it did. -/
def fnExactByTakingOutSpec : ChangeSpec := { name := "fnExactByTakingOut", fn := fun _ => fun
  | [d] => { results := [.lit (.bool true)], args := [d] }
  | _ => none }
def fnExactByTakingOutRow : OpenClaim := { program := "ytkcldfliiagloaa", sum := "d77a1ec5a78f71ee68b85ddd559cc46e06a5e46bee1c559cefc9cd6abf449afa", func := "loop.example/g01391/laws.FnExactByTakingOut", spec := "fnExactByTakingOut", unfollowed := true, recurses := true, plainKeys := false, apart := false }
def FnExactByTakingOutSaid : Prop := fnExactByTakingOutRow.holds Try.pinned (OpenSpec.ofChange fnExactByTakingOutSpec)

/-- ITS FALSE NEIGHBOUR: 'it returns false'. Refute it at one input. -/
def fnExactByTakingOutWrong : ChangeSpec := { name := "fnExactByTakingOut", fn := fun _ => fun
  | [d] => { results := [.lit (.bool false)], args := [d] }
  | _ => none }
def FnExactByTakingOutWrongFalsely : Prop := fnExactByTakingOutRow.holds Try.pinned (OpenSpec.ofChange fnExactByTakingOutWrong)

/-- 'laws.FnExactByPuttingIn': WHATEVER THE INPUT: true; the input reads as it did. -/
def fnExactByPuttingInSpec : ChangeSpec := { name := "fnExactByPuttingIn", fn := fun _ => fun
  | [d] => { results := [.lit (.bool true)], args := [d] }
  | _ => none }
def fnExactByPuttingInRow : OpenClaim := { program := "ytkcldfliiagloaa", sum := "d77a1ec5a78f71ee68b85ddd559cc46e06a5e46bee1c559cefc9cd6abf449afa", func := "loop.example/g01391/laws.FnExactByPuttingIn", spec := "fnExactByPuttingIn", unfollowed := true, recurses := true, plainKeys := false, apart := false }
def FnExactByPuttingInSaid : Prop := fnExactByPuttingInRow.holds Try.pinned (OpenSpec.ofChange fnExactByPuttingInSpec)

/-- ITS FALSE NEIGHBOUR: 'it returns false'. Refute it at one input. -/
def fnExactByPuttingInWrong : ChangeSpec := { name := "fnExactByPuttingIn", fn := fun _ => fun
  | [d] => { results := [.lit (.bool false)], args := [d] }
  | _ => none }
def FnExactByPuttingInWrongFalsely : Prop := fnExactByPuttingInRow.holds Try.pinned (OpenSpec.ofChange fnExactByPuttingInWrong)

/-- 'laws.FnExactReachedStates': WHATEVER THE INPUT: true; the input reads as it did. -/
def fnExactReachedStatesSpec : ChangeSpec := { name := "fnExactReachedStates", fn := fun _ => fun
  | [d] => { results := [.lit (.bool true)], args := [d] }
  | _ => none }
def fnExactReachedStatesRow : OpenClaim := { program := "ytkcldfliiagloaa", sum := "d77a1ec5a78f71ee68b85ddd559cc46e06a5e46bee1c559cefc9cd6abf449afa", func := "loop.example/g01391/laws.FnExactReachedStates", spec := "fnExactReachedStates", recurses := true, plainKeys := false, apart := false }
def FnExactReachedStatesSaid : Prop := fnExactReachedStatesRow.holds Try.pinned (OpenSpec.ofChange fnExactReachedStatesSpec)

/-- ITS FALSE NEIGHBOUR: 'it returns false'. Refute it at one input. -/
def fnExactReachedStatesWrong : ChangeSpec := { name := "fnExactReachedStates", fn := fun _ => fun
  | [d] => { results := [.lit (.bool false)], args := [d] }
  | _ => none }
def FnExactReachedStatesWrongFalsely : Prop := fnExactReachedStatesRow.holds Try.pinned (OpenSpec.ofChange fnExactReachedStatesWrong)

/-- 'laws.FnExactAreAlike': WHATEVER THE INPUT: true; the input reads as it did. -/
def fnExactAreAlikeSpec : ChangeSpec := { name := "fnExactAreAlike", fn := fun _ => fun
  | [d1, d2] => { results := [.lit (.bool true)], args := [d1, d2] }
  | _ => none }
def fnExactAreAlikeRow : OpenClaim := { program := "ytkcldfliiagloaa", sum := "d77a1ec5a78f71ee68b85ddd559cc46e06a5e46bee1c559cefc9cd6abf449afa", func := "loop.example/g01391/laws.FnExactAreAlike", spec := "fnExactAreAlike", plainKeys := false, apart := false }
def FnExactAreAlikeSaid : Prop := fnExactAreAlikeRow.holds Try.pinned (OpenSpec.ofChange fnExactAreAlikeSpec)

/-- ITS FALSE NEIGHBOUR: 'it returns false'. Refute it at one input. -/
def fnExactAreAlikeWrong : ChangeSpec := { name := "fnExactAreAlike", fn := fun _ => fun
  | [d1, d2] => { results := [.lit (.bool false)], args := [d1, d2] }
  | _ => none }
def FnExactAreAlikeWrongFalsely : Prop := fnExactAreAlikeRow.holds Try.pinned (OpenSpec.ofChange fnExactAreAlikeWrong)

/-- 'laws.FnExactCombineAutomata': WHATEVER THE INPUT: true; the input reads as it did. -/
def fnExactCombineAutomataSpec : ChangeSpec := { name := "fnExactCombineAutomata", fn := fun _ => fun
  | [d1, d2, d3] => { results := [.lit (.bool true)], args := [d1, d2, d3] }
  | _ => none }
def fnExactCombineAutomataRow : OpenClaim := { program := "ytkcldfliiagloaa", sum := "d77a1ec5a78f71ee68b85ddd559cc46e06a5e46bee1c559cefc9cd6abf449afa", func := "loop.example/g01391/laws.FnExactCombineAutomata", spec := "fnExactCombineAutomata", unfollowed := true, recurses := true, plainKeys := false, apart := false }
def FnExactCombineAutomataSaid : Prop := fnExactCombineAutomataRow.holds Try.pinned (OpenSpec.ofChange fnExactCombineAutomataSpec)

/-- ITS FALSE NEIGHBOUR: 'it returns false'. Refute it at one input. -/
def fnExactCombineAutomataWrong : ChangeSpec := { name := "fnExactCombineAutomata", fn := fun _ => fun
  | [d1, d2, d3] => { results := [.lit (.bool false)], args := [d1, d2, d3] }
  | _ => none }
def FnExactCombineAutomataWrongFalsely : Prop := fnExactCombineAutomataRow.holds Try.pinned (OpenSpec.ofChange fnExactCombineAutomataWrong)

/-- 'laws.FnExactPictureOf': WHATEVER THE INPUT: true; the input reads as it did. -/
def fnExactPictureOfSpec : ChangeSpec := { name := "fnExactPictureOf", fn := fun _ => fun
  | [d] => { results := [.lit (.bool true)], args := [d] }
  | _ => none }
def fnExactPictureOfRow : OpenClaim := { program := "ytkcldfliiagloaa", sum := "d77a1ec5a78f71ee68b85ddd559cc46e06a5e46bee1c559cefc9cd6abf449afa", func := "loop.example/g01391/laws.FnExactPictureOf", spec := "fnExactPictureOf", inPlace := ["internal/bytealg.MakeNoZero"], unfollowed := true, recurses := true, plainKeys := false, apart := false }
def FnExactPictureOfSaid : Prop := fnExactPictureOfRow.holds Try.pinned (OpenSpec.ofChange fnExactPictureOfSpec)

/-- ITS FALSE NEIGHBOUR: 'it returns false'. Refute it at one input. -/
def fnExactPictureOfWrong : ChangeSpec := { name := "fnExactPictureOf", fn := fun _ => fun
  | [d] => { results := [.lit (.bool false)], args := [d] }
  | _ => none }
def FnExactPictureOfWrongFalsely : Prop := fnExactPictureOfRow.holds Try.pinned (OpenSpec.ofChange fnExactPictureOfWrong)

/-- 'laws.FnExactFirstOfState': WHATEVER THE INPUT: true; the input reads as it did. -/
def fnExactFirstOfStateSpec : ChangeSpec := { name := "fnExactFirstOfState", fn := fun _ => fun
  | [d1, d2] => { results := [.lit (.bool true)], args := [d1, d2] }
  | _ => none }
def fnExactFirstOfStateRow : OpenClaim := { program := "ytkcldfliiagloaa", sum := "d77a1ec5a78f71ee68b85ddd559cc46e06a5e46bee1c559cefc9cd6abf449afa", func := "loop.example/g01391/laws.FnExactFirstOfState", spec := "fnExactFirstOfState", unfollowed := true, recurses := true, plainKeys := false, apart := false }
def FnExactFirstOfStateSaid : Prop := fnExactFirstOfStateRow.holds Try.pinned (OpenSpec.ofChange fnExactFirstOfStateSpec)

/-- ITS FALSE NEIGHBOUR: 'it returns false'. Refute it at one input. -/
def fnExactFirstOfStateWrong : ChangeSpec := { name := "fnExactFirstOfState", fn := fun _ => fun
  | [d1, d2] => { results := [.lit (.bool false)], args := [d1, d2] }
  | _ => none }
def FnExactFirstOfStateWrongFalsely : Prop := fnExactFirstOfStateRow.holds Try.pinned (OpenSpec.ofChange fnExactFirstOfStateWrong)

/-- 'laws.FnHeavyPaths': WHATEVER THE INPUT: true; the input reads as it did. -/
def fnHeavyPathsSpec : ChangeSpec := { name := "fnHeavyPaths", fn := fun _ => fun
  | [d] => { results := [.lit (.bool true)], args := [d] }
  | _ => none }
def fnHeavyPathsRow : OpenClaim := { program := "ytkcldfliiagloaa", sum := "d77a1ec5a78f71ee68b85ddd559cc46e06a5e46bee1c559cefc9cd6abf449afa", func := "loop.example/g01391/laws.FnHeavyPaths", spec := "fnHeavyPaths", unfollowed := true, recurses := true, plainKeys := false, apart := false }
def FnHeavyPathsSaid : Prop := fnHeavyPathsRow.holds Try.pinned (OpenSpec.ofChange fnHeavyPathsSpec)

/-- ITS FALSE NEIGHBOUR: 'it returns false'. Refute it at one input. -/
def fnHeavyPathsWrong : ChangeSpec := { name := "fnHeavyPaths", fn := fun _ => fun
  | [d] => { results := [.lit (.bool false)], args := [d] }
  | _ => none }
def FnHeavyPathsWrongFalsely : Prop := fnHeavyPathsRow.holds Try.pinned (OpenSpec.ofChange fnHeavyPathsWrong)

/- THE SECOND FORM. 'bulk': how many values and letters a reading holds, each counted each time it is reached (what is shared counts as often as it is met; a slice's spare places count too). A statement '..UptoSaid' is the law's where the arguments, and the package variables that the reading takes, are together of bulk at most 1048576: NARROWER than '..Said'. Prove '..Said' where nothing that the law and all that it calls make is longer than what came in: it says more and counts as full. Else prove '..UptoSaid'. A law counts once. -/
mutual
def uptoBulk {H : Type} : DataW H → Nat
  | .lit (.string bytes) => bytes.length + 1
  | .lit _ => 1
  | .nil => 1
  | .ptr d => uptoBulk d + 1
  | .slice elems spare => uptoBulkAll elems + uptoBulkAll spare + 1
  | .agg parts => uptoBulkAll parts + 1
  | .iface _ d => uptoBulk d + 1
  | .map entries => uptoBulkEntries entries + 1
  | .held _ => 1
def uptoBulkAll {H : Type} : List (DataW H) → Nat
  | [] => 0
  | d :: r => uptoBulk d + uptoBulkAll r
def uptoBulkEntries {H : Type} : List (Lit × DataW H) → Nat
  | [] => 0
  | x :: r => uptoBulkEntry x + uptoBulkEntries r
def uptoBulkEntry {H : Type} : Lit × DataW H → Nat
  | (.string bytes, d) => bytes.length + uptoBulk d + 1
  | (_, d) => uptoBulk d + 1
 end
def uptoSmall : (H : Type) → List (DataW H) → Bool := fun _ ds => decide (uptoBulkAll ds ≤ 1048576)
def OpenSpec.upto (s : _root_.Go.ChangeSpec) : _root_.Go.OpenSpec := { _root_.Go.OpenSpec.ofChange s with cond := some uptoSmall }

/-- 'laws.FnExactRankOfGrowing', WHERE WHAT IT READS IS OF BULK AT MOST 1048576: true; the input reads as it did. -/
def fnExactRankOfGrowingUptoRow : OpenClaim := { program := "ytkcldfliiagloaa", sum := "d77a1ec5a78f71ee68b85ddd559cc46e06a5e46bee1c559cefc9cd6abf449afa", func := "loop.example/g01391/laws.FnExactRankOfGrowing", spec := "fnExactRankOfGrowing", unfollowed := true, recurses := true, plainKeys := false, apart := false, narrowed := true }
def FnExactRankOfGrowingUptoSaid : Prop := fnExactRankOfGrowingUptoRow.holds Try.pinned (OpenSpec.upto fnExactRankOfGrowingSpec)

/-- 'laws.FnExactGrowingOfRank', WHERE WHAT IT READS IS OF BULK AT MOST 1048576: true; the input reads as it did. -/
def fnExactGrowingOfRankUptoRow : OpenClaim := { program := "ytkcldfliiagloaa", sum := "d77a1ec5a78f71ee68b85ddd559cc46e06a5e46bee1c559cefc9cd6abf449afa", func := "loop.example/g01391/laws.FnExactGrowingOfRank", spec := "fnExactGrowingOfRank", unfollowed := true, recurses := true, plainKeys := false, apart := false, narrowed := true }
def FnExactGrowingOfRankUptoSaid : Prop := fnExactGrowingOfRankUptoRow.holds Try.pinned (OpenSpec.upto fnExactGrowingOfRankSpec)

/-- 'laws.FnExactGrownTree', WHERE WHAT IT READS IS OF BULK AT MOST 1048576: true; the input reads as it did. -/
def fnExactGrownTreeUptoRow : OpenClaim := { program := "ytkcldfliiagloaa", sum := "d77a1ec5a78f71ee68b85ddd559cc46e06a5e46bee1c559cefc9cd6abf449afa", func := "loop.example/g01391/laws.FnExactGrownTree", spec := "fnExactGrownTree", unfollowed := true, recurses := true, plainKeys := false, apart := false, narrowed := true }
def FnExactGrownTreeUptoSaid : Prop := fnExactGrownTreeUptoRow.holds Try.pinned (OpenSpec.upto fnExactGrownTreeSpec)

/-- 'laws.FnExactListOfGrowth', WHERE WHAT IT READS IS OF BULK AT MOST 1048576: true; the input reads as it did. -/
def fnExactListOfGrowthUptoRow : OpenClaim := { program := "ytkcldfliiagloaa", sum := "d77a1ec5a78f71ee68b85ddd559cc46e06a5e46bee1c559cefc9cd6abf449afa", func := "loop.example/g01391/laws.FnExactListOfGrowth", spec := "fnExactListOfGrowth", unfollowed := true, recurses := true, plainKeys := false, apart := false, narrowed := true }
def FnExactListOfGrowthUptoSaid : Prop := fnExactListOfGrowthUptoRow.holds Try.pinned (OpenSpec.upto fnExactListOfGrowthSpec)

/-- 'laws.FnExactCommonPairs', WHERE WHAT IT READS IS OF BULK AT MOST 1048576: true; the input reads as it did. -/
def fnExactCommonPairsUptoRow : OpenClaim := { program := "ytkcldfliiagloaa", sum := "d77a1ec5a78f71ee68b85ddd559cc46e06a5e46bee1c559cefc9cd6abf449afa", func := "loop.example/g01391/laws.FnExactCommonPairs", spec := "fnExactCommonPairs", unfollowed := true, recurses := true, plainKeys := false, apart := false, narrowed := true }
def FnExactCommonPairsUptoSaid : Prop := fnExactCommonPairsUptoRow.holds Try.pinned (OpenSpec.upto fnExactCommonPairsSpec)

/-- 'laws.FnExactDoAgree', WHERE WHAT IT READS IS OF BULK AT MOST 1048576: true; the input reads as it did. -/
def fnExactDoAgreeUptoRow : OpenClaim := { program := "ytkcldfliiagloaa", sum := "d77a1ec5a78f71ee68b85ddd559cc46e06a5e46bee1c559cefc9cd6abf449afa", func := "loop.example/g01391/laws.FnExactDoAgree", spec := "fnExactDoAgree", unfollowed := true, recurses := true, plainKeys := false, apart := false, narrowed := true }
def FnExactDoAgreeUptoSaid : Prop := fnExactDoAgreeUptoRow.holds Try.pinned (OpenSpec.upto fnExactDoAgreeSpec)

/-- 'laws.FnExactByTakingOut', WHERE WHAT IT READS IS OF BULK AT MOST 1048576: true; the input reads as it did. -/
def fnExactByTakingOutUptoRow : OpenClaim := { program := "ytkcldfliiagloaa", sum := "d77a1ec5a78f71ee68b85ddd559cc46e06a5e46bee1c559cefc9cd6abf449afa", func := "loop.example/g01391/laws.FnExactByTakingOut", spec := "fnExactByTakingOut", unfollowed := true, recurses := true, plainKeys := false, apart := false, narrowed := true }
def FnExactByTakingOutUptoSaid : Prop := fnExactByTakingOutUptoRow.holds Try.pinned (OpenSpec.upto fnExactByTakingOutSpec)

/-- 'laws.FnExactByPuttingIn', WHERE WHAT IT READS IS OF BULK AT MOST 1048576: true; the input reads as it did. -/
def fnExactByPuttingInUptoRow : OpenClaim := { program := "ytkcldfliiagloaa", sum := "d77a1ec5a78f71ee68b85ddd559cc46e06a5e46bee1c559cefc9cd6abf449afa", func := "loop.example/g01391/laws.FnExactByPuttingIn", spec := "fnExactByPuttingIn", unfollowed := true, recurses := true, plainKeys := false, apart := false, narrowed := true }
def FnExactByPuttingInUptoSaid : Prop := fnExactByPuttingInUptoRow.holds Try.pinned (OpenSpec.upto fnExactByPuttingInSpec)

/-- 'laws.FnExactReachedStates', WHERE WHAT IT READS IS OF BULK AT MOST 1048576: true; the input reads as it did. -/
def fnExactReachedStatesUptoRow : OpenClaim := { program := "ytkcldfliiagloaa", sum := "d77a1ec5a78f71ee68b85ddd559cc46e06a5e46bee1c559cefc9cd6abf449afa", func := "loop.example/g01391/laws.FnExactReachedStates", spec := "fnExactReachedStates", recurses := true, plainKeys := false, apart := false, narrowed := true }
def FnExactReachedStatesUptoSaid : Prop := fnExactReachedStatesUptoRow.holds Try.pinned (OpenSpec.upto fnExactReachedStatesSpec)

/-- 'laws.FnExactAreAlike', WHERE WHAT IT READS IS OF BULK AT MOST 1048576: true; the input reads as it did. -/
def fnExactAreAlikeUptoRow : OpenClaim := { program := "ytkcldfliiagloaa", sum := "d77a1ec5a78f71ee68b85ddd559cc46e06a5e46bee1c559cefc9cd6abf449afa", func := "loop.example/g01391/laws.FnExactAreAlike", spec := "fnExactAreAlike", plainKeys := false, apart := false, narrowed := true }
def FnExactAreAlikeUptoSaid : Prop := fnExactAreAlikeUptoRow.holds Try.pinned (OpenSpec.upto fnExactAreAlikeSpec)

/-- 'laws.FnExactCombineAutomata', WHERE WHAT IT READS IS OF BULK AT MOST 1048576: true; the input reads as it did. -/
def fnExactCombineAutomataUptoRow : OpenClaim := { program := "ytkcldfliiagloaa", sum := "d77a1ec5a78f71ee68b85ddd559cc46e06a5e46bee1c559cefc9cd6abf449afa", func := "loop.example/g01391/laws.FnExactCombineAutomata", spec := "fnExactCombineAutomata", unfollowed := true, recurses := true, plainKeys := false, apart := false, narrowed := true }
def FnExactCombineAutomataUptoSaid : Prop := fnExactCombineAutomataUptoRow.holds Try.pinned (OpenSpec.upto fnExactCombineAutomataSpec)

/-- 'laws.FnExactPictureOf', WHERE WHAT IT READS IS OF BULK AT MOST 1048576: true; the input reads as it did. -/
def fnExactPictureOfUptoRow : OpenClaim := { program := "ytkcldfliiagloaa", sum := "d77a1ec5a78f71ee68b85ddd559cc46e06a5e46bee1c559cefc9cd6abf449afa", func := "loop.example/g01391/laws.FnExactPictureOf", spec := "fnExactPictureOf", inPlace := ["internal/bytealg.MakeNoZero"], unfollowed := true, recurses := true, plainKeys := false, apart := false, narrowed := true }
def FnExactPictureOfUptoSaid : Prop := fnExactPictureOfUptoRow.holds Try.pinned (OpenSpec.upto fnExactPictureOfSpec)

/-- 'laws.FnExactFirstOfState', WHERE WHAT IT READS IS OF BULK AT MOST 1048576: true; the input reads as it did. -/
def fnExactFirstOfStateUptoRow : OpenClaim := { program := "ytkcldfliiagloaa", sum := "d77a1ec5a78f71ee68b85ddd559cc46e06a5e46bee1c559cefc9cd6abf449afa", func := "loop.example/g01391/laws.FnExactFirstOfState", spec := "fnExactFirstOfState", unfollowed := true, recurses := true, plainKeys := false, apart := false, narrowed := true }
def FnExactFirstOfStateUptoSaid : Prop := fnExactFirstOfStateUptoRow.holds Try.pinned (OpenSpec.upto fnExactFirstOfStateSpec)

/-- 'laws.FnHeavyPaths', WHERE WHAT IT READS IS OF BULK AT MOST 1048576: true; the input reads as it did. -/
def fnHeavyPathsUptoRow : OpenClaim := { program := "ytkcldfliiagloaa", sum := "d77a1ec5a78f71ee68b85ddd559cc46e06a5e46bee1c559cefc9cd6abf449afa", func := "loop.example/g01391/laws.FnHeavyPaths", spec := "fnHeavyPaths", unfollowed := true, recurses := true, plainKeys := false, apart := false, narrowed := true }
def FnHeavyPathsUptoSaid : Prop := fnHeavyPathsUptoRow.holds Try.pinned (OpenSpec.upto fnHeavyPathsSpec)

end Rows
end Go.Proofs.Ytkcldfliiagloaa
