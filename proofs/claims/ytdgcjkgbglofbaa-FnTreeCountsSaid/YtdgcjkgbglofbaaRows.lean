/-
  No cell of these rows narrows 'for every input' (looked for: loops, veiled, ifaces, maps, wideKeys, modest, calm, conditions, laid).
  DERIVED. THE GIVEN ROWS OF THIS SEAT. 14 by the template 'for every input the law returns true; each argument reads behind the call as it read before'; 0 by the template 'total and deterministic' (their statements: YtdgcjkgbglofbaaTotals.lean).
  GIVEN WITH THE SEED: the statements are not yours to turn. If you find one false, say at which input.
  Laid BY PROGRAM, IN A SANDBOX (cutbox-rows.mjs): the forced cells as the released guide's own fill.sh prints them over the translation 573aedcdd0be643c… (all of the seat's roots in one cut). By AI agents, Wed Nov 11 2026. No macro, syntax, notation, axiom, sorry.
-/
import Derived.Test.YtdgcjkgbglofbaaChecked
import GoSem.Claim
import GoSem.ClaimJoined
import GoSem.ClaimMapViews
import Derived.JoinedTies
import Derived.KernelRfl
namespace Go.Proofs.Ytdgcjkgbglofbaa
/- THE CELL 'sum', in the pinned program and in every row, IS THE sha256 OF THE DUMP (.gsa) THAT YtdgcjkgbglofbaaProg.lean LOADS. Nothing in Lean hashes anything: it is a label: what it is worth is what the hold of that sum in a sandbox is worth. -/
noncomputable def Try.pinned : Pinned := { name := "ytdgcjkgbglofbaa", sum := "573aedcdd0be643c15d01fdbd90eadf52c98bfbbea52bce366f0eb309e21ccda", checked := Try.checked }
namespace Rows
def none {H : Type} : Left H := { results := [], args := [] }

/-- 'laws.FnTrees': WHATEVER THE INPUT: true; the input reads as it did. -/
def fnTreesSpec : ChangeSpec := { name := "fnTrees", fn := fun _ => fun
  | [d] => { results := [.lit (.bool true)], args := [d] }
  | _ => none }
def fnTreesRow : OpenClaim := { program := "ytdgcjkgbglofbaa", sum := "573aedcdd0be643c15d01fdbd90eadf52c98bfbbea52bce366f0eb309e21ccda", func := "loop.example/g01391/laws.FnTrees", spec := "fnTrees", unfollowed := true, recurses := true, plainKeys := false, apart := false }
def FnTreesSaid : Prop := fnTreesRow.holds Try.pinned (OpenSpec.ofChange fnTreesSpec)

/-- ITS FALSE NEIGHBOUR: 'it returns false'. Refute it at one input. -/
def fnTreesWrong : ChangeSpec := { name := "fnTrees", fn := fun _ => fun
  | [d] => { results := [.lit (.bool false)], args := [d] }
  | _ => none }
def FnTreesWrongFalsely : Prop := fnTreesRow.holds Try.pinned (OpenSpec.ofChange fnTreesWrong)

/-- 'laws.FnTreeParts': WHATEVER THE INPUT: true; the input reads as it did. -/
def fnTreePartsSpec : ChangeSpec := { name := "fnTreeParts", fn := fun _ => fun
  | [d] => { results := [.lit (.bool true)], args := [d] }
  | _ => none }
def fnTreePartsRow : OpenClaim := { program := "ytdgcjkgbglofbaa", sum := "573aedcdd0be643c15d01fdbd90eadf52c98bfbbea52bce366f0eb309e21ccda", func := "loop.example/g01391/laws.FnTreeParts", spec := "fnTreeParts", unfollowed := true, recurses := true, plainKeys := false, apart := false }
def FnTreePartsSaid : Prop := fnTreePartsRow.holds Try.pinned (OpenSpec.ofChange fnTreePartsSpec)

/-- ITS FALSE NEIGHBOUR: 'it returns false'. Refute it at one input. -/
def fnTreePartsWrong : ChangeSpec := { name := "fnTreeParts", fn := fun _ => fun
  | [d] => { results := [.lit (.bool false)], args := [d] }
  | _ => none }
def FnTreePartsWrongFalsely : Prop := fnTreePartsRow.holds Try.pinned (OpenSpec.ofChange fnTreePartsWrong)

/-- 'laws.FnRanks': WHATEVER THE INPUT: true; the input reads as it did. -/
def fnRanksSpec : ChangeSpec := { name := "fnRanks", fn := fun _ => fun
  | [d] => { results := [.lit (.bool true)], args := [d] }
  | _ => none }
def fnRanksRow : OpenClaim := { program := "ytdgcjkgbglofbaa", sum := "573aedcdd0be643c15d01fdbd90eadf52c98bfbbea52bce366f0eb309e21ccda", func := "loop.example/g01391/laws.FnRanks", spec := "fnRanks", unfollowed := true, recurses := true, plainKeys := false, apart := false }
def FnRanksSaid : Prop := fnRanksRow.holds Try.pinned (OpenSpec.ofChange fnRanksSpec)

/-- ITS FALSE NEIGHBOUR: 'it returns false'. Refute it at one input. -/
def fnRanksWrong : ChangeSpec := { name := "fnRanks", fn := fun _ => fun
  | [d] => { results := [.lit (.bool false)], args := [d] }
  | _ => none }
def FnRanksWrongFalsely : Prop := fnRanksRow.holds Try.pinned (OpenSpec.ofChange fnRanksWrong)

/-- 'laws.FnTreeCounts': WHATEVER THE INPUT: true; the input reads as it did. -/
def fnTreeCountsSpec : ChangeSpec := { name := "fnTreeCounts", fn := fun _ => fun
  | [d] => { results := [.lit (.bool true)], args := [d] }
  | _ => none }
def fnTreeCountsRow : OpenClaim := { program := "ytdgcjkgbglofbaa", sum := "573aedcdd0be643c15d01fdbd90eadf52c98bfbbea52bce366f0eb309e21ccda", func := "loop.example/g01391/laws.FnTreeCounts", spec := "fnTreeCounts", unfollowed := true, recurses := true, plainKeys := false, apart := false }
def FnTreeCountsSaid : Prop := fnTreeCountsRow.holds Try.pinned (OpenSpec.ofChange fnTreeCountsSpec)

/-- ITS FALSE NEIGHBOUR: 'it returns false'. Refute it at one input. -/
def fnTreeCountsWrong : ChangeSpec := { name := "fnTreeCounts", fn := fun _ => fun
  | [d] => { results := [.lit (.bool false)], args := [d] }
  | _ => none }
def FnTreeCountsWrongFalsely : Prop := fnTreeCountsRow.holds Try.pinned (OpenSpec.ofChange fnTreeCountsWrong)

/-- 'laws.FnHeavyPaths': WHATEVER THE INPUT: true; the input reads as it did. -/
def fnHeavyPathsSpec : ChangeSpec := { name := "fnHeavyPaths", fn := fun _ => fun
  | [d] => { results := [.lit (.bool true)], args := [d] }
  | _ => none }
def fnHeavyPathsRow : OpenClaim := { program := "ytdgcjkgbglofbaa", sum := "573aedcdd0be643c15d01fdbd90eadf52c98bfbbea52bce366f0eb309e21ccda", func := "loop.example/g01391/laws.FnHeavyPaths", spec := "fnHeavyPaths", unfollowed := true, recurses := true, plainKeys := false, apart := false }
def FnHeavyPathsSaid : Prop := fnHeavyPathsRow.holds Try.pinned (OpenSpec.ofChange fnHeavyPathsSpec)

/-- ITS FALSE NEIGHBOUR: 'it returns false'. Refute it at one input. -/
def fnHeavyPathsWrong : ChangeSpec := { name := "fnHeavyPaths", fn := fun _ => fun
  | [d] => { results := [.lit (.bool false)], args := [d] }
  | _ => none }
def FnHeavyPathsWrongFalsely : Prop := fnHeavyPathsRow.holds Try.pinned (OpenSpec.ofChange fnHeavyPathsWrong)

/-- 'laws.FnExactReachedStates': WHATEVER THE INPUT: true; the input reads as it did. -/
def fnExactReachedStatesSpec : ChangeSpec := { name := "fnExactReachedStates", fn := fun _ => fun
  | [d] => { results := [.lit (.bool true)], args := [d] }
  | _ => none }
def fnExactReachedStatesRow : OpenClaim := { program := "ytdgcjkgbglofbaa", sum := "573aedcdd0be643c15d01fdbd90eadf52c98bfbbea52bce366f0eb309e21ccda", func := "loop.example/g01391/laws.FnExactReachedStates", spec := "fnExactReachedStates", recurses := true, plainKeys := false, apart := false }
def FnExactReachedStatesSaid : Prop := fnExactReachedStatesRow.holds Try.pinned (OpenSpec.ofChange fnExactReachedStatesSpec)

/-- ITS FALSE NEIGHBOUR: 'it returns false'. Refute it at one input. -/
def fnExactReachedStatesWrong : ChangeSpec := { name := "fnExactReachedStates", fn := fun _ => fun
  | [d] => { results := [.lit (.bool false)], args := [d] }
  | _ => none }
def FnExactReachedStatesWrongFalsely : Prop := fnExactReachedStatesRow.holds Try.pinned (OpenSpec.ofChange fnExactReachedStatesWrong)

/-- 'laws.FnExactByTakingOut': WHATEVER THE INPUT: true; the input reads as it did. -/
def fnExactByTakingOutSpec : ChangeSpec := { name := "fnExactByTakingOut", fn := fun _ => fun
  | [d] => { results := [.lit (.bool true)], args := [d] }
  | _ => none }
def fnExactByTakingOutRow : OpenClaim := { program := "ytdgcjkgbglofbaa", sum := "573aedcdd0be643c15d01fdbd90eadf52c98bfbbea52bce366f0eb309e21ccda", func := "loop.example/g01391/laws.FnExactByTakingOut", spec := "fnExactByTakingOut", unfollowed := true, recurses := true, plainKeys := false, apart := false }
def FnExactByTakingOutSaid : Prop := fnExactByTakingOutRow.holds Try.pinned (OpenSpec.ofChange fnExactByTakingOutSpec)

/-- ITS FALSE NEIGHBOUR: 'it returns false'. Refute it at one input. -/
def fnExactByTakingOutWrong : ChangeSpec := { name := "fnExactByTakingOut", fn := fun _ => fun
  | [d] => { results := [.lit (.bool false)], args := [d] }
  | _ => none }
def FnExactByTakingOutWrongFalsely : Prop := fnExactByTakingOutRow.holds Try.pinned (OpenSpec.ofChange fnExactByTakingOutWrong)

/-- 'laws.FnExactByPuttingIn': WHATEVER THE INPUT: true; the input reads as it did. -/
def fnExactByPuttingInSpec : ChangeSpec := { name := "fnExactByPuttingIn", fn := fun _ => fun
  | [d] => { results := [.lit (.bool true)], args := [d] }
  | _ => none }
def fnExactByPuttingInRow : OpenClaim := { program := "ytdgcjkgbglofbaa", sum := "573aedcdd0be643c15d01fdbd90eadf52c98bfbbea52bce366f0eb309e21ccda", func := "loop.example/g01391/laws.FnExactByPuttingIn", spec := "fnExactByPuttingIn", unfollowed := true, recurses := true, plainKeys := false, apart := false }
def FnExactByPuttingInSaid : Prop := fnExactByPuttingInRow.holds Try.pinned (OpenSpec.ofChange fnExactByPuttingInSpec)

/-- ITS FALSE NEIGHBOUR: 'it returns false'. Refute it at one input. -/
def fnExactByPuttingInWrong : ChangeSpec := { name := "fnExactByPuttingIn", fn := fun _ => fun
  | [d] => { results := [.lit (.bool false)], args := [d] }
  | _ => none }
def FnExactByPuttingInWrongFalsely : Prop := fnExactByPuttingInRow.holds Try.pinned (OpenSpec.ofChange fnExactByPuttingInWrong)

/-- 'laws.FnExactDoAgree': WHATEVER THE INPUT: true; the input reads as it did. -/
def fnExactDoAgreeSpec : ChangeSpec := { name := "fnExactDoAgree", fn := fun _ => fun
  | [d1, d2, d3] => { results := [.lit (.bool true)], args := [d1, d2, d3] }
  | _ => none }
def fnExactDoAgreeRow : OpenClaim := { program := "ytdgcjkgbglofbaa", sum := "573aedcdd0be643c15d01fdbd90eadf52c98bfbbea52bce366f0eb309e21ccda", func := "loop.example/g01391/laws.FnExactDoAgree", spec := "fnExactDoAgree", unfollowed := true, recurses := true, plainKeys := false, apart := false }
def FnExactDoAgreeSaid : Prop := fnExactDoAgreeRow.holds Try.pinned (OpenSpec.ofChange fnExactDoAgreeSpec)

/-- ITS FALSE NEIGHBOUR: 'it returns false'. Refute it at one input. -/
def fnExactDoAgreeWrong : ChangeSpec := { name := "fnExactDoAgree", fn := fun _ => fun
  | [d1, d2, d3] => { results := [.lit (.bool false)], args := [d1, d2, d3] }
  | _ => none }
def FnExactDoAgreeWrongFalsely : Prop := fnExactDoAgreeRow.holds Try.pinned (OpenSpec.ofChange fnExactDoAgreeWrong)

/-- 'laws.FnExactCommonPairs': WHATEVER THE INPUT: true; the input reads as it did. -/
def fnExactCommonPairsSpec : ChangeSpec := { name := "fnExactCommonPairs", fn := fun _ => fun
  | [d1, d2] => { results := [.lit (.bool true)], args := [d1, d2] }
  | _ => none }
def fnExactCommonPairsRow : OpenClaim := { program := "ytdgcjkgbglofbaa", sum := "573aedcdd0be643c15d01fdbd90eadf52c98bfbbea52bce366f0eb309e21ccda", func := "loop.example/g01391/laws.FnExactCommonPairs", spec := "fnExactCommonPairs", unfollowed := true, recurses := true, plainKeys := false, apart := false }
def FnExactCommonPairsSaid : Prop := fnExactCommonPairsRow.holds Try.pinned (OpenSpec.ofChange fnExactCommonPairsSpec)

/-- ITS FALSE NEIGHBOUR: 'it returns false'. Refute it at one input. -/
def fnExactCommonPairsWrong : ChangeSpec := { name := "fnExactCommonPairs", fn := fun _ => fun
  | [d1, d2] => { results := [.lit (.bool false)], args := [d1, d2] }
  | _ => none }
def FnExactCommonPairsWrongFalsely : Prop := fnExactCommonPairsRow.holds Try.pinned (OpenSpec.ofChange fnExactCommonPairsWrong)

/-- 'laws.FnExactPictureOf': WHATEVER THE INPUT: true; the input reads as it did. -/
def fnExactPictureOfSpec : ChangeSpec := { name := "fnExactPictureOf", fn := fun _ => fun
  | [d] => { results := [.lit (.bool true)], args := [d] }
  | _ => none }
def fnExactPictureOfRow : OpenClaim := { program := "ytdgcjkgbglofbaa", sum := "573aedcdd0be643c15d01fdbd90eadf52c98bfbbea52bce366f0eb309e21ccda", func := "loop.example/g01391/laws.FnExactPictureOf", spec := "fnExactPictureOf", inPlace := ["internal/bytealg.MakeNoZero"], unfollowed := true, recurses := true, plainKeys := false, apart := false }
def FnExactPictureOfSaid : Prop := fnExactPictureOfRow.holds Try.pinned (OpenSpec.ofChange fnExactPictureOfSpec)

/-- ITS FALSE NEIGHBOUR: 'it returns false'. Refute it at one input. -/
def fnExactPictureOfWrong : ChangeSpec := { name := "fnExactPictureOf", fn := fun _ => fun
  | [d] => { results := [.lit (.bool false)], args := [d] }
  | _ => none }
def FnExactPictureOfWrongFalsely : Prop := fnExactPictureOfRow.holds Try.pinned (OpenSpec.ofChange fnExactPictureOfWrong)

/-- 'laws.FnExactGrownTree': WHATEVER THE INPUT: true; the input reads as it did. -/
def fnExactGrownTreeSpec : ChangeSpec := { name := "fnExactGrownTree", fn := fun _ => fun
  | [d] => { results := [.lit (.bool true)], args := [d] }
  | _ => none }
def fnExactGrownTreeRow : OpenClaim := { program := "ytdgcjkgbglofbaa", sum := "573aedcdd0be643c15d01fdbd90eadf52c98bfbbea52bce366f0eb309e21ccda", func := "loop.example/g01391/laws.FnExactGrownTree", spec := "fnExactGrownTree", unfollowed := true, recurses := true, plainKeys := false, apart := false }
def FnExactGrownTreeSaid : Prop := fnExactGrownTreeRow.holds Try.pinned (OpenSpec.ofChange fnExactGrownTreeSpec)

/-- ITS FALSE NEIGHBOUR: 'it returns false'. Refute it at one input. -/
def fnExactGrownTreeWrong : ChangeSpec := { name := "fnExactGrownTree", fn := fun _ => fun
  | [d] => { results := [.lit (.bool false)], args := [d] }
  | _ => none }
def FnExactGrownTreeWrongFalsely : Prop := fnExactGrownTreeRow.holds Try.pinned (OpenSpec.ofChange fnExactGrownTreeWrong)

/-- 'laws.FnExactListOfGrowth': WHATEVER THE INPUT: true; the input reads as it did. -/
def fnExactListOfGrowthSpec : ChangeSpec := { name := "fnExactListOfGrowth", fn := fun _ => fun
  | [d1, d2] => { results := [.lit (.bool true)], args := [d1, d2] }
  | _ => none }
def fnExactListOfGrowthRow : OpenClaim := { program := "ytdgcjkgbglofbaa", sum := "573aedcdd0be643c15d01fdbd90eadf52c98bfbbea52bce366f0eb309e21ccda", func := "loop.example/g01391/laws.FnExactListOfGrowth", spec := "fnExactListOfGrowth", unfollowed := true, recurses := true, plainKeys := false, apart := false }
def FnExactListOfGrowthSaid : Prop := fnExactListOfGrowthRow.holds Try.pinned (OpenSpec.ofChange fnExactListOfGrowthSpec)

/-- ITS FALSE NEIGHBOUR: 'it returns false'. Refute it at one input. -/
def fnExactListOfGrowthWrong : ChangeSpec := { name := "fnExactListOfGrowth", fn := fun _ => fun
  | [d1, d2] => { results := [.lit (.bool false)], args := [d1, d2] }
  | _ => none }
def FnExactListOfGrowthWrongFalsely : Prop := fnExactListOfGrowthRow.holds Try.pinned (OpenSpec.ofChange fnExactListOfGrowthWrong)

/-- 'laws.FnExactIsDesk': WHATEVER THE INPUT: true; the input reads as it did. -/
def fnExactIsDeskSpec : ChangeSpec := { name := "fnExactIsDesk", fn := fun _ => fun
  | [d] => { results := [.lit (.bool true)], args := [d] }
  | _ => none }
def fnExactIsDeskRow : OpenClaim := { program := "ytdgcjkgbglofbaa", sum := "573aedcdd0be643c15d01fdbd90eadf52c98bfbbea52bce366f0eb309e21ccda", func := "loop.example/g01391/laws.FnExactIsDesk", spec := "fnExactIsDesk", inPlace := ["internal/bytealg.IndexByteString", "internal/bytealg.CountString", "internal/bytealg.IndexString"], unfollowed := true, recurses := true, named := ["internal/bytealg.MaxLen"], plainKeys := false, apart := false }
def FnExactIsDeskSaid : Prop := fnExactIsDeskRow.holds Try.pinned (OpenSpec.ofChange fnExactIsDeskSpec)

/-- ITS FALSE NEIGHBOUR: 'it returns false'. Refute it at one input. -/
def fnExactIsDeskWrong : ChangeSpec := { name := "fnExactIsDesk", fn := fun _ => fun
  | [d] => { results := [.lit (.bool false)], args := [d] }
  | _ => none }
def FnExactIsDeskWrongFalsely : Prop := fnExactIsDeskRow.holds Try.pinned (OpenSpec.ofChange fnExactIsDeskWrong)

/- THE SECOND FORM. 'bulk': how many values and letters a reading holds, each counted each time it is reached (what is shared counts as often as it is met; a slice's spare places count too). A statement '..UptoSaid' is the law's where the arguments, and the package variables that the reading takes, are together of bulk at most 1048576: NARROWER than '..Said'. Prove '..Said' where nothing that the law and all that it calls make is longer than what came in: it says more and counts as full. Else prove '..UptoSaid'. A law counts once. -/
mutual
def uptoBulk {H : Type} : DataW H → Nat
  | .lit (.string bytes) => bytes.length + 1
  | .lit _ => 1
  | .nil => 1
  | .ptr d => uptoBulk d + 1
  | .slice elems spare => uptoBulkAll elems + uptoBulkAll spare + 1
  | .agg parts => uptoBulkAll parts + 1
  | .iface _ d => uptoBulk d + 1
  | .map entries => uptoBulkEntries entries + 1
  | .held _ => 1
def uptoBulkAll {H : Type} : List (DataW H) → Nat
  | [] => 0
  | d :: r => uptoBulk d + uptoBulkAll r
def uptoBulkEntries {H : Type} : List (Lit × DataW H) → Nat
  | [] => 0
  | x :: r => uptoBulkEntry x + uptoBulkEntries r
def uptoBulkEntry {H : Type} : Lit × DataW H → Nat
  | (.string bytes, d) => bytes.length + uptoBulk d + 1
  | (_, d) => uptoBulk d + 1
 end
def uptoSmall : (H : Type) → List (DataW H) → Bool := fun _ ds => decide (uptoBulkAll ds ≤ 1048576)
def OpenSpec.upto (s : _root_.Go.ChangeSpec) : _root_.Go.OpenSpec := { _root_.Go.OpenSpec.ofChange s with cond := some uptoSmall }

/-- 'laws.FnTrees', WHERE WHAT IT READS IS OF BULK AT MOST 1048576: true; the input reads as it did. -/
def fnTreesUptoRow : OpenClaim := { program := "ytdgcjkgbglofbaa", sum := "573aedcdd0be643c15d01fdbd90eadf52c98bfbbea52bce366f0eb309e21ccda", func := "loop.example/g01391/laws.FnTrees", spec := "fnTrees", unfollowed := true, recurses := true, plainKeys := false, apart := false, narrowed := true }
def FnTreesUptoSaid : Prop := fnTreesUptoRow.holds Try.pinned (OpenSpec.upto fnTreesSpec)

/-- 'laws.FnTreeParts', WHERE WHAT IT READS IS OF BULK AT MOST 1048576: true; the input reads as it did. -/
def fnTreePartsUptoRow : OpenClaim := { program := "ytdgcjkgbglofbaa", sum := "573aedcdd0be643c15d01fdbd90eadf52c98bfbbea52bce366f0eb309e21ccda", func := "loop.example/g01391/laws.FnTreeParts", spec := "fnTreeParts", unfollowed := true, recurses := true, plainKeys := false, apart := false, narrowed := true }
def FnTreePartsUptoSaid : Prop := fnTreePartsUptoRow.holds Try.pinned (OpenSpec.upto fnTreePartsSpec)

/-- 'laws.FnRanks', WHERE WHAT IT READS IS OF BULK AT MOST 1048576: true; the input reads as it did. -/
def fnRanksUptoRow : OpenClaim := { program := "ytdgcjkgbglofbaa", sum := "573aedcdd0be643c15d01fdbd90eadf52c98bfbbea52bce366f0eb309e21ccda", func := "loop.example/g01391/laws.FnRanks", spec := "fnRanks", unfollowed := true, recurses := true, plainKeys := false, apart := false, narrowed := true }
def FnRanksUptoSaid : Prop := fnRanksUptoRow.holds Try.pinned (OpenSpec.upto fnRanksSpec)

/-- 'laws.FnTreeCounts', WHERE WHAT IT READS IS OF BULK AT MOST 1048576: true; the input reads as it did. -/
def fnTreeCountsUptoRow : OpenClaim := { program := "ytdgcjkgbglofbaa", sum := "573aedcdd0be643c15d01fdbd90eadf52c98bfbbea52bce366f0eb309e21ccda", func := "loop.example/g01391/laws.FnTreeCounts", spec := "fnTreeCounts", unfollowed := true, recurses := true, plainKeys := false, apart := false, narrowed := true }
def FnTreeCountsUptoSaid : Prop := fnTreeCountsUptoRow.holds Try.pinned (OpenSpec.upto fnTreeCountsSpec)

/-- 'laws.FnHeavyPaths', WHERE WHAT IT READS IS OF BULK AT MOST 1048576: true; the input reads as it did. -/
def fnHeavyPathsUptoRow : OpenClaim := { program := "ytdgcjkgbglofbaa", sum := "573aedcdd0be643c15d01fdbd90eadf52c98bfbbea52bce366f0eb309e21ccda", func := "loop.example/g01391/laws.FnHeavyPaths", spec := "fnHeavyPaths", unfollowed := true, recurses := true, plainKeys := false, apart := false, narrowed := true }
def FnHeavyPathsUptoSaid : Prop := fnHeavyPathsUptoRow.holds Try.pinned (OpenSpec.upto fnHeavyPathsSpec)

/-- 'laws.FnExactReachedStates', WHERE WHAT IT READS IS OF BULK AT MOST 1048576: true; the input reads as it did. -/
def fnExactReachedStatesUptoRow : OpenClaim := { program := "ytdgcjkgbglofbaa", sum := "573aedcdd0be643c15d01fdbd90eadf52c98bfbbea52bce366f0eb309e21ccda", func := "loop.example/g01391/laws.FnExactReachedStates", spec := "fnExactReachedStates", recurses := true, plainKeys := false, apart := false, narrowed := true }
def FnExactReachedStatesUptoSaid : Prop := fnExactReachedStatesUptoRow.holds Try.pinned (OpenSpec.upto fnExactReachedStatesSpec)

/-- 'laws.FnExactByTakingOut', WHERE WHAT IT READS IS OF BULK AT MOST 1048576: true; the input reads as it did. -/
def fnExactByTakingOutUptoRow : OpenClaim := { program := "ytdgcjkgbglofbaa", sum := "573aedcdd0be643c15d01fdbd90eadf52c98bfbbea52bce366f0eb309e21ccda", func := "loop.example/g01391/laws.FnExactByTakingOut", spec := "fnExactByTakingOut", unfollowed := true, recurses := true, plainKeys := false, apart := false, narrowed := true }
def FnExactByTakingOutUptoSaid : Prop := fnExactByTakingOutUptoRow.holds Try.pinned (OpenSpec.upto fnExactByTakingOutSpec)

/-- 'laws.FnExactByPuttingIn', WHERE WHAT IT READS IS OF BULK AT MOST 1048576: true; the input reads as it did. -/
def fnExactByPuttingInUptoRow : OpenClaim := { program := "ytdgcjkgbglofbaa", sum := "573aedcdd0be643c15d01fdbd90eadf52c98bfbbea52bce366f0eb309e21ccda", func := "loop.example/g01391/laws.FnExactByPuttingIn", spec := "fnExactByPuttingIn", unfollowed := true, recurses := true, plainKeys := false, apart := false, narrowed := true }
def FnExactByPuttingInUptoSaid : Prop := fnExactByPuttingInUptoRow.holds Try.pinned (OpenSpec.upto fnExactByPuttingInSpec)

/-- 'laws.FnExactDoAgree', WHERE WHAT IT READS IS OF BULK AT MOST 1048576: true; the input reads as it did. -/
def fnExactDoAgreeUptoRow : OpenClaim := { program := "ytdgcjkgbglofbaa", sum := "573aedcdd0be643c15d01fdbd90eadf52c98bfbbea52bce366f0eb309e21ccda", func := "loop.example/g01391/laws.FnExactDoAgree", spec := "fnExactDoAgree", unfollowed := true, recurses := true, plainKeys := false, apart := false, narrowed := true }
def FnExactDoAgreeUptoSaid : Prop := fnExactDoAgreeUptoRow.holds Try.pinned (OpenSpec.upto fnExactDoAgreeSpec)

/-- 'laws.FnExactCommonPairs', WHERE WHAT IT READS IS OF BULK AT MOST 1048576: true; the input reads as it did. -/
def fnExactCommonPairsUptoRow : OpenClaim := { program := "ytdgcjkgbglofbaa", sum := "573aedcdd0be643c15d01fdbd90eadf52c98bfbbea52bce366f0eb309e21ccda", func := "loop.example/g01391/laws.FnExactCommonPairs", spec := "fnExactCommonPairs", unfollowed := true, recurses := true, plainKeys := false, apart := false, narrowed := true }
def FnExactCommonPairsUptoSaid : Prop := fnExactCommonPairsUptoRow.holds Try.pinned (OpenSpec.upto fnExactCommonPairsSpec)

/-- 'laws.FnExactPictureOf', WHERE WHAT IT READS IS OF BULK AT MOST 1048576: true; the input reads as it did. -/
def fnExactPictureOfUptoRow : OpenClaim := { program := "ytdgcjkgbglofbaa", sum := "573aedcdd0be643c15d01fdbd90eadf52c98bfbbea52bce366f0eb309e21ccda", func := "loop.example/g01391/laws.FnExactPictureOf", spec := "fnExactPictureOf", inPlace := ["internal/bytealg.MakeNoZero"], unfollowed := true, recurses := true, plainKeys := false, apart := false, narrowed := true }
def FnExactPictureOfUptoSaid : Prop := fnExactPictureOfUptoRow.holds Try.pinned (OpenSpec.upto fnExactPictureOfSpec)

/-- 'laws.FnExactGrownTree', WHERE WHAT IT READS IS OF BULK AT MOST 1048576: true; the input reads as it did. -/
def fnExactGrownTreeUptoRow : OpenClaim := { program := "ytdgcjkgbglofbaa", sum := "573aedcdd0be643c15d01fdbd90eadf52c98bfbbea52bce366f0eb309e21ccda", func := "loop.example/g01391/laws.FnExactGrownTree", spec := "fnExactGrownTree", unfollowed := true, recurses := true, plainKeys := false, apart := false, narrowed := true }
def FnExactGrownTreeUptoSaid : Prop := fnExactGrownTreeUptoRow.holds Try.pinned (OpenSpec.upto fnExactGrownTreeSpec)

/-- 'laws.FnExactListOfGrowth', WHERE WHAT IT READS IS OF BULK AT MOST 1048576: true; the input reads as it did. -/
def fnExactListOfGrowthUptoRow : OpenClaim := { program := "ytdgcjkgbglofbaa", sum := "573aedcdd0be643c15d01fdbd90eadf52c98bfbbea52bce366f0eb309e21ccda", func := "loop.example/g01391/laws.FnExactListOfGrowth", spec := "fnExactListOfGrowth", unfollowed := true, recurses := true, plainKeys := false, apart := false, narrowed := true }
def FnExactListOfGrowthUptoSaid : Prop := fnExactListOfGrowthUptoRow.holds Try.pinned (OpenSpec.upto fnExactListOfGrowthSpec)

/-- 'laws.FnExactIsDesk', WHERE WHAT IT READS IS OF BULK AT MOST 1048576: true; the input reads as it did. -/
def fnExactIsDeskUptoRow : OpenClaim := { program := "ytdgcjkgbglofbaa", sum := "573aedcdd0be643c15d01fdbd90eadf52c98bfbbea52bce366f0eb309e21ccda", func := "loop.example/g01391/laws.FnExactIsDesk", spec := "fnExactIsDesk", inPlace := ["internal/bytealg.IndexByteString", "internal/bytealg.CountString", "internal/bytealg.IndexString"], unfollowed := true, recurses := true, named := ["internal/bytealg.MaxLen"], plainKeys := false, apart := false, narrowed := true }
def FnExactIsDeskUptoSaid : Prop := fnExactIsDeskUptoRow.holds Try.pinned (OpenSpec.upto fnExactIsDeskSpec)

end Rows
end Go.Proofs.Ytdgcjkgbglofbaa
