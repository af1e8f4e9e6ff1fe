/-
  No cell of these rows narrows 'for every input' (looked for: loops, veiled, ifaces, maps, wideKeys, modest, calm, conditions, laid).
  DERIVED. THE GIVEN ROWS OF THIS SEAT. 15 by the template 'for every input the law returns true; each argument reads behind the call as it read before'; 0 by the template 'total and deterministic' (their statements: YtbdmmeoelagdcaaTotals.lean).
  GIVEN WITH THE SEED: the statements are not yours to turn. If you find one false, say at which input.
  Laid BY PROGRAM, IN A SANDBOX (cutbox-rows.mjs): the forced cells as the released guide's own fill.sh prints them over the translation c8432b6800519048… (all of the seat's roots in one cut). By AI agents, Wed Nov 11 2026. No macro, syntax, notation, axiom, sorry.
-/
import Derived.Test.YtbdmmeoelagdcaaChecked
import GoSem.Claim
import GoSem.ClaimJoined
import GoSem.ClaimMapViews
import Derived.JoinedTies
import Derived.KernelRfl
namespace Go.Proofs.Ytbdmmeoelagdcaa
/- THE CELL 'sum', in the pinned program and in every row, IS THE sha256 OF THE DUMP (.gsa) THAT YtbdmmeoelagdcaaProg.lean LOADS. Nothing in Lean hashes anything: it is a label: what it is worth is what the hold of that sum in a sandbox is worth. -/
noncomputable def Try.pinned : Pinned := { name := "ytbdmmeoelagdcaa", sum := "c8432b6800519048d57d7c93d9899b52fa138d2c72b80fdfe20e7d72d0d69ddd", checked := Try.checked }
namespace Rows
def none {H : Type} : Left H := { results := [], args := [] }

/-- 'laws.FnExactIsPattern': WHATEVER THE INPUT: true; the input reads as it did. -/
def fnExactIsPatternSpec : ChangeSpec := { name := "fnExactIsPattern", fn := fun _ => fun
  | [d] => { results := [.lit (.bool true)], args := [d] }
  | _ => none }
def fnExactIsPatternRow : OpenClaim := { program := "ytbdmmeoelagdcaa", sum := "c8432b6800519048d57d7c93d9899b52fa138d2c72b80fdfe20e7d72d0d69ddd", func := "loop.example/g01391/laws.FnExactIsPattern", spec := "fnExactIsPattern", inPlace := ["internal/bytealg.IndexByteString", "internal/bytealg.CountString", "internal/bytealg.IndexString"], recurses := true, named := ["internal/bytealg.MaxLen"], apart := false }
def FnExactIsPatternSaid : Prop := fnExactIsPatternRow.holds Try.pinned (OpenSpec.ofChange fnExactIsPatternSpec)

/-- ITS FALSE NEIGHBOUR: 'it returns false'. Refute it at one input. -/
def fnExactIsPatternWrong : ChangeSpec := { name := "fnExactIsPattern", fn := fun _ => fun
  | [d] => { results := [.lit (.bool false)], args := [d] }
  | _ => none }
def FnExactIsPatternWrongFalsely : Prop := fnExactIsPatternRow.holds Try.pinned (OpenSpec.ofChange fnExactIsPatternWrong)

/-- 'laws.FnExactMatchesAt': WHATEVER THE INPUT: true; the input reads as it did. -/
def fnExactMatchesAtSpec : ChangeSpec := { name := "fnExactMatchesAt", fn := fun _ => fun
  | [d1, d2, d3] => { results := [.lit (.bool true)], args := [d1, d2, d3] }
  | _ => none }
def fnExactMatchesAtRow : OpenClaim := { program := "ytbdmmeoelagdcaa", sum := "c8432b6800519048d57d7c93d9899b52fa138d2c72b80fdfe20e7d72d0d69ddd", func := "loop.example/g01391/laws.FnExactMatchesAt", spec := "fnExactMatchesAt", inPlace := ["internal/bytealg.IndexByteString", "internal/bytealg.CountString", "internal/bytealg.IndexString"], unfollowed := true, recurses := true, named := ["internal/bytealg.MaxLen"], apart := false }
def FnExactMatchesAtSaid : Prop := fnExactMatchesAtRow.holds Try.pinned (OpenSpec.ofChange fnExactMatchesAtSpec)

/-- ITS FALSE NEIGHBOUR: 'it returns false'. Refute it at one input. -/
def fnExactMatchesAtWrong : ChangeSpec := { name := "fnExactMatchesAt", fn := fun _ => fun
  | [d1, d2, d3] => { results := [.lit (.bool false)], args := [d1, d2, d3] }
  | _ => none }
def FnExactMatchesAtWrongFalsely : Prop := fnExactMatchesAtRow.holds Try.pinned (OpenSpec.ofChange fnExactMatchesAtWrong)

/-- 'laws.FnExactMatchedNodes': WHATEVER THE INPUT: true; the input reads as it did. -/
def fnExactMatchedNodesSpec : ChangeSpec := { name := "fnExactMatchedNodes", fn := fun _ => fun
  | [d1, d2] => { results := [.lit (.bool true)], args := [d1, d2] }
  | _ => none }
def fnExactMatchedNodesRow : OpenClaim := { program := "ytbdmmeoelagdcaa", sum := "c8432b6800519048d57d7c93d9899b52fa138d2c72b80fdfe20e7d72d0d69ddd", func := "loop.example/g01391/laws.FnExactMatchedNodes", spec := "fnExactMatchedNodes", inPlace := ["internal/bytealg.IndexByteString", "internal/bytealg.CountString", "internal/bytealg.IndexString"], unfollowed := true, recurses := true, named := ["internal/bytealg.MaxLen"], apart := false }
def FnExactMatchedNodesSaid : Prop := fnExactMatchedNodesRow.holds Try.pinned (OpenSpec.ofChange fnExactMatchedNodesSpec)

/-- ITS FALSE NEIGHBOUR: 'it returns false'. Refute it at one input. -/
def fnExactMatchedNodesWrong : ChangeSpec := { name := "fnExactMatchedNodes", fn := fun _ => fun
  | [d1, d2] => { results := [.lit (.bool false)], args := [d1, d2] }
  | _ => none }
def FnExactMatchedNodesWrongFalsely : Prop := fnExactMatchedNodesRow.holds Try.pinned (OpenSpec.ofChange fnExactMatchedNodesWrong)

/-- 'laws.FnExactOpenTrees': WHATEVER THE INPUT: true; the input reads as it did. -/
def fnExactOpenTreesSpec : ChangeSpec := { name := "fnExactOpenTrees", fn := fun _ => fun
  | [d1, d2, d3] => { results := [.lit (.bool true)], args := [d1, d2, d3] }
  | _ => none }
def fnExactOpenTreesRow : OpenClaim := { program := "ytbdmmeoelagdcaa", sum := "c8432b6800519048d57d7c93d9899b52fa138d2c72b80fdfe20e7d72d0d69ddd", func := "loop.example/g01391/laws.FnExactOpenTrees", spec := "fnExactOpenTrees", inPlace := ["internal/bytealg.IndexByteString", "internal/bytealg.CountString", "internal/bytealg.IndexString"], unfollowed := true, recurses := true, named := ["internal/bytealg.MaxLen"], apart := false }
def FnExactOpenTreesSaid : Prop := fnExactOpenTreesRow.holds Try.pinned (OpenSpec.ofChange fnExactOpenTreesSpec)

/-- ITS FALSE NEIGHBOUR: 'it returns false'. Refute it at one input. -/
def fnExactOpenTreesWrong : ChangeSpec := { name := "fnExactOpenTrees", fn := fun _ => fun
  | [d1, d2, d3] => { results := [.lit (.bool false)], args := [d1, d2, d3] }
  | _ => none }
def FnExactOpenTreesWrongFalsely : Prop := fnExactOpenTreesRow.holds Try.pinned (OpenSpec.ofChange fnExactOpenTreesWrong)

/-- 'laws.FnExactFillPattern': WHATEVER THE INPUT: true; the input reads as it did. -/
def fnExactFillPatternSpec : ChangeSpec := { name := "fnExactFillPattern", fn := fun _ => fun
  | [d1, d2] => { results := [.lit (.bool true)], args := [d1, d2] }
  | _ => none }
def fnExactFillPatternRow : OpenClaim := { program := "ytbdmmeoelagdcaa", sum := "c8432b6800519048d57d7c93d9899b52fa138d2c72b80fdfe20e7d72d0d69ddd", func := "loop.example/g01391/laws.FnExactFillPattern", spec := "fnExactFillPattern", inPlace := ["internal/bytealg.IndexByteString", "internal/bytealg.CountString", "internal/bytealg.IndexString"], unfollowed := true, recurses := true, named := ["internal/bytealg.MaxLen"], apart := false }
def FnExactFillPatternSaid : Prop := fnExactFillPatternRow.holds Try.pinned (OpenSpec.ofChange fnExactFillPatternSpec)

/-- ITS FALSE NEIGHBOUR: 'it returns false'. Refute it at one input. -/
def fnExactFillPatternWrong : ChangeSpec := { name := "fnExactFillPattern", fn := fun _ => fun
  | [d1, d2] => { results := [.lit (.bool false)], args := [d1, d2] }
  | _ => none }
def FnExactFillPatternWrongFalsely : Prop := fnExactFillPatternRow.holds Try.pinned (OpenSpec.ofChange fnExactFillPatternWrong)

/-- 'laws.FnExactIsMoreGeneral': WHATEVER THE INPUT: true; the input reads as it did. -/
def fnExactIsMoreGeneralSpec : ChangeSpec := { name := "fnExactIsMoreGeneral", fn := fun _ => fun
  | [d1, d2] => { results := [.lit (.bool true)], args := [d1, d2] }
  | _ => none }
def fnExactIsMoreGeneralRow : OpenClaim := { program := "ytbdmmeoelagdcaa", sum := "c8432b6800519048d57d7c93d9899b52fa138d2c72b80fdfe20e7d72d0d69ddd", func := "loop.example/g01391/laws.FnExactIsMoreGeneral", spec := "fnExactIsMoreGeneral", inPlace := ["internal/bytealg.IndexByteString", "internal/bytealg.CountString", "internal/bytealg.IndexString"], recurses := true, named := ["internal/bytealg.MaxLen"], apart := false }
def FnExactIsMoreGeneralSaid : Prop := fnExactIsMoreGeneralRow.holds Try.pinned (OpenSpec.ofChange fnExactIsMoreGeneralSpec)

/-- ITS FALSE NEIGHBOUR: 'it returns false'. Refute it at one input. -/
def fnExactIsMoreGeneralWrong : ChangeSpec := { name := "fnExactIsMoreGeneral", fn := fun _ => fun
  | [d1, d2] => { results := [.lit (.bool false)], args := [d1, d2] }
  | _ => none }
def FnExactIsMoreGeneralWrongFalsely : Prop := fnExactIsMoreGeneralRow.holds Try.pinned (OpenSpec.ofChange fnExactIsMoreGeneralWrong)

/-- 'laws.FnExactCommonPattern': WHATEVER THE INPUT: true; the input reads as it did. -/
def fnExactCommonPatternSpec : ChangeSpec := { name := "fnExactCommonPattern", fn := fun _ => fun
  | [d1, d2] => { results := [.lit (.bool true)], args := [d1, d2] }
  | _ => none }
def fnExactCommonPatternRow : OpenClaim := { program := "ytbdmmeoelagdcaa", sum := "c8432b6800519048d57d7c93d9899b52fa138d2c72b80fdfe20e7d72d0d69ddd", func := "loop.example/g01391/laws.FnExactCommonPattern", spec := "fnExactCommonPattern", inPlace := ["internal/bytealg.IndexByteString", "internal/bytealg.CountString", "internal/bytealg.IndexString"], recurses := true, named := ["internal/bytealg.MaxLen"], apart := false }
def FnExactCommonPatternSaid : Prop := fnExactCommonPatternRow.holds Try.pinned (OpenSpec.ofChange fnExactCommonPatternSpec)

/-- ITS FALSE NEIGHBOUR: 'it returns false'. Refute it at one input. -/
def fnExactCommonPatternWrong : ChangeSpec := { name := "fnExactCommonPattern", fn := fun _ => fun
  | [d1, d2] => { results := [.lit (.bool false)], args := [d1, d2] }
  | _ => none }
def FnExactCommonPatternWrongFalsely : Prop := fnExactCommonPatternRow.holds Try.pinned (OpenSpec.ofChange fnExactCommonPatternWrong)

/-- 'laws.FnExactCountAvoiding': WHATEVER THE INPUT: true; the input reads as it did. -/
def fnExactCountAvoidingSpec : ChangeSpec := { name := "fnExactCountAvoiding", fn := fun _ => fun
  | [d1, d2] => { results := [.lit (.bool true)], args := [d1, d2] }
  | _ => none }
def fnExactCountAvoidingRow : OpenClaim := { program := "ytbdmmeoelagdcaa", sum := "c8432b6800519048d57d7c93d9899b52fa138d2c72b80fdfe20e7d72d0d69ddd", func := "loop.example/g01391/laws.FnExactCountAvoiding", spec := "fnExactCountAvoiding", inPlace := ["internal/bytealg.IndexByteString", "internal/bytealg.CountString", "internal/bytealg.IndexString"], unfollowed := true, recurses := true, named := ["internal/bytealg.MaxLen"], apart := false }
def FnExactCountAvoidingSaid : Prop := fnExactCountAvoidingRow.holds Try.pinned (OpenSpec.ofChange fnExactCountAvoidingSpec)

/-- ITS FALSE NEIGHBOUR: 'it returns false'. Refute it at one input. -/
def fnExactCountAvoidingWrong : ChangeSpec := { name := "fnExactCountAvoiding", fn := fun _ => fun
  | [d1, d2] => { results := [.lit (.bool false)], args := [d1, d2] }
  | _ => none }
def FnExactCountAvoidingWrongFalsely : Prop := fnExactCountAvoidingRow.holds Try.pinned (OpenSpec.ofChange fnExactCountAvoidingWrong)

/-- 'laws.FnExactFirstAvoiding': WHATEVER THE INPUT: true; the input reads as it did. -/
def fnExactFirstAvoidingSpec : ChangeSpec := { name := "fnExactFirstAvoiding", fn := fun _ => fun
  | [d1, d2] => { results := [.lit (.bool true)], args := [d1, d2] }
  | _ => none }
def fnExactFirstAvoidingRow : OpenClaim := { program := "ytbdmmeoelagdcaa", sum := "c8432b6800519048d57d7c93d9899b52fa138d2c72b80fdfe20e7d72d0d69ddd", func := "loop.example/g01391/laws.FnExactFirstAvoiding", spec := "fnExactFirstAvoiding", inPlace := ["internal/bytealg.IndexByteString", "internal/bytealg.CountString", "internal/bytealg.IndexString"], unfollowed := true, recurses := true, named := ["internal/bytealg.MaxLen"], apart := false }
def FnExactFirstAvoidingSaid : Prop := fnExactFirstAvoidingRow.holds Try.pinned (OpenSpec.ofChange fnExactFirstAvoidingSpec)

/-- ITS FALSE NEIGHBOUR: 'it returns false'. Refute it at one input. -/
def fnExactFirstAvoidingWrong : ChangeSpec := { name := "fnExactFirstAvoiding", fn := fun _ => fun
  | [d1, d2] => { results := [.lit (.bool false)], args := [d1, d2] }
  | _ => none }
def FnExactFirstAvoidingWrongFalsely : Prop := fnExactFirstAvoidingRow.holds Try.pinned (OpenSpec.ofChange fnExactFirstAvoidingWrong)

/-- 'laws.FnExactIsRule': WHATEVER THE INPUT: true; the input reads as it did. -/
def fnExactIsRuleSpec : ChangeSpec := { name := "fnExactIsRule", fn := fun _ => fun
  | [d] => { results := [.lit (.bool true)], args := [d] }
  | _ => none }
def fnExactIsRuleRow : OpenClaim := { program := "ytbdmmeoelagdcaa", sum := "c8432b6800519048d57d7c93d9899b52fa138d2c72b80fdfe20e7d72d0d69ddd", func := "loop.example/g01391/laws.FnExactIsRule", spec := "fnExactIsRule", inPlace := ["internal/bytealg.IndexByteString", "internal/bytealg.CountString", "internal/bytealg.IndexString"], unfollowed := true, recurses := true, named := ["internal/bytealg.MaxLen"], apart := false }
def FnExactIsRuleSaid : Prop := fnExactIsRuleRow.holds Try.pinned (OpenSpec.ofChange fnExactIsRuleSpec)

/-- ITS FALSE NEIGHBOUR: 'it returns false'. Refute it at one input. -/
def fnExactIsRuleWrong : ChangeSpec := { name := "fnExactIsRule", fn := fun _ => fun
  | [d] => { results := [.lit (.bool false)], args := [d] }
  | _ => none }
def FnExactIsRuleWrongFalsely : Prop := fnExactIsRuleRow.holds Try.pinned (OpenSpec.ofChange fnExactIsRuleWrong)

/-- 'laws.FnExactRuleText': WHATEVER THE INPUT: true; the input reads as it did. -/
def fnExactRuleTextSpec : ChangeSpec := { name := "fnExactRuleText", fn := fun _ => fun
  | [d] => { results := [.lit (.bool true)], args := [d] }
  | _ => none }
def fnExactRuleTextRow : OpenClaim := { program := "ytbdmmeoelagdcaa", sum := "c8432b6800519048d57d7c93d9899b52fa138d2c72b80fdfe20e7d72d0d69ddd", func := "loop.example/g01391/laws.FnExactRuleText", spec := "fnExactRuleText", inPlace := ["internal/bytealg.IndexByteString", "internal/bytealg.CountString", "internal/bytealg.IndexString"], unfollowed := true, recurses := true, named := ["internal/bytealg.MaxLen"], apart := false }
def FnExactRuleTextSaid : Prop := fnExactRuleTextRow.holds Try.pinned (OpenSpec.ofChange fnExactRuleTextSpec)

/-- ITS FALSE NEIGHBOUR: 'it returns false'. Refute it at one input. -/
def fnExactRuleTextWrong : ChangeSpec := { name := "fnExactRuleText", fn := fun _ => fun
  | [d] => { results := [.lit (.bool false)], args := [d] }
  | _ => none }
def FnExactRuleTextWrongFalsely : Prop := fnExactRuleTextRow.holds Try.pinned (OpenSpec.ofChange fnExactRuleTextWrong)

/-- 'laws.FnExactParseRule': WHATEVER THE INPUT: true; the input reads as it did. -/
def fnExactParseRuleSpec : ChangeSpec := { name := "fnExactParseRule", fn := fun _ => fun
  | [d] => { results := [.lit (.bool true)], args := [d] }
  | _ => none }
def fnExactParseRuleRow : OpenClaim := { program := "ytbdmmeoelagdcaa", sum := "c8432b6800519048d57d7c93d9899b52fa138d2c72b80fdfe20e7d72d0d69ddd", func := "loop.example/g01391/laws.FnExactParseRule", spec := "fnExactParseRule", inPlace := ["internal/bytealg.IndexByteString", "internal/bytealg.IndexString", "internal/bytealg.CountString"], unfollowed := true, recurses := true, named := ["internal/bytealg.MaxLen"], apart := false }
def FnExactParseRuleSaid : Prop := fnExactParseRuleRow.holds Try.pinned (OpenSpec.ofChange fnExactParseRuleSpec)

/-- ITS FALSE NEIGHBOUR: 'it returns false'. Refute it at one input. -/
def fnExactParseRuleWrong : ChangeSpec := { name := "fnExactParseRule", fn := fun _ => fun
  | [d] => { results := [.lit (.bool false)], args := [d] }
  | _ => none }
def FnExactParseRuleWrongFalsely : Prop := fnExactParseRuleRow.holds Try.pinned (OpenSpec.ofChange fnExactParseRuleWrong)

/-- 'laws.FnExactCriticalPlaces': WHATEVER THE INPUT: true; the input reads as it did. -/
def fnExactCriticalPlacesSpec : ChangeSpec := { name := "fnExactCriticalPlaces", fn := fun _ => fun
  | [d1, d2] => { results := [.lit (.bool true)], args := [d1, d2] }
  | _ => none }
def fnExactCriticalPlacesRow : OpenClaim := { program := "ytbdmmeoelagdcaa", sum := "c8432b6800519048d57d7c93d9899b52fa138d2c72b80fdfe20e7d72d0d69ddd", func := "loop.example/g01391/laws.FnExactCriticalPlaces", spec := "fnExactCriticalPlaces", inPlace := ["internal/bytealg.IndexByteString", "internal/bytealg.CountString", "internal/bytealg.IndexString"], unfollowed := true, recurses := true, named := ["internal/bytealg.MaxLen"], apart := false }
def FnExactCriticalPlacesSaid : Prop := fnExactCriticalPlacesRow.holds Try.pinned (OpenSpec.ofChange fnExactCriticalPlacesSpec)

/-- ITS FALSE NEIGHBOUR: 'it returns false'. Refute it at one input. -/
def fnExactCriticalPlacesWrong : ChangeSpec := { name := "fnExactCriticalPlaces", fn := fun _ => fun
  | [d1, d2] => { results := [.lit (.bool false)], args := [d1, d2] }
  | _ => none }
def FnExactCriticalPlacesWrongFalsely : Prop := fnExactCriticalPlacesRow.holds Try.pinned (OpenSpec.ofChange fnExactCriticalPlacesWrong)

/-- 'laws.FnExactCountGrowing': WHATEVER THE INPUT: true; the input reads as it did. -/
def fnExactCountGrowingSpec : ChangeSpec := { name := "fnExactCountGrowing", fn := fun _ => fun
  | [d] => { results := [.lit (.bool true)], args := [d] }
  | _ => none }
def fnExactCountGrowingRow : OpenClaim := { program := "ytbdmmeoelagdcaa", sum := "c8432b6800519048d57d7c93d9899b52fa138d2c72b80fdfe20e7d72d0d69ddd", func := "loop.example/g01391/laws.FnExactCountGrowing", spec := "fnExactCountGrowing", unfollowed := true, recurses := true, apart := false }
def FnExactCountGrowingSaid : Prop := fnExactCountGrowingRow.holds Try.pinned (OpenSpec.ofChange fnExactCountGrowingSpec)

/-- ITS FALSE NEIGHBOUR: 'it returns false'. Refute it at one input. -/
def fnExactCountGrowingWrong : ChangeSpec := { name := "fnExactCountGrowing", fn := fun _ => fun
  | [d] => { results := [.lit (.bool false)], args := [d] }
  | _ => none }
def FnExactCountGrowingWrongFalsely : Prop := fnExactCountGrowingRow.holds Try.pinned (OpenSpec.ofChange fnExactCountGrowingWrong)

/-- 'laws.FnExactNextGrowing': WHATEVER THE INPUT: true; the input reads as it did. -/
def fnExactNextGrowingSpec : ChangeSpec := { name := "fnExactNextGrowing", fn := fun _ => fun
  | [d1, d2] => { results := [.lit (.bool true)], args := [d1, d2] }
  | _ => none }
def fnExactNextGrowingRow : OpenClaim := { program := "ytbdmmeoelagdcaa", sum := "c8432b6800519048d57d7c93d9899b52fa138d2c72b80fdfe20e7d72d0d69ddd", func := "loop.example/g01391/laws.FnExactNextGrowing", spec := "fnExactNextGrowing", unfollowed := true, recurses := true, apart := false }
def FnExactNextGrowingSaid : Prop := fnExactNextGrowingRow.holds Try.pinned (OpenSpec.ofChange fnExactNextGrowingSpec)

/-- ITS FALSE NEIGHBOUR: 'it returns false'. Refute it at one input. -/
def fnExactNextGrowingWrong : ChangeSpec := { name := "fnExactNextGrowing", fn := fun _ => fun
  | [d1, d2] => { results := [.lit (.bool false)], args := [d1, d2] }
  | _ => none }
def FnExactNextGrowingWrongFalsely : Prop := fnExactNextGrowingRow.holds Try.pinned (OpenSpec.ofChange fnExactNextGrowingWrong)

/- THE SECOND FORM. 'bulk': how many values and letters a reading holds, each counted each time it is reached (what is shared counts as often as it is met; a slice's spare places count too). A statement '..UptoSaid' is the law's where the arguments, and the package variables that the reading takes, are together of bulk at most 1048576: NARROWER than '..Said'. Prove '..Said' where nothing that the law and all that it calls make is longer than what came in: it says more and counts as full. Else prove '..UptoSaid'. A law counts once. -/
mutual
def uptoBulk {H : Type} : DataW H → Nat
  | .lit (.string bytes) => bytes.length + 1
  | .lit _ => 1
  | .nil => 1
  | .ptr d => uptoBulk d + 1
  | .slice elems spare => uptoBulkAll elems + uptoBulkAll spare + 1
  | .agg parts => uptoBulkAll parts + 1
  | .iface _ d => uptoBulk d + 1
  | .map entries => uptoBulkEntries entries + 1
  | .held _ => 1
def uptoBulkAll {H : Type} : List (DataW H) → Nat
  | [] => 0
  | d :: r => uptoBulk d + uptoBulkAll r
def uptoBulkEntries {H : Type} : List (Lit × DataW H) → Nat
  | [] => 0
  | x :: r => uptoBulkEntry x + uptoBulkEntries r
def uptoBulkEntry {H : Type} : Lit × DataW H → Nat
  | (.string bytes, d) => bytes.length + uptoBulk d + 1
  | (_, d) => uptoBulk d + 1
 end
def uptoSmall : (H : Type) → List (DataW H) → Bool := fun _ ds => decide (uptoBulkAll ds ≤ 1048576)
def OpenSpec.upto (s : _root_.Go.ChangeSpec) : _root_.Go.OpenSpec := { _root_.Go.OpenSpec.ofChange s with cond := some uptoSmall }

/-- 'laws.FnExactIsPattern', WHERE WHAT IT READS IS OF BULK AT MOST 1048576: true; the input reads as it did. -/
def fnExactIsPatternUptoRow : OpenClaim := { program := "ytbdmmeoelagdcaa", sum := "c8432b6800519048d57d7c93d9899b52fa138d2c72b80fdfe20e7d72d0d69ddd", func := "loop.example/g01391/laws.FnExactIsPattern", spec := "fnExactIsPattern", inPlace := ["internal/bytealg.IndexByteString", "internal/bytealg.CountString", "internal/bytealg.IndexString"], recurses := true, named := ["internal/bytealg.MaxLen"], apart := false, narrowed := true }
def FnExactIsPatternUptoSaid : Prop := fnExactIsPatternUptoRow.holds Try.pinned (OpenSpec.upto fnExactIsPatternSpec)

/-- 'laws.FnExactMatchesAt', WHERE WHAT IT READS IS OF BULK AT MOST 1048576: true; the input reads as it did. -/
def fnExactMatchesAtUptoRow : OpenClaim := { program := "ytbdmmeoelagdcaa", sum := "c8432b6800519048d57d7c93d9899b52fa138d2c72b80fdfe20e7d72d0d69ddd", func := "loop.example/g01391/laws.FnExactMatchesAt", spec := "fnExactMatchesAt", inPlace := ["internal/bytealg.IndexByteString", "internal/bytealg.CountString", "internal/bytealg.IndexString"], unfollowed := true, recurses := true, named := ["internal/bytealg.MaxLen"], apart := false, narrowed := true }
def FnExactMatchesAtUptoSaid : Prop := fnExactMatchesAtUptoRow.holds Try.pinned (OpenSpec.upto fnExactMatchesAtSpec)

/-- 'laws.FnExactMatchedNodes', WHERE WHAT IT READS IS OF BULK AT MOST 1048576: true; the input reads as it did. -/
def fnExactMatchedNodesUptoRow : OpenClaim := { program := "ytbdmmeoelagdcaa", sum := "c8432b6800519048d57d7c93d9899b52fa138d2c72b80fdfe20e7d72d0d69ddd", func := "loop.example/g01391/laws.FnExactMatchedNodes", spec := "fnExactMatchedNodes", inPlace := ["internal/bytealg.IndexByteString", "internal/bytealg.CountString", "internal/bytealg.IndexString"], unfollowed := true, recurses := true, named := ["internal/bytealg.MaxLen"], apart := false, narrowed := true }
def FnExactMatchedNodesUptoSaid : Prop := fnExactMatchedNodesUptoRow.holds Try.pinned (OpenSpec.upto fnExactMatchedNodesSpec)

/-- 'laws.FnExactOpenTrees', WHERE WHAT IT READS IS OF BULK AT MOST 1048576: true; the input reads as it did. -/
def fnExactOpenTreesUptoRow : OpenClaim := { program := "ytbdmmeoelagdcaa", sum := "c8432b6800519048d57d7c93d9899b52fa138d2c72b80fdfe20e7d72d0d69ddd", func := "loop.example/g01391/laws.FnExactOpenTrees", spec := "fnExactOpenTrees", inPlace := ["internal/bytealg.IndexByteString", "internal/bytealg.CountString", "internal/bytealg.IndexString"], unfollowed := true, recurses := true, named := ["internal/bytealg.MaxLen"], apart := false, narrowed := true }
def FnExactOpenTreesUptoSaid : Prop := fnExactOpenTreesUptoRow.holds Try.pinned (OpenSpec.upto fnExactOpenTreesSpec)

/-- 'laws.FnExactFillPattern', WHERE WHAT IT READS IS OF BULK AT MOST 1048576: true; the input reads as it did. -/
def fnExactFillPatternUptoRow : OpenClaim := { program := "ytbdmmeoelagdcaa", sum := "c8432b6800519048d57d7c93d9899b52fa138d2c72b80fdfe20e7d72d0d69ddd", func := "loop.example/g01391/laws.FnExactFillPattern", spec := "fnExactFillPattern", inPlace := ["internal/bytealg.IndexByteString", "internal/bytealg.CountString", "internal/bytealg.IndexString"], unfollowed := true, recurses := true, named := ["internal/bytealg.MaxLen"], apart := false, narrowed := true }
def FnExactFillPatternUptoSaid : Prop := fnExactFillPatternUptoRow.holds Try.pinned (OpenSpec.upto fnExactFillPatternSpec)

/-- 'laws.FnExactIsMoreGeneral', WHERE WHAT IT READS IS OF BULK AT MOST 1048576: true; the input reads as it did. -/
def fnExactIsMoreGeneralUptoRow : OpenClaim := { program := "ytbdmmeoelagdcaa", sum := "c8432b6800519048d57d7c93d9899b52fa138d2c72b80fdfe20e7d72d0d69ddd", func := "loop.example/g01391/laws.FnExactIsMoreGeneral", spec := "fnExactIsMoreGeneral", inPlace := ["internal/bytealg.IndexByteString", "internal/bytealg.CountString", "internal/bytealg.IndexString"], recurses := true, named := ["internal/bytealg.MaxLen"], apart := false, narrowed := true }
def FnExactIsMoreGeneralUptoSaid : Prop := fnExactIsMoreGeneralUptoRow.holds Try.pinned (OpenSpec.upto fnExactIsMoreGeneralSpec)

/-- 'laws.FnExactCommonPattern', WHERE WHAT IT READS IS OF BULK AT MOST 1048576: true; the input reads as it did. -/
def fnExactCommonPatternUptoRow : OpenClaim := { program := "ytbdmmeoelagdcaa", sum := "c8432b6800519048d57d7c93d9899b52fa138d2c72b80fdfe20e7d72d0d69ddd", func := "loop.example/g01391/laws.FnExactCommonPattern", spec := "fnExactCommonPattern", inPlace := ["internal/bytealg.IndexByteString", "internal/bytealg.CountString", "internal/bytealg.IndexString"], recurses := true, named := ["internal/bytealg.MaxLen"], apart := false, narrowed := true }
def FnExactCommonPatternUptoSaid : Prop := fnExactCommonPatternUptoRow.holds Try.pinned (OpenSpec.upto fnExactCommonPatternSpec)

/-- 'laws.FnExactCountAvoiding', WHERE WHAT IT READS IS OF BULK AT MOST 1048576: true; the input reads as it did. -/
def fnExactCountAvoidingUptoRow : OpenClaim := { program := "ytbdmmeoelagdcaa", sum := "c8432b6800519048d57d7c93d9899b52fa138d2c72b80fdfe20e7d72d0d69ddd", func := "loop.example/g01391/laws.FnExactCountAvoiding", spec := "fnExactCountAvoiding", inPlace := ["internal/bytealg.IndexByteString", "internal/bytealg.CountString", "internal/bytealg.IndexString"], unfollowed := true, recurses := true, named := ["internal/bytealg.MaxLen"], apart := false, narrowed := true }
def FnExactCountAvoidingUptoSaid : Prop := fnExactCountAvoidingUptoRow.holds Try.pinned (OpenSpec.upto fnExactCountAvoidingSpec)

/-- 'laws.FnExactFirstAvoiding', WHERE WHAT IT READS IS OF BULK AT MOST 1048576: true; the input reads as it did. -/
def fnExactFirstAvoidingUptoRow : OpenClaim := { program := "ytbdmmeoelagdcaa", sum := "c8432b6800519048d57d7c93d9899b52fa138d2c72b80fdfe20e7d72d0d69ddd", func := "loop.example/g01391/laws.FnExactFirstAvoiding", spec := "fnExactFirstAvoiding", inPlace := ["internal/bytealg.IndexByteString", "internal/bytealg.CountString", "internal/bytealg.IndexString"], unfollowed := true, recurses := true, named := ["internal/bytealg.MaxLen"], apart := false, narrowed := true }
def FnExactFirstAvoidingUptoSaid : Prop := fnExactFirstAvoidingUptoRow.holds Try.pinned (OpenSpec.upto fnExactFirstAvoidingSpec)

/-- 'laws.FnExactIsRule', WHERE WHAT IT READS IS OF BULK AT MOST 1048576: true; the input reads as it did. -/
def fnExactIsRuleUptoRow : OpenClaim := { program := "ytbdmmeoelagdcaa", sum := "c8432b6800519048d57d7c93d9899b52fa138d2c72b80fdfe20e7d72d0d69ddd", func := "loop.example/g01391/laws.FnExactIsRule", spec := "fnExactIsRule", inPlace := ["internal/bytealg.IndexByteString", "internal/bytealg.CountString", "internal/bytealg.IndexString"], unfollowed := true, recurses := true, named := ["internal/bytealg.MaxLen"], apart := false, narrowed := true }
def FnExactIsRuleUptoSaid : Prop := fnExactIsRuleUptoRow.holds Try.pinned (OpenSpec.upto fnExactIsRuleSpec)

/-- 'laws.FnExactRuleText', WHERE WHAT IT READS IS OF BULK AT MOST 1048576: true; the input reads as it did. -/
def fnExactRuleTextUptoRow : OpenClaim := { program := "ytbdmmeoelagdcaa", sum := "c8432b6800519048d57d7c93d9899b52fa138d2c72b80fdfe20e7d72d0d69ddd", func := "loop.example/g01391/laws.FnExactRuleText", spec := "fnExactRuleText", inPlace := ["internal/bytealg.IndexByteString", "internal/bytealg.CountString", "internal/bytealg.IndexString"], unfollowed := true, recurses := true, named := ["internal/bytealg.MaxLen"], apart := false, narrowed := true }
def FnExactRuleTextUptoSaid : Prop := fnExactRuleTextUptoRow.holds Try.pinned (OpenSpec.upto fnExactRuleTextSpec)

/-- 'laws.FnExactParseRule', WHERE WHAT IT READS IS OF BULK AT MOST 1048576: true; the input reads as it did. -/
def fnExactParseRuleUptoRow : OpenClaim := { program := "ytbdmmeoelagdcaa", sum := "c8432b6800519048d57d7c93d9899b52fa138d2c72b80fdfe20e7d72d0d69ddd", func := "loop.example/g01391/laws.FnExactParseRule", spec := "fnExactParseRule", inPlace := ["internal/bytealg.IndexByteString", "internal/bytealg.IndexString", "internal/bytealg.CountString"], unfollowed := true, recurses := true, named := ["internal/bytealg.MaxLen"], apart := false, narrowed := true }
def FnExactParseRuleUptoSaid : Prop := fnExactParseRuleUptoRow.holds Try.pinned (OpenSpec.upto fnExactParseRuleSpec)

/-- 'laws.FnExactCriticalPlaces', WHERE WHAT IT READS IS OF BULK AT MOST 1048576: true; the input reads as it did. -/
def fnExactCriticalPlacesUptoRow : OpenClaim := { program := "ytbdmmeoelagdcaa", sum := "c8432b6800519048d57d7c93d9899b52fa138d2c72b80fdfe20e7d72d0d69ddd", func := "loop.example/g01391/laws.FnExactCriticalPlaces", spec := "fnExactCriticalPlaces", inPlace := ["internal/bytealg.IndexByteString", "internal/bytealg.CountString", "internal/bytealg.IndexString"], unfollowed := true, recurses := true, named := ["internal/bytealg.MaxLen"], apart := false, narrowed := true }
def FnExactCriticalPlacesUptoSaid : Prop := fnExactCriticalPlacesUptoRow.holds Try.pinned (OpenSpec.upto fnExactCriticalPlacesSpec)

/-- 'laws.FnExactCountGrowing', WHERE WHAT IT READS IS OF BULK AT MOST 1048576: true; the input reads as it did. -/
def fnExactCountGrowingUptoRow : OpenClaim := { program := "ytbdmmeoelagdcaa", sum := "c8432b6800519048d57d7c93d9899b52fa138d2c72b80fdfe20e7d72d0d69ddd", func := "loop.example/g01391/laws.FnExactCountGrowing", spec := "fnExactCountGrowing", unfollowed := true, recurses := true, apart := false, narrowed := true }
def FnExactCountGrowingUptoSaid : Prop := fnExactCountGrowingUptoRow.holds Try.pinned (OpenSpec.upto fnExactCountGrowingSpec)

/-- 'laws.FnExactNextGrowing', WHERE WHAT IT READS IS OF BULK AT MOST 1048576: true; the input reads as it did. -/
def fnExactNextGrowingUptoRow : OpenClaim := { program := "ytbdmmeoelagdcaa", sum := "c8432b6800519048d57d7c93d9899b52fa138d2c72b80fdfe20e7d72d0d69ddd", func := "loop.example/g01391/laws.FnExactNextGrowing", spec := "fnExactNextGrowing", unfollowed := true, recurses := true, apart := false, narrowed := true }
def FnExactNextGrowingUptoSaid : Prop := fnExactNextGrowingUptoRow.holds Try.pinned (OpenSpec.upto fnExactNextGrowingSpec)

end Rows
end Go.Proofs.Ytbdmmeoelagdcaa
