/-
  No cell of these rows narrows 'for every input' (looked for: loops, veiled, ifaces, maps, wideKeys, modest, calm, conditions, laid).
  DERIVED. THE GIVEN ROWS OF THIS SEAT. 11 by the template 'for every input the law returns true; each argument reads behind the call as it read before'; 0 by the template 'total and deterministic' (their statements: YtemfaginhipihabTotals.lean).
  GIVEN WITH THE SEED: the statements are not yours to turn. If you find one false, say at which input.
  Laid BY PROGRAM, IN A SANDBOX (cutbox-rows.mjs): the forced cells as the released guide's own fill.sh prints them over the translation b16dd121c5a5a55f… (all of the seat's roots in one cut). By AI agents, Wed Nov 11 2026. No macro, syntax, notation, axiom, sorry.
-/
import Derived.Test.YtemfaginhipihabChecked
import GoSem.Claim
import GoSem.ClaimJoined
import GoSem.ClaimMapViews
import Derived.JoinedTies
import Derived.KernelRfl
namespace Go.Proofs.Ytemfaginhipihab
/- THE CELL 'sum', in the pinned program and in every row, IS THE sha256 OF THE DUMP (.gsa) THAT YtemfaginhipihabProg.lean LOADS. Nothing in Lean hashes anything: it is a label: what it is worth is what the hold of that sum in a sandbox is worth. -/
noncomputable def Try.pinned : Pinned := { name := "ytemfaginhipihab", sum := "b16dd121c5a5a55fe8acbe20225699035f37d7132390b4a3b5562bae6f28e141", checked := Try.checked }
namespace Rows
def none {H : Type} : Left H := { results := [], args := [] }

/-- 'laws.FnExactMirrorOf': WHATEVER THE INPUT: true; the input reads as it did. -/
def fnExactMirrorOfSpec : ChangeSpec := { name := "fnExactMirrorOf", fn := fun _ => fun
  | [d] => { results := [.lit (.bool true)], args := [d] }
  | _ => none }
def fnExactMirrorOfRow : OpenClaim := { program := "ytemfaginhipihab", sum := "b16dd121c5a5a55fe8acbe20225699035f37d7132390b4a3b5562bae6f28e141", func := "loop.example/g01391/laws.FnExactMirrorOf", spec := "fnExactMirrorOf", unfollowed := true, recurses := true, apart := false }
def FnExactMirrorOfSaid : Prop := fnExactMirrorOfRow.holds Try.pinned (OpenSpec.ofChange fnExactMirrorOfSpec)

/-- ITS FALSE NEIGHBOUR: 'it returns false'. Refute it at one input. -/
def fnExactMirrorOfWrong : ChangeSpec := { name := "fnExactMirrorOf", fn := fun _ => fun
  | [d] => { results := [.lit (.bool false)], args := [d] }
  | _ => none }
def FnExactMirrorOfWrongFalsely : Prop := fnExactMirrorOfRow.holds Try.pinned (OpenSpec.ofChange fnExactMirrorOfWrong)

/-- 'laws.FnExactJoinTrees': WHATEVER THE INPUT: true; the input reads as it did. -/
def fnExactJoinTreesSpec : ChangeSpec := { name := "fnExactJoinTrees", fn := fun _ => fun
  | [d] => { results := [.lit (.bool true)], args := [d] }
  | _ => none }
def fnExactJoinTreesRow : OpenClaim := { program := "ytemfaginhipihab", sum := "b16dd121c5a5a55fe8acbe20225699035f37d7132390b4a3b5562bae6f28e141", func := "loop.example/g01391/laws.FnExactJoinTrees", spec := "fnExactJoinTrees", apart := false }
def FnExactJoinTreesSaid : Prop := fnExactJoinTreesRow.holds Try.pinned (OpenSpec.ofChange fnExactJoinTreesSpec)

/-- ITS FALSE NEIGHBOUR: 'it returns false'. Refute it at one input. -/
def fnExactJoinTreesWrong : ChangeSpec := { name := "fnExactJoinTrees", fn := fun _ => fun
  | [d] => { results := [.lit (.bool false)], args := [d] }
  | _ => none }
def FnExactJoinTreesWrongFalsely : Prop := fnExactJoinTreesRow.holds Try.pinned (OpenSpec.ofChange fnExactJoinTreesWrong)

/-- 'laws.FnExactReplaceAt': WHATEVER THE INPUT: true; the input reads as it did. -/
def fnExactReplaceAtSpec : ChangeSpec := { name := "fnExactReplaceAt", fn := fun _ => fun
  | [d1, d2, d3] => { results := [.lit (.bool true)], args := [d1, d2, d3] }
  | _ => none }
def fnExactReplaceAtRow : OpenClaim := { program := "ytemfaginhipihab", sum := "b16dd121c5a5a55fe8acbe20225699035f37d7132390b4a3b5562bae6f28e141", func := "loop.example/g01391/laws.FnExactReplaceAt", spec := "fnExactReplaceAt", apart := false }
def FnExactReplaceAtSaid : Prop := fnExactReplaceAtRow.holds Try.pinned (OpenSpec.ofChange fnExactReplaceAtSpec)

/-- ITS FALSE NEIGHBOUR: 'it returns false'. Refute it at one input. -/
def fnExactReplaceAtWrong : ChangeSpec := { name := "fnExactReplaceAt", fn := fun _ => fun
  | [d1, d2, d3] => { results := [.lit (.bool false)], args := [d1, d2, d3] }
  | _ => none }
def FnExactReplaceAtWrongFalsely : Prop := fnExactReplaceAtRow.holds Try.pinned (OpenSpec.ofChange fnExactReplaceAtWrong)

/-- 'laws.FnExactRemoveAt': WHATEVER THE INPUT: true; the input reads as it did. -/
def fnExactRemoveAtSpec : ChangeSpec := { name := "fnExactRemoveAt", fn := fun _ => fun
  | [d1, d2] => { results := [.lit (.bool true)], args := [d1, d2] }
  | _ => none }
def fnExactRemoveAtRow : OpenClaim := { program := "ytemfaginhipihab", sum := "b16dd121c5a5a55fe8acbe20225699035f37d7132390b4a3b5562bae6f28e141", func := "loop.example/g01391/laws.FnExactRemoveAt", spec := "fnExactRemoveAt", unfollowed := true, recurses := true, apart := false }
def FnExactRemoveAtSaid : Prop := fnExactRemoveAtRow.holds Try.pinned (OpenSpec.ofChange fnExactRemoveAtSpec)

/-- ITS FALSE NEIGHBOUR: 'it returns false'. Refute it at one input. -/
def fnExactRemoveAtWrong : ChangeSpec := { name := "fnExactRemoveAt", fn := fun _ => fun
  | [d1, d2] => { results := [.lit (.bool false)], args := [d1, d2] }
  | _ => none }
def FnExactRemoveAtWrongFalsely : Prop := fnExactRemoveAtRow.holds Try.pinned (OpenSpec.ofChange fnExactRemoveAtWrong)

/-- 'laws.FnExactPostorderOf': WHATEVER THE INPUT: true; the input reads as it did. -/
def fnExactPostorderOfSpec : ChangeSpec := { name := "fnExactPostorderOf", fn := fun _ => fun
  | [d] => { results := [.lit (.bool true)], args := [d] }
  | _ => none }
def fnExactPostorderOfRow : OpenClaim := { program := "ytemfaginhipihab", sum := "b16dd121c5a5a55fe8acbe20225699035f37d7132390b4a3b5562bae6f28e141", func := "loop.example/g01391/laws.FnExactPostorderOf", spec := "fnExactPostorderOf", unfollowed := true, recurses := true, apart := false }
def FnExactPostorderOfSaid : Prop := fnExactPostorderOfRow.holds Try.pinned (OpenSpec.ofChange fnExactPostorderOfSpec)

/-- ITS FALSE NEIGHBOUR: 'it returns false'. Refute it at one input. -/
def fnExactPostorderOfWrong : ChangeSpec := { name := "fnExactPostorderOf", fn := fun _ => fun
  | [d] => { results := [.lit (.bool false)], args := [d] }
  | _ => none }
def FnExactPostorderOfWrongFalsely : Prop := fnExactPostorderOfRow.holds Try.pinned (OpenSpec.ofChange fnExactPostorderOfWrong)

/-- 'laws.FnExactLevelOrderOf': WHATEVER THE INPUT: true; the input reads as it did. -/
def fnExactLevelOrderOfSpec : ChangeSpec := { name := "fnExactLevelOrderOf", fn := fun _ => fun
  | [d] => { results := [.lit (.bool true)], args := [d] }
  | _ => none }
def fnExactLevelOrderOfRow : OpenClaim := { program := "ytemfaginhipihab", sum := "b16dd121c5a5a55fe8acbe20225699035f37d7132390b4a3b5562bae6f28e141", func := "loop.example/g01391/laws.FnExactLevelOrderOf", spec := "fnExactLevelOrderOf", unfollowed := true, recurses := true, apart := false }
def FnExactLevelOrderOfSaid : Prop := fnExactLevelOrderOfRow.holds Try.pinned (OpenSpec.ofChange fnExactLevelOrderOfSpec)

/-- ITS FALSE NEIGHBOUR: 'it returns false'. Refute it at one input. -/
def fnExactLevelOrderOfWrong : ChangeSpec := { name := "fnExactLevelOrderOf", fn := fun _ => fun
  | [d] => { results := [.lit (.bool false)], args := [d] }
  | _ => none }
def FnExactLevelOrderOfWrongFalsely : Prop := fnExactLevelOrderOfRow.holds Try.pinned (OpenSpec.ofChange fnExactLevelOrderOfWrong)

/-- 'laws.FnExactIsBelow': WHATEVER THE INPUT: true; the input reads as it did. -/
def fnExactIsBelowSpec : ChangeSpec := { name := "fnExactIsBelow", fn := fun _ => fun
  | [d1, d2, d3] => { results := [.lit (.bool true)], args := [d1, d2, d3] }
  | _ => none }
def fnExactIsBelowRow : OpenClaim := { program := "ytemfaginhipihab", sum := "b16dd121c5a5a55fe8acbe20225699035f37d7132390b4a3b5562bae6f28e141", func := "loop.example/g01391/laws.FnExactIsBelow", spec := "fnExactIsBelow", apart := false }
def FnExactIsBelowSaid : Prop := fnExactIsBelowRow.holds Try.pinned (OpenSpec.ofChange fnExactIsBelowSpec)

/-- ITS FALSE NEIGHBOUR: 'it returns false'. Refute it at one input. -/
def fnExactIsBelowWrong : ChangeSpec := { name := "fnExactIsBelow", fn := fun _ => fun
  | [d1, d2, d3] => { results := [.lit (.bool false)], args := [d1, d2, d3] }
  | _ => none }
def FnExactIsBelowWrongFalsely : Prop := fnExactIsBelowRow.holds Try.pinned (OpenSpec.ofChange fnExactIsBelowWrong)

/-- 'laws.FnExactMeetOf': WHATEVER THE INPUT: true; the input reads as it did. -/
def fnExactMeetOfSpec : ChangeSpec := { name := "fnExactMeetOf", fn := fun _ => fun
  | [d1, d2, d3] => { results := [.lit (.bool true)], args := [d1, d2, d3] }
  | _ => none }
def fnExactMeetOfRow : OpenClaim := { program := "ytemfaginhipihab", sum := "b16dd121c5a5a55fe8acbe20225699035f37d7132390b4a3b5562bae6f28e141", func := "loop.example/g01391/laws.FnExactMeetOf", spec := "fnExactMeetOf", apart := false }
def FnExactMeetOfSaid : Prop := fnExactMeetOfRow.holds Try.pinned (OpenSpec.ofChange fnExactMeetOfSpec)

/-- ITS FALSE NEIGHBOUR: 'it returns false'. Refute it at one input. -/
def fnExactMeetOfWrong : ChangeSpec := { name := "fnExactMeetOf", fn := fun _ => fun
  | [d1, d2, d3] => { results := [.lit (.bool false)], args := [d1, d2, d3] }
  | _ => none }
def FnExactMeetOfWrongFalsely : Prop := fnExactMeetOfRow.holds Try.pinned (OpenSpec.ofChange fnExactMeetOfWrong)

/-- 'laws.FnExactCompareTrees': WHATEVER THE INPUT: true; the input reads as it did. -/
def fnExactCompareTreesSpec : ChangeSpec := { name := "fnExactCompareTrees", fn := fun _ => fun
  | [d1, d2] => { results := [.lit (.bool true)], args := [d1, d2] }
  | _ => none }
def fnExactCompareTreesRow : OpenClaim := { program := "ytemfaginhipihab", sum := "b16dd121c5a5a55fe8acbe20225699035f37d7132390b4a3b5562bae6f28e141", func := "loop.example/g01391/laws.FnExactCompareTrees", spec := "fnExactCompareTrees", apart := false }
def FnExactCompareTreesSaid : Prop := fnExactCompareTreesRow.holds Try.pinned (OpenSpec.ofChange fnExactCompareTreesSpec)

/-- ITS FALSE NEIGHBOUR: 'it returns false'. Refute it at one input. -/
def fnExactCompareTreesWrong : ChangeSpec := { name := "fnExactCompareTrees", fn := fun _ => fun
  | [d1, d2] => { results := [.lit (.bool false)], args := [d1, d2] }
  | _ => none }
def FnExactCompareTreesWrongFalsely : Prop := fnExactCompareTreesRow.holds Try.pinned (OpenSpec.ofChange fnExactCompareTreesWrong)

/-- 'laws.FnExactTreeText': WHATEVER THE INPUT: true; the input reads as it did. -/
def fnExactTreeTextSpec : ChangeSpec := { name := "fnExactTreeText", fn := fun _ => fun
  | [d] => { results := [.lit (.bool true)], args := [d] }
  | _ => none }
def fnExactTreeTextRow : OpenClaim := { program := "ytemfaginhipihab", sum := "b16dd121c5a5a55fe8acbe20225699035f37d7132390b4a3b5562bae6f28e141", func := "loop.example/g01391/laws.FnExactTreeText", spec := "fnExactTreeText", unfollowed := true, recurses := true, apart := false }
def FnExactTreeTextSaid : Prop := fnExactTreeTextRow.holds Try.pinned (OpenSpec.ofChange fnExactTreeTextSpec)

/-- ITS FALSE NEIGHBOUR: 'it returns false'. Refute it at one input. -/
def fnExactTreeTextWrong : ChangeSpec := { name := "fnExactTreeText", fn := fun _ => fun
  | [d] => { results := [.lit (.bool false)], args := [d] }
  | _ => none }
def FnExactTreeTextWrongFalsely : Prop := fnExactTreeTextRow.holds Try.pinned (OpenSpec.ofChange fnExactTreeTextWrong)

/-- 'laws.FnExactParseTree': WHATEVER THE INPUT: true; the input reads as it did. -/
def fnExactParseTreeSpec : ChangeSpec := { name := "fnExactParseTree", fn := fun _ => fun
  | [d] => { results := [.lit (.bool true)], args := [d] }
  | _ => none }
def fnExactParseTreeRow : OpenClaim := { program := "ytemfaginhipihab", sum := "b16dd121c5a5a55fe8acbe20225699035f37d7132390b4a3b5562bae6f28e141", func := "loop.example/g01391/laws.FnExactParseTree", spec := "fnExactParseTree", apart := false }
def FnExactParseTreeSaid : Prop := fnExactParseTreeRow.holds Try.pinned (OpenSpec.ofChange fnExactParseTreeSpec)

/-- ITS FALSE NEIGHBOUR: 'it returns false'. Refute it at one input. -/
def fnExactParseTreeWrong : ChangeSpec := { name := "fnExactParseTree", fn := fun _ => fun
  | [d] => { results := [.lit (.bool false)], args := [d] }
  | _ => none }
def FnExactParseTreeWrongFalsely : Prop := fnExactParseTreeRow.holds Try.pinned (OpenSpec.ofChange fnExactParseTreeWrong)

/- THE SECOND FORM. 'bulk': how many values and letters a reading holds, each counted each time it is reached (what is shared counts as often as it is met; a slice's spare places count too). A statement '..UptoSaid' is the law's where the arguments, and the package variables that the reading takes, are together of bulk at most 1048576: NARROWER than '..Said'. Prove '..Said' where nothing that the law and all that it calls make is longer than what came in: it says more and counts as full. Else prove '..UptoSaid'. A law counts once. -/
mutual
def uptoBulk {H : Type} : DataW H → Nat
  | .lit (.string bytes) => bytes.length + 1
  | .lit _ => 1
  | .nil => 1
  | .ptr d => uptoBulk d + 1
  | .slice elems spare => uptoBulkAll elems + uptoBulkAll spare + 1
  | .agg parts => uptoBulkAll parts + 1
  | .iface _ d => uptoBulk d + 1
  | .map entries => uptoBulkEntries entries + 1
  | .held _ => 1
def uptoBulkAll {H : Type} : List (DataW H) → Nat
  | [] => 0
  | d :: r => uptoBulk d + uptoBulkAll r
def uptoBulkEntries {H : Type} : List (Lit × DataW H) → Nat
  | [] => 0
  | x :: r => uptoBulkEntry x + uptoBulkEntries r
def uptoBulkEntry {H : Type} : Lit × DataW H → Nat
  | (.string bytes, d) => bytes.length + uptoBulk d + 1
  | (_, d) => uptoBulk d + 1
 end
def uptoSmall : (H : Type) → List (DataW H) → Bool := fun _ ds => decide (uptoBulkAll ds ≤ 1048576)
def OpenSpec.upto (s : _root_.Go.ChangeSpec) : _root_.Go.OpenSpec := { _root_.Go.OpenSpec.ofChange s with cond := some uptoSmall }

/-- 'laws.FnExactMirrorOf', WHERE WHAT IT READS IS OF BULK AT MOST 1048576: true; the input reads as it did. -/
def fnExactMirrorOfUptoRow : OpenClaim := { program := "ytemfaginhipihab", sum := "b16dd121c5a5a55fe8acbe20225699035f37d7132390b4a3b5562bae6f28e141", func := "loop.example/g01391/laws.FnExactMirrorOf", spec := "fnExactMirrorOf", unfollowed := true, recurses := true, apart := false, narrowed := true }
def FnExactMirrorOfUptoSaid : Prop := fnExactMirrorOfUptoRow.holds Try.pinned (OpenSpec.upto fnExactMirrorOfSpec)

/-- 'laws.FnExactJoinTrees', WHERE WHAT IT READS IS OF BULK AT MOST 1048576: true; the input reads as it did. -/
def fnExactJoinTreesUptoRow : OpenClaim := { program := "ytemfaginhipihab", sum := "b16dd121c5a5a55fe8acbe20225699035f37d7132390b4a3b5562bae6f28e141", func := "loop.example/g01391/laws.FnExactJoinTrees", spec := "fnExactJoinTrees", apart := false, narrowed := true }
def FnExactJoinTreesUptoSaid : Prop := fnExactJoinTreesUptoRow.holds Try.pinned (OpenSpec.upto fnExactJoinTreesSpec)

/-- 'laws.FnExactReplaceAt', WHERE WHAT IT READS IS OF BULK AT MOST 1048576: true; the input reads as it did. -/
def fnExactReplaceAtUptoRow : OpenClaim := { program := "ytemfaginhipihab", sum := "b16dd121c5a5a55fe8acbe20225699035f37d7132390b4a3b5562bae6f28e141", func := "loop.example/g01391/laws.FnExactReplaceAt", spec := "fnExactReplaceAt", apart := false, narrowed := true }
def FnExactReplaceAtUptoSaid : Prop := fnExactReplaceAtUptoRow.holds Try.pinned (OpenSpec.upto fnExactReplaceAtSpec)

/-- 'laws.FnExactRemoveAt', WHERE WHAT IT READS IS OF BULK AT MOST 1048576: true; the input reads as it did. -/
def fnExactRemoveAtUptoRow : OpenClaim := { program := "ytemfaginhipihab", sum := "b16dd121c5a5a55fe8acbe20225699035f37d7132390b4a3b5562bae6f28e141", func := "loop.example/g01391/laws.FnExactRemoveAt", spec := "fnExactRemoveAt", unfollowed := true, recurses := true, apart := false, narrowed := true }
def FnExactRemoveAtUptoSaid : Prop := fnExactRemoveAtUptoRow.holds Try.pinned (OpenSpec.upto fnExactRemoveAtSpec)

/-- 'laws.FnExactPostorderOf', WHERE WHAT IT READS IS OF BULK AT MOST 1048576: true; the input reads as it did. -/
def fnExactPostorderOfUptoRow : OpenClaim := { program := "ytemfaginhipihab", sum := "b16dd121c5a5a55fe8acbe20225699035f37d7132390b4a3b5562bae6f28e141", func := "loop.example/g01391/laws.FnExactPostorderOf", spec := "fnExactPostorderOf", unfollowed := true, recurses := true, apart := false, narrowed := true }
def FnExactPostorderOfUptoSaid : Prop := fnExactPostorderOfUptoRow.holds Try.pinned (OpenSpec.upto fnExactPostorderOfSpec)

/-- 'laws.FnExactLevelOrderOf', WHERE WHAT IT READS IS OF BULK AT MOST 1048576: true; the input reads as it did. -/
def fnExactLevelOrderOfUptoRow : OpenClaim := { program := "ytemfaginhipihab", sum := "b16dd121c5a5a55fe8acbe20225699035f37d7132390b4a3b5562bae6f28e141", func := "loop.example/g01391/laws.FnExactLevelOrderOf", spec := "fnExactLevelOrderOf", unfollowed := true, recurses := true, apart := false, narrowed := true }
def FnExactLevelOrderOfUptoSaid : Prop := fnExactLevelOrderOfUptoRow.holds Try.pinned (OpenSpec.upto fnExactLevelOrderOfSpec)

/-- 'laws.FnExactIsBelow', WHERE WHAT IT READS IS OF BULK AT MOST 1048576: true; the input reads as it did. -/
def fnExactIsBelowUptoRow : OpenClaim := { program := "ytemfaginhipihab", sum := "b16dd121c5a5a55fe8acbe20225699035f37d7132390b4a3b5562bae6f28e141", func := "loop.example/g01391/laws.FnExactIsBelow", spec := "fnExactIsBelow", apart := false, narrowed := true }
def FnExactIsBelowUptoSaid : Prop := fnExactIsBelowUptoRow.holds Try.pinned (OpenSpec.upto fnExactIsBelowSpec)

/-- 'laws.FnExactMeetOf', WHERE WHAT IT READS IS OF BULK AT MOST 1048576: true; the input reads as it did. -/
def fnExactMeetOfUptoRow : OpenClaim := { program := "ytemfaginhipihab", sum := "b16dd121c5a5a55fe8acbe20225699035f37d7132390b4a3b5562bae6f28e141", func := "loop.example/g01391/laws.FnExactMeetOf", spec := "fnExactMeetOf", apart := false, narrowed := true }
def FnExactMeetOfUptoSaid : Prop := fnExactMeetOfUptoRow.holds Try.pinned (OpenSpec.upto fnExactMeetOfSpec)

/-- 'laws.FnExactCompareTrees', WHERE WHAT IT READS IS OF BULK AT MOST 1048576: true; the input reads as it did. -/
def fnExactCompareTreesUptoRow : OpenClaim := { program := "ytemfaginhipihab", sum := "b16dd121c5a5a55fe8acbe20225699035f37d7132390b4a3b5562bae6f28e141", func := "loop.example/g01391/laws.FnExactCompareTrees", spec := "fnExactCompareTrees", apart := false, narrowed := true }
def FnExactCompareTreesUptoSaid : Prop := fnExactCompareTreesUptoRow.holds Try.pinned (OpenSpec.upto fnExactCompareTreesSpec)

/-- 'laws.FnExactTreeText', WHERE WHAT IT READS IS OF BULK AT MOST 1048576: true; the input reads as it did. -/
def fnExactTreeTextUptoRow : OpenClaim := { program := "ytemfaginhipihab", sum := "b16dd121c5a5a55fe8acbe20225699035f37d7132390b4a3b5562bae6f28e141", func := "loop.example/g01391/laws.FnExactTreeText", spec := "fnExactTreeText", unfollowed := true, recurses := true, apart := false, narrowed := true }
def FnExactTreeTextUptoSaid : Prop := fnExactTreeTextUptoRow.holds Try.pinned (OpenSpec.upto fnExactTreeTextSpec)

/-- 'laws.FnExactParseTree', WHERE WHAT IT READS IS OF BULK AT MOST 1048576: true; the input reads as it did. -/
def fnExactParseTreeUptoRow : OpenClaim := { program := "ytemfaginhipihab", sum := "b16dd121c5a5a55fe8acbe20225699035f37d7132390b4a3b5562bae6f28e141", func := "loop.example/g01391/laws.FnExactParseTree", spec := "fnExactParseTree", apart := false, narrowed := true }
def FnExactParseTreeUptoSaid : Prop := fnExactParseTreeUptoRow.holds Try.pinned (OpenSpec.upto fnExactParseTreeSpec)

end Rows
end Go.Proofs.Ytemfaginhipihab
