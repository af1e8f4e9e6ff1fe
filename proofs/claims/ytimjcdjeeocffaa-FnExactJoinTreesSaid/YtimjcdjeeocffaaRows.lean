/-
  No cell of these rows narrows 'for every input' (looked for: loops, veiled, ifaces, maps, wideKeys, modest, calm, conditions, laid).
  DERIVED. THE GIVEN ROWS OF THIS SEAT. 10 by the template 'for every input the law returns true; each argument reads behind the call as it read before'; 0 by the template 'total and deterministic' (their statements: YtimjcdjeeocffaaTotals.lean).
  GIVEN WITH THE SEED: the statements are not yours to turn. If you find one false, say at which input.
  Laid BY PROGRAM, IN A SANDBOX (cutbox-rows.mjs): the forced cells as the released guide's own fill.sh prints them over the translation 04f394de133e6da9… (all of the seat's roots in one cut). By AI agents, Wed Nov 11 2026. No macro, syntax, notation, axiom, sorry.
-/
import Derived.Test.YtimjcdjeeocffaaChecked
import GoSem.Claim
import GoSem.ClaimJoined
import GoSem.ClaimMapViews
import Derived.JoinedTies
import Derived.KernelRfl
namespace Go.Proofs.Ytimjcdjeeocffaa
/- THE CELL 'sum', in the pinned program and in every row, IS THE sha256 OF THE DUMP (.gsa) THAT YtimjcdjeeocffaaProg.lean LOADS. Nothing in Lean hashes anything: it is a label: what it is worth is what the hold of that sum in a sandbox is worth. -/
noncomputable def Try.pinned : Pinned := { name := "ytimjcdjeeocffaa", sum := "04f394de133e6da9074498da8bc3742cf65758e01f254617495fcc5a402fe464", checked := Try.checked }
namespace Rows
def none {H : Type} : Left H := { results := [], args := [] }

/-- 'laws.FnExactMirrorOf': WHATEVER THE INPUT: true; the input reads as it did. -/
def fnExactMirrorOfSpec : ChangeSpec := { name := "fnExactMirrorOf", fn := fun _ => fun
  | [d] => { results := [.lit (.bool true)], args := [d] }
  | _ => none }
def fnExactMirrorOfRow : OpenClaim := { program := "ytimjcdjeeocffaa", sum := "04f394de133e6da9074498da8bc3742cf65758e01f254617495fcc5a402fe464", func := "loop.example/g01391/laws.FnExactMirrorOf", spec := "fnExactMirrorOf", unfollowed := true, recurses := true, plainKeys := false, apart := false }
def FnExactMirrorOfSaid : Prop := fnExactMirrorOfRow.holds Try.pinned (OpenSpec.ofChange fnExactMirrorOfSpec)

/-- ITS FALSE NEIGHBOUR: 'it returns false'. Refute it at one input. -/
def fnExactMirrorOfWrong : ChangeSpec := { name := "fnExactMirrorOf", fn := fun _ => fun
  | [d] => { results := [.lit (.bool false)], args := [d] }
  | _ => none }
def FnExactMirrorOfWrongFalsely : Prop := fnExactMirrorOfRow.holds Try.pinned (OpenSpec.ofChange fnExactMirrorOfWrong)

/-- 'laws.FnExactJoinTrees': WHATEVER THE INPUT: true; the input reads as it did. -/
def fnExactJoinTreesSpec : ChangeSpec := { name := "fnExactJoinTrees", fn := fun _ => fun
  | [d] => { results := [.lit (.bool true)], args := [d] }
  | _ => none }
def fnExactJoinTreesRow : OpenClaim := { program := "ytimjcdjeeocffaa", sum := "04f394de133e6da9074498da8bc3742cf65758e01f254617495fcc5a402fe464", func := "loop.example/g01391/laws.FnExactJoinTrees", spec := "fnExactJoinTrees", plainKeys := false, apart := false }
def FnExactJoinTreesSaid : Prop := fnExactJoinTreesRow.holds Try.pinned (OpenSpec.ofChange fnExactJoinTreesSpec)

/-- ITS FALSE NEIGHBOUR: 'it returns false'. Refute it at one input. -/
def fnExactJoinTreesWrong : ChangeSpec := { name := "fnExactJoinTrees", fn := fun _ => fun
  | [d] => { results := [.lit (.bool false)], args := [d] }
  | _ => none }
def FnExactJoinTreesWrongFalsely : Prop := fnExactJoinTreesRow.holds Try.pinned (OpenSpec.ofChange fnExactJoinTreesWrong)

/-- 'laws.FnExactReplaceAt': WHATEVER THE INPUT: true; the input reads as it did. -/
def fnExactReplaceAtSpec : ChangeSpec := { name := "fnExactReplaceAt", fn := fun _ => fun
  | [d1, d2, d3] => { results := [.lit (.bool true)], args := [d1, d2, d3] }
  | _ => none }
def fnExactReplaceAtRow : OpenClaim := { program := "ytimjcdjeeocffaa", sum := "04f394de133e6da9074498da8bc3742cf65758e01f254617495fcc5a402fe464", func := "loop.example/g01391/laws.FnExactReplaceAt", spec := "fnExactReplaceAt", plainKeys := false, apart := false }
def FnExactReplaceAtSaid : Prop := fnExactReplaceAtRow.holds Try.pinned (OpenSpec.ofChange fnExactReplaceAtSpec)

/-- ITS FALSE NEIGHBOUR: 'it returns false'. Refute it at one input. -/
def fnExactReplaceAtWrong : ChangeSpec := { name := "fnExactReplaceAt", fn := fun _ => fun
  | [d1, d2, d3] => { results := [.lit (.bool false)], args := [d1, d2, d3] }
  | _ => none }
def FnExactReplaceAtWrongFalsely : Prop := fnExactReplaceAtRow.holds Try.pinned (OpenSpec.ofChange fnExactReplaceAtWrong)

/-- 'laws.FnExactTreeText': WHATEVER THE INPUT: true; the input reads as it did. -/
def fnExactTreeTextSpec : ChangeSpec := { name := "fnExactTreeText", fn := fun _ => fun
  | [d] => { results := [.lit (.bool true)], args := [d] }
  | _ => none }
def fnExactTreeTextRow : OpenClaim := { program := "ytimjcdjeeocffaa", sum := "04f394de133e6da9074498da8bc3742cf65758e01f254617495fcc5a402fe464", func := "loop.example/g01391/laws.FnExactTreeText", spec := "fnExactTreeText", unfollowed := true, recurses := true, plainKeys := false, apart := false }
def FnExactTreeTextSaid : Prop := fnExactTreeTextRow.holds Try.pinned (OpenSpec.ofChange fnExactTreeTextSpec)

/-- ITS FALSE NEIGHBOUR: 'it returns false'. Refute it at one input. -/
def fnExactTreeTextWrong : ChangeSpec := { name := "fnExactTreeText", fn := fun _ => fun
  | [d] => { results := [.lit (.bool false)], args := [d] }
  | _ => none }
def FnExactTreeTextWrongFalsely : Prop := fnExactTreeTextRow.holds Try.pinned (OpenSpec.ofChange fnExactTreeTextWrong)

/-- 'laws.FnTrees': WHATEVER THE INPUT: true; the input reads as it did. -/
def fnTreesSpec : ChangeSpec := { name := "fnTrees", fn := fun _ => fun
  | [d] => { results := [.lit (.bool true)], args := [d] }
  | _ => none }
def fnTreesRow : OpenClaim := { program := "ytimjcdjeeocffaa", sum := "04f394de133e6da9074498da8bc3742cf65758e01f254617495fcc5a402fe464", func := "loop.example/g01391/laws.FnTrees", spec := "fnTrees", unfollowed := true, recurses := true, plainKeys := false, apart := false }
def FnTreesSaid : Prop := fnTreesRow.holds Try.pinned (OpenSpec.ofChange fnTreesSpec)

/-- ITS FALSE NEIGHBOUR: 'it returns false'. Refute it at one input. -/
def fnTreesWrong : ChangeSpec := { name := "fnTrees", fn := fun _ => fun
  | [d] => { results := [.lit (.bool false)], args := [d] }
  | _ => none }
def FnTreesWrongFalsely : Prop := fnTreesRow.holds Try.pinned (OpenSpec.ofChange fnTreesWrong)

/-- 'laws.FnTreeParts': WHATEVER THE INPUT: true; the input reads as it did. -/
def fnTreePartsSpec : ChangeSpec := { name := "fnTreeParts", fn := fun _ => fun
  | [d] => { results := [.lit (.bool true)], args := [d] }
  | _ => none }
def fnTreePartsRow : OpenClaim := { program := "ytimjcdjeeocffaa", sum := "04f394de133e6da9074498da8bc3742cf65758e01f254617495fcc5a402fe464", func := "loop.example/g01391/laws.FnTreeParts", spec := "fnTreeParts", unfollowed := true, recurses := true, plainKeys := false, apart := false }
def FnTreePartsSaid : Prop := fnTreePartsRow.holds Try.pinned (OpenSpec.ofChange fnTreePartsSpec)

/-- ITS FALSE NEIGHBOUR: 'it returns false'. Refute it at one input. -/
def fnTreePartsWrong : ChangeSpec := { name := "fnTreeParts", fn := fun _ => fun
  | [d] => { results := [.lit (.bool false)], args := [d] }
  | _ => none }
def FnTreePartsWrongFalsely : Prop := fnTreePartsRow.holds Try.pinned (OpenSpec.ofChange fnTreePartsWrong)

/-- 'laws.FnExactNextTree': WHATEVER THE INPUT: true; the input reads as it did. -/
def fnExactNextTreeSpec : ChangeSpec := { name := "fnExactNextTree", fn := fun _ => fun
  | [d] => { results := [.lit (.bool true)], args := [d] }
  | _ => none }
def fnExactNextTreeRow : OpenClaim := { program := "ytimjcdjeeocffaa", sum := "04f394de133e6da9074498da8bc3742cf65758e01f254617495fcc5a402fe464", func := "loop.example/g01391/laws.FnExactNextTree", spec := "fnExactNextTree", unfollowed := true, recurses := true, plainKeys := false, apart := false }
def FnExactNextTreeSaid : Prop := fnExactNextTreeRow.holds Try.pinned (OpenSpec.ofChange fnExactNextTreeSpec)

/-- ITS FALSE NEIGHBOUR: 'it returns false'. Refute it at one input. -/
def fnExactNextTreeWrong : ChangeSpec := { name := "fnExactNextTree", fn := fun _ => fun
  | [d] => { results := [.lit (.bool false)], args := [d] }
  | _ => none }
def FnExactNextTreeWrongFalsely : Prop := fnExactNextTreeRow.holds Try.pinned (OpenSpec.ofChange fnExactNextTreeWrong)

/-- 'laws.FnExactTreesOf': WHATEVER THE INPUT: true; the input reads as it did. -/
def fnExactTreesOfSpec : ChangeSpec := { name := "fnExactTreesOf", fn := fun _ => fun
  | [d] => { results := [.lit (.bool true)], args := [d] }
  | _ => none }
def fnExactTreesOfRow : OpenClaim := { program := "ytimjcdjeeocffaa", sum := "04f394de133e6da9074498da8bc3742cf65758e01f254617495fcc5a402fe464", func := "loop.example/g01391/laws.FnExactTreesOf", spec := "fnExactTreesOf", unfollowed := true, recurses := true, plainKeys := false, apart := false }
def FnExactTreesOfSaid : Prop := fnExactTreesOfRow.holds Try.pinned (OpenSpec.ofChange fnExactTreesOfSpec)

/-- ITS FALSE NEIGHBOUR: 'it returns false'. Refute it at one input. -/
def fnExactTreesOfWrong : ChangeSpec := { name := "fnExactTreesOf", fn := fun _ => fun
  | [d] => { results := [.lit (.bool false)], args := [d] }
  | _ => none }
def FnExactTreesOfWrongFalsely : Prop := fnExactTreesOfRow.holds Try.pinned (OpenSpec.ofChange fnExactTreesOfWrong)

/-- 'laws.FnRanks': WHATEVER THE INPUT: true; the input reads as it did. -/
def fnRanksSpec : ChangeSpec := { name := "fnRanks", fn := fun _ => fun
  | [d] => { results := [.lit (.bool true)], args := [d] }
  | _ => none }
def fnRanksRow : OpenClaim := { program := "ytimjcdjeeocffaa", sum := "04f394de133e6da9074498da8bc3742cf65758e01f254617495fcc5a402fe464", func := "loop.example/g01391/laws.FnRanks", spec := "fnRanks", unfollowed := true, recurses := true, plainKeys := false, apart := false }
def FnRanksSaid : Prop := fnRanksRow.holds Try.pinned (OpenSpec.ofChange fnRanksSpec)

/-- ITS FALSE NEIGHBOUR: 'it returns false'. Refute it at one input. -/
def fnRanksWrong : ChangeSpec := { name := "fnRanks", fn := fun _ => fun
  | [d] => { results := [.lit (.bool false)], args := [d] }
  | _ => none }
def FnRanksWrongFalsely : Prop := fnRanksRow.holds Try.pinned (OpenSpec.ofChange fnRanksWrong)

/-- 'laws.FnTreeCounts': WHATEVER THE INPUT: true; the input reads as it did. -/
def fnTreeCountsSpec : ChangeSpec := { name := "fnTreeCounts", fn := fun _ => fun
  | [d] => { results := [.lit (.bool true)], args := [d] }
  | _ => none }
def fnTreeCountsRow : OpenClaim := { program := "ytimjcdjeeocffaa", sum := "04f394de133e6da9074498da8bc3742cf65758e01f254617495fcc5a402fe464", func := "loop.example/g01391/laws.FnTreeCounts", spec := "fnTreeCounts", unfollowed := true, recurses := true, plainKeys := false, apart := false }
def FnTreeCountsSaid : Prop := fnTreeCountsRow.holds Try.pinned (OpenSpec.ofChange fnTreeCountsSpec)

/-- ITS FALSE NEIGHBOUR: 'it returns false'. Refute it at one input. -/
def fnTreeCountsWrong : ChangeSpec := { name := "fnTreeCounts", fn := fun _ => fun
  | [d] => { results := [.lit (.bool false)], args := [d] }
  | _ => none }
def FnTreeCountsWrongFalsely : Prop := fnTreeCountsRow.holds Try.pinned (OpenSpec.ofChange fnTreeCountsWrong)

/- THE SECOND FORM. 'bulk': how many values and letters a reading holds, each counted each time it is reached (what is shared counts as often as it is met; a slice's spare places count too). A statement '..UptoSaid' is the law's where the arguments, and the package variables that the reading takes, are together of bulk at most 1048576: NARROWER than '..Said'. Prove '..Said' where nothing that the law and all that it calls make is longer than what came in: it says more and counts as full. Else prove '..UptoSaid'. A law counts once. -/
mutual
def uptoBulk {H : Type} : DataW H → Nat
  | .lit (.string bytes) => bytes.length + 1
  | .lit _ => 1
  | .nil => 1
  | .ptr d => uptoBulk d + 1
  | .slice elems spare => uptoBulkAll elems + uptoBulkAll spare + 1
  | .agg parts => uptoBulkAll parts + 1
  | .iface _ d => uptoBulk d + 1
  | .map entries => uptoBulkEntries entries + 1
  | .held _ => 1
def uptoBulkAll {H : Type} : List (DataW H) → Nat
  | [] => 0
  | d :: r => uptoBulk d + uptoBulkAll r
def uptoBulkEntries {H : Type} : List (Lit × DataW H) → Nat
  | [] => 0
  | x :: r => uptoBulkEntry x + uptoBulkEntries r
def uptoBulkEntry {H : Type} : Lit × DataW H → Nat
  | (.string bytes, d) => bytes.length + uptoBulk d + 1
  | (_, d) => uptoBulk d + 1
 end
def uptoSmall : (H : Type) → List (DataW H) → Bool := fun _ ds => decide (uptoBulkAll ds ≤ 1048576)
def OpenSpec.upto (s : _root_.Go.ChangeSpec) : _root_.Go.OpenSpec := { _root_.Go.OpenSpec.ofChange s with cond := some uptoSmall }

/-- 'laws.FnExactMirrorOf', WHERE WHAT IT READS IS OF BULK AT MOST 1048576: true; the input reads as it did. -/
def fnExactMirrorOfUptoRow : OpenClaim := { program := "ytimjcdjeeocffaa", sum := "04f394de133e6da9074498da8bc3742cf65758e01f254617495fcc5a402fe464", func := "loop.example/g01391/laws.FnExactMirrorOf", spec := "fnExactMirrorOf", unfollowed := true, recurses := true, plainKeys := false, apart := false, narrowed := true }
def FnExactMirrorOfUptoSaid : Prop := fnExactMirrorOfUptoRow.holds Try.pinned (OpenSpec.upto fnExactMirrorOfSpec)

/-- 'laws.FnExactJoinTrees', WHERE WHAT IT READS IS OF BULK AT MOST 1048576: true; the input reads as it did. -/
def fnExactJoinTreesUptoRow : OpenClaim := { program := "ytimjcdjeeocffaa", sum := "04f394de133e6da9074498da8bc3742cf65758e01f254617495fcc5a402fe464", func := "loop.example/g01391/laws.FnExactJoinTrees", spec := "fnExactJoinTrees", plainKeys := false, apart := false, narrowed := true }
def FnExactJoinTreesUptoSaid : Prop := fnExactJoinTreesUptoRow.holds Try.pinned (OpenSpec.upto fnExactJoinTreesSpec)

/-- 'laws.FnExactReplaceAt', WHERE WHAT IT READS IS OF BULK AT MOST 1048576: true; the input reads as it did. -/
def fnExactReplaceAtUptoRow : OpenClaim := { program := "ytimjcdjeeocffaa", sum := "04f394de133e6da9074498da8bc3742cf65758e01f254617495fcc5a402fe464", func := "loop.example/g01391/laws.FnExactReplaceAt", spec := "fnExactReplaceAt", plainKeys := false, apart := false, narrowed := true }
def FnExactReplaceAtUptoSaid : Prop := fnExactReplaceAtUptoRow.holds Try.pinned (OpenSpec.upto fnExactReplaceAtSpec)

/-- 'laws.FnExactTreeText', WHERE WHAT IT READS IS OF BULK AT MOST 1048576: true; the input reads as it did. -/
def fnExactTreeTextUptoRow : OpenClaim := { program := "ytimjcdjeeocffaa", sum := "04f394de133e6da9074498da8bc3742cf65758e01f254617495fcc5a402fe464", func := "loop.example/g01391/laws.FnExactTreeText", spec := "fnExactTreeText", unfollowed := true, recurses := true, plainKeys := false, apart := false, narrowed := true }
def FnExactTreeTextUptoSaid : Prop := fnExactTreeTextUptoRow.holds Try.pinned (OpenSpec.upto fnExactTreeTextSpec)

/-- 'laws.FnTrees', WHERE WHAT IT READS IS OF BULK AT MOST 1048576: true; the input reads as it did. -/
def fnTreesUptoRow : OpenClaim := { program := "ytimjcdjeeocffaa", sum := "04f394de133e6da9074498da8bc3742cf65758e01f254617495fcc5a402fe464", func := "loop.example/g01391/laws.FnTrees", spec := "fnTrees", unfollowed := true, recurses := true, plainKeys := false, apart := false, narrowed := true }
def FnTreesUptoSaid : Prop := fnTreesUptoRow.holds Try.pinned (OpenSpec.upto fnTreesSpec)

/-- 'laws.FnTreeParts', WHERE WHAT IT READS IS OF BULK AT MOST 1048576: true; the input reads as it did. -/
def fnTreePartsUptoRow : OpenClaim := { program := "ytimjcdjeeocffaa", sum := "04f394de133e6da9074498da8bc3742cf65758e01f254617495fcc5a402fe464", func := "loop.example/g01391/laws.FnTreeParts", spec := "fnTreeParts", unfollowed := true, recurses := true, plainKeys := false, apart := false, narrowed := true }
def FnTreePartsUptoSaid : Prop := fnTreePartsUptoRow.holds Try.pinned (OpenSpec.upto fnTreePartsSpec)

/-- 'laws.FnExactNextTree', WHERE WHAT IT READS IS OF BULK AT MOST 1048576: true; the input reads as it did. -/
def fnExactNextTreeUptoRow : OpenClaim := { program := "ytimjcdjeeocffaa", sum := "04f394de133e6da9074498da8bc3742cf65758e01f254617495fcc5a402fe464", func := "loop.example/g01391/laws.FnExactNextTree", spec := "fnExactNextTree", unfollowed := true, recurses := true, plainKeys := false, apart := false, narrowed := true }
def FnExactNextTreeUptoSaid : Prop := fnExactNextTreeUptoRow.holds Try.pinned (OpenSpec.upto fnExactNextTreeSpec)

/-- 'laws.FnExactTreesOf', WHERE WHAT IT READS IS OF BULK AT MOST 1048576: true; the input reads as it did. -/
def fnExactTreesOfUptoRow : OpenClaim := { program := "ytimjcdjeeocffaa", sum := "04f394de133e6da9074498da8bc3742cf65758e01f254617495fcc5a402fe464", func := "loop.example/g01391/laws.FnExactTreesOf", spec := "fnExactTreesOf", unfollowed := true, recurses := true, plainKeys := false, apart := false, narrowed := true }
def FnExactTreesOfUptoSaid : Prop := fnExactTreesOfUptoRow.holds Try.pinned (OpenSpec.upto fnExactTreesOfSpec)

/-- 'laws.FnRanks', WHERE WHAT IT READS IS OF BULK AT MOST 1048576: true; the input reads as it did. -/
def fnRanksUptoRow : OpenClaim := { program := "ytimjcdjeeocffaa", sum := "04f394de133e6da9074498da8bc3742cf65758e01f254617495fcc5a402fe464", func := "loop.example/g01391/laws.FnRanks", spec := "fnRanks", unfollowed := true, recurses := true, plainKeys := false, apart := false, narrowed := true }
def FnRanksUptoSaid : Prop := fnRanksUptoRow.holds Try.pinned (OpenSpec.upto fnRanksSpec)

/-- 'laws.FnTreeCounts', WHERE WHAT IT READS IS OF BULK AT MOST 1048576: true; the input reads as it did. -/
def fnTreeCountsUptoRow : OpenClaim := { program := "ytimjcdjeeocffaa", sum := "04f394de133e6da9074498da8bc3742cf65758e01f254617495fcc5a402fe464", func := "loop.example/g01391/laws.FnTreeCounts", spec := "fnTreeCounts", unfollowed := true, recurses := true, plainKeys := false, apart := false, narrowed := true }
def FnTreeCountsUptoSaid : Prop := fnTreeCountsUptoRow.holds Try.pinned (OpenSpec.upto fnTreeCountsSpec)

end Rows
end Go.Proofs.Ytimjcdjeeocffaa
