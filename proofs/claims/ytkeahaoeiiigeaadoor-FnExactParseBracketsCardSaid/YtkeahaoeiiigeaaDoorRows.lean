/-
  NARROWER THAN 'FOR EVERY INPUT', by the rows' own cells (each row's printed sentence says how): FnExactIsBinary: ifaces, laid · FnExactSidesOf: ifaces, laid · FnExactJoinSides: ifaces, laid · FnExactMirrorBinary: ifaces, laid · FnExactInnerOrder: ifaces, laid · FnExactRotateRight: ifaces, laid · FnExactRotateLeft: ifaces, laid · FnExactVectorOf: ifaces, laid · FnExactBinaryOfVector: ifaces, laid · FnExactIsAtMost: ifaces, laid · FnExactMeetOfBinary: ifaces, laid · FnExactBracketsOf: ifaces, laid · FnExactParseBrackets: ifaces, laid.
  DERIVED. THE GIVEN ROWS OF THIS SEAT. 13 by the template 'for every input the law returns true; each argument reads behind the call as it read before'; 0 by the template 'total and deterministic' (their statements: YtkeahaoeiiigeaaDoorTotals.lean).
  GIVEN WITH THE SEED: the statements are not yours to turn. If you find one false, say at which input.
  Laid BY PROGRAM, IN A SANDBOX (cutbox-rows.mjs): the forced cells as the released guide's own fill.sh prints them over the translation b1f49d933f6a7340… (all of the seat's roots in one cut). By AI agents, Wed Nov 11 2026. No macro, syntax, notation, axiom, sorry.
-/
import Derived.Test.YtkeahaoeiiigeaaDoorChecked
import GoSem.PinnedTables
import GoSem.Claim
import GoSem.ClaimJoined
import GoSem.ClaimMapViews
import Derived.JoinedTies
import Derived.KernelRfl
namespace Go.Proofs.YtkeahaoeiiigeaaDoor
/- THE CELL 'sum', in the pinned program and in every row, IS THE sha256 OF THE DUMP (.gsa) THAT YtkeahaoeiiigeaaDoorProg.lean LOADS. Nothing in Lean hashes anything: it is a label: what it is worth is what the hold of that sum in a sandbox is worth. -/
noncomputable def Tryd.pinned : Pinned := { name := "ytkeahaoeiiigeaadoor", sum := "b1f49d933f6a7340bd8f50deb7cc25f9caadcaa8bf484055f8a9f38e270847ab", checked := Tryd.checked }
namespace Rows
def none {H : Type} : Left H := { results := [], args := [] }

/- WHAT THE LISTED PACKAGE-LEVEL VARIABLES READ AS WHEN THE CALL BEGINS. Each datum BY PROGRAM (the guide's laid-datum.mjs) off the statement by which the dump's own 'gosem.cut.vars' lays the variable. In a bare row this is a premise. The card (YtkeahaoeiiigeaaDoorCards.lean) ties it to the program's text. -/
def laid_loop_example_g01391_impl_errNoBinary {H : Type} : DataW H := .iface "*errors.errorString" (.ptr (.agg [.lit (.string [110, 111, 32, 116, 101, 120, 116, 32, 111, 102, 32, 97, 32, 98, 105, 110, 97, 114, 121, 32, 116, 114, 101, 101])]))
def laid_loop_example_g01391_impl_errNoVector {H : Type} : DataW H := .iface "*errors.errorString" (.ptr (.agg [.lit (.string [110, 111, 32, 118, 101, 99, 116, 111, 114, 32, 111, 102, 32, 97, 32, 98, 105, 110, 97, 114, 121, 32, 116, 114, 101, 101])]))
def laid_unicode_utf8_acceptRanges {H : Type} : DataW H := .agg [.agg [.lit (.int .u8 128), .lit (.int .u8 191)], .agg [.lit (.int .u8 160), .lit (.int .u8 191)], .agg [.lit (.int .u8 128), .lit (.int .u8 159)], .agg [.lit (.int .u8 144), .lit (.int .u8 191)], .agg [.lit (.int .u8 128), .lit (.int .u8 143)], .agg [.lit (.int .u8 0), .lit (.int .u8 0)], .agg [.lit (.int .u8 0), .lit (.int .u8 0)], .agg [.lit (.int .u8 0), .lit (.int .u8 0)], .agg [.lit (.int .u8 0), .lit (.int .u8 0)], .agg [.lit (.int .u8 0), .lit (.int .u8 0)], .agg [.lit (.int .u8 0), .lit (.int .u8 0)], .agg [.lit (.int .u8 0), .lit (.int .u8 0)], .agg [.lit (.int .u8 0), .lit (.int .u8 0)], .agg [.lit (.int .u8 0), .lit (.int .u8 0)], .agg [.lit (.int .u8 0), .lit (.int .u8 0)], .agg [.lit (.int .u8 0), .lit (.int .u8 0)]]
/-- One of Go's own tables, pinned by name: the form's constant. -/
def laid_unicode_utf8_first : DataW Unit := Go.Pinned.utf8First

/-- 'laws.FnExactIsBinary': WHATEVER THE INPUT: true; the input reads as it did. -/
def fnExactIsBinarySpec : ChangeSpec := { name := "fnExactIsBinary", vars := ["loop.example/g01391/impl.errNoBinary"], fn := fun _ => fun
  | [d, g1] => { results := [.lit (.bool true)], args := [d], vars := [g1] }
  | _ => none }
def fnExactIsBinaryRow : OpenClaim := { program := "ytkeahaoeiiigeaadoor", sum := "b1f49d933f6a7340bd8f50deb7cc25f9caadcaa8bf484055f8a9f38e270847ab", func := "loop.example/g01391/laws.FnExactIsBinary", spec := "fnExactIsBinary", unfollowed := true, recurses := true, named := ["loop.example/g01391/impl.errNoBinary"], ifaces := true, apart := false, laid := [("loop.example/g01391/impl.errNoBinary", laid_loop_example_g01391_impl_errNoBinary)] }
def FnExactIsBinarySaid : Prop := fnExactIsBinaryRow.holds Tryd.pinned (OpenSpec.ofChange fnExactIsBinarySpec)

/-- ITS FALSE NEIGHBOUR: 'it returns false'. Refute it at one input. -/
def fnExactIsBinaryWrong : ChangeSpec := { name := "fnExactIsBinary", vars := ["loop.example/g01391/impl.errNoBinary"], fn := fun _ => fun
  | [d, g1] => { results := [.lit (.bool false)], args := [d], vars := [g1] }
  | _ => none }
def FnExactIsBinaryWrongFalsely : Prop := fnExactIsBinaryRow.holds Tryd.pinned (OpenSpec.ofChange fnExactIsBinaryWrong)

/-- 'laws.FnExactSidesOf': WHATEVER THE INPUT: true; the input reads as it did. -/
def fnExactSidesOfSpec : ChangeSpec := { name := "fnExactSidesOf", vars := ["loop.example/g01391/impl.errNoBinary"], fn := fun _ => fun
  | [d, g1] => { results := [.lit (.bool true)], args := [d], vars := [g1] }
  | _ => none }
def fnExactSidesOfRow : OpenClaim := { program := "ytkeahaoeiiigeaadoor", sum := "b1f49d933f6a7340bd8f50deb7cc25f9caadcaa8bf484055f8a9f38e270847ab", func := "loop.example/g01391/laws.FnExactSidesOf", spec := "fnExactSidesOf", unfollowed := true, recurses := true, named := ["loop.example/g01391/impl.errNoBinary"], ifaces := true, apart := false, laid := [("loop.example/g01391/impl.errNoBinary", laid_loop_example_g01391_impl_errNoBinary)] }
def FnExactSidesOfSaid : Prop := fnExactSidesOfRow.holds Tryd.pinned (OpenSpec.ofChange fnExactSidesOfSpec)

/-- ITS FALSE NEIGHBOUR: 'it returns false'. Refute it at one input. -/
def fnExactSidesOfWrong : ChangeSpec := { name := "fnExactSidesOf", vars := ["loop.example/g01391/impl.errNoBinary"], fn := fun _ => fun
  | [d, g1] => { results := [.lit (.bool false)], args := [d], vars := [g1] }
  | _ => none }
def FnExactSidesOfWrongFalsely : Prop := fnExactSidesOfRow.holds Tryd.pinned (OpenSpec.ofChange fnExactSidesOfWrong)

/-- 'laws.FnExactJoinSides': WHATEVER THE INPUT: true; the input reads as it did. -/
def fnExactJoinSidesSpec : ChangeSpec := { name := "fnExactJoinSides", vars := ["loop.example/g01391/impl.errNoBinary"], fn := fun _ => fun
  | [d1, d2, g1] => { results := [.lit (.bool true)], args := [d1, d2], vars := [g1] }
  | _ => none }
def fnExactJoinSidesRow : OpenClaim := { program := "ytkeahaoeiiigeaadoor", sum := "b1f49d933f6a7340bd8f50deb7cc25f9caadcaa8bf484055f8a9f38e270847ab", func := "loop.example/g01391/laws.FnExactJoinSides", spec := "fnExactJoinSides", unfollowed := true, recurses := true, named := ["loop.example/g01391/impl.errNoBinary"], ifaces := true, apart := false, laid := [("loop.example/g01391/impl.errNoBinary", laid_loop_example_g01391_impl_errNoBinary)] }
def FnExactJoinSidesSaid : Prop := fnExactJoinSidesRow.holds Tryd.pinned (OpenSpec.ofChange fnExactJoinSidesSpec)

/-- ITS FALSE NEIGHBOUR: 'it returns false'. Refute it at one input. -/
def fnExactJoinSidesWrong : ChangeSpec := { name := "fnExactJoinSides", vars := ["loop.example/g01391/impl.errNoBinary"], fn := fun _ => fun
  | [d1, d2, g1] => { results := [.lit (.bool false)], args := [d1, d2], vars := [g1] }
  | _ => none }
def FnExactJoinSidesWrongFalsely : Prop := fnExactJoinSidesRow.holds Tryd.pinned (OpenSpec.ofChange fnExactJoinSidesWrong)

/-- 'laws.FnExactMirrorBinary': WHATEVER THE INPUT: true; the input reads as it did. -/
def fnExactMirrorBinarySpec : ChangeSpec := { name := "fnExactMirrorBinary", vars := ["loop.example/g01391/impl.errNoBinary"], fn := fun _ => fun
  | [d, g1] => { results := [.lit (.bool true)], args := [d], vars := [g1] }
  | _ => none }
def fnExactMirrorBinaryRow : OpenClaim := { program := "ytkeahaoeiiigeaadoor", sum := "b1f49d933f6a7340bd8f50deb7cc25f9caadcaa8bf484055f8a9f38e270847ab", func := "loop.example/g01391/laws.FnExactMirrorBinary", spec := "fnExactMirrorBinary", unfollowed := true, recurses := true, named := ["loop.example/g01391/impl.errNoBinary"], ifaces := true, apart := false, laid := [("loop.example/g01391/impl.errNoBinary", laid_loop_example_g01391_impl_errNoBinary)] }
def FnExactMirrorBinarySaid : Prop := fnExactMirrorBinaryRow.holds Tryd.pinned (OpenSpec.ofChange fnExactMirrorBinarySpec)

/-- ITS FALSE NEIGHBOUR: 'it returns false'. Refute it at one input. -/
def fnExactMirrorBinaryWrong : ChangeSpec := { name := "fnExactMirrorBinary", vars := ["loop.example/g01391/impl.errNoBinary"], fn := fun _ => fun
  | [d, g1] => { results := [.lit (.bool false)], args := [d], vars := [g1] }
  | _ => none }
def FnExactMirrorBinaryWrongFalsely : Prop := fnExactMirrorBinaryRow.holds Tryd.pinned (OpenSpec.ofChange fnExactMirrorBinaryWrong)

/-- 'laws.FnExactInnerOrder': WHATEVER THE INPUT: true; the input reads as it did. -/
def fnExactInnerOrderSpec : ChangeSpec := { name := "fnExactInnerOrder", vars := ["loop.example/g01391/impl.errNoBinary"], fn := fun _ => fun
  | [d, g1] => { results := [.lit (.bool true)], args := [d], vars := [g1] }
  | _ => none }
def fnExactInnerOrderRow : OpenClaim := { program := "ytkeahaoeiiigeaadoor", sum := "b1f49d933f6a7340bd8f50deb7cc25f9caadcaa8bf484055f8a9f38e270847ab", func := "loop.example/g01391/laws.FnExactInnerOrder", spec := "fnExactInnerOrder", unfollowed := true, recurses := true, named := ["loop.example/g01391/impl.errNoBinary"], ifaces := true, apart := false, laid := [("loop.example/g01391/impl.errNoBinary", laid_loop_example_g01391_impl_errNoBinary)] }
def FnExactInnerOrderSaid : Prop := fnExactInnerOrderRow.holds Tryd.pinned (OpenSpec.ofChange fnExactInnerOrderSpec)

/-- ITS FALSE NEIGHBOUR: 'it returns false'. Refute it at one input. -/
def fnExactInnerOrderWrong : ChangeSpec := { name := "fnExactInnerOrder", vars := ["loop.example/g01391/impl.errNoBinary"], fn := fun _ => fun
  | [d, g1] => { results := [.lit (.bool false)], args := [d], vars := [g1] }
  | _ => none }
def FnExactInnerOrderWrongFalsely : Prop := fnExactInnerOrderRow.holds Tryd.pinned (OpenSpec.ofChange fnExactInnerOrderWrong)

/-- 'laws.FnExactRotateRight': WHATEVER THE INPUT: true; the input reads as it did. -/
def fnExactRotateRightSpec : ChangeSpec := { name := "fnExactRotateRight", vars := ["loop.example/g01391/impl.errNoBinary"], fn := fun _ => fun
  | [d1, d2, g1] => { results := [.lit (.bool true)], args := [d1, d2], vars := [g1] }
  | _ => none }
def fnExactRotateRightRow : OpenClaim := { program := "ytkeahaoeiiigeaadoor", sum := "b1f49d933f6a7340bd8f50deb7cc25f9caadcaa8bf484055f8a9f38e270847ab", func := "loop.example/g01391/laws.FnExactRotateRight", spec := "fnExactRotateRight", inPlace := ["internal/bytealg.IndexByteString"], unfollowed := true, recurses := true, named := ["loop.example/g01391/impl.errNoBinary"], ifaces := true, apart := false, laid := [("loop.example/g01391/impl.errNoBinary", laid_loop_example_g01391_impl_errNoBinary)] }
def FnExactRotateRightSaid : Prop := fnExactRotateRightRow.holds Tryd.pinned (OpenSpec.ofChange fnExactRotateRightSpec)

/-- ITS FALSE NEIGHBOUR: 'it returns false'. Refute it at one input. -/
def fnExactRotateRightWrong : ChangeSpec := { name := "fnExactRotateRight", vars := ["loop.example/g01391/impl.errNoBinary"], fn := fun _ => fun
  | [d1, d2, g1] => { results := [.lit (.bool false)], args := [d1, d2], vars := [g1] }
  | _ => none }
def FnExactRotateRightWrongFalsely : Prop := fnExactRotateRightRow.holds Tryd.pinned (OpenSpec.ofChange fnExactRotateRightWrong)

/-- 'laws.FnExactRotateLeft': WHATEVER THE INPUT: true; the input reads as it did. -/
def fnExactRotateLeftSpec : ChangeSpec := { name := "fnExactRotateLeft", vars := ["loop.example/g01391/impl.errNoBinary"], fn := fun _ => fun
  | [d1, d2, g1] => { results := [.lit (.bool true)], args := [d1, d2], vars := [g1] }
  | _ => none }
def fnExactRotateLeftRow : OpenClaim := { program := "ytkeahaoeiiigeaadoor", sum := "b1f49d933f6a7340bd8f50deb7cc25f9caadcaa8bf484055f8a9f38e270847ab", func := "loop.example/g01391/laws.FnExactRotateLeft", spec := "fnExactRotateLeft", inPlace := ["internal/bytealg.IndexByteString"], unfollowed := true, recurses := true, named := ["loop.example/g01391/impl.errNoBinary"], ifaces := true, apart := false, laid := [("loop.example/g01391/impl.errNoBinary", laid_loop_example_g01391_impl_errNoBinary)] }
def FnExactRotateLeftSaid : Prop := fnExactRotateLeftRow.holds Tryd.pinned (OpenSpec.ofChange fnExactRotateLeftSpec)

/-- ITS FALSE NEIGHBOUR: 'it returns false'. Refute it at one input. -/
def fnExactRotateLeftWrong : ChangeSpec := { name := "fnExactRotateLeft", vars := ["loop.example/g01391/impl.errNoBinary"], fn := fun _ => fun
  | [d1, d2, g1] => { results := [.lit (.bool false)], args := [d1, d2], vars := [g1] }
  | _ => none }
def FnExactRotateLeftWrongFalsely : Prop := fnExactRotateLeftRow.holds Tryd.pinned (OpenSpec.ofChange fnExactRotateLeftWrong)

/-- 'laws.FnExactVectorOf': WHATEVER THE INPUT: true; the input reads as it did. -/
def fnExactVectorOfSpec : ChangeSpec := { name := "fnExactVectorOf", vars := ["loop.example/g01391/impl.errNoBinary"], fn := fun _ => fun
  | [d, g1] => { results := [.lit (.bool true)], args := [d], vars := [g1] }
  | _ => none }
def fnExactVectorOfRow : OpenClaim := { program := "ytkeahaoeiiigeaadoor", sum := "b1f49d933f6a7340bd8f50deb7cc25f9caadcaa8bf484055f8a9f38e270847ab", func := "loop.example/g01391/laws.FnExactVectorOf", spec := "fnExactVectorOf", unfollowed := true, recurses := true, named := ["loop.example/g01391/impl.errNoBinary"], ifaces := true, apart := false, laid := [("loop.example/g01391/impl.errNoBinary", laid_loop_example_g01391_impl_errNoBinary)] }
def FnExactVectorOfSaid : Prop := fnExactVectorOfRow.holds Tryd.pinned (OpenSpec.ofChange fnExactVectorOfSpec)

/-- ITS FALSE NEIGHBOUR: 'it returns false'. Refute it at one input. -/
def fnExactVectorOfWrong : ChangeSpec := { name := "fnExactVectorOf", vars := ["loop.example/g01391/impl.errNoBinary"], fn := fun _ => fun
  | [d, g1] => { results := [.lit (.bool false)], args := [d], vars := [g1] }
  | _ => none }
def FnExactVectorOfWrongFalsely : Prop := fnExactVectorOfRow.holds Tryd.pinned (OpenSpec.ofChange fnExactVectorOfWrong)

/-- 'laws.FnExactBinaryOfVector': WHATEVER THE INPUT: true; the input reads as it did. -/
def fnExactBinaryOfVectorSpec : ChangeSpec := { name := "fnExactBinaryOfVector", vars := ["loop.example/g01391/impl.errNoVector"], fn := fun _ => fun
  | [d, g1] => { results := [.lit (.bool true)], args := [d], vars := [g1] }
  | _ => none }
def fnExactBinaryOfVectorRow : OpenClaim := { program := "ytkeahaoeiiigeaadoor", sum := "b1f49d933f6a7340bd8f50deb7cc25f9caadcaa8bf484055f8a9f38e270847ab", func := "loop.example/g01391/laws.FnExactBinaryOfVector", spec := "fnExactBinaryOfVector", unfollowed := true, recurses := true, named := ["loop.example/g01391/impl.errNoVector"], ifaces := true, apart := false, laid := [("loop.example/g01391/impl.errNoVector", laid_loop_example_g01391_impl_errNoVector)] }
def FnExactBinaryOfVectorSaid : Prop := fnExactBinaryOfVectorRow.holds Tryd.pinned (OpenSpec.ofChange fnExactBinaryOfVectorSpec)

/-- ITS FALSE NEIGHBOUR: 'it returns false'. Refute it at one input. -/
def fnExactBinaryOfVectorWrong : ChangeSpec := { name := "fnExactBinaryOfVector", vars := ["loop.example/g01391/impl.errNoVector"], fn := fun _ => fun
  | [d, g1] => { results := [.lit (.bool false)], args := [d], vars := [g1] }
  | _ => none }
def FnExactBinaryOfVectorWrongFalsely : Prop := fnExactBinaryOfVectorRow.holds Tryd.pinned (OpenSpec.ofChange fnExactBinaryOfVectorWrong)

/-- 'laws.FnExactIsAtMost': WHATEVER THE INPUT: true; the input reads as it did. -/
def fnExactIsAtMostSpec : ChangeSpec := { name := "fnExactIsAtMost", vars := ["loop.example/g01391/impl.errNoBinary"], fn := fun _ => fun
  | [d1, d2, g1] => { results := [.lit (.bool true)], args := [d1, d2], vars := [g1] }
  | _ => none }
def fnExactIsAtMostRow : OpenClaim := { program := "ytkeahaoeiiigeaadoor", sum := "b1f49d933f6a7340bd8f50deb7cc25f9caadcaa8bf484055f8a9f38e270847ab", func := "loop.example/g01391/laws.FnExactIsAtMost", spec := "fnExactIsAtMost", unfollowed := true, recurses := true, named := ["loop.example/g01391/impl.errNoBinary"], ifaces := true, apart := false, laid := [("loop.example/g01391/impl.errNoBinary", laid_loop_example_g01391_impl_errNoBinary)] }
def FnExactIsAtMostSaid : Prop := fnExactIsAtMostRow.holds Tryd.pinned (OpenSpec.ofChange fnExactIsAtMostSpec)

/-- ITS FALSE NEIGHBOUR: 'it returns false'. Refute it at one input. -/
def fnExactIsAtMostWrong : ChangeSpec := { name := "fnExactIsAtMost", vars := ["loop.example/g01391/impl.errNoBinary"], fn := fun _ => fun
  | [d1, d2, g1] => { results := [.lit (.bool false)], args := [d1, d2], vars := [g1] }
  | _ => none }
def FnExactIsAtMostWrongFalsely : Prop := fnExactIsAtMostRow.holds Tryd.pinned (OpenSpec.ofChange fnExactIsAtMostWrong)

/-- 'laws.FnExactMeetOfBinary': WHATEVER THE INPUT: true; the input reads as it did. -/
def fnExactMeetOfBinarySpec : ChangeSpec := { name := "fnExactMeetOfBinary", vars := ["loop.example/g01391/impl.errNoBinary", "loop.example/g01391/impl.errNoVector"], fn := fun _ => fun
  | [d1, d2, g1, g2] => { results := [.lit (.bool true)], args := [d1, d2], vars := [g1, g2] }
  | _ => none }
def fnExactMeetOfBinaryRow : OpenClaim := { program := "ytkeahaoeiiigeaadoor", sum := "b1f49d933f6a7340bd8f50deb7cc25f9caadcaa8bf484055f8a9f38e270847ab", func := "loop.example/g01391/laws.FnExactMeetOfBinary", spec := "fnExactMeetOfBinary", unfollowed := true, recurses := true, named := ["loop.example/g01391/impl.errNoBinary", "loop.example/g01391/impl.errNoVector"], ifaces := true, apart := false, laid := [("loop.example/g01391/impl.errNoBinary", laid_loop_example_g01391_impl_errNoBinary), ("loop.example/g01391/impl.errNoVector", laid_loop_example_g01391_impl_errNoVector)] }
def FnExactMeetOfBinarySaid : Prop := fnExactMeetOfBinaryRow.holds Tryd.pinned (OpenSpec.ofChange fnExactMeetOfBinarySpec)

/-- ITS FALSE NEIGHBOUR: 'it returns false'. Refute it at one input. -/
def fnExactMeetOfBinaryWrong : ChangeSpec := { name := "fnExactMeetOfBinary", vars := ["loop.example/g01391/impl.errNoBinary", "loop.example/g01391/impl.errNoVector"], fn := fun _ => fun
  | [d1, d2, g1, g2] => { results := [.lit (.bool false)], args := [d1, d2], vars := [g1, g2] }
  | _ => none }
def FnExactMeetOfBinaryWrongFalsely : Prop := fnExactMeetOfBinaryRow.holds Tryd.pinned (OpenSpec.ofChange fnExactMeetOfBinaryWrong)

/-- 'laws.FnExactBracketsOf': WHATEVER THE INPUT: true; the input reads as it did. -/
def fnExactBracketsOfSpec : ChangeSpec := { name := "fnExactBracketsOf", vars := ["loop.example/g01391/impl.errNoBinary"], fn := fun _ => fun
  | [d, g1] => { results := [.lit (.bool true)], args := [d], vars := [g1] }
  | _ => none }
def fnExactBracketsOfRow : OpenClaim := { program := "ytkeahaoeiiigeaadoor", sum := "b1f49d933f6a7340bd8f50deb7cc25f9caadcaa8bf484055f8a9f38e270847ab", func := "loop.example/g01391/laws.FnExactBracketsOf", spec := "fnExactBracketsOf", unfollowed := true, recurses := true, named := ["loop.example/g01391/impl.errNoBinary"], ifaces := true, apart := false, laid := [("loop.example/g01391/impl.errNoBinary", laid_loop_example_g01391_impl_errNoBinary)] }
def FnExactBracketsOfSaid : Prop := fnExactBracketsOfRow.holds Tryd.pinned (OpenSpec.ofChange fnExactBracketsOfSpec)

/-- ITS FALSE NEIGHBOUR: 'it returns false'. Refute it at one input. -/
def fnExactBracketsOfWrong : ChangeSpec := { name := "fnExactBracketsOf", vars := ["loop.example/g01391/impl.errNoBinary"], fn := fun _ => fun
  | [d, g1] => { results := [.lit (.bool false)], args := [d], vars := [g1] }
  | _ => none }
def FnExactBracketsOfWrongFalsely : Prop := fnExactBracketsOfRow.holds Tryd.pinned (OpenSpec.ofChange fnExactBracketsOfWrong)

/-- 'laws.FnExactParseBrackets': WHATEVER THE INPUT: true; the input reads as it did. -/
def fnExactParseBracketsSpec : ChangeSpec := { name := "fnExactParseBrackets", vars := ["loop.example/g01391/impl.errNoBinary"], fn := fun _ => fun
  | [d, g1] => { results := [.lit (.bool true)], args := [d], vars := [g1] }
  | _ => none }
def fnExactParseBracketsRow : OpenClaim := { program := "ytkeahaoeiiigeaadoor", sum := "b1f49d933f6a7340bd8f50deb7cc25f9caadcaa8bf484055f8a9f38e270847ab", func := "loop.example/g01391/laws.FnExactParseBrackets", spec := "fnExactParseBrackets", inPlace := ["internal/abi.NoEscape", "internal/bytealg.MakeNoZero"], unfollowed := true, recurses := true, named := ["unicode/utf8.first", "unicode/utf8.acceptRanges", "loop.example/g01391/impl.errNoBinary"], ifaces := true, apart := false, laid := [("unicode/utf8.acceptRanges", laid_unicode_utf8_acceptRanges), ("loop.example/g01391/impl.errNoBinary", laid_loop_example_g01391_impl_errNoBinary), ("unicode/utf8.first", laid_unicode_utf8_first)] }
def FnExactParseBracketsSaid : Prop := fnExactParseBracketsRow.holds Tryd.pinned (OpenSpec.ofChange fnExactParseBracketsSpec)

/-- ITS FALSE NEIGHBOUR: 'it returns false'. Refute it at one input. -/
def fnExactParseBracketsWrong : ChangeSpec := { name := "fnExactParseBrackets", vars := ["loop.example/g01391/impl.errNoBinary"], fn := fun _ => fun
  | [d, g1] => { results := [.lit (.bool false)], args := [d], vars := [g1] }
  | _ => none }
def FnExactParseBracketsWrongFalsely : Prop := fnExactParseBracketsRow.holds Tryd.pinned (OpenSpec.ofChange fnExactParseBracketsWrong)

/- THE SECOND FORM. 'bulk': how many values and letters a reading holds, each counted each time it is reached (what is shared counts as often as it is met; a slice's spare places count too). A statement '..UptoSaid' is the law's where the arguments, and the package variables that the reading takes, are together of bulk at most 1048576: NARROWER than '..Said'. Prove '..Said' where nothing that the law and all that it calls make is longer than what came in: it says more and counts as full. Else prove '..UptoSaid'. A law counts once. -/
mutual
def uptoBulk {H : Type} : DataW H → Nat
  | .lit (.string bytes) => bytes.length + 1
  | .lit _ => 1
  | .nil => 1
  | .ptr d => uptoBulk d + 1
  | .slice elems spare => uptoBulkAll elems + uptoBulkAll spare + 1
  | .agg parts => uptoBulkAll parts + 1
  | .iface _ d => uptoBulk d + 1
  | .map entries => uptoBulkEntries entries + 1
  | .held _ => 1
def uptoBulkAll {H : Type} : List (DataW H) → Nat
  | [] => 0
  | d :: r => uptoBulk d + uptoBulkAll r
def uptoBulkEntries {H : Type} : List (Lit × DataW H) → Nat
  | [] => 0
  | x :: r => uptoBulkEntry x + uptoBulkEntries r
def uptoBulkEntry {H : Type} : Lit × DataW H → Nat
  | (.string bytes, d) => bytes.length + uptoBulk d + 1
  | (_, d) => uptoBulk d + 1
 end
def uptoSmall : (H : Type) → List (DataW H) → Bool := fun _ ds => decide (uptoBulkAll ds ≤ 1048576)
def OpenSpec.upto (s : _root_.Go.ChangeSpec) : _root_.Go.OpenSpec := { _root_.Go.OpenSpec.ofChange s with cond := some uptoSmall }

/-- 'laws.FnExactIsBinary', WHERE WHAT IT READS IS OF BULK AT MOST 1048576: true; the input reads as it did. -/
def fnExactIsBinaryUptoRow : OpenClaim := { program := "ytkeahaoeiiigeaadoor", sum := "b1f49d933f6a7340bd8f50deb7cc25f9caadcaa8bf484055f8a9f38e270847ab", func := "loop.example/g01391/laws.FnExactIsBinary", spec := "fnExactIsBinary", unfollowed := true, recurses := true, named := ["loop.example/g01391/impl.errNoBinary"], ifaces := true, apart := false, laid := [("loop.example/g01391/impl.errNoBinary", laid_loop_example_g01391_impl_errNoBinary)], narrowed := true }
def FnExactIsBinaryUptoSaid : Prop := fnExactIsBinaryUptoRow.holds Tryd.pinned (OpenSpec.upto fnExactIsBinarySpec)

/-- 'laws.FnExactSidesOf', WHERE WHAT IT READS IS OF BULK AT MOST 1048576: true; the input reads as it did. -/
def fnExactSidesOfUptoRow : OpenClaim := { program := "ytkeahaoeiiigeaadoor", sum := "b1f49d933f6a7340bd8f50deb7cc25f9caadcaa8bf484055f8a9f38e270847ab", func := "loop.example/g01391/laws.FnExactSidesOf", spec := "fnExactSidesOf", unfollowed := true, recurses := true, named := ["loop.example/g01391/impl.errNoBinary"], ifaces := true, apart := false, laid := [("loop.example/g01391/impl.errNoBinary", laid_loop_example_g01391_impl_errNoBinary)], narrowed := true }
def FnExactSidesOfUptoSaid : Prop := fnExactSidesOfUptoRow.holds Tryd.pinned (OpenSpec.upto fnExactSidesOfSpec)

/-- 'laws.FnExactJoinSides', WHERE WHAT IT READS IS OF BULK AT MOST 1048576: true; the input reads as it did. -/
def fnExactJoinSidesUptoRow : OpenClaim := { program := "ytkeahaoeiiigeaadoor", sum := "b1f49d933f6a7340bd8f50deb7cc25f9caadcaa8bf484055f8a9f38e270847ab", func := "loop.example/g01391/laws.FnExactJoinSides", spec := "fnExactJoinSides", unfollowed := true, recurses := true, named := ["loop.example/g01391/impl.errNoBinary"], ifaces := true, apart := false, laid := [("loop.example/g01391/impl.errNoBinary", laid_loop_example_g01391_impl_errNoBinary)], narrowed := true }
def FnExactJoinSidesUptoSaid : Prop := fnExactJoinSidesUptoRow.holds Tryd.pinned (OpenSpec.upto fnExactJoinSidesSpec)

/-- 'laws.FnExactMirrorBinary', WHERE WHAT IT READS IS OF BULK AT MOST 1048576: true; the input reads as it did. -/
def fnExactMirrorBinaryUptoRow : OpenClaim := { program := "ytkeahaoeiiigeaadoor", sum := "b1f49d933f6a7340bd8f50deb7cc25f9caadcaa8bf484055f8a9f38e270847ab", func := "loop.example/g01391/laws.FnExactMirrorBinary", spec := "fnExactMirrorBinary", unfollowed := true, recurses := true, named := ["loop.example/g01391/impl.errNoBinary"], ifaces := true, apart := false, laid := [("loop.example/g01391/impl.errNoBinary", laid_loop_example_g01391_impl_errNoBinary)], narrowed := true }
def FnExactMirrorBinaryUptoSaid : Prop := fnExactMirrorBinaryUptoRow.holds Tryd.pinned (OpenSpec.upto fnExactMirrorBinarySpec)

/-- 'laws.FnExactInnerOrder', WHERE WHAT IT READS IS OF BULK AT MOST 1048576: true; the input reads as it did. -/
def fnExactInnerOrderUptoRow : OpenClaim := { program := "ytkeahaoeiiigeaadoor", sum := "b1f49d933f6a7340bd8f50deb7cc25f9caadcaa8bf484055f8a9f38e270847ab", func := "loop.example/g01391/laws.FnExactInnerOrder", spec := "fnExactInnerOrder", unfollowed := true, recurses := true, named := ["loop.example/g01391/impl.errNoBinary"], ifaces := true, apart := false, laid := [("loop.example/g01391/impl.errNoBinary", laid_loop_example_g01391_impl_errNoBinary)], narrowed := true }
def FnExactInnerOrderUptoSaid : Prop := fnExactInnerOrderUptoRow.holds Tryd.pinned (OpenSpec.upto fnExactInnerOrderSpec)

/-- 'laws.FnExactRotateRight', WHERE WHAT IT READS IS OF BULK AT MOST 1048576: true; the input reads as it did. -/
def fnExactRotateRightUptoRow : OpenClaim := { program := "ytkeahaoeiiigeaadoor", sum := "b1f49d933f6a7340bd8f50deb7cc25f9caadcaa8bf484055f8a9f38e270847ab", func := "loop.example/g01391/laws.FnExactRotateRight", spec := "fnExactRotateRight", inPlace := ["internal/bytealg.IndexByteString"], unfollowed := true, recurses := true, named := ["loop.example/g01391/impl.errNoBinary"], ifaces := true, apart := false, laid := [("loop.example/g01391/impl.errNoBinary", laid_loop_example_g01391_impl_errNoBinary)], narrowed := true }
def FnExactRotateRightUptoSaid : Prop := fnExactRotateRightUptoRow.holds Tryd.pinned (OpenSpec.upto fnExactRotateRightSpec)

/-- 'laws.FnExactRotateLeft', WHERE WHAT IT READS IS OF BULK AT MOST 1048576: true; the input reads as it did. -/
def fnExactRotateLeftUptoRow : OpenClaim := { program := "ytkeahaoeiiigeaadoor", sum := "b1f49d933f6a7340bd8f50deb7cc25f9caadcaa8bf484055f8a9f38e270847ab", func := "loop.example/g01391/laws.FnExactRotateLeft", spec := "fnExactRotateLeft", inPlace := ["internal/bytealg.IndexByteString"], unfollowed := true, recurses := true, named := ["loop.example/g01391/impl.errNoBinary"], ifaces := true, apart := false, laid := [("loop.example/g01391/impl.errNoBinary", laid_loop_example_g01391_impl_errNoBinary)], narrowed := true }
def FnExactRotateLeftUptoSaid : Prop := fnExactRotateLeftUptoRow.holds Tryd.pinned (OpenSpec.upto fnExactRotateLeftSpec)

/-- 'laws.FnExactVectorOf', WHERE WHAT IT READS IS OF BULK AT MOST 1048576: true; the input reads as it did. -/
def fnExactVectorOfUptoRow : OpenClaim := { program := "ytkeahaoeiiigeaadoor", sum := "b1f49d933f6a7340bd8f50deb7cc25f9caadcaa8bf484055f8a9f38e270847ab", func := "loop.example/g01391/laws.FnExactVectorOf", spec := "fnExactVectorOf", unfollowed := true, recurses := true, named := ["loop.example/g01391/impl.errNoBinary"], ifaces := true, apart := false, laid := [("loop.example/g01391/impl.errNoBinary", laid_loop_example_g01391_impl_errNoBinary)], narrowed := true }
def FnExactVectorOfUptoSaid : Prop := fnExactVectorOfUptoRow.holds Tryd.pinned (OpenSpec.upto fnExactVectorOfSpec)

/-- 'laws.FnExactBinaryOfVector', WHERE WHAT IT READS IS OF BULK AT MOST 1048576: true; the input reads as it did. -/
def fnExactBinaryOfVectorUptoRow : OpenClaim := { program := "ytkeahaoeiiigeaadoor", sum := "b1f49d933f6a7340bd8f50deb7cc25f9caadcaa8bf484055f8a9f38e270847ab", func := "loop.example/g01391/laws.FnExactBinaryOfVector", spec := "fnExactBinaryOfVector", unfollowed := true, recurses := true, named := ["loop.example/g01391/impl.errNoVector"], ifaces := true, apart := false, laid := [("loop.example/g01391/impl.errNoVector", laid_loop_example_g01391_impl_errNoVector)], narrowed := true }
def FnExactBinaryOfVectorUptoSaid : Prop := fnExactBinaryOfVectorUptoRow.holds Tryd.pinned (OpenSpec.upto fnExactBinaryOfVectorSpec)

/-- 'laws.FnExactIsAtMost', WHERE WHAT IT READS IS OF BULK AT MOST 1048576: true; the input reads as it did. -/
def fnExactIsAtMostUptoRow : OpenClaim := { program := "ytkeahaoeiiigeaadoor", sum := "b1f49d933f6a7340bd8f50deb7cc25f9caadcaa8bf484055f8a9f38e270847ab", func := "loop.example/g01391/laws.FnExactIsAtMost", spec := "fnExactIsAtMost", unfollowed := true, recurses := true, named := ["loop.example/g01391/impl.errNoBinary"], ifaces := true, apart := false, laid := [("loop.example/g01391/impl.errNoBinary", laid_loop_example_g01391_impl_errNoBinary)], narrowed := true }
def FnExactIsAtMostUptoSaid : Prop := fnExactIsAtMostUptoRow.holds Tryd.pinned (OpenSpec.upto fnExactIsAtMostSpec)

/-- 'laws.FnExactMeetOfBinary', WHERE WHAT IT READS IS OF BULK AT MOST 1048576: true; the input reads as it did. -/
def fnExactMeetOfBinaryUptoRow : OpenClaim := { program := "ytkeahaoeiiigeaadoor", sum := "b1f49d933f6a7340bd8f50deb7cc25f9caadcaa8bf484055f8a9f38e270847ab", func := "loop.example/g01391/laws.FnExactMeetOfBinary", spec := "fnExactMeetOfBinary", unfollowed := true, recurses := true, named := ["loop.example/g01391/impl.errNoBinary", "loop.example/g01391/impl.errNoVector"], ifaces := true, apart := false, laid := [("loop.example/g01391/impl.errNoBinary", laid_loop_example_g01391_impl_errNoBinary), ("loop.example/g01391/impl.errNoVector", laid_loop_example_g01391_impl_errNoVector)], narrowed := true }
def FnExactMeetOfBinaryUptoSaid : Prop := fnExactMeetOfBinaryUptoRow.holds Tryd.pinned (OpenSpec.upto fnExactMeetOfBinarySpec)

/-- 'laws.FnExactBracketsOf', WHERE WHAT IT READS IS OF BULK AT MOST 1048576: true; the input reads as it did. -/
def fnExactBracketsOfUptoRow : OpenClaim := { program := "ytkeahaoeiiigeaadoor", sum := "b1f49d933f6a7340bd8f50deb7cc25f9caadcaa8bf484055f8a9f38e270847ab", func := "loop.example/g01391/laws.FnExactBracketsOf", spec := "fnExactBracketsOf", unfollowed := true, recurses := true, named := ["loop.example/g01391/impl.errNoBinary"], ifaces := true, apart := false, laid := [("loop.example/g01391/impl.errNoBinary", laid_loop_example_g01391_impl_errNoBinary)], narrowed := true }
def FnExactBracketsOfUptoSaid : Prop := fnExactBracketsOfUptoRow.holds Tryd.pinned (OpenSpec.upto fnExactBracketsOfSpec)

/-- 'laws.FnExactParseBrackets', WHERE WHAT IT READS IS OF BULK AT MOST 1048576: true; the input reads as it did. -/
def fnExactParseBracketsUptoRow : OpenClaim := { program := "ytkeahaoeiiigeaadoor", sum := "b1f49d933f6a7340bd8f50deb7cc25f9caadcaa8bf484055f8a9f38e270847ab", func := "loop.example/g01391/laws.FnExactParseBrackets", spec := "fnExactParseBrackets", inPlace := ["internal/abi.NoEscape", "internal/bytealg.MakeNoZero"], unfollowed := true, recurses := true, named := ["unicode/utf8.first", "unicode/utf8.acceptRanges", "loop.example/g01391/impl.errNoBinary"], ifaces := true, apart := false, laid := [("unicode/utf8.acceptRanges", laid_unicode_utf8_acceptRanges), ("loop.example/g01391/impl.errNoBinary", laid_loop_example_g01391_impl_errNoBinary), ("unicode/utf8.first", laid_unicode_utf8_first)], narrowed := true }
def FnExactParseBracketsUptoSaid : Prop := fnExactParseBracketsUptoRow.holds Tryd.pinned (OpenSpec.upto fnExactParseBracketsSpec)

end Rows
end Go.Proofs.YtkeahaoeiiigeaaDoor
