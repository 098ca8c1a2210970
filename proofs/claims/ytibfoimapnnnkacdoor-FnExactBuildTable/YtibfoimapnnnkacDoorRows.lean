/-
  NARROWER THAN 'FOR EVERY INPUT', by the rows' own cells (each row's printed sentence says how): FnExactBuildTable: laid · FnFlip: laid · FnSalvage: laid.
  DERIVED. THE GIVEN ROWS OF THIS SEAT. 3 by the template 'for every input the law returns true; each argument reads behind the call as it read before'; 0 by the template 'total and deterministic' (their statements: YtibfoimapnnnkacDoorTotals.lean).
  GIVEN WITH THE SEED: the statements are not yours to turn. If you find one false, say at which input.
  Laid BY PROGRAM, IN A SANDBOX (cutbox-rows.mjs): the forced cells as the released guide's own fill.sh prints them over the translation 491ac5e0eeae0b6e… (all of the seat's roots in one cut). By AI agents, Wed Nov 11 2026. No macro, syntax, notation, axiom, sorry.
-/
import Derived.Test.YtibfoimapnnnkacDoorChecked
import GoSem.PinnedTables
import GoSem.Claim
import GoSem.ClaimJoined
import GoSem.ClaimMapViews
import Derived.JoinedTies
import Derived.KernelRfl
namespace Go.Proofs.YtibfoimapnnnkacDoor
/- THE CELL 'sum', in the pinned program and in every row, IS THE sha256 OF THE DUMP (.gsa) THAT YtibfoimapnnnkacDoorProg.lean LOADS. Nothing in Lean hashes anything: it is a label: what it is worth is what the hold of that sum in a sandbox is worth. -/
noncomputable def Tryd.pinned : Pinned := { name := "ytibfoimapnnnkacdoor", sum := "491ac5e0eeae0b6e668bac4ea7527a4c9ce2a07689e70ddaec89578e2553e4cb", checked := Tryd.checked }
namespace Rows
def none {H : Type} : Left H := { results := [], args := [] }

/- WHAT THE LISTED PACKAGE-LEVEL VARIABLES READ AS WHEN THE CALL BEGINS. Each datum BY PROGRAM (the guide's laid-datum.mjs) off the statement by which the dump's own 'gosem.cut.vars' lays the variable. In a bare row this is a premise. The card (YtibfoimapnnnkacDoorCards.lean) ties it to the program's text. -/
def laid_loop_example_s01733_impl_crcSteps {H : Type} : DataW H := .agg [.lit (.int .u32 0), .lit (.int .u32 274646895), .lit (.int .u32 549293790), .lit (.int .u32 820201905), .lit (.int .u32 1098587580), .lit (.int .u32 1361435347), .lit (.int .u32 1640403810), .lit (.int .u32 1905808397), .lit (.int .u32 2197175160), .lit (.int .u32 2460548119), .lit (.int .u32 2722870694), .lit (.int .u32 2987750089), .lit (.int .u32 3280807620), .lit (.int .u32 3553878443), .lit (.int .u32 3811616794), .lit (.int .u32 4084100981)]
def laid_unicode_utf8_acceptRanges {H : Type} : DataW H := .agg [.agg [.lit (.int .u8 128), .lit (.int .u8 191)], .agg [.lit (.int .u8 160), .lit (.int .u8 191)], .agg [.lit (.int .u8 128), .lit (.int .u8 159)], .agg [.lit (.int .u8 144), .lit (.int .u8 191)], .agg [.lit (.int .u8 128), .lit (.int .u8 143)], .agg [.lit (.int .u8 0), .lit (.int .u8 0)], .agg [.lit (.int .u8 0), .lit (.int .u8 0)], .agg [.lit (.int .u8 0), .lit (.int .u8 0)], .agg [.lit (.int .u8 0), .lit (.int .u8 0)], .agg [.lit (.int .u8 0), .lit (.int .u8 0)], .agg [.lit (.int .u8 0), .lit (.int .u8 0)], .agg [.lit (.int .u8 0), .lit (.int .u8 0)], .agg [.lit (.int .u8 0), .lit (.int .u8 0)], .agg [.lit (.int .u8 0), .lit (.int .u8 0)], .agg [.lit (.int .u8 0), .lit (.int .u8 0)], .agg [.lit (.int .u8 0), .lit (.int .u8 0)]]
/-- One of Go's own tables, pinned by name: the form's constant. -/
def laid_unicode_utf8_first : DataW Unit := Go.Pinned.utf8First

/-- 'laws.FnExactBuildTable': WHATEVER THE INPUT: true; the input reads as it did. -/
def fnExactBuildTableSpec : ChangeSpec := { name := "fnExactBuildTable", vars := ["loop.example/s01733/impl.crcSteps"], fn := fun _ => fun
  | [d, g1] => { results := [.lit (.bool true)], args := [d], vars := [g1] }
  | _ => none }
def fnExactBuildTableRow : OpenClaim := { program := "ytibfoimapnnnkacdoor", sum := "491ac5e0eeae0b6e668bac4ea7527a4c9ce2a07689e70ddaec89578e2553e4cb", func := "loop.example/s01733/laws.FnExactBuildTable", spec := "fnExactBuildTable", inPlace := ["internal/bytealg.abigen_runtime_cmpstring", "internal/abi.NoEscape", "internal/bytealg.MakeNoZero"], unfollowed := true, recurses := true, named := ["loop.example/s01733/impl.crcSteps"], apart := false, laid := [("loop.example/s01733/impl.crcSteps", laid_loop_example_s01733_impl_crcSteps)] }
def FnExactBuildTableSaid : Prop := fnExactBuildTableRow.holds Tryd.pinned (OpenSpec.ofChange fnExactBuildTableSpec)

/-- ITS FALSE NEIGHBOUR: 'it returns false'. Refute it at one input. -/
def fnExactBuildTableWrong : ChangeSpec := { name := "fnExactBuildTable", vars := ["loop.example/s01733/impl.crcSteps"], fn := fun _ => fun
  | [d, g1] => { results := [.lit (.bool false)], args := [d], vars := [g1] }
  | _ => none }
def FnExactBuildTableWrongFalsely : Prop := fnExactBuildTableRow.holds Tryd.pinned (OpenSpec.ofChange fnExactBuildTableWrong)

/-- 'laws.FnFlip': WHATEVER THE INPUT: true; the input reads as it did. -/
def fnFlipSpec : ChangeSpec := { name := "fnFlip", vars := ["loop.example/s01733/impl.crcSteps"], fn := fun _ => fun
  | [d1, d2, g1] => { results := [.lit (.bool true)], args := [d1, d2], vars := [g1] }
  | _ => none }
def fnFlipRow : OpenClaim := { program := "ytibfoimapnnnkacdoor", sum := "491ac5e0eeae0b6e668bac4ea7527a4c9ce2a07689e70ddaec89578e2553e4cb", func := "loop.example/s01733/laws.FnFlip", spec := "fnFlip", inPlace := ["internal/abi.NoEscape", "internal/bytealg.MakeNoZero", "internal/bytealg.IndexByteString", "internal/bytealg.IndexString"], unfollowed := true, recurses := true, named := ["loop.example/s01733/impl.crcSteps", "unicode/utf8.first", "unicode/utf8.acceptRanges", "internal/bytealg.MaxLen"], apart := false, laid := [("unicode/utf8.acceptRanges", laid_unicode_utf8_acceptRanges), ("loop.example/s01733/impl.crcSteps", laid_loop_example_s01733_impl_crcSteps), ("unicode/utf8.first", laid_unicode_utf8_first)] }
def FnFlipSaid : Prop := fnFlipRow.holds Tryd.pinned (OpenSpec.ofChange fnFlipSpec)

/-- ITS FALSE NEIGHBOUR: 'it returns false'. Refute it at one input. -/
def fnFlipWrong : ChangeSpec := { name := "fnFlip", vars := ["loop.example/s01733/impl.crcSteps"], fn := fun _ => fun
  | [d1, d2, g1] => { results := [.lit (.bool false)], args := [d1, d2], vars := [g1] }
  | _ => none }
def FnFlipWrongFalsely : Prop := fnFlipRow.holds Tryd.pinned (OpenSpec.ofChange fnFlipWrong)

/-- 'laws.FnSalvage': WHATEVER THE INPUT: true; the input reads as it did. -/
def fnSalvageSpec : ChangeSpec := { name := "fnSalvage", vars := ["loop.example/s01733/impl.crcSteps"], fn := fun _ => fun
  | [d1, d2, g1] => { results := [.lit (.bool true)], args := [d1, d2], vars := [g1] }
  | _ => none }
def fnSalvageRow : OpenClaim := { program := "ytibfoimapnnnkacdoor", sum := "491ac5e0eeae0b6e668bac4ea7527a4c9ce2a07689e70ddaec89578e2553e4cb", func := "loop.example/s01733/laws.FnSalvage", spec := "fnSalvage", inPlace := ["internal/abi.NoEscape", "internal/bytealg.MakeNoZero", "internal/bytealg.IndexByteString", "internal/bytealg.IndexString"], unfollowed := true, recurses := true, named := ["loop.example/s01733/impl.crcSteps", "unicode/utf8.first", "unicode/utf8.acceptRanges", "internal/bytealg.MaxLen"], apart := false, laid := [("unicode/utf8.acceptRanges", laid_unicode_utf8_acceptRanges), ("loop.example/s01733/impl.crcSteps", laid_loop_example_s01733_impl_crcSteps), ("unicode/utf8.first", laid_unicode_utf8_first)] }
def FnSalvageSaid : Prop := fnSalvageRow.holds Tryd.pinned (OpenSpec.ofChange fnSalvageSpec)

/-- ITS FALSE NEIGHBOUR: 'it returns false'. Refute it at one input. -/
def fnSalvageWrong : ChangeSpec := { name := "fnSalvage", vars := ["loop.example/s01733/impl.crcSteps"], fn := fun _ => fun
  | [d1, d2, g1] => { results := [.lit (.bool false)], args := [d1, d2], vars := [g1] }
  | _ => none }
def FnSalvageWrongFalsely : Prop := fnSalvageRow.holds Tryd.pinned (OpenSpec.ofChange fnSalvageWrong)

/- THE SECOND FORM. 'bulk': how many values and letters a reading holds, each counted each time it is reached (what is shared counts as often as it is met; a slice's spare places count too). A statement '..UptoSaid' is the law's where the arguments, and the package variables that the reading takes, are together of bulk at most 1048576: NARROWER than '..Said'. Prove '..Said' where nothing that the law and all that it calls make is longer than what came in: it says more and counts as full. Else prove '..UptoSaid'. A law counts once. -/
mutual
def uptoBulk {H : Type} : DataW H → Nat
  | .lit (.string bytes) => bytes.length + 1
  | .lit _ => 1
  | .nil => 1
  | .ptr d => uptoBulk d + 1
  | .slice elems spare => uptoBulkAll elems + uptoBulkAll spare + 1
  | .agg parts => uptoBulkAll parts + 1
  | .iface _ d => uptoBulk d + 1
  | .map entries => uptoBulkEntries entries + 1
  | .held _ => 1
def uptoBulkAll {H : Type} : List (DataW H) → Nat
  | [] => 0
  | d :: r => uptoBulk d + uptoBulkAll r
def uptoBulkEntries {H : Type} : List (Lit × DataW H) → Nat
  | [] => 0
  | x :: r => uptoBulkEntry x + uptoBulkEntries r
def uptoBulkEntry {H : Type} : Lit × DataW H → Nat
  | (.string bytes, d) => bytes.length + uptoBulk d + 1
  | (_, d) => uptoBulk d + 1
 end
def uptoSmall : (H : Type) → List (DataW H) → Bool := fun _ ds => decide (uptoBulkAll ds ≤ 1048576)
def OpenSpec.upto (s : _root_.Go.ChangeSpec) : _root_.Go.OpenSpec := { _root_.Go.OpenSpec.ofChange s with cond := some uptoSmall }

/-- 'laws.FnExactBuildTable', WHERE WHAT IT READS IS OF BULK AT MOST 1048576: true; the input reads as it did. -/
def fnExactBuildTableUptoRow : OpenClaim := { program := "ytibfoimapnnnkacdoor", sum := "491ac5e0eeae0b6e668bac4ea7527a4c9ce2a07689e70ddaec89578e2553e4cb", func := "loop.example/s01733/laws.FnExactBuildTable", spec := "fnExactBuildTable", inPlace := ["internal/bytealg.abigen_runtime_cmpstring", "internal/abi.NoEscape", "internal/bytealg.MakeNoZero"], unfollowed := true, recurses := true, named := ["loop.example/s01733/impl.crcSteps"], apart := false, laid := [("loop.example/s01733/impl.crcSteps", laid_loop_example_s01733_impl_crcSteps)], narrowed := true }
def FnExactBuildTableUptoSaid : Prop := fnExactBuildTableUptoRow.holds Tryd.pinned (OpenSpec.upto fnExactBuildTableSpec)

/-- 'laws.FnFlip', WHERE WHAT IT READS IS OF BULK AT MOST 1048576: true; the input reads as it did. -/
def fnFlipUptoRow : OpenClaim := { program := "ytibfoimapnnnkacdoor", sum := "491ac5e0eeae0b6e668bac4ea7527a4c9ce2a07689e70ddaec89578e2553e4cb", func := "loop.example/s01733/laws.FnFlip", spec := "fnFlip", inPlace := ["internal/abi.NoEscape", "internal/bytealg.MakeNoZero", "internal/bytealg.IndexByteString", "internal/bytealg.IndexString"], unfollowed := true, recurses := true, named := ["loop.example/s01733/impl.crcSteps", "unicode/utf8.first", "unicode/utf8.acceptRanges", "internal/bytealg.MaxLen"], apart := false, laid := [("unicode/utf8.acceptRanges", laid_unicode_utf8_acceptRanges), ("loop.example/s01733/impl.crcSteps", laid_loop_example_s01733_impl_crcSteps), ("unicode/utf8.first", laid_unicode_utf8_first)], narrowed := true }
def FnFlipUptoSaid : Prop := fnFlipUptoRow.holds Tryd.pinned (OpenSpec.upto fnFlipSpec)

/-- 'laws.FnSalvage', WHERE WHAT IT READS IS OF BULK AT MOST 1048576: true; the input reads as it did. -/
def fnSalvageUptoRow : OpenClaim := { program := "ytibfoimapnnnkacdoor", sum := "491ac5e0eeae0b6e668bac4ea7527a4c9ce2a07689e70ddaec89578e2553e4cb", func := "loop.example/s01733/laws.FnSalvage", spec := "fnSalvage", inPlace := ["internal/abi.NoEscape", "internal/bytealg.MakeNoZero", "internal/bytealg.IndexByteString", "internal/bytealg.IndexString"], unfollowed := true, recurses := true, named := ["loop.example/s01733/impl.crcSteps", "unicode/utf8.first", "unicode/utf8.acceptRanges", "internal/bytealg.MaxLen"], apart := false, laid := [("unicode/utf8.acceptRanges", laid_unicode_utf8_acceptRanges), ("loop.example/s01733/impl.crcSteps", laid_loop_example_s01733_impl_crcSteps), ("unicode/utf8.first", laid_unicode_utf8_first)], narrowed := true }
def FnSalvageUptoSaid : Prop := fnSalvageUptoRow.holds Tryd.pinned (OpenSpec.upto fnSalvageSpec)

end Rows
end Go.Proofs.YtibfoimapnnnkacDoor
