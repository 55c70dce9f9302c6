/-
  NARROWER THAN 'FOR EVERY INPUT', by the rows' own cells (each row's printed sentence says how): TableBuilds: laid · TableOpens: laid · TableNobody: laid · TableBack: laid · TableShapes: laid · TableTurned: laid.
  DERIVED. THE GIVEN ROWS OF THIS SEAT. 6 by the template 'for every input the law returns true; each argument reads behind the call as it read before'; 0 by the template 'total and deterministic' (their statements: YtcnhpfdodbpipaaGreatDoorTotals.lean).
  GIVEN WITH THE SEED: the statements are not yours to turn. If you find one false, say at which input.
  Laid BY PROGRAM, IN A SANDBOX (cutbox-rows.mjs): the forced cells as the released guide's own fill.sh prints them over the translation 64792068c54cd741… (all of the seat's roots in one cut). By AI agents, Wed Nov 11 2026. No macro, syntax, notation, axiom, sorry.
-/
import Derived.Test.YtcnhpfdodbpipaaGreatDoorChecked
import GoSem.Claim
import GoSem.ClaimJoined
import GoSem.ClaimMapViews
import Derived.JoinedTies
import Derived.KernelRfl
namespace Go.Proofs.YtcnhpfdodbpipaaGreatDoor
/- THE CELL 'sum', in the pinned program and in every row, IS THE sha256 OF THE DUMP (.gsa) THAT YtcnhpfdodbpipaaGreatDoorProg.lean LOADS. Nothing in Lean hashes anything: it is a label: what it is worth is what the hold of that sum in a sandbox is worth. -/
noncomputable def Tryz.pinned : Pinned := { name := "ytcnhpfdodbpipaagreatdoor", sum := "64792068c54cd741766345ae2836958710532baf451c84a3868a81c914084645", checked := Tryz.checked }
namespace Rows
def none {H : Type} : Left H := { results := [], args := [] }

/- WHAT THE LISTED PACKAGE-LEVEL VARIABLES READ AS WHEN THE CALL BEGINS. Each datum BY PROGRAM (the guide's laid-datum.mjs) off the statement by which the dump's own 'gosem.cut.vars' lays the variable. In a bare row this is a premise. The card (YtcnhpfdodbpipaaGreatDoorCards.lean) ties it to the program's text. -/
def laid_moraine_check_ofHalf {H : Type} : DataW H := .agg [.lit (.int .u32 0), .lit (.int .u32 274646895), .lit (.int .u32 549293790), .lit (.int .u32 820201905), .lit (.int .u32 1098587580), .lit (.int .u32 1361435347), .lit (.int .u32 1640403810), .lit (.int .u32 1905808397), .lit (.int .u32 2197175160), .lit (.int .u32 2460548119), .lit (.int .u32 2722870694), .lit (.int .u32 2987750089), .lit (.int .u32 3280807620), .lit (.int .u32 3553878443), .lit (.int .u32 3811616794), .lit (.int .u32 4084100981)]

/-- 'morainelaw13.TableBuilds': WHATEVER THE INPUT: true; the input reads as it did. -/
def tableBuildsSpec : ChangeSpec := { name := "tableBuilds", fn := fun _ => fun
  | [d1, d2] => { results := [.lit (.bool true)], args := [d1, d2] }
  | _ => none }
def tableBuildsRow : OpenClaim := { program := "ytcnhpfdodbpipaagreatdoor", sum := "64792068c54cd741766345ae2836958710532baf451c84a3868a81c914084645", func := "moraine/morainelaw13.TableBuilds", spec := "tableBuilds", inPlace := ["internal/bytealg.abigen_runtime_cmpstring"], unfollowed := true, recurses := true, named := ["moraine/check.ofHalf"], plainKeys := false, apart := false, laid := [("moraine/check.ofHalf", laid_moraine_check_ofHalf)] }
def TableBuildsSaid : Prop := tableBuildsRow.holds Tryz.pinned (OpenSpec.ofChange tableBuildsSpec)

/-- ITS FALSE NEIGHBOUR: 'it returns false'. Refute it at one input. -/
def tableBuildsWrong : ChangeSpec := { name := "tableBuilds", fn := fun _ => fun
  | [d1, d2] => { results := [.lit (.bool false)], args := [d1, d2] }
  | _ => none }
def TableBuildsWrongFalsely : Prop := tableBuildsRow.holds Tryz.pinned (OpenSpec.ofChange tableBuildsWrong)

/-- 'morainelaw13.TableOpens': WHATEVER THE INPUT: true; the input reads as it did. -/
def tableOpensSpec : ChangeSpec := { name := "tableOpens", fn := fun _ => fun
  | [d1, d2] => { results := [.lit (.bool true)], args := [d1, d2] }
  | _ => none }
def tableOpensRow : OpenClaim := { program := "ytcnhpfdodbpipaagreatdoor", sum := "64792068c54cd741766345ae2836958710532baf451c84a3868a81c914084645", func := "moraine/morainelaw13.TableOpens", spec := "tableOpens", inPlace := ["internal/bytealg.abigen_runtime_cmpstring"], unfollowed := true, recurses := true, named := ["moraine/check.ofHalf"], plainKeys := false, apart := false, laid := [("moraine/check.ofHalf", laid_moraine_check_ofHalf)] }
def TableOpensSaid : Prop := tableOpensRow.holds Tryz.pinned (OpenSpec.ofChange tableOpensSpec)

/-- ITS FALSE NEIGHBOUR: 'it returns false'. Refute it at one input. -/
def tableOpensWrong : ChangeSpec := { name := "tableOpens", fn := fun _ => fun
  | [d1, d2] => { results := [.lit (.bool false)], args := [d1, d2] }
  | _ => none }
def TableOpensWrongFalsely : Prop := tableOpensRow.holds Tryz.pinned (OpenSpec.ofChange tableOpensWrong)

/-- 'morainelaw13.TableNobody': WHATEVER THE INPUT: true; the input reads as it did. -/
def tableNobodySpec : ChangeSpec := { name := "tableNobody", fn := fun _ => fun
  | [d1, d2] => { results := [.lit (.bool true)], args := [d1, d2] }
  | _ => none }
def tableNobodyRow : OpenClaim := { program := "ytcnhpfdodbpipaagreatdoor", sum := "64792068c54cd741766345ae2836958710532baf451c84a3868a81c914084645", func := "moraine/morainelaw13.TableNobody", spec := "tableNobody", inPlace := ["internal/bytealg.abigen_runtime_cmpstring"], unfollowed := true, recurses := true, named := ["moraine/check.ofHalf"], plainKeys := false, apart := false, laid := [("moraine/check.ofHalf", laid_moraine_check_ofHalf)] }
def TableNobodySaid : Prop := tableNobodyRow.holds Tryz.pinned (OpenSpec.ofChange tableNobodySpec)

/-- ITS FALSE NEIGHBOUR: 'it returns false'. Refute it at one input. -/
def tableNobodyWrong : ChangeSpec := { name := "tableNobody", fn := fun _ => fun
  | [d1, d2] => { results := [.lit (.bool false)], args := [d1, d2] }
  | _ => none }
def TableNobodyWrongFalsely : Prop := tableNobodyRow.holds Tryz.pinned (OpenSpec.ofChange tableNobodyWrong)

/-- 'morainelaw13.TableBack': WHATEVER THE INPUT: true; the input reads as it did. -/
def tableBackSpec : ChangeSpec := { name := "tableBack", fn := fun _ => fun
  | [d1, d2, d3] => { results := [.lit (.bool true)], args := [d1, d2, d3] }
  | _ => none }
def tableBackRow : OpenClaim := { program := "ytcnhpfdodbpipaagreatdoor", sum := "64792068c54cd741766345ae2836958710532baf451c84a3868a81c914084645", func := "moraine/morainelaw13.TableBack", spec := "tableBack", inPlace := ["internal/bytealg.abigen_runtime_cmpstring"], unfollowed := true, recurses := true, named := ["moraine/check.ofHalf"], plainKeys := false, apart := false, laid := [("moraine/check.ofHalf", laid_moraine_check_ofHalf)] }
def TableBackSaid : Prop := tableBackRow.holds Tryz.pinned (OpenSpec.ofChange tableBackSpec)

/-- ITS FALSE NEIGHBOUR: 'it returns false'. Refute it at one input. -/
def tableBackWrong : ChangeSpec := { name := "tableBack", fn := fun _ => fun
  | [d1, d2, d3] => { results := [.lit (.bool false)], args := [d1, d2, d3] }
  | _ => none }
def TableBackWrongFalsely : Prop := tableBackRow.holds Tryz.pinned (OpenSpec.ofChange tableBackWrong)

/-- 'morainelaw13.TableShapes': WHATEVER THE INPUT: true; the input reads as it did. -/
def tableShapesSpec : ChangeSpec := { name := "tableShapes", fn := fun _ => fun
  | [d1, d2, d3] => { results := [.lit (.bool true)], args := [d1, d2, d3] }
  | _ => none }
def tableShapesRow : OpenClaim := { program := "ytcnhpfdodbpipaagreatdoor", sum := "64792068c54cd741766345ae2836958710532baf451c84a3868a81c914084645", func := "moraine/morainelaw13.TableShapes", spec := "tableShapes", inPlace := ["internal/bytealg.abigen_runtime_cmpstring"], unfollowed := true, recurses := true, named := ["moraine/check.ofHalf"], plainKeys := false, apart := false, laid := [("moraine/check.ofHalf", laid_moraine_check_ofHalf)] }
def TableShapesSaid : Prop := tableShapesRow.holds Tryz.pinned (OpenSpec.ofChange tableShapesSpec)

/-- ITS FALSE NEIGHBOUR: 'it returns false'. Refute it at one input. -/
def tableShapesWrong : ChangeSpec := { name := "tableShapes", fn := fun _ => fun
  | [d1, d2, d3] => { results := [.lit (.bool false)], args := [d1, d2, d3] }
  | _ => none }
def TableShapesWrongFalsely : Prop := tableShapesRow.holds Tryz.pinned (OpenSpec.ofChange tableShapesWrong)

/-- 'morainelaw13.TableTurned': WHATEVER THE INPUT: true; the input reads as it did. -/
def tableTurnedSpec : ChangeSpec := { name := "tableTurned", fn := fun _ => fun
  | [d1, d2, d3] => { results := [.lit (.bool true)], args := [d1, d2, d3] }
  | _ => none }
def tableTurnedRow : OpenClaim := { program := "ytcnhpfdodbpipaagreatdoor", sum := "64792068c54cd741766345ae2836958710532baf451c84a3868a81c914084645", func := "moraine/morainelaw13.TableTurned", spec := "tableTurned", inPlace := ["internal/bytealg.abigen_runtime_cmpstring"], unfollowed := true, recurses := true, named := ["moraine/check.ofHalf"], plainKeys := false, apart := false, laid := [("moraine/check.ofHalf", laid_moraine_check_ofHalf)] }
def TableTurnedSaid : Prop := tableTurnedRow.holds Tryz.pinned (OpenSpec.ofChange tableTurnedSpec)

/-- ITS FALSE NEIGHBOUR: 'it returns false'. Refute it at one input. -/
def tableTurnedWrong : ChangeSpec := { name := "tableTurned", fn := fun _ => fun
  | [d1, d2, d3] => { results := [.lit (.bool false)], args := [d1, d2, d3] }
  | _ => none }
def TableTurnedWrongFalsely : Prop := tableTurnedRow.holds Tryz.pinned (OpenSpec.ofChange tableTurnedWrong)

/- THE SECOND FORM. 'bulk': how many values and letters a reading holds, each counted each time it is reached (what is shared counts as often as it is met; a slice's spare places count too). A statement '..UptoSaid' is the law's where the arguments, and the package variables that the reading takes, are together of bulk at most 1048576: NARROWER than '..Said'. Prove '..Said' where nothing that the law and all that it calls make is longer than what came in: it says more and counts as full. Else prove '..UptoSaid'. A law counts once. -/
mutual
def uptoBulk {H : Type} : DataW H → Nat
  | .lit (.string bytes) => bytes.length + 1
  | .lit _ => 1
  | .nil => 1
  | .ptr d => uptoBulk d + 1
  | .slice elems spare => uptoBulkAll elems + uptoBulkAll spare + 1
  | .agg parts => uptoBulkAll parts + 1
  | .iface _ d => uptoBulk d + 1
  | .map entries => uptoBulkEntries entries + 1
  | .held _ => 1
def uptoBulkAll {H : Type} : List (DataW H) → Nat
  | [] => 0
  | d :: r => uptoBulk d + uptoBulkAll r
def uptoBulkEntries {H : Type} : List (Lit × DataW H) → Nat
  | [] => 0
  | x :: r => uptoBulkEntry x + uptoBulkEntries r
def uptoBulkEntry {H : Type} : Lit × DataW H → Nat
  | (.string bytes, d) => bytes.length + uptoBulk d + 1
  | (_, d) => uptoBulk d + 1
 end
def uptoSmall : (H : Type) → List (DataW H) → Bool := fun _ ds => decide (uptoBulkAll ds ≤ 1048576)
def OpenSpec.upto (s : _root_.Go.ChangeSpec) : _root_.Go.OpenSpec := { _root_.Go.OpenSpec.ofChange s with cond := some uptoSmall }

/-- 'morainelaw13.TableBuilds', WHERE WHAT IT READS IS OF BULK AT MOST 1048576: true; the input reads as it did. -/
def tableBuildsUptoRow : OpenClaim := { program := "ytcnhpfdodbpipaagreatdoor", sum := "64792068c54cd741766345ae2836958710532baf451c84a3868a81c914084645", func := "moraine/morainelaw13.TableBuilds", spec := "tableBuilds", inPlace := ["internal/bytealg.abigen_runtime_cmpstring"], unfollowed := true, recurses := true, named := ["moraine/check.ofHalf"], plainKeys := false, apart := false, laid := [("moraine/check.ofHalf", laid_moraine_check_ofHalf)], narrowed := true }
def TableBuildsUptoSaid : Prop := tableBuildsUptoRow.holds Tryz.pinned (OpenSpec.upto tableBuildsSpec)

/-- 'morainelaw13.TableOpens', WHERE WHAT IT READS IS OF BULK AT MOST 1048576: true; the input reads as it did. -/
def tableOpensUptoRow : OpenClaim := { program := "ytcnhpfdodbpipaagreatdoor", sum := "64792068c54cd741766345ae2836958710532baf451c84a3868a81c914084645", func := "moraine/morainelaw13.TableOpens", spec := "tableOpens", inPlace := ["internal/bytealg.abigen_runtime_cmpstring"], unfollowed := true, recurses := true, named := ["moraine/check.ofHalf"], plainKeys := false, apart := false, laid := [("moraine/check.ofHalf", laid_moraine_check_ofHalf)], narrowed := true }
def TableOpensUptoSaid : Prop := tableOpensUptoRow.holds Tryz.pinned (OpenSpec.upto tableOpensSpec)

/-- 'morainelaw13.TableNobody', WHERE WHAT IT READS IS OF BULK AT MOST 1048576: true; the input reads as it did. -/
def tableNobodyUptoRow : OpenClaim := { program := "ytcnhpfdodbpipaagreatdoor", sum := "64792068c54cd741766345ae2836958710532baf451c84a3868a81c914084645", func := "moraine/morainelaw13.TableNobody", spec := "tableNobody", inPlace := ["internal/bytealg.abigen_runtime_cmpstring"], unfollowed := true, recurses := true, named := ["moraine/check.ofHalf"], plainKeys := false, apart := false, laid := [("moraine/check.ofHalf", laid_moraine_check_ofHalf)], narrowed := true }
def TableNobodyUptoSaid : Prop := tableNobodyUptoRow.holds Tryz.pinned (OpenSpec.upto tableNobodySpec)

/-- 'morainelaw13.TableBack', WHERE WHAT IT READS IS OF BULK AT MOST 1048576: true; the input reads as it did. -/
def tableBackUptoRow : OpenClaim := { program := "ytcnhpfdodbpipaagreatdoor", sum := "64792068c54cd741766345ae2836958710532baf451c84a3868a81c914084645", func := "moraine/morainelaw13.TableBack", spec := "tableBack", inPlace := ["internal/bytealg.abigen_runtime_cmpstring"], unfollowed := true, recurses := true, named := ["moraine/check.ofHalf"], plainKeys := false, apart := false, laid := [("moraine/check.ofHalf", laid_moraine_check_ofHalf)], narrowed := true }
def TableBackUptoSaid : Prop := tableBackUptoRow.holds Tryz.pinned (OpenSpec.upto tableBackSpec)

/-- 'morainelaw13.TableShapes', WHERE WHAT IT READS IS OF BULK AT MOST 1048576: true; the input reads as it did. -/
def tableShapesUptoRow : OpenClaim := { program := "ytcnhpfdodbpipaagreatdoor", sum := "64792068c54cd741766345ae2836958710532baf451c84a3868a81c914084645", func := "moraine/morainelaw13.TableShapes", spec := "tableShapes", inPlace := ["internal/bytealg.abigen_runtime_cmpstring"], unfollowed := true, recurses := true, named := ["moraine/check.ofHalf"], plainKeys := false, apart := false, laid := [("moraine/check.ofHalf", laid_moraine_check_ofHalf)], narrowed := true }
def TableShapesUptoSaid : Prop := tableShapesUptoRow.holds Tryz.pinned (OpenSpec.upto tableShapesSpec)

/-- 'morainelaw13.TableTurned', WHERE WHAT IT READS IS OF BULK AT MOST 1048576: true; the input reads as it did. -/
def tableTurnedUptoRow : OpenClaim := { program := "ytcnhpfdodbpipaagreatdoor", sum := "64792068c54cd741766345ae2836958710532baf451c84a3868a81c914084645", func := "moraine/morainelaw13.TableTurned", spec := "tableTurned", inPlace := ["internal/bytealg.abigen_runtime_cmpstring"], unfollowed := true, recurses := true, named := ["moraine/check.ofHalf"], plainKeys := false, apart := false, laid := [("moraine/check.ofHalf", laid_moraine_check_ofHalf)], narrowed := true }
def TableTurnedUptoSaid : Prop := tableTurnedUptoRow.holds Tryz.pinned (OpenSpec.upto tableTurnedSpec)

end Rows
end Go.Proofs.YtcnhpfdodbpipaaGreatDoor
