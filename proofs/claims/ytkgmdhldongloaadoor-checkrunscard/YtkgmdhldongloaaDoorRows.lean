/-
  NARROWER THAN 'FOR EVERY INPUT', by the rows' own cells (each row's printed sentence says how): CheckSums: laid · CheckZeros: laid · CheckCombines: laid · CheckPatches: laid · CheckRuns: laid.
  DERIVED. THE GIVEN ROWS OF THIS SEAT. 5 by the template 'for every input the law returns true; each argument reads behind the call as it read before'; 0 by the template 'total and deterministic' (their statements: YtkgmdhldongloaaDoorTotals.lean).
  GIVEN WITH THE SEED: the statements are not yours to turn. If you find one false, say at which input.
  Laid BY PROGRAM, IN A SANDBOX (cutbox-rows.mjs): the forced cells as the released guide's own fill.sh prints them over the translation bea9441422581873… (all of the seat's roots in one cut). By AI agents, Wed Nov 11 2026. No macro, syntax, notation, axiom, sorry.
-/
import Derived.Test.YtkgmdhldongloaaDoorChecked
import GoSem.Claim
import GoSem.ClaimJoined
import GoSem.ClaimMapViews
import Derived.JoinedTies
import Derived.KernelRfl
namespace Go.Proofs.YtkgmdhldongloaaDoor
/- THE CELL 'sum', in the pinned program and in every row, IS THE sha256 OF THE DUMP (.gsa) THAT YtkgmdhldongloaaDoorProg.lean LOADS. Nothing in Lean hashes anything: it is a label: what it is worth is what the hold of that sum in a sandbox is worth. -/
noncomputable def Tryd.pinned : Pinned := { name := "ytkgmdhldongloaadoor", sum := "bea94414225818739b2fe49ae519907917c05f9206554dceb2e0b7d834f04346", checked := Tryd.checked }
namespace Rows
def none {H : Type} : Left H := { results := [], args := [] }

/- WHAT THE LISTED PACKAGE-LEVEL VARIABLES READ AS WHEN THE CALL BEGINS. Each datum BY PROGRAM (the guide's laid-datum.mjs) off the statement by which the dump's own 'gosem.cut.vars' lays the variable. In a bare row this is a premise. The card (YtkgmdhldongloaaDoorCards.lean) ties it to the program's text. -/
def laid_moraine_check_ofHalf {H : Type} : DataW H := .agg [.lit (.int .u32 0), .lit (.int .u32 274646895), .lit (.int .u32 549293790), .lit (.int .u32 820201905), .lit (.int .u32 1098587580), .lit (.int .u32 1361435347), .lit (.int .u32 1640403810), .lit (.int .u32 1905808397), .lit (.int .u32 2197175160), .lit (.int .u32 2460548119), .lit (.int .u32 2722870694), .lit (.int .u32 2987750089), .lit (.int .u32 3280807620), .lit (.int .u32 3553878443), .lit (.int .u32 3811616794), .lit (.int .u32 4084100981)]

/-- 'morainelaw02.CheckSums': WHATEVER THE INPUT: true; the input reads as it did. -/
def checkSumsSpec : ChangeSpec := { name := "checkSums", fn := fun _ => fun
  | [d1, d2] => { results := [.lit (.bool true)], args := [d1, d2] }
  | _ => none }
def checkSumsRow : OpenClaim := { program := "ytkgmdhldongloaadoor", sum := "bea94414225818739b2fe49ae519907917c05f9206554dceb2e0b7d834f04346", func := "moraine/morainelaw02.CheckSums", spec := "checkSums", named := ["moraine/check.ofHalf"], apart := false, laid := [("moraine/check.ofHalf", laid_moraine_check_ofHalf)] }
def CheckSumsSaid : Prop := checkSumsRow.holds Tryd.pinned (OpenSpec.ofChange checkSumsSpec)

/-- ITS FALSE NEIGHBOUR: 'it returns false'. Refute it at one input. -/
def checkSumsWrong : ChangeSpec := { name := "checkSums", fn := fun _ => fun
  | [d1, d2] => { results := [.lit (.bool false)], args := [d1, d2] }
  | _ => none }
def CheckSumsWrongFalsely : Prop := checkSumsRow.holds Tryd.pinned (OpenSpec.ofChange checkSumsWrong)

/-- 'morainelaw02.CheckZeros': WHATEVER THE INPUT: true; the input reads as it did. -/
def checkZerosSpec : ChangeSpec := { name := "checkZeros", fn := fun _ => fun
  | [d1, d2] => { results := [.lit (.bool true)], args := [d1, d2] }
  | _ => none }
def checkZerosRow : OpenClaim := { program := "ytkgmdhldongloaadoor", sum := "bea94414225818739b2fe49ae519907917c05f9206554dceb2e0b7d834f04346", func := "moraine/morainelaw02.CheckZeros", spec := "checkZeros", named := ["moraine/check.ofHalf"], apart := false, laid := [("moraine/check.ofHalf", laid_moraine_check_ofHalf)] }
def CheckZerosSaid : Prop := checkZerosRow.holds Tryd.pinned (OpenSpec.ofChange checkZerosSpec)

/-- ITS FALSE NEIGHBOUR: 'it returns false'. Refute it at one input. -/
def checkZerosWrong : ChangeSpec := { name := "checkZeros", fn := fun _ => fun
  | [d1, d2] => { results := [.lit (.bool false)], args := [d1, d2] }
  | _ => none }
def CheckZerosWrongFalsely : Prop := checkZerosRow.holds Tryd.pinned (OpenSpec.ofChange checkZerosWrong)

/-- 'morainelaw02.CheckCombines': WHATEVER THE INPUT: true; the input reads as it did. -/
def checkCombinesSpec : ChangeSpec := { name := "checkCombines", fn := fun _ => fun
  | [d1, d2, d3] => { results := [.lit (.bool true)], args := [d1, d2, d3] }
  | _ => none }
def checkCombinesRow : OpenClaim := { program := "ytkgmdhldongloaadoor", sum := "bea94414225818739b2fe49ae519907917c05f9206554dceb2e0b7d834f04346", func := "moraine/morainelaw02.CheckCombines", spec := "checkCombines", named := ["moraine/check.ofHalf"], apart := false, laid := [("moraine/check.ofHalf", laid_moraine_check_ofHalf)] }
def CheckCombinesSaid : Prop := checkCombinesRow.holds Tryd.pinned (OpenSpec.ofChange checkCombinesSpec)

/-- ITS FALSE NEIGHBOUR: 'it returns false'. Refute it at one input. -/
def checkCombinesWrong : ChangeSpec := { name := "checkCombines", fn := fun _ => fun
  | [d1, d2, d3] => { results := [.lit (.bool false)], args := [d1, d2, d3] }
  | _ => none }
def CheckCombinesWrongFalsely : Prop := checkCombinesRow.holds Tryd.pinned (OpenSpec.ofChange checkCombinesWrong)

/-- 'morainelaw02.CheckPatches': WHATEVER THE INPUT: true; the input reads as it did. -/
def checkPatchesSpec : ChangeSpec := { name := "checkPatches", fn := fun _ => fun
  | [d1, d2] => { results := [.lit (.bool true)], args := [d1, d2] }
  | _ => none }
def checkPatchesRow : OpenClaim := { program := "ytkgmdhldongloaadoor", sum := "bea94414225818739b2fe49ae519907917c05f9206554dceb2e0b7d834f04346", func := "moraine/morainelaw02.CheckPatches", spec := "checkPatches", named := ["moraine/check.ofHalf"], apart := false, laid := [("moraine/check.ofHalf", laid_moraine_check_ofHalf)] }
def CheckPatchesSaid : Prop := checkPatchesRow.holds Tryd.pinned (OpenSpec.ofChange checkPatchesSpec)

/-- ITS FALSE NEIGHBOUR: 'it returns false'. Refute it at one input. -/
def checkPatchesWrong : ChangeSpec := { name := "checkPatches", fn := fun _ => fun
  | [d1, d2] => { results := [.lit (.bool false)], args := [d1, d2] }
  | _ => none }
def CheckPatchesWrongFalsely : Prop := checkPatchesRow.holds Tryd.pinned (OpenSpec.ofChange checkPatchesWrong)

/-- 'morainelaw02.CheckRuns': WHATEVER THE INPUT: true; the input reads as it did. -/
def checkRunsSpec : ChangeSpec := { name := "checkRuns", fn := fun _ => fun
  | [d] => { results := [.lit (.bool true)], args := [d] }
  | _ => none }
def checkRunsRow : OpenClaim := { program := "ytkgmdhldongloaadoor", sum := "bea94414225818739b2fe49ae519907917c05f9206554dceb2e0b7d834f04346", func := "moraine/morainelaw02.CheckRuns", spec := "checkRuns", named := ["moraine/check.ofHalf"], apart := false, laid := [("moraine/check.ofHalf", laid_moraine_check_ofHalf)] }
def CheckRunsSaid : Prop := checkRunsRow.holds Tryd.pinned (OpenSpec.ofChange checkRunsSpec)

/-- ITS FALSE NEIGHBOUR: 'it returns false'. Refute it at one input. -/
def checkRunsWrong : ChangeSpec := { name := "checkRuns", fn := fun _ => fun
  | [d] => { results := [.lit (.bool false)], args := [d] }
  | _ => none }
def CheckRunsWrongFalsely : Prop := checkRunsRow.holds Tryd.pinned (OpenSpec.ofChange checkRunsWrong)

/- THE SECOND FORM. 'bulk': how many values and letters a reading holds, each counted each time it is reached (what is shared counts as often as it is met; a slice's spare places count too). A statement '..UptoSaid' is the law's where the arguments, and the package variables that the reading takes, are together of bulk at most 1048576: NARROWER than '..Said'. Prove '..Said' where nothing that the law and all that it calls make is longer than what came in: it says more and counts as full. Else prove '..UptoSaid'. A law counts once. -/
mutual
def uptoBulk {H : Type} : DataW H → Nat
  | .lit (.string bytes) => bytes.length + 1
  | .lit _ => 1
  | .nil => 1
  | .ptr d => uptoBulk d + 1
  | .slice elems spare => uptoBulkAll elems + uptoBulkAll spare + 1
  | .agg parts => uptoBulkAll parts + 1
  | .iface _ d => uptoBulk d + 1
  | .map entries => uptoBulkEntries entries + 1
  | .held _ => 1
def uptoBulkAll {H : Type} : List (DataW H) → Nat
  | [] => 0
  | d :: r => uptoBulk d + uptoBulkAll r
def uptoBulkEntries {H : Type} : List (Lit × DataW H) → Nat
  | [] => 0
  | x :: r => uptoBulkEntry x + uptoBulkEntries r
def uptoBulkEntry {H : Type} : Lit × DataW H → Nat
  | (.string bytes, d) => bytes.length + uptoBulk d + 1
  | (_, d) => uptoBulk d + 1
 end
def uptoSmall : (H : Type) → List (DataW H) → Bool := fun _ ds => decide (uptoBulkAll ds ≤ 1048576)
def OpenSpec.upto (s : _root_.Go.ChangeSpec) : _root_.Go.OpenSpec := { _root_.Go.OpenSpec.ofChange s with cond := some uptoSmall }

/-- 'morainelaw02.CheckSums', WHERE WHAT IT READS IS OF BULK AT MOST 1048576: true; the input reads as it did. -/
def checkSumsUptoRow : OpenClaim := { program := "ytkgmdhldongloaadoor", sum := "bea94414225818739b2fe49ae519907917c05f9206554dceb2e0b7d834f04346", func := "moraine/morainelaw02.CheckSums", spec := "checkSums", named := ["moraine/check.ofHalf"], apart := false, laid := [("moraine/check.ofHalf", laid_moraine_check_ofHalf)], narrowed := true }
def CheckSumsUptoSaid : Prop := checkSumsUptoRow.holds Tryd.pinned (OpenSpec.upto checkSumsSpec)

/-- 'morainelaw02.CheckZeros', WHERE WHAT IT READS IS OF BULK AT MOST 1048576: true; the input reads as it did. -/
def checkZerosUptoRow : OpenClaim := { program := "ytkgmdhldongloaadoor", sum := "bea94414225818739b2fe49ae519907917c05f9206554dceb2e0b7d834f04346", func := "moraine/morainelaw02.CheckZeros", spec := "checkZeros", named := ["moraine/check.ofHalf"], apart := false, laid := [("moraine/check.ofHalf", laid_moraine_check_ofHalf)], narrowed := true }
def CheckZerosUptoSaid : Prop := checkZerosUptoRow.holds Tryd.pinned (OpenSpec.upto checkZerosSpec)

/-- 'morainelaw02.CheckCombines', WHERE WHAT IT READS IS OF BULK AT MOST 1048576: true; the input reads as it did. -/
def checkCombinesUptoRow : OpenClaim := { program := "ytkgmdhldongloaadoor", sum := "bea94414225818739b2fe49ae519907917c05f9206554dceb2e0b7d834f04346", func := "moraine/morainelaw02.CheckCombines", spec := "checkCombines", named := ["moraine/check.ofHalf"], apart := false, laid := [("moraine/check.ofHalf", laid_moraine_check_ofHalf)], narrowed := true }
def CheckCombinesUptoSaid : Prop := checkCombinesUptoRow.holds Tryd.pinned (OpenSpec.upto checkCombinesSpec)

/-- 'morainelaw02.CheckPatches', WHERE WHAT IT READS IS OF BULK AT MOST 1048576: true; the input reads as it did. -/
def checkPatchesUptoRow : OpenClaim := { program := "ytkgmdhldongloaadoor", sum := "bea94414225818739b2fe49ae519907917c05f9206554dceb2e0b7d834f04346", func := "moraine/morainelaw02.CheckPatches", spec := "checkPatches", named := ["moraine/check.ofHalf"], apart := false, laid := [("moraine/check.ofHalf", laid_moraine_check_ofHalf)], narrowed := true }
def CheckPatchesUptoSaid : Prop := checkPatchesUptoRow.holds Tryd.pinned (OpenSpec.upto checkPatchesSpec)

/-- 'morainelaw02.CheckRuns', WHERE WHAT IT READS IS OF BULK AT MOST 1048576: true; the input reads as it did. -/
def checkRunsUptoRow : OpenClaim := { program := "ytkgmdhldongloaadoor", sum := "bea94414225818739b2fe49ae519907917c05f9206554dceb2e0b7d834f04346", func := "moraine/morainelaw02.CheckRuns", spec := "checkRuns", named := ["moraine/check.ofHalf"], apart := false, laid := [("moraine/check.ofHalf", laid_moraine_check_ofHalf)], narrowed := true }
def CheckRunsUptoSaid : Prop := checkRunsUptoRow.holds Tryd.pinned (OpenSpec.upto checkRunsSpec)

end Rows
end Go.Proofs.YtkgmdhldongloaaDoor
