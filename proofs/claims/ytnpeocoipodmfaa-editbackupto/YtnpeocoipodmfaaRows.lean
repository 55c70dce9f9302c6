/-
  No cell of these rows narrows 'for every input' (looked for: loops, veiled, ifaces, maps, wideKeys, modest, calm, conditions, laid).
  DERIVED. THE GIVEN ROWS OF THIS SEAT. 5 by the template 'for every input the law returns true; each argument reads behind the call as it read before'; 0 by the template 'total and deterministic' (their statements: YtnpeocoipodmfaaTotals.lean).
  GIVEN WITH THE SEED: the statements are not yours to turn. If you find one false, say at which input.
  Laid BY PROGRAM, IN A SANDBOX (cutbox-rows.mjs): the forced cells as the released guide's own fill.sh prints them over the translation eb6c604441d156c9… (all of the seat's roots in one cut). By AI agents, Wed Nov 11 2026. No macro, syntax, notation, axiom, sorry.
-/
import Derived.Test.YtnpeocoipodmfaaChecked
import GoSem.Claim
import GoSem.ClaimJoined
import GoSem.ClaimMapViews
import Derived.JoinedTies
import Derived.KernelRfl
namespace Go.Proofs.Ytnpeocoipodmfaa
/- THE CELL 'sum', in the pinned program and in every row, IS THE sha256 OF THE DUMP (.gsa) THAT YtnpeocoipodmfaaProg.lean LOADS. Nothing in Lean hashes anything: it is a label: what it is worth is what the hold of that sum in a sandbox is worth. -/
noncomputable def Try.pinned : Pinned := { name := "ytnpeocoipodmfaa", sum := "eb6c604441d156c9c6be353f3344597fe0ac44249f66c5a9b3a4980c39ec1ede", checked := Try.checked }
namespace Rows
def none {H : Type} : Left H := { results := [], args := [] }

/-- 'morainelaw15.EditCodes': WHATEVER THE INPUT: true; the input reads as it did. -/
def editCodesSpec : ChangeSpec := { name := "editCodes", fn := fun _ => fun
  | [d1, d2] => { results := [.lit (.bool true)], args := [d1, d2] }
  | _ => none }
def editCodesRow : OpenClaim := { program := "ytnpeocoipodmfaa", sum := "eb6c604441d156c9c6be353f3344597fe0ac44249f66c5a9b3a4980c39ec1ede", func := "moraine/morainelaw15.EditCodes", spec := "editCodes", unfollowed := true, recurses := true, plainKeys := false, apart := false }
def EditCodesSaid : Prop := editCodesRow.holds Try.pinned (OpenSpec.ofChange editCodesSpec)

/-- ITS FALSE NEIGHBOUR: 'it returns false'. Refute it at one input. -/
def editCodesWrong : ChangeSpec := { name := "editCodes", fn := fun _ => fun
  | [d1, d2] => { results := [.lit (.bool false)], args := [d1, d2] }
  | _ => none }
def EditCodesWrongFalsely : Prop := editCodesRow.holds Try.pinned (OpenSpec.ofChange editCodesWrong)

/-- 'morainelaw15.EditMerges': WHATEVER THE INPUT: true; the input reads as it did. -/
def editMergesSpec : ChangeSpec := { name := "editMerges", fn := fun _ => fun
  | [d1, d2] => { results := [.lit (.bool true)], args := [d1, d2] }
  | _ => none }
def editMergesRow : OpenClaim := { program := "ytnpeocoipodmfaa", sum := "eb6c604441d156c9c6be353f3344597fe0ac44249f66c5a9b3a4980c39ec1ede", func := "moraine/morainelaw15.EditMerges", spec := "editMerges", plainKeys := false, apart := false }
def EditMergesSaid : Prop := editMergesRow.holds Try.pinned (OpenSpec.ofChange editMergesSpec)

/-- ITS FALSE NEIGHBOUR: 'it returns false'. Refute it at one input. -/
def editMergesWrong : ChangeSpec := { name := "editMerges", fn := fun _ => fun
  | [d1, d2] => { results := [.lit (.bool false)], args := [d1, d2] }
  | _ => none }
def EditMergesWrongFalsely : Prop := editMergesRow.holds Try.pinned (OpenSpec.ofChange editMergesWrong)

/-- 'morainelaw15.EditWhole': WHATEVER THE INPUT: true; the input reads as it did. -/
def editWholeSpec : ChangeSpec := { name := "editWhole", fn := fun _ => fun
  | [d1, d2] => { results := [.lit (.bool true)], args := [d1, d2] }
  | _ => none }
def editWholeRow : OpenClaim := { program := "ytnpeocoipodmfaa", sum := "eb6c604441d156c9c6be353f3344597fe0ac44249f66c5a9b3a4980c39ec1ede", func := "moraine/morainelaw15.EditWhole", spec := "editWhole", plainKeys := false, apart := false }
def EditWholeSaid : Prop := editWholeRow.holds Try.pinned (OpenSpec.ofChange editWholeSpec)

/-- ITS FALSE NEIGHBOUR: 'it returns false'. Refute it at one input. -/
def editWholeWrong : ChangeSpec := { name := "editWhole", fn := fun _ => fun
  | [d1, d2] => { results := [.lit (.bool false)], args := [d1, d2] }
  | _ => none }
def EditWholeWrongFalsely : Prop := editWholeRow.holds Try.pinned (OpenSpec.ofChange editWholeWrong)

/-- 'morainelaw15.EditBack': WHATEVER THE INPUT: true; the input reads as it did. -/
def editBackSpec : ChangeSpec := { name := "editBack", fn := fun _ => fun
  | [d1, d2] => { results := [.lit (.bool true)], args := [d1, d2] }
  | _ => none }
def editBackRow : OpenClaim := { program := "ytnpeocoipodmfaa", sum := "eb6c604441d156c9c6be353f3344597fe0ac44249f66c5a9b3a4980c39ec1ede", func := "moraine/morainelaw15.EditBack", spec := "editBack", unfollowed := true, recurses := true, plainKeys := false, apart := false }
def EditBackSaid : Prop := editBackRow.holds Try.pinned (OpenSpec.ofChange editBackSpec)

/-- ITS FALSE NEIGHBOUR: 'it returns false'. Refute it at one input. -/
def editBackWrong : ChangeSpec := { name := "editBack", fn := fun _ => fun
  | [d1, d2] => { results := [.lit (.bool false)], args := [d1, d2] }
  | _ => none }
def EditBackWrongFalsely : Prop := editBackRow.holds Try.pinned (OpenSpec.ofChange editBackWrong)

/-- 'morainelaw15.EditThree': WHATEVER THE INPUT: true; the input reads as it did. -/
def editThreeSpec : ChangeSpec := { name := "editThree", fn := fun _ => fun
  | [d1, d2, d3] => { results := [.lit (.bool true)], args := [d1, d2, d3] }
  | _ => none }
def editThreeRow : OpenClaim := { program := "ytnpeocoipodmfaa", sum := "eb6c604441d156c9c6be353f3344597fe0ac44249f66c5a9b3a4980c39ec1ede", func := "moraine/morainelaw15.EditThree", spec := "editThree", plainKeys := false, apart := false }
def EditThreeSaid : Prop := editThreeRow.holds Try.pinned (OpenSpec.ofChange editThreeSpec)

/-- ITS FALSE NEIGHBOUR: 'it returns false'. Refute it at one input. -/
def editThreeWrong : ChangeSpec := { name := "editThree", fn := fun _ => fun
  | [d1, d2, d3] => { results := [.lit (.bool false)], args := [d1, d2, d3] }
  | _ => none }
def EditThreeWrongFalsely : Prop := editThreeRow.holds Try.pinned (OpenSpec.ofChange editThreeWrong)

/- THE SECOND FORM. 'bulk': how many values and letters a reading holds, each counted each time it is reached (what is shared counts as often as it is met; a slice's spare places count too). A statement '..UptoSaid' is the law's where the arguments, and the package variables that the reading takes, are together of bulk at most 1048576: NARROWER than '..Said'. Prove '..Said' where nothing that the law and all that it calls make is longer than what came in: it says more and counts as full. Else prove '..UptoSaid'. A law counts once. -/
mutual
def uptoBulk {H : Type} : DataW H → Nat
  | .lit (.string bytes) => bytes.length + 1
  | .lit _ => 1
  | .nil => 1
  | .ptr d => uptoBulk d + 1
  | .slice elems spare => uptoBulkAll elems + uptoBulkAll spare + 1
  | .agg parts => uptoBulkAll parts + 1
  | .iface _ d => uptoBulk d + 1
  | .map entries => uptoBulkEntries entries + 1
  | .held _ => 1
def uptoBulkAll {H : Type} : List (DataW H) → Nat
  | [] => 0
  | d :: r => uptoBulk d + uptoBulkAll r
def uptoBulkEntries {H : Type} : List (Lit × DataW H) → Nat
  | [] => 0
  | x :: r => uptoBulkEntry x + uptoBulkEntries r
def uptoBulkEntry {H : Type} : Lit × DataW H → Nat
  | (.string bytes, d) => bytes.length + uptoBulk d + 1
  | (_, d) => uptoBulk d + 1
 end
def uptoSmall : (H : Type) → List (DataW H) → Bool := fun _ ds => decide (uptoBulkAll ds ≤ 1048576)
def OpenSpec.upto (s : _root_.Go.ChangeSpec) : _root_.Go.OpenSpec := { _root_.Go.OpenSpec.ofChange s with cond := some uptoSmall }

/-- 'morainelaw15.EditCodes', WHERE WHAT IT READS IS OF BULK AT MOST 1048576: true; the input reads as it did. -/
def editCodesUptoRow : OpenClaim := { program := "ytnpeocoipodmfaa", sum := "eb6c604441d156c9c6be353f3344597fe0ac44249f66c5a9b3a4980c39ec1ede", func := "moraine/morainelaw15.EditCodes", spec := "editCodes", unfollowed := true, recurses := true, plainKeys := false, apart := false, narrowed := true }
def EditCodesUptoSaid : Prop := editCodesUptoRow.holds Try.pinned (OpenSpec.upto editCodesSpec)

/-- 'morainelaw15.EditMerges', WHERE WHAT IT READS IS OF BULK AT MOST 1048576: true; the input reads as it did. -/
def editMergesUptoRow : OpenClaim := { program := "ytnpeocoipodmfaa", sum := "eb6c604441d156c9c6be353f3344597fe0ac44249f66c5a9b3a4980c39ec1ede", func := "moraine/morainelaw15.EditMerges", spec := "editMerges", plainKeys := false, apart := false, narrowed := true }
def EditMergesUptoSaid : Prop := editMergesUptoRow.holds Try.pinned (OpenSpec.upto editMergesSpec)

/-- 'morainelaw15.EditWhole', WHERE WHAT IT READS IS OF BULK AT MOST 1048576: true; the input reads as it did. -/
def editWholeUptoRow : OpenClaim := { program := "ytnpeocoipodmfaa", sum := "eb6c604441d156c9c6be353f3344597fe0ac44249f66c5a9b3a4980c39ec1ede", func := "moraine/morainelaw15.EditWhole", spec := "editWhole", plainKeys := false, apart := false, narrowed := true }
def EditWholeUptoSaid : Prop := editWholeUptoRow.holds Try.pinned (OpenSpec.upto editWholeSpec)

/-- 'morainelaw15.EditBack', WHERE WHAT IT READS IS OF BULK AT MOST 1048576: true; the input reads as it did. -/
def editBackUptoRow : OpenClaim := { program := "ytnpeocoipodmfaa", sum := "eb6c604441d156c9c6be353f3344597fe0ac44249f66c5a9b3a4980c39ec1ede", func := "moraine/morainelaw15.EditBack", spec := "editBack", unfollowed := true, recurses := true, plainKeys := false, apart := false, narrowed := true }
def EditBackUptoSaid : Prop := editBackUptoRow.holds Try.pinned (OpenSpec.upto editBackSpec)

/-- 'morainelaw15.EditThree', WHERE WHAT IT READS IS OF BULK AT MOST 1048576: true; the input reads as it did. -/
def editThreeUptoRow : OpenClaim := { program := "ytnpeocoipodmfaa", sum := "eb6c604441d156c9c6be353f3344597fe0ac44249f66c5a9b3a4980c39ec1ede", func := "moraine/morainelaw15.EditThree", spec := "editThree", plainKeys := false, apart := false, narrowed := true }
def EditThreeUptoSaid : Prop := editThreeUptoRow.holds Try.pinned (OpenSpec.upto editThreeSpec)

end Rows
end Go.Proofs.Ytnpeocoipodmfaa
