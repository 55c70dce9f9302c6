/-
  No cell of these rows narrows 'for every input' (looked for: loops, veiled, ifaces, maps, wideKeys, modest, calm, conditions, laid).
  DERIVED. THE GIVEN ROWS OF THIS SEAT. 6 by the template 'for every input the law returns true; each argument reads behind the call as it read before'; 0 by the template 'total and deterministic' (their statements: YtefihoohdaegeaaTotals.lean).
  GIVEN WITH THE SEED: the statements are not yours to turn. If you find one false, say at which input.
  Laid BY PROGRAM, IN A SANDBOX (cutbox-rows.mjs): the forced cells as the released guide's own fill.sh prints them over the translation 0aab2bfb509e4f85… (all of the seat's roots in one cut). By AI agents, Wed Nov 11 2026. No macro, syntax, notation, axiom, sorry.
-/
import Derived.Test.YtefihoohdaegeaaChecked
import GoSem.Claim
import GoSem.ClaimJoined
import GoSem.ClaimMapViews
import Derived.JoinedTies
import Derived.KernelRfl
namespace Go.Proofs.Ytefihoohdaegeaa
/- THE CELL 'sum', in the pinned program and in every row, IS THE sha256 OF THE DUMP (.gsa) THAT YtefihoohdaegeaaProg.lean LOADS. Nothing in Lean hashes anything: it is a label: what it is worth is what the hold of that sum in a sandbox is worth. -/
noncomputable def Try.pinned : Pinned := { name := "ytefihoohdaegeaa", sum := "0aab2bfb509e4f85a19b21af6f356d15ec91f7d15e212de58588b40ebf5c5971", checked := Try.checked }
namespace Rows
def none {H : Type} : Left H := { results := [], args := [] }

/-- 'morainelaw10.MemPlays': WHATEVER THE INPUT: true; the input reads as it did. -/
def memPlaysSpec : ChangeSpec := { name := "memPlays", fn := fun _ => fun
  | [d1, d2] => { results := [.lit (.bool true)], args := [d1, d2] }
  | _ => none }
def memPlaysRow : OpenClaim := { program := "ytefihoohdaegeaa", sum := "0aab2bfb509e4f85a19b21af6f356d15ec91f7d15e212de58588b40ebf5c5971", func := "moraine/morainelaw10.MemPlays", spec := "memPlays", inPlace := ["internal/bytealg.abigen_runtime_cmpstring"], unfollowed := true, recurses := true, plainKeys := false, apart := false }
def MemPlaysSaid : Prop := memPlaysRow.holds Try.pinned (OpenSpec.ofChange memPlaysSpec)

/-- ITS FALSE NEIGHBOUR: 'it returns false'. Refute it at one input. -/
def memPlaysWrong : ChangeSpec := { name := "memPlays", fn := fun _ => fun
  | [d1, d2] => { results := [.lit (.bool false)], args := [d1, d2] }
  | _ => none }
def MemPlaysWrongFalsely : Prop := memPlaysRow.holds Try.pinned (OpenSpec.ofChange memPlaysWrong)

/-- 'morainelaw10.MemCursors': WHATEVER THE INPUT: true; the input reads as it did. -/
def memCursorsSpec : ChangeSpec := { name := "memCursors", fn := fun _ => fun
  | [d] => { results := [.lit (.bool true)], args := [d] }
  | _ => none }
def memCursorsRow : OpenClaim := { program := "ytefihoohdaegeaa", sum := "0aab2bfb509e4f85a19b21af6f356d15ec91f7d15e212de58588b40ebf5c5971", func := "moraine/morainelaw10.MemCursors", spec := "memCursors", inPlace := ["internal/bytealg.abigen_runtime_cmpstring"], unfollowed := true, recurses := true, plainKeys := false, apart := false }
def MemCursorsSaid : Prop := memCursorsRow.holds Try.pinned (OpenSpec.ofChange memCursorsSpec)

/-- ITS FALSE NEIGHBOUR: 'it returns false'. Refute it at one input. -/
def memCursorsWrong : ChangeSpec := { name := "memCursors", fn := fun _ => fun
  | [d] => { results := [.lit (.bool false)], args := [d] }
  | _ => none }
def MemCursorsWrongFalsely : Prop := memCursorsRow.holds Try.pinned (OpenSpec.ofChange memCursorsWrong)

/-- 'morainelaw10.MemQueues': WHATEVER THE INPUT: true; the input reads as it did. -/
def memQueuesSpec : ChangeSpec := { name := "memQueues", fn := fun _ => fun
  | [d1, d2] => { results := [.lit (.bool true)], args := [d1, d2] }
  | _ => none }
def memQueuesRow : OpenClaim := { program := "ytefihoohdaegeaa", sum := "0aab2bfb509e4f85a19b21af6f356d15ec91f7d15e212de58588b40ebf5c5971", func := "moraine/morainelaw10.MemQueues", spec := "memQueues", inPlace := ["internal/bytealg.abigen_runtime_cmpstring"], unfollowed := true, recurses := true, plainKeys := false, apart := false }
def MemQueuesSaid : Prop := memQueuesRow.holds Try.pinned (OpenSpec.ofChange memQueuesSpec)

/-- ITS FALSE NEIGHBOUR: 'it returns false'. Refute it at one input. -/
def memQueuesWrong : ChangeSpec := { name := "memQueues", fn := fun _ => fun
  | [d1, d2] => { results := [.lit (.bool false)], args := [d1, d2] }
  | _ => none }
def MemQueuesWrongFalsely : Prop := memQueuesRow.holds Try.pinned (OpenSpec.ofChange memQueuesWrong)

/-- 'morainelaw10.MemNil': WHATEVER THE INPUT: true; the input reads as it did. -/
def memNilSpec : ChangeSpec := { name := "memNil", fn := fun _ => fun
  | [d1, d2] => { results := [.lit (.bool true)], args := [d1, d2] }
  | _ => none }
def memNilRow : OpenClaim := { program := "ytefihoohdaegeaa", sum := "0aab2bfb509e4f85a19b21af6f356d15ec91f7d15e212de58588b40ebf5c5971", func := "moraine/morainelaw10.MemNil", spec := "memNil", inPlace := ["internal/bytealg.abigen_runtime_cmpstring"], unfollowed := true, recurses := true, plainKeys := false, apart := false }
def MemNilSaid : Prop := memNilRow.holds Try.pinned (OpenSpec.ofChange memNilSpec)

/-- ITS FALSE NEIGHBOUR: 'it returns false'. Refute it at one input. -/
def memNilWrong : ChangeSpec := { name := "memNil", fn := fun _ => fun
  | [d1, d2] => { results := [.lit (.bool false)], args := [d1, d2] }
  | _ => none }
def MemNilWrongFalsely : Prop := memNilRow.holds Try.pinned (OpenSpec.ofChange memNilWrong)

/-- 'morainelaw10.MemOrder': WHATEVER THE INPUT: true; the input reads as it did. -/
def memOrderSpec : ChangeSpec := { name := "memOrder", fn := fun _ => fun
  | [d1, d2, d3] => { results := [.lit (.bool true)], args := [d1, d2, d3] }
  | _ => none }
def memOrderRow : OpenClaim := { program := "ytefihoohdaegeaa", sum := "0aab2bfb509e4f85a19b21af6f356d15ec91f7d15e212de58588b40ebf5c5971", func := "moraine/morainelaw10.MemOrder", spec := "memOrder", inPlace := ["internal/bytealg.abigen_runtime_cmpstring"], unfollowed := true, recurses := true, plainKeys := false, apart := false }
def MemOrderSaid : Prop := memOrderRow.holds Try.pinned (OpenSpec.ofChange memOrderSpec)

/-- ITS FALSE NEIGHBOUR: 'it returns false'. Refute it at one input. -/
def memOrderWrong : ChangeSpec := { name := "memOrder", fn := fun _ => fun
  | [d1, d2, d3] => { results := [.lit (.bool false)], args := [d1, d2, d3] }
  | _ => none }
def MemOrderWrongFalsely : Prop := memOrderRow.holds Try.pinned (OpenSpec.ofChange memOrderWrong)

/-- 'morainelaw10.MemPast': WHATEVER THE INPUT: true; the input reads as it did. -/
def memPastSpec : ChangeSpec := { name := "memPast", fn := fun _ => fun
  | [d1, d2, d3] => { results := [.lit (.bool true)], args := [d1, d2, d3] }
  | _ => none }
def memPastRow : OpenClaim := { program := "ytefihoohdaegeaa", sum := "0aab2bfb509e4f85a19b21af6f356d15ec91f7d15e212de58588b40ebf5c5971", func := "moraine/morainelaw10.MemPast", spec := "memPast", inPlace := ["internal/bytealg.abigen_runtime_cmpstring"], unfollowed := true, recurses := true, plainKeys := false, apart := false }
def MemPastSaid : Prop := memPastRow.holds Try.pinned (OpenSpec.ofChange memPastSpec)

/-- ITS FALSE NEIGHBOUR: 'it returns false'. Refute it at one input. -/
def memPastWrong : ChangeSpec := { name := "memPast", fn := fun _ => fun
  | [d1, d2, d3] => { results := [.lit (.bool false)], args := [d1, d2, d3] }
  | _ => none }
def MemPastWrongFalsely : Prop := memPastRow.holds Try.pinned (OpenSpec.ofChange memPastWrong)

/- THE SECOND FORM. 'bulk': how many values and letters a reading holds, each counted each time it is reached (what is shared counts as often as it is met; a slice's spare places count too). A statement '..UptoSaid' is the law's where the arguments, and the package variables that the reading takes, are together of bulk at most 1048576: NARROWER than '..Said'. Prove '..Said' where nothing that the law and all that it calls make is longer than what came in: it says more and counts as full. Else prove '..UptoSaid'. A law counts once. -/
mutual
def uptoBulk {H : Type} : DataW H → Nat
  | .lit (.string bytes) => bytes.length + 1
  | .lit _ => 1
  | .nil => 1
  | .ptr d => uptoBulk d + 1
  | .slice elems spare => uptoBulkAll elems + uptoBulkAll spare + 1
  | .agg parts => uptoBulkAll parts + 1
  | .iface _ d => uptoBulk d + 1
  | .map entries => uptoBulkEntries entries + 1
  | .held _ => 1
def uptoBulkAll {H : Type} : List (DataW H) → Nat
  | [] => 0
  | d :: r => uptoBulk d + uptoBulkAll r
def uptoBulkEntries {H : Type} : List (Lit × DataW H) → Nat
  | [] => 0
  | x :: r => uptoBulkEntry x + uptoBulkEntries r
def uptoBulkEntry {H : Type} : Lit × DataW H → Nat
  | (.string bytes, d) => bytes.length + uptoBulk d + 1
  | (_, d) => uptoBulk d + 1
 end
def uptoSmall : (H : Type) → List (DataW H) → Bool := fun _ ds => decide (uptoBulkAll ds ≤ 1048576)
def OpenSpec.upto (s : _root_.Go.ChangeSpec) : _root_.Go.OpenSpec := { _root_.Go.OpenSpec.ofChange s with cond := some uptoSmall }

/-- 'morainelaw10.MemPlays', WHERE WHAT IT READS IS OF BULK AT MOST 1048576: true; the input reads as it did. -/
def memPlaysUptoRow : OpenClaim := { program := "ytefihoohdaegeaa", sum := "0aab2bfb509e4f85a19b21af6f356d15ec91f7d15e212de58588b40ebf5c5971", func := "moraine/morainelaw10.MemPlays", spec := "memPlays", inPlace := ["internal/bytealg.abigen_runtime_cmpstring"], unfollowed := true, recurses := true, plainKeys := false, apart := false, narrowed := true }
def MemPlaysUptoSaid : Prop := memPlaysUptoRow.holds Try.pinned (OpenSpec.upto memPlaysSpec)

/-- 'morainelaw10.MemCursors', WHERE WHAT IT READS IS OF BULK AT MOST 1048576: true; the input reads as it did. -/
def memCursorsUptoRow : OpenClaim := { program := "ytefihoohdaegeaa", sum := "0aab2bfb509e4f85a19b21af6f356d15ec91f7d15e212de58588b40ebf5c5971", func := "moraine/morainelaw10.MemCursors", spec := "memCursors", inPlace := ["internal/bytealg.abigen_runtime_cmpstring"], unfollowed := true, recurses := true, plainKeys := false, apart := false, narrowed := true }
def MemCursorsUptoSaid : Prop := memCursorsUptoRow.holds Try.pinned (OpenSpec.upto memCursorsSpec)

/-- 'morainelaw10.MemQueues', WHERE WHAT IT READS IS OF BULK AT MOST 1048576: true; the input reads as it did. -/
def memQueuesUptoRow : OpenClaim := { program := "ytefihoohdaegeaa", sum := "0aab2bfb509e4f85a19b21af6f356d15ec91f7d15e212de58588b40ebf5c5971", func := "moraine/morainelaw10.MemQueues", spec := "memQueues", inPlace := ["internal/bytealg.abigen_runtime_cmpstring"], unfollowed := true, recurses := true, plainKeys := false, apart := false, narrowed := true }
def MemQueuesUptoSaid : Prop := memQueuesUptoRow.holds Try.pinned (OpenSpec.upto memQueuesSpec)

/-- 'morainelaw10.MemNil', WHERE WHAT IT READS IS OF BULK AT MOST 1048576: true; the input reads as it did. -/
def memNilUptoRow : OpenClaim := { program := "ytefihoohdaegeaa", sum := "0aab2bfb509e4f85a19b21af6f356d15ec91f7d15e212de58588b40ebf5c5971", func := "moraine/morainelaw10.MemNil", spec := "memNil", inPlace := ["internal/bytealg.abigen_runtime_cmpstring"], unfollowed := true, recurses := true, plainKeys := false, apart := false, narrowed := true }
def MemNilUptoSaid : Prop := memNilUptoRow.holds Try.pinned (OpenSpec.upto memNilSpec)

/-- 'morainelaw10.MemOrder', WHERE WHAT IT READS IS OF BULK AT MOST 1048576: true; the input reads as it did. -/
def memOrderUptoRow : OpenClaim := { program := "ytefihoohdaegeaa", sum := "0aab2bfb509e4f85a19b21af6f356d15ec91f7d15e212de58588b40ebf5c5971", func := "moraine/morainelaw10.MemOrder", spec := "memOrder", inPlace := ["internal/bytealg.abigen_runtime_cmpstring"], unfollowed := true, recurses := true, plainKeys := false, apart := false, narrowed := true }
def MemOrderUptoSaid : Prop := memOrderUptoRow.holds Try.pinned (OpenSpec.upto memOrderSpec)

/-- 'morainelaw10.MemPast', WHERE WHAT IT READS IS OF BULK AT MOST 1048576: true; the input reads as it did. -/
def memPastUptoRow : OpenClaim := { program := "ytefihoohdaegeaa", sum := "0aab2bfb509e4f85a19b21af6f356d15ec91f7d15e212de58588b40ebf5c5971", func := "moraine/morainelaw10.MemPast", spec := "memPast", inPlace := ["internal/bytealg.abigen_runtime_cmpstring"], unfollowed := true, recurses := true, plainKeys := false, apart := false, narrowed := true }
def MemPastUptoSaid : Prop := memPastUptoRow.holds Try.pinned (OpenSpec.upto memPastSpec)

end Rows
end Go.Proofs.Ytefihoohdaegeaa
