/-
  DERIVED. GIVEN WITH THE SEED: THE CARDS: each row of YtcpnmpepcpcahaaGreatDoorRows.lean that lists a variable, with what it lists TIED to the program's text (the seventh form; the later family's looks); each row that meets fmt, with fmt's text TOLD by the authors' own Lean function (tested against real Go, not proved from fmt's source: count such statements apart). THE CARD IS WHAT COUNTS. Prove the row's statement (the work); the ties are given (YtcpnmpepcpcahaaGreatDoorTie.lean); close each card by the builder's one call (the guide's Derived/Test/ToyasCard.lean, 'card_holds'). Laid BY PROGRAM, IN A SANDBOX (cutbox-door.mjs). By AI agents, Wed Nov 11 2026. No macro, syntax, notation, axiom, sorry.
-/
import Derived.Test.YtcpnmpepcpcahaaGreatDoorRows
import GoSem.ClaimSeven
namespace Go.Proofs.YtcpnmpepcpcahaaGreatDoor
namespace Rows

/-- THE TIED CARD OF 'morainelaw18.LivePlays'. -/
def livePlaysCard : Claim7 := { stood := { row := livePlaysRow, standIns := [], harness := (true, "4a406af3838087e300f59042ccc07b1f77f5bf14002359960a55dd547a101ae7"), looks := false }, kinds := [], alts := [], laidByText := true, laidKinds := [.data, .data, .data, .data], laidTests := true, laidLooks := .later }
def LivePlaysCardSaid : Prop := Claim7.holds Tryz.pinned (.plain (OpenSpec.ofChange livePlaysSpec)) livePlaysCard

/-- THE TIED CARD OF 'morainelaw18.LiveNil'. -/
def liveNilCard : Claim7 := { stood := { row := liveNilRow, standIns := [], harness := (true, "4a406af3838087e300f59042ccc07b1f77f5bf14002359960a55dd547a101ae7"), looks := false }, kinds := [], alts := [], laidByText := true, laidKinds := [.data, .data, .data, .data], laidTests := true, laidLooks := .later }
def LiveNilCardSaid : Prop := Claim7.holds Tryz.pinned (.plain (OpenSpec.ofChange liveNilSpec)) liveNilCard

/-- THE TIED CARD OF 'morainelaw18.LiveHeld'. -/
def liveHeldCard : Claim7 := { stood := { row := liveHeldRow, standIns := [], harness := (true, "4a406af3838087e300f59042ccc07b1f77f5bf14002359960a55dd547a101ae7"), looks := false }, kinds := [], alts := [], laidByText := true, laidKinds := [.data, .data, .data, .data], laidTests := true, laidLooks := .later }
def LiveHeldCardSaid : Prop := Claim7.holds Tryz.pinned (.plain (OpenSpec.ofChange liveHeldSpec)) liveHeldCard

/-- THE TIED CARD OF 'morainelaw18.LiveCalm'. -/
def liveCalmCard : Claim7 := { stood := { row := liveCalmRow, standIns := [], harness := (true, "4a406af3838087e300f59042ccc07b1f77f5bf14002359960a55dd547a101ae7"), looks := false }, kinds := [], alts := [], laidByText := true, laidKinds := [.data, .data, .data, .data], laidTests := true, laidLooks := .later }
def LiveCalmCardSaid : Prop := Claim7.holds Tryz.pinned (.plain (OpenSpec.ofChange liveCalmSpec)) liveCalmCard

/-- THE SECOND FORM's CARD OF 'morainelaw18.LivePlays'. -/
def livePlaysUptoCard : Claim7 := { stood := { row := livePlaysUptoRow, standIns := [], harness := (true, "4a406af3838087e300f59042ccc07b1f77f5bf14002359960a55dd547a101ae7"), looks := false }, kinds := [], alts := [], laidByText := true, laidKinds := [.data, .data, .data, .data], laidTests := true, laidLooks := .later }
def LivePlaysUptoCardSaid : Prop := Claim7.holds Tryz.pinned (.plain (OpenSpec.upto livePlaysSpec)) livePlaysUptoCard

/-- THE SECOND FORM's CARD OF 'morainelaw18.LiveNil'. -/
def liveNilUptoCard : Claim7 := { stood := { row := liveNilUptoRow, standIns := [], harness := (true, "4a406af3838087e300f59042ccc07b1f77f5bf14002359960a55dd547a101ae7"), looks := false }, kinds := [], alts := [], laidByText := true, laidKinds := [.data, .data, .data, .data], laidTests := true, laidLooks := .later }
def LiveNilUptoCardSaid : Prop := Claim7.holds Tryz.pinned (.plain (OpenSpec.upto liveNilSpec)) liveNilUptoCard

/-- THE SECOND FORM's CARD OF 'morainelaw18.LiveHeld'. -/
def liveHeldUptoCard : Claim7 := { stood := { row := liveHeldUptoRow, standIns := [], harness := (true, "4a406af3838087e300f59042ccc07b1f77f5bf14002359960a55dd547a101ae7"), looks := false }, kinds := [], alts := [], laidByText := true, laidKinds := [.data, .data, .data, .data], laidTests := true, laidLooks := .later }
def LiveHeldUptoCardSaid : Prop := Claim7.holds Tryz.pinned (.plain (OpenSpec.upto liveHeldSpec)) liveHeldUptoCard

/-- THE SECOND FORM's CARD OF 'morainelaw18.LiveCalm'. -/
def liveCalmUptoCard : Claim7 := { stood := { row := liveCalmUptoRow, standIns := [], harness := (true, "4a406af3838087e300f59042ccc07b1f77f5bf14002359960a55dd547a101ae7"), looks := false }, kinds := [], alts := [], laidByText := true, laidKinds := [.data, .data, .data, .data], laidTests := true, laidLooks := .later }
def LiveCalmUptoCardSaid : Prop := Claim7.holds Tryz.pinned (.plain (OpenSpec.upto liveCalmSpec)) liveCalmUptoCard
end Rows
end Go.Proofs.YtcpnmpepcpcahaaGreatDoor
