/-
  DERIVED. GIVEN WITH THE SEED: THE CARDS: each row of YtkgmdhldongloabDoorRows.lean that lists a variable, with what it lists TIED to the program's text (the seventh form; the later family's looks); each row that meets fmt, with fmt's text TOLD by the authors' own Lean function (tested against real Go, not proved from fmt's source: count such statements apart). THE CARD IS WHAT COUNTS. Prove the row's statement (the work); the ties are given (YtkgmdhldongloabDoorTie.lean); close each card by the builder's one call (the guide's Derived/Test/ToyasCard.lean, 'card_holds'). Laid BY PROGRAM, IN A SANDBOX (cutbox-door.mjs). By AI agents, Wed Nov 11 2026. No macro, syntax, notation, axiom, sorry.
-/
import Derived.Test.YtkgmdhldongloabDoorRows
import GoSem.ClaimSeven
namespace Go.Proofs.YtkgmdhldongloabDoor
namespace Rows

/-- THE TIED CARD OF 'morainelaw02.CheckJoins'. -/
def checkJoinsCard : Claim7 := { stood := { row := checkJoinsRow, standIns := [], harness := (true, "40d5f0ef3f12d080f7ce7cc35634a6a997fe202c446ccbe160747d56026b5374"), looks := false }, kinds := [], alts := [], laidByText := true, laidKinds := [.data], laidTests := true, laidLooks := .later }
def CheckJoinsCardSaid : Prop := Claim7.holds Tryd.pinned (.plain (OpenSpec.ofChange checkJoinsSpec)) checkJoinsCard

/-- THE TIED CARD OF 'morainelaw02.CheckBursts'. -/
def checkBurstsCard : Claim7 := { stood := { row := checkBurstsRow, standIns := [], harness := (true, "40d5f0ef3f12d080f7ce7cc35634a6a997fe202c446ccbe160747d56026b5374"), looks := false }, kinds := [], alts := [], laidByText := true, laidKinds := [.data], laidTests := true, laidLooks := .later }
def CheckBurstsCardSaid : Prop := Claim7.holds Tryd.pinned (.plain (OpenSpec.ofChange checkBurstsSpec)) checkBurstsCard

/-- THE TIED CARD OF 'morainelaw02.CheckLinear'. -/
def checkLinearCard : Claim7 := { stood := { row := checkLinearRow, standIns := [], harness := (true, "40d5f0ef3f12d080f7ce7cc35634a6a997fe202c446ccbe160747d56026b5374"), looks := false }, kinds := [], alts := [], laidByText := true, laidKinds := [.data], laidTests := true, laidLooks := .later }
def CheckLinearCardSaid : Prop := Claim7.holds Tryd.pinned (.plain (OpenSpec.ofChange checkLinearSpec)) checkLinearCard

/-- THE TIED CARD OF 'morainelaw02.CheckForged'. -/
def checkForgedCard : Claim7 := { stood := { row := checkForgedRow, standIns := [], harness := (true, "40d5f0ef3f12d080f7ce7cc35634a6a997fe202c446ccbe160747d56026b5374"), looks := false }, kinds := [], alts := [], laidByText := true, laidKinds := [.data], laidTests := true, laidLooks := .later }
def CheckForgedCardSaid : Prop := Claim7.holds Tryd.pinned (.plain (OpenSpec.ofChange checkForgedSpec)) checkForgedCard

/-- THE SECOND FORM's CARD OF 'morainelaw02.CheckJoins'. -/
def checkJoinsUptoCard : Claim7 := { stood := { row := checkJoinsUptoRow, standIns := [], harness := (true, "40d5f0ef3f12d080f7ce7cc35634a6a997fe202c446ccbe160747d56026b5374"), looks := false }, kinds := [], alts := [], laidByText := true, laidKinds := [.data], laidTests := true, laidLooks := .later }
def CheckJoinsUptoCardSaid : Prop := Claim7.holds Tryd.pinned (.plain (OpenSpec.upto checkJoinsSpec)) checkJoinsUptoCard

/-- THE SECOND FORM's CARD OF 'morainelaw02.CheckBursts'. -/
def checkBurstsUptoCard : Claim7 := { stood := { row := checkBurstsUptoRow, standIns := [], harness := (true, "40d5f0ef3f12d080f7ce7cc35634a6a997fe202c446ccbe160747d56026b5374"), looks := false }, kinds := [], alts := [], laidByText := true, laidKinds := [.data], laidTests := true, laidLooks := .later }
def CheckBurstsUptoCardSaid : Prop := Claim7.holds Tryd.pinned (.plain (OpenSpec.upto checkBurstsSpec)) checkBurstsUptoCard

/-- THE SECOND FORM's CARD OF 'morainelaw02.CheckLinear'. -/
def checkLinearUptoCard : Claim7 := { stood := { row := checkLinearUptoRow, standIns := [], harness := (true, "40d5f0ef3f12d080f7ce7cc35634a6a997fe202c446ccbe160747d56026b5374"), looks := false }, kinds := [], alts := [], laidByText := true, laidKinds := [.data], laidTests := true, laidLooks := .later }
def CheckLinearUptoCardSaid : Prop := Claim7.holds Tryd.pinned (.plain (OpenSpec.upto checkLinearSpec)) checkLinearUptoCard

/-- THE SECOND FORM's CARD OF 'morainelaw02.CheckForged'. -/
def checkForgedUptoCard : Claim7 := { stood := { row := checkForgedUptoRow, standIns := [], harness := (true, "40d5f0ef3f12d080f7ce7cc35634a6a997fe202c446ccbe160747d56026b5374"), looks := false }, kinds := [], alts := [], laidByText := true, laidKinds := [.data], laidTests := true, laidLooks := .later }
def CheckForgedUptoCardSaid : Prop := Claim7.holds Tryd.pinned (.plain (OpenSpec.upto checkForgedSpec)) checkForgedUptoCard
end Rows
end Go.Proofs.YtkgmdhldongloabDoor
