/-
  DERIVED. GIVEN WITH THE SEED: THE CARDS: each row of YtcnhpfdodbpipaaGreatDoorRows.lean that lists a variable, with what it lists TIED to the program's text (the seventh form; the later family's looks); each row that meets fmt, with fmt's text TOLD by the authors' own Lean function (tested against real Go, not proved from fmt's source: count such statements apart). THE CARD IS WHAT COUNTS. Prove the row's statement (the work); the ties are given (YtcnhpfdodbpipaaGreatDoorTie.lean); close each card by the builder's one call (the guide's Derived/Test/ToyasCard.lean, 'card_holds'). Laid BY PROGRAM, IN A SANDBOX (cutbox-door.mjs). By AI agents, Wed Nov 11 2026. No macro, syntax, notation, axiom, sorry.
-/
import Derived.Test.YtcnhpfdodbpipaaGreatDoorRows
import GoSem.ClaimSeven
namespace Go.Proofs.YtcnhpfdodbpipaaGreatDoor
namespace Rows

/-- THE TIED CARD OF 'morainelaw13.TableBuilds'. -/
def tableBuildsCard : Claim7 := { stood := { row := tableBuildsRow, standIns := [], harness := (true, "f0fba029fb7e5bdb6e072eef3aaabba0bbbea52a6c33ce502a1ee1edf71210c4"), looks := true }, kinds := [], alts := [], laidByText := true, laidKinds := [.data], laidTests := true, laidLooks := .later }
def TableBuildsCardSaid : Prop := Claim7.holds Tryz.pinned (.plain (OpenSpec.ofChange tableBuildsSpec)) tableBuildsCard

/-- THE TIED CARD OF 'morainelaw13.TableOpens'. -/
def tableOpensCard : Claim7 := { stood := { row := tableOpensRow, standIns := [], harness := (true, "f0fba029fb7e5bdb6e072eef3aaabba0bbbea52a6c33ce502a1ee1edf71210c4"), looks := true }, kinds := [], alts := [], laidByText := true, laidKinds := [.data], laidTests := true, laidLooks := .later }
def TableOpensCardSaid : Prop := Claim7.holds Tryz.pinned (.plain (OpenSpec.ofChange tableOpensSpec)) tableOpensCard

/-- THE TIED CARD OF 'morainelaw13.TableNobody'. -/
def tableNobodyCard : Claim7 := { stood := { row := tableNobodyRow, standIns := [], harness := (true, "f0fba029fb7e5bdb6e072eef3aaabba0bbbea52a6c33ce502a1ee1edf71210c4"), looks := true }, kinds := [], alts := [], laidByText := true, laidKinds := [.data], laidTests := true, laidLooks := .later }
def TableNobodyCardSaid : Prop := Claim7.holds Tryz.pinned (.plain (OpenSpec.ofChange tableNobodySpec)) tableNobodyCard

/-- THE TIED CARD OF 'morainelaw13.TableBack'. -/
def tableBackCard : Claim7 := { stood := { row := tableBackRow, standIns := [], harness := (true, "f0fba029fb7e5bdb6e072eef3aaabba0bbbea52a6c33ce502a1ee1edf71210c4"), looks := true }, kinds := [], alts := [], laidByText := true, laidKinds := [.data], laidTests := true, laidLooks := .later }
def TableBackCardSaid : Prop := Claim7.holds Tryz.pinned (.plain (OpenSpec.ofChange tableBackSpec)) tableBackCard

/-- THE TIED CARD OF 'morainelaw13.TableShapes'. -/
def tableShapesCard : Claim7 := { stood := { row := tableShapesRow, standIns := [], harness := (true, "f0fba029fb7e5bdb6e072eef3aaabba0bbbea52a6c33ce502a1ee1edf71210c4"), looks := true }, kinds := [], alts := [], laidByText := true, laidKinds := [.data], laidTests := true, laidLooks := .later }
def TableShapesCardSaid : Prop := Claim7.holds Tryz.pinned (.plain (OpenSpec.ofChange tableShapesSpec)) tableShapesCard

/-- THE TIED CARD OF 'morainelaw13.TableTurned'. -/
def tableTurnedCard : Claim7 := { stood := { row := tableTurnedRow, standIns := [], harness := (true, "f0fba029fb7e5bdb6e072eef3aaabba0bbbea52a6c33ce502a1ee1edf71210c4"), looks := true }, kinds := [], alts := [], laidByText := true, laidKinds := [.data], laidTests := true, laidLooks := .later }
def TableTurnedCardSaid : Prop := Claim7.holds Tryz.pinned (.plain (OpenSpec.ofChange tableTurnedSpec)) tableTurnedCard

/-- THE SECOND FORM's CARD OF 'morainelaw13.TableBuilds'. -/
def tableBuildsUptoCard : Claim7 := { stood := { row := tableBuildsUptoRow, standIns := [], harness := (true, "f0fba029fb7e5bdb6e072eef3aaabba0bbbea52a6c33ce502a1ee1edf71210c4"), looks := true }, kinds := [], alts := [], laidByText := true, laidKinds := [.data], laidTests := true, laidLooks := .later }
def TableBuildsUptoCardSaid : Prop := Claim7.holds Tryz.pinned (.plain (OpenSpec.upto tableBuildsSpec)) tableBuildsUptoCard

/-- THE SECOND FORM's CARD OF 'morainelaw13.TableOpens'. -/
def tableOpensUptoCard : Claim7 := { stood := { row := tableOpensUptoRow, standIns := [], harness := (true, "f0fba029fb7e5bdb6e072eef3aaabba0bbbea52a6c33ce502a1ee1edf71210c4"), looks := true }, kinds := [], alts := [], laidByText := true, laidKinds := [.data], laidTests := true, laidLooks := .later }
def TableOpensUptoCardSaid : Prop := Claim7.holds Tryz.pinned (.plain (OpenSpec.upto tableOpensSpec)) tableOpensUptoCard

/-- THE SECOND FORM's CARD OF 'morainelaw13.TableNobody'. -/
def tableNobodyUptoCard : Claim7 := { stood := { row := tableNobodyUptoRow, standIns := [], harness := (true, "f0fba029fb7e5bdb6e072eef3aaabba0bbbea52a6c33ce502a1ee1edf71210c4"), looks := true }, kinds := [], alts := [], laidByText := true, laidKinds := [.data], laidTests := true, laidLooks := .later }
def TableNobodyUptoCardSaid : Prop := Claim7.holds Tryz.pinned (.plain (OpenSpec.upto tableNobodySpec)) tableNobodyUptoCard

/-- THE SECOND FORM's CARD OF 'morainelaw13.TableBack'. -/
def tableBackUptoCard : Claim7 := { stood := { row := tableBackUptoRow, standIns := [], harness := (true, "f0fba029fb7e5bdb6e072eef3aaabba0bbbea52a6c33ce502a1ee1edf71210c4"), looks := true }, kinds := [], alts := [], laidByText := true, laidKinds := [.data], laidTests := true, laidLooks := .later }
def TableBackUptoCardSaid : Prop := Claim7.holds Tryz.pinned (.plain (OpenSpec.upto tableBackSpec)) tableBackUptoCard

/-- THE SECOND FORM's CARD OF 'morainelaw13.TableShapes'. -/
def tableShapesUptoCard : Claim7 := { stood := { row := tableShapesUptoRow, standIns := [], harness := (true, "f0fba029fb7e5bdb6e072eef3aaabba0bbbea52a6c33ce502a1ee1edf71210c4"), looks := true }, kinds := [], alts := [], laidByText := true, laidKinds := [.data], laidTests := true, laidLooks := .later }
def TableShapesUptoCardSaid : Prop := Claim7.holds Tryz.pinned (.plain (OpenSpec.upto tableShapesSpec)) tableShapesUptoCard

/-- THE SECOND FORM's CARD OF 'morainelaw13.TableTurned'. -/
def tableTurnedUptoCard : Claim7 := { stood := { row := tableTurnedUptoRow, standIns := [], harness := (true, "f0fba029fb7e5bdb6e072eef3aaabba0bbbea52a6c33ce502a1ee1edf71210c4"), looks := true }, kinds := [], alts := [], laidByText := true, laidKinds := [.data], laidTests := true, laidLooks := .later }
def TableTurnedUptoCardSaid : Prop := Claim7.holds Tryz.pinned (.plain (OpenSpec.upto tableTurnedSpec)) tableTurnedUptoCard
end Rows
end Go.Proofs.YtcnhpfdodbpipaaGreatDoor
