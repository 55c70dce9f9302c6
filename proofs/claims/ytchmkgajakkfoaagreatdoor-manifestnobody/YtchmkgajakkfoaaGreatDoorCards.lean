/-
  DERIVED. GIVEN WITH THE SEED: THE CARDS: each row of YtchmkgajakkfoaaGreatDoorRows.lean that lists a variable, with what it lists TIED to the program's text (the seventh form; the later family's looks); each row that meets fmt, with fmt's text TOLD by the authors' own Lean function (tested against real Go, not proved from fmt's source: count such statements apart). THE CARD IS WHAT COUNTS. Prove the row's statement (the work); the ties are given (YtchmkgajakkfoaaGreatDoorTie.lean); close each card by the builder's one call (the guide's Derived/Test/ToyasCard.lean, 'card_holds'). Laid BY PROGRAM, IN A SANDBOX (cutbox-door.mjs). By AI agents, Wed Nov 11 2026. No macro, syntax, notation, axiom, sorry.
-/
import Derived.Test.YtchmkgajakkfoaaGreatDoorRows
import GoSem.ClaimSeven
namespace Go.Proofs.YtchmkgajakkfoaaGreatDoor
namespace Rows

/-- THE TIED CARD OF 'morainelaw17.ManifestWrites'. -/
def manifestWritesCard : Claim7 := { stood := { row := manifestWritesRow, standIns := [], harness := (true, "f6d2e412d8eb9f44772702f589644ea23516ee689d13de27c6956ac9417b10f2"), looks := true }, kinds := [], alts := [], laidByText := true, laidKinds := [.data, .data, .data, .data, .data], laidTests := true, laidLooks := .later }
def ManifestWritesCardSaid : Prop := Claim7.holds Tryz.pinned (.plain (OpenSpec.ofChange manifestWritesSpec)) manifestWritesCard

/-- THE TIED CARD OF 'morainelaw17.ManifestLoads'. -/
def manifestLoadsCard : Claim7 := { stood := { row := manifestLoadsRow, standIns := [], harness := (true, "f6d2e412d8eb9f44772702f589644ea23516ee689d13de27c6956ac9417b10f2"), looks := true }, kinds := [], alts := [], laidByText := true, laidKinds := [.data, .data, .data, .data, .data], laidTests := true, laidLooks := .later }
def ManifestLoadsCardSaid : Prop := Claim7.holds Tryz.pinned (.plain (OpenSpec.ofChange manifestLoadsSpec)) manifestLoadsCard

/-- THE TIED CARD OF 'morainelaw17.ManifestNobody'. -/
def manifestNobodyCard : Claim7 := { stood := { row := manifestNobodyRow, standIns := [], harness := (true, "f6d2e412d8eb9f44772702f589644ea23516ee689d13de27c6956ac9417b10f2"), looks := true }, kinds := [], alts := [], laidByText := true, laidKinds := [.data, .data, .data, .data, .data], laidTests := true, laidLooks := .later }
def ManifestNobodyCardSaid : Prop := Claim7.holds Tryz.pinned (.plain (OpenSpec.ofChange manifestNobodySpec)) manifestNobodyCard

/-- THE TIED CARD OF 'morainelaw17.ManifestBack'. -/
def manifestBackCard : Claim7 := { stood := { row := manifestBackRow, standIns := [], harness := (true, "f6d2e412d8eb9f44772702f589644ea23516ee689d13de27c6956ac9417b10f2"), looks := true }, kinds := [], alts := [], laidByText := true, laidKinds := [.data, .data, .data, .data, .data], laidTests := true, laidLooks := .later }
def ManifestBackCardSaid : Prop := Claim7.holds Tryz.pinned (.plain (OpenSpec.ofChange manifestBackSpec)) manifestBackCard

/-- THE TIED CARD OF 'morainelaw17.ManifestStands'. -/
def manifestStandsCard : Claim7 := { stood := { row := manifestStandsRow, standIns := [], harness := (true, "f6d2e412d8eb9f44772702f589644ea23516ee689d13de27c6956ac9417b10f2"), looks := true }, kinds := [], alts := [], laidByText := true, laidKinds := [.data, .data, .data, .data, .data], laidTests := true, laidLooks := .later }
def ManifestStandsCardSaid : Prop := Claim7.holds Tryz.pinned (.plain (OpenSpec.ofChange manifestStandsSpec)) manifestStandsCard

/-- THE SECOND FORM's CARD OF 'morainelaw17.ManifestWrites'. -/
def manifestWritesUptoCard : Claim7 := { stood := { row := manifestWritesUptoRow, standIns := [], harness := (true, "f6d2e412d8eb9f44772702f589644ea23516ee689d13de27c6956ac9417b10f2"), looks := true }, kinds := [], alts := [], laidByText := true, laidKinds := [.data, .data, .data, .data, .data], laidTests := true, laidLooks := .later }
def ManifestWritesUptoCardSaid : Prop := Claim7.holds Tryz.pinned (.plain (OpenSpec.upto manifestWritesSpec)) manifestWritesUptoCard

/-- THE SECOND FORM's CARD OF 'morainelaw17.ManifestLoads'. -/
def manifestLoadsUptoCard : Claim7 := { stood := { row := manifestLoadsUptoRow, standIns := [], harness := (true, "f6d2e412d8eb9f44772702f589644ea23516ee689d13de27c6956ac9417b10f2"), looks := true }, kinds := [], alts := [], laidByText := true, laidKinds := [.data, .data, .data, .data, .data], laidTests := true, laidLooks := .later }
def ManifestLoadsUptoCardSaid : Prop := Claim7.holds Tryz.pinned (.plain (OpenSpec.upto manifestLoadsSpec)) manifestLoadsUptoCard

/-- THE SECOND FORM's CARD OF 'morainelaw17.ManifestNobody'. -/
def manifestNobodyUptoCard : Claim7 := { stood := { row := manifestNobodyUptoRow, standIns := [], harness := (true, "f6d2e412d8eb9f44772702f589644ea23516ee689d13de27c6956ac9417b10f2"), looks := true }, kinds := [], alts := [], laidByText := true, laidKinds := [.data, .data, .data, .data, .data], laidTests := true, laidLooks := .later }
def ManifestNobodyUptoCardSaid : Prop := Claim7.holds Tryz.pinned (.plain (OpenSpec.upto manifestNobodySpec)) manifestNobodyUptoCard

/-- THE SECOND FORM's CARD OF 'morainelaw17.ManifestBack'. -/
def manifestBackUptoCard : Claim7 := { stood := { row := manifestBackUptoRow, standIns := [], harness := (true, "f6d2e412d8eb9f44772702f589644ea23516ee689d13de27c6956ac9417b10f2"), looks := true }, kinds := [], alts := [], laidByText := true, laidKinds := [.data, .data, .data, .data, .data], laidTests := true, laidLooks := .later }
def ManifestBackUptoCardSaid : Prop := Claim7.holds Tryz.pinned (.plain (OpenSpec.upto manifestBackSpec)) manifestBackUptoCard

/-- THE SECOND FORM's CARD OF 'morainelaw17.ManifestStands'. -/
def manifestStandsUptoCard : Claim7 := { stood := { row := manifestStandsUptoRow, standIns := [], harness := (true, "f6d2e412d8eb9f44772702f589644ea23516ee689d13de27c6956ac9417b10f2"), looks := true }, kinds := [], alts := [], laidByText := true, laidKinds := [.data, .data, .data, .data, .data], laidTests := true, laidLooks := .later }
def ManifestStandsUptoCardSaid : Prop := Claim7.holds Tryz.pinned (.plain (OpenSpec.upto manifestStandsSpec)) manifestStandsUptoCard
end Rows
end Go.Proofs.YtchmkgajakkfoaaGreatDoor
