/-
  DERIVED. GIVEN WITH THE SEED: THE CARDS: each row of YtfmpdalabgfigaaDoorRows.lean that lists a variable, with what it lists TIED to the program's text (the seventh form; the later family's looks); each row that meets fmt, with fmt's text TOLD by the authors' own Lean function (tested against real Go, not proved from fmt's source: count such statements apart). THE CARD IS WHAT COUNTS. Prove the row's statement (the work); the ties are given (YtfmpdalabgfigaaDoorTie.lean); close each card by the builder's one call (the guide's Derived/Test/ToyasCard.lean, 'card_holds'). Laid BY PROGRAM, IN A SANDBOX (cutbox-door.mjs). By AI agents, Wed Nov 11 2026. No macro, syntax, notation, axiom, sorry.
-/
import Derived.Test.YtfmpdalabgfigaaDoorRows
import GoSem.ClaimSeven
namespace Go.Proofs.YtfmpdalabgfigaaDoor
namespace Rows

/-- THE TIED CARD OF 'morainelaw09.TombFragments'. -/
def tombFragmentsCard : Claim7 := { stood := { row := tombFragmentsRow, standIns := [], harness := (true, "ca7d7aa07f80026c108383620064d3232c2a6f75860ea6fd82087b0490a7e605"), looks := false }, kinds := [], alts := [], laidByText := true, laidKinds := [.data], laidTests := true, laidLooks := .later }
def TombFragmentsCardSaid : Prop := Claim7.holds Tryd.pinned (.plain (OpenSpec.ofChange tombFragmentsSpec)) tombFragmentsCard

/-- THE TIED CARD OF 'morainelaw09.TombCovers'. -/
def tombCoversCard : Claim7 := { stood := { row := tombCoversRow, standIns := [], harness := (true, "ca7d7aa07f80026c108383620064d3232c2a6f75860ea6fd82087b0490a7e605"), looks := false }, kinds := [], alts := [], laidByText := true, laidKinds := [.data], laidTests := true, laidLooks := .later }
def TombCoversCardSaid : Prop := Claim7.holds Tryd.pinned (.plain (OpenSpec.ofChange tombCoversSpec)) tombCoversCard

/-- THE TIED CARD OF 'morainelaw09.TombCuts'. -/
def tombCutsCard : Claim7 := { stood := { row := tombCutsRow, standIns := [], harness := (true, "ca7d7aa07f80026c108383620064d3232c2a6f75860ea6fd82087b0490a7e605"), looks := false }, kinds := [], alts := [], laidByText := true, laidKinds := [.data], laidTests := true, laidLooks := .later }
def TombCutsCardSaid : Prop := Claim7.holds Tryd.pinned (.plain (OpenSpec.ofChange tombCutsSpec)) tombCutsCard

/-- THE SECOND FORM's CARD OF 'morainelaw09.TombFragments'. -/
def tombFragmentsUptoCard : Claim7 := { stood := { row := tombFragmentsUptoRow, standIns := [], harness := (true, "ca7d7aa07f80026c108383620064d3232c2a6f75860ea6fd82087b0490a7e605"), looks := false }, kinds := [], alts := [], laidByText := true, laidKinds := [.data], laidTests := true, laidLooks := .later }
def TombFragmentsUptoCardSaid : Prop := Claim7.holds Tryd.pinned (.plain (OpenSpec.upto tombFragmentsSpec)) tombFragmentsUptoCard

/-- THE SECOND FORM's CARD OF 'morainelaw09.TombCovers'. -/
def tombCoversUptoCard : Claim7 := { stood := { row := tombCoversUptoRow, standIns := [], harness := (true, "ca7d7aa07f80026c108383620064d3232c2a6f75860ea6fd82087b0490a7e605"), looks := false }, kinds := [], alts := [], laidByText := true, laidKinds := [.data], laidTests := true, laidLooks := .later }
def TombCoversUptoCardSaid : Prop := Claim7.holds Tryd.pinned (.plain (OpenSpec.upto tombCoversSpec)) tombCoversUptoCard

/-- THE SECOND FORM's CARD OF 'morainelaw09.TombCuts'. -/
def tombCutsUptoCard : Claim7 := { stood := { row := tombCutsUptoRow, standIns := [], harness := (true, "ca7d7aa07f80026c108383620064d3232c2a6f75860ea6fd82087b0490a7e605"), looks := false }, kinds := [], alts := [], laidByText := true, laidKinds := [.data], laidTests := true, laidLooks := .later }
def TombCutsUptoCardSaid : Prop := Claim7.holds Tryd.pinned (.plain (OpenSpec.upto tombCutsSpec)) tombCutsUptoCard
end Rows
end Go.Proofs.YtfmpdalabgfigaaDoor
