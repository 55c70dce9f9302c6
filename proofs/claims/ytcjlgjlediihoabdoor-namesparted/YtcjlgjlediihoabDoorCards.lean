/-
  DERIVED. GIVEN WITH THE SEED: THE CARDS: each row of YtcjlgjlediihoabDoorRows.lean that lists a variable, with what it lists TIED to the program's text (the seventh form; the later family's looks); each row that meets fmt, with fmt's text TOLD by the authors' own Lean function (tested against real Go, not proved from fmt's source: count such statements apart). THE CARD IS WHAT COUNTS. Prove the row's statement (the work); the ties are given (YtcjlgjlediihoabDoorTie.lean); close each card by the builder's one call (the guide's Derived/Test/ToyasCard.lean, 'card_holds'). Laid BY PROGRAM, IN A SANDBOX (cutbox-door.mjs). By AI agents, Wed Nov 11 2026. No macro, syntax, notation, axiom, sorry.
-/
import Derived.Test.YtcjlgjlediihoabDoorRows
import GoSem.ClaimSeven
namespace Go.Proofs.YtcjlgjlediihoabDoor
namespace Rows

/-- THE TIED CARD OF 'morainelaw06.NamesUnlike'. -/
def namesUnlikeCard : Claim7 := { stood := { row := namesUnlikeRow, standIns := [], harness := (true, "71346540feb78cc93c23187fd3a3b02ae6d85e75acf88f16d6ecdbf957a6a367"), looks := false }, kinds := [], alts := [], laidByText := true, laidKinds := [.data, .data, .data, .data, .data], laidTests := true, laidLooks := .later }
def NamesUnlikeCardSaid : Prop := Claim7.holds Tryd.pinned (.plain (OpenSpec.ofChange namesUnlikeSpec)) namesUnlikeCard

/-- THE TIED CARD OF 'morainelaw06.NamesParted'. -/
def namesPartedCard : Claim7 := { stood := { row := namesPartedRow, standIns := [], harness := (true, "71346540feb78cc93c23187fd3a3b02ae6d85e75acf88f16d6ecdbf957a6a367"), looks := false }, kinds := [], alts := [], laidByText := true, laidKinds := [.data, .data, .data, .data, .data], laidTests := true, laidLooks := .later }
def NamesPartedCardSaid : Prop := Claim7.holds Tryd.pinned (.plain (OpenSpec.ofChange namesPartedSpec)) namesPartedCard

/-- THE TIED CARD OF 'morainelaw06.NamesWide'. -/
def namesWideCard : Claim7 := { stood := { row := namesWideRow, standIns := [], harness := (true, "71346540feb78cc93c23187fd3a3b02ae6d85e75acf88f16d6ecdbf957a6a367"), looks := false }, kinds := [], alts := [], laidByText := true, laidKinds := [.data, .data, .data, .data, .data], laidTests := true, laidLooks := .later }
def NamesWideCardSaid : Prop := Claim7.holds Tryd.pinned (.plain (OpenSpec.ofChange namesWideSpec)) namesWideCard

/-- THE SECOND FORM's CARD OF 'morainelaw06.NamesUnlike'. -/
def namesUnlikeUptoCard : Claim7 := { stood := { row := namesUnlikeUptoRow, standIns := [], harness := (true, "71346540feb78cc93c23187fd3a3b02ae6d85e75acf88f16d6ecdbf957a6a367"), looks := false }, kinds := [], alts := [], laidByText := true, laidKinds := [.data, .data, .data, .data, .data], laidTests := true, laidLooks := .later }
def NamesUnlikeUptoCardSaid : Prop := Claim7.holds Tryd.pinned (.plain (OpenSpec.upto namesUnlikeSpec)) namesUnlikeUptoCard

/-- THE SECOND FORM's CARD OF 'morainelaw06.NamesParted'. -/
def namesPartedUptoCard : Claim7 := { stood := { row := namesPartedUptoRow, standIns := [], harness := (true, "71346540feb78cc93c23187fd3a3b02ae6d85e75acf88f16d6ecdbf957a6a367"), looks := false }, kinds := [], alts := [], laidByText := true, laidKinds := [.data, .data, .data, .data, .data], laidTests := true, laidLooks := .later }
def NamesPartedUptoCardSaid : Prop := Claim7.holds Tryd.pinned (.plain (OpenSpec.upto namesPartedSpec)) namesPartedUptoCard

/-- THE SECOND FORM's CARD OF 'morainelaw06.NamesWide'. -/
def namesWideUptoCard : Claim7 := { stood := { row := namesWideUptoRow, standIns := [], harness := (true, "71346540feb78cc93c23187fd3a3b02ae6d85e75acf88f16d6ecdbf957a6a367"), looks := false }, kinds := [], alts := [], laidByText := true, laidKinds := [.data, .data, .data, .data, .data], laidTests := true, laidLooks := .later }
def NamesWideUptoCardSaid : Prop := Claim7.holds Tryd.pinned (.plain (OpenSpec.upto namesWideSpec)) namesWideUptoCard
end Rows
end Go.Proofs.YtcjlgjlediihoabDoor
