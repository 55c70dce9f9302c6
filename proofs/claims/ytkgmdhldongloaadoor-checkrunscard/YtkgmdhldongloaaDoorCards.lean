/-
  DERIVED. GIVEN WITH THE SEED: THE CARDS: each row of YtkgmdhldongloaaDoorRows.lean that lists a variable, with what it lists TIED to the program's text (the seventh form; the later family's looks); each row that meets fmt, with fmt's text TOLD by the authors' own Lean function (tested against real Go, not proved from fmt's source: count such statements apart). THE CARD IS WHAT COUNTS. Prove the row's statement (the work); the ties are given (YtkgmdhldongloaaDoorTie.lean); close each card by the builder's one call (the guide's Derived/Test/ToyasCard.lean, 'card_holds'). Laid BY PROGRAM, IN A SANDBOX (cutbox-door.mjs). By AI agents, Wed Nov 11 2026. No macro, syntax, notation, axiom, sorry.
-/
import Derived.Test.YtkgmdhldongloaaDoorRows
import GoSem.ClaimSeven
namespace Go.Proofs.YtkgmdhldongloaaDoor
namespace Rows

/-- THE TIED CARD OF 'morainelaw02.CheckSums'. -/
def checkSumsCard : Claim7 := { stood := { row := checkSumsRow, standIns := [], harness := (true, "51014f933b6a304fb52b06b85b447afa68da5d6989d86cb1b9bdab67b084d305"), looks := false }, kinds := [], alts := [], laidByText := true, laidKinds := [.data], laidTests := true, laidLooks := .later }
def CheckSumsCardSaid : Prop := Claim7.holds Tryd.pinned (.plain (OpenSpec.ofChange checkSumsSpec)) checkSumsCard

/-- THE TIED CARD OF 'morainelaw02.CheckZeros'. -/
def checkZerosCard : Claim7 := { stood := { row := checkZerosRow, standIns := [], harness := (true, "51014f933b6a304fb52b06b85b447afa68da5d6989d86cb1b9bdab67b084d305"), looks := false }, kinds := [], alts := [], laidByText := true, laidKinds := [.data], laidTests := true, laidLooks := .later }
def CheckZerosCardSaid : Prop := Claim7.holds Tryd.pinned (.plain (OpenSpec.ofChange checkZerosSpec)) checkZerosCard

/-- THE TIED CARD OF 'morainelaw02.CheckCombines'. -/
def checkCombinesCard : Claim7 := { stood := { row := checkCombinesRow, standIns := [], harness := (true, "51014f933b6a304fb52b06b85b447afa68da5d6989d86cb1b9bdab67b084d305"), looks := false }, kinds := [], alts := [], laidByText := true, laidKinds := [.data], laidTests := true, laidLooks := .later }
def CheckCombinesCardSaid : Prop := Claim7.holds Tryd.pinned (.plain (OpenSpec.ofChange checkCombinesSpec)) checkCombinesCard

/-- THE TIED CARD OF 'morainelaw02.CheckPatches'. -/
def checkPatchesCard : Claim7 := { stood := { row := checkPatchesRow, standIns := [], harness := (true, "51014f933b6a304fb52b06b85b447afa68da5d6989d86cb1b9bdab67b084d305"), looks := false }, kinds := [], alts := [], laidByText := true, laidKinds := [.data], laidTests := true, laidLooks := .later }
def CheckPatchesCardSaid : Prop := Claim7.holds Tryd.pinned (.plain (OpenSpec.ofChange checkPatchesSpec)) checkPatchesCard

/-- THE TIED CARD OF 'morainelaw02.CheckRuns'. -/
def checkRunsCard : Claim7 := { stood := { row := checkRunsRow, standIns := [], harness := (true, "51014f933b6a304fb52b06b85b447afa68da5d6989d86cb1b9bdab67b084d305"), looks := false }, kinds := [], alts := [], laidByText := true, laidKinds := [.data], laidTests := true, laidLooks := .later }
def CheckRunsCardSaid : Prop := Claim7.holds Tryd.pinned (.plain (OpenSpec.ofChange checkRunsSpec)) checkRunsCard

/-- THE SECOND FORM's CARD OF 'morainelaw02.CheckSums'. -/
def checkSumsUptoCard : Claim7 := { stood := { row := checkSumsUptoRow, standIns := [], harness := (true, "51014f933b6a304fb52b06b85b447afa68da5d6989d86cb1b9bdab67b084d305"), looks := false }, kinds := [], alts := [], laidByText := true, laidKinds := [.data], laidTests := true, laidLooks := .later }
def CheckSumsUptoCardSaid : Prop := Claim7.holds Tryd.pinned (.plain (OpenSpec.upto checkSumsSpec)) checkSumsUptoCard

/-- THE SECOND FORM's CARD OF 'morainelaw02.CheckZeros'. -/
def checkZerosUptoCard : Claim7 := { stood := { row := checkZerosUptoRow, standIns := [], harness := (true, "51014f933b6a304fb52b06b85b447afa68da5d6989d86cb1b9bdab67b084d305"), looks := false }, kinds := [], alts := [], laidByText := true, laidKinds := [.data], laidTests := true, laidLooks := .later }
def CheckZerosUptoCardSaid : Prop := Claim7.holds Tryd.pinned (.plain (OpenSpec.upto checkZerosSpec)) checkZerosUptoCard

/-- THE SECOND FORM's CARD OF 'morainelaw02.CheckCombines'. -/
def checkCombinesUptoCard : Claim7 := { stood := { row := checkCombinesUptoRow, standIns := [], harness := (true, "51014f933b6a304fb52b06b85b447afa68da5d6989d86cb1b9bdab67b084d305"), looks := false }, kinds := [], alts := [], laidByText := true, laidKinds := [.data], laidTests := true, laidLooks := .later }
def CheckCombinesUptoCardSaid : Prop := Claim7.holds Tryd.pinned (.plain (OpenSpec.upto checkCombinesSpec)) checkCombinesUptoCard

/-- THE SECOND FORM's CARD OF 'morainelaw02.CheckPatches'. -/
def checkPatchesUptoCard : Claim7 := { stood := { row := checkPatchesUptoRow, standIns := [], harness := (true, "51014f933b6a304fb52b06b85b447afa68da5d6989d86cb1b9bdab67b084d305"), looks := false }, kinds := [], alts := [], laidByText := true, laidKinds := [.data], laidTests := true, laidLooks := .later }
def CheckPatchesUptoCardSaid : Prop := Claim7.holds Tryd.pinned (.plain (OpenSpec.upto checkPatchesSpec)) checkPatchesUptoCard

/-- THE SECOND FORM's CARD OF 'morainelaw02.CheckRuns'. -/
def checkRunsUptoCard : Claim7 := { stood := { row := checkRunsUptoRow, standIns := [], harness := (true, "51014f933b6a304fb52b06b85b447afa68da5d6989d86cb1b9bdab67b084d305"), looks := false }, kinds := [], alts := [], laidByText := true, laidKinds := [.data], laidTests := true, laidLooks := .later }
def CheckRunsUptoCardSaid : Prop := Claim7.holds Tryd.pinned (.plain (OpenSpec.upto checkRunsSpec)) checkRunsUptoCard
end Rows
end Go.Proofs.YtkgmdhldongloaaDoor
