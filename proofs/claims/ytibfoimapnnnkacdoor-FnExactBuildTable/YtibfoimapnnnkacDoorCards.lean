/-
  DERIVED. GIVEN WITH THE SEED: THE CARDS: each row of YtibfoimapnnnkacDoorRows.lean that lists a variable, with what it lists TIED to the program's text (the seventh form; the later family's looks); each row that meets fmt, with fmt's text TOLD by the authors' own Lean function (tested against real Go, not proved from fmt's source: count such statements apart). THE CARD IS WHAT COUNTS. Prove the row's statement (the work); the ties are given (YtibfoimapnnnkacDoorTie.lean); close each card by the builder's one call (the guide's Derived/Test/ToyasCard.lean, 'card_holds'). Laid BY PROGRAM, IN A SANDBOX (cutbox-door.mjs). By AI agents, Wed Nov 11 2026. No macro, syntax, notation, axiom, sorry.
-/
import Derived.Test.YtibfoimapnnnkacDoorRows
import GoSem.ClaimSeven
namespace Go.Proofs.YtibfoimapnnnkacDoor
namespace Rows

/-- THE TIED CARD OF 'laws.FnExactBuildTable'. -/
def fnExactBuildTableCard : Claim7 := { stood := { row := fnExactBuildTableRow, standIns := [], harness := (true, "5f2b4dae5df0a692e9edbf4a4e081eb2647d1541d84dbd2167d4e33f178f0223"), looks := false }, kinds := [], alts := [], laidByText := true, laidKinds := [.data], laidTests := true, laidLooks := .later }
def FnExactBuildTableCardSaid : Prop := Claim7.holds Tryd.pinned (.plain (OpenSpec.ofChange fnExactBuildTableSpec)) fnExactBuildTableCard

/-- THE TIED CARD OF 'laws.FnFlip'. -/
def fnFlipCard : Claim7 := { stood := { row := fnFlipRow, standIns := [], harness := (true, "5f2b4dae5df0a692e9edbf4a4e081eb2647d1541d84dbd2167d4e33f178f0223"), looks := false }, kinds := [], alts := [], laidByText := true, laidKinds := [.data, .data, .pinned], laidTests := true, laidLooks := .later }
def FnFlipCardSaid : Prop := Claim7.holds Tryd.pinned (.plain (OpenSpec.ofChange fnFlipSpec)) fnFlipCard

/-- THE TIED CARD OF 'laws.FnSalvage'. -/
def fnSalvageCard : Claim7 := { stood := { row := fnSalvageRow, standIns := [], harness := (true, "5f2b4dae5df0a692e9edbf4a4e081eb2647d1541d84dbd2167d4e33f178f0223"), looks := false }, kinds := [], alts := [], laidByText := true, laidKinds := [.data, .data, .pinned], laidTests := true, laidLooks := .later }
def FnSalvageCardSaid : Prop := Claim7.holds Tryd.pinned (.plain (OpenSpec.ofChange fnSalvageSpec)) fnSalvageCard

/-- THE SECOND FORM's CARD OF 'laws.FnExactBuildTable'. -/
def fnExactBuildTableUptoCard : Claim7 := { stood := { row := fnExactBuildTableUptoRow, standIns := [], harness := (true, "5f2b4dae5df0a692e9edbf4a4e081eb2647d1541d84dbd2167d4e33f178f0223"), looks := false }, kinds := [], alts := [], laidByText := true, laidKinds := [.data], laidTests := true, laidLooks := .later }
def FnExactBuildTableUptoCardSaid : Prop := Claim7.holds Tryd.pinned (.plain (OpenSpec.upto fnExactBuildTableSpec)) fnExactBuildTableUptoCard

/-- THE SECOND FORM's CARD OF 'laws.FnFlip'. -/
def fnFlipUptoCard : Claim7 := { stood := { row := fnFlipUptoRow, standIns := [], harness := (true, "5f2b4dae5df0a692e9edbf4a4e081eb2647d1541d84dbd2167d4e33f178f0223"), looks := false }, kinds := [], alts := [], laidByText := true, laidKinds := [.data, .data, .pinned], laidTests := true, laidLooks := .later }
def FnFlipUptoCardSaid : Prop := Claim7.holds Tryd.pinned (.plain (OpenSpec.upto fnFlipSpec)) fnFlipUptoCard

/-- THE SECOND FORM's CARD OF 'laws.FnSalvage'. -/
def fnSalvageUptoCard : Claim7 := { stood := { row := fnSalvageUptoRow, standIns := [], harness := (true, "5f2b4dae5df0a692e9edbf4a4e081eb2647d1541d84dbd2167d4e33f178f0223"), looks := false }, kinds := [], alts := [], laidByText := true, laidKinds := [.data, .data, .pinned], laidTests := true, laidLooks := .later }
def FnSalvageUptoCardSaid : Prop := Claim7.holds Tryd.pinned (.plain (OpenSpec.upto fnSalvageSpec)) fnSalvageUptoCard
end Rows
end Go.Proofs.YtibfoimapnnnkacDoor
