/-
  DERIVED. GIVEN WITH THE SEED: THE CARDS: each row of YtgpjhlhjdafjlaaGreatDoorRows.lean that lists a variable, with what it lists TIED to the program's text (the seventh form; the later family's looks); each row that meets fmt, with fmt's text TOLD by the authors' own Lean function (tested against real Go, not proved from fmt's source: count such statements apart). THE CARD IS WHAT COUNTS. Prove the row's statement (the work); the ties are given (YtgpjhlhjdafjlaaGreatDoorTie.lean); close each card by the builder's one call (the guide's Derived/Test/ToyasCard.lean, 'card_holds'). Laid BY PROGRAM, IN A SANDBOX (cutbox-door.mjs). By AI agents, Wed Nov 11 2026. No macro, syntax, notation, axiom, sorry.
-/
import Derived.Test.YtgpjhlhjdafjlaaGreatDoorRows
import GoSem.ClaimSeven
namespace Go.Proofs.YtgpjhlhjdafjlaaGreatDoor
namespace Rows

/-- THE TIED CARD OF 'laws.FnManifest'. -/
def fnManifestCard : Claim7 := { stood := { row := fnManifestRow, standIns := [], harness := (true, "56c9078e70a9e2f47f8624ca5d0d52074c96a5b0c07596ab31aedea921240895"), looks := false }, kinds := [], alts := [], laidByText := true, laidKinds := [.data, .data, .pinned], laidTests := true, laidLooks := .later }
def FnManifestCardSaid : Prop := Claim7.holds Tryz.pinned (.plain (OpenSpec.ofChange fnManifestSpec)) fnManifestCard

/-- THE SECOND FORM's CARD OF 'laws.FnManifest'. -/
def fnManifestUptoCard : Claim7 := { stood := { row := fnManifestUptoRow, standIns := [], harness := (true, "56c9078e70a9e2f47f8624ca5d0d52074c96a5b0c07596ab31aedea921240895"), looks := false }, kinds := [], alts := [], laidByText := true, laidKinds := [.data, .data, .pinned], laidTests := true, laidLooks := .later }
def FnManifestUptoCardSaid : Prop := Claim7.holds Tryz.pinned (.plain (OpenSpec.upto fnManifestSpec)) fnManifestUptoCard
end Rows
end Go.Proofs.YtgpjhlhjdafjlaaGreatDoor
