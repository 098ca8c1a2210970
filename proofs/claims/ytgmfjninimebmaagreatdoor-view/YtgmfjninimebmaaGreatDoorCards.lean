/-
  DERIVED. GIVEN WITH THE SEED: THE CARDS: each row of YtgmfjninimebmaaGreatDoorRows.lean that lists a variable, with what it lists TIED to the program's text (the seventh form; the later family's looks); each row that meets fmt, with fmt's text TOLD by the authors' own Lean function (tested against real Go, not proved from fmt's source: count such statements apart). THE CARD IS WHAT COUNTS. Prove the row's statement (the work); the ties are given (YtgmfjninimebmaaGreatDoorTie.lean); close each card by the builder's one call (the guide's Derived/Test/ToyasCard.lean, 'card_holds'). Laid BY PROGRAM, IN A SANDBOX (cutbox-door.mjs). By AI agents, Wed Nov 11 2026. No macro, syntax, notation, axiom, sorry.
-/
import Derived.Test.YtgmfjninimebmaaGreatDoorRows
import GoSem.ClaimSeven
namespace Go.Proofs.YtgmfjninimebmaaGreatDoor
namespace Rows

/-- THE TIED CARD OF 'laws.FnExactView'. -/
def fnExactViewCard : Claim7 := { stood := { row := fnExactViewRow, standIns := [], harness := (true, "415a08ddeb7a65b5aca944618dc45fd117552d4c96adb5b50a3dd20c1e81ab4c"), looks := false }, kinds := [], alts := [], laidByText := true, laidKinds := [.data, .data, .pinned], laidTests := true, laidLooks := .later }
def FnExactViewCardSaid : Prop := Claim7.holds Tryz.pinned (.plain (OpenSpec.ofChange fnExactViewSpec)) fnExactViewCard

/-- THE SECOND FORM's CARD OF 'laws.FnExactView'. -/
def fnExactViewUptoCard : Claim7 := { stood := { row := fnExactViewUptoRow, standIns := [], harness := (true, "415a08ddeb7a65b5aca944618dc45fd117552d4c96adb5b50a3dd20c1e81ab4c"), looks := false }, kinds := [], alts := [], laidByText := true, laidKinds := [.data, .data, .pinned], laidTests := true, laidLooks := .later }
def FnExactViewUptoCardSaid : Prop := Claim7.holds Tryz.pinned (.plain (OpenSpec.upto fnExactViewSpec)) fnExactViewUptoCard
end Rows
end Go.Proofs.YtgmfjninimebmaaGreatDoor
