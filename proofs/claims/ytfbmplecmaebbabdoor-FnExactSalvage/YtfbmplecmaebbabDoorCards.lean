/-
  DERIVED. GIVEN WITH THE SEED: THE CARDS: each row of YtfbmplecmaebbabDoorRows.lean that lists a variable, with what it lists TIED to the program's text (the seventh form; the later family's looks); each row that meets fmt, with fmt's text TOLD by the authors' own Lean function (tested against real Go, not proved from fmt's source: count such statements apart). THE CARD IS WHAT COUNTS. Prove the row's statement (the work); the ties are given (YtfbmplecmaebbabDoorTie.lean); close each card by the builder's one call (the guide's Derived/Test/ToyasCard.lean, 'card_holds'). Laid BY PROGRAM, IN A SANDBOX (cutbox-door.mjs). By AI agents, Wed Nov 11 2026. No macro, syntax, notation, axiom, sorry.
-/
import Derived.Test.YtfbmplecmaebbabDoorRows
import GoSem.ClaimSeven
namespace Go.Proofs.YtfbmplecmaebbabDoor
namespace Rows

/-- THE TIED CARD OF 'laws.FnExactReadLog'. -/
def fnExactReadLogCard : Claim7 := { stood := { row := fnExactReadLogRow, standIns := [], harness := (true, "2c8858184034a5b3755522eb5166277e707ad8b8ed7ecd504b9739cb04f2dd11"), looks := false }, kinds := [], alts := [], laidByText := true, laidKinds := [.data, .data, .pinned], laidTests := true, laidLooks := .later }
def FnExactReadLogCardSaid : Prop := Claim7.holds Tryd.pinned (.plain (OpenSpec.ofChange fnExactReadLogSpec)) fnExactReadLogCard

/-- THE TIED CARD OF 'laws.FnExactSalvage'. -/
def fnExactSalvageCard : Claim7 := { stood := { row := fnExactSalvageRow, standIns := [], harness := (true, "2c8858184034a5b3755522eb5166277e707ad8b8ed7ecd504b9739cb04f2dd11"), looks := false }, kinds := [], alts := [], laidByText := true, laidKinds := [.data, .data, .pinned], laidTests := true, laidLooks := .later }
def FnExactSalvageCardSaid : Prop := Claim7.holds Tryd.pinned (.plain (OpenSpec.ofChange fnExactSalvageSpec)) fnExactSalvageCard

/-- THE SECOND FORM's CARD OF 'laws.FnExactReadLog'. -/
def fnExactReadLogUptoCard : Claim7 := { stood := { row := fnExactReadLogUptoRow, standIns := [], harness := (true, "2c8858184034a5b3755522eb5166277e707ad8b8ed7ecd504b9739cb04f2dd11"), looks := false }, kinds := [], alts := [], laidByText := true, laidKinds := [.data, .data, .pinned], laidTests := true, laidLooks := .later }
def FnExactReadLogUptoCardSaid : Prop := Claim7.holds Tryd.pinned (.plain (OpenSpec.upto fnExactReadLogSpec)) fnExactReadLogUptoCard

/-- THE SECOND FORM's CARD OF 'laws.FnExactSalvage'. -/
def fnExactSalvageUptoCard : Claim7 := { stood := { row := fnExactSalvageUptoRow, standIns := [], harness := (true, "2c8858184034a5b3755522eb5166277e707ad8b8ed7ecd504b9739cb04f2dd11"), looks := false }, kinds := [], alts := [], laidByText := true, laidKinds := [.data, .data, .pinned], laidTests := true, laidLooks := .later }
def FnExactSalvageUptoCardSaid : Prop := Claim7.holds Tryd.pinned (.plain (OpenSpec.upto fnExactSalvageSpec)) fnExactSalvageUptoCard
end Rows
end Go.Proofs.YtfbmplecmaebbabDoor
