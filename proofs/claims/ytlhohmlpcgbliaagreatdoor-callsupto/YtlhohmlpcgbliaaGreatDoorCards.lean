/-
  DERIVED. GIVEN WITH THE SEED: THE CARDS: each row of YtlhohmlpcgbliaaGreatDoorRows.lean that lists a variable, with what it lists TIED to the program's text (the seventh form; the later family's looks); each row that meets fmt, with fmt's text TOLD by the authors' own Lean function (tested against real Go, not proved from fmt's source: count such statements apart). THE CARD IS WHAT COUNTS. Prove the row's statement (the work); the ties are given (YtlhohmlpcgbliaaGreatDoorTie.lean); close each card by the builder's one call (the guide's Derived/Test/ToyasCard.lean, 'card_holds'). Laid BY PROGRAM, IN A SANDBOX (cutbox-door.mjs). By AI agents, Wed Nov 11 2026. No macro, syntax, notation, axiom, sorry.
-/
import Derived.Test.YtlhohmlpcgbliaaGreatDoorRows
import GoSem.ClaimSeven
namespace Go.Proofs.YtlhohmlpcgbliaaGreatDoor
namespace Rows

/-- THE TIED CARD OF 'grovelaw.Calls'. -/
def callsCard : Claim7 := { stood := { row := callsRow, standIns := [], harness := (true, "4dd8dc2ec6125745a571632de02e21fd7665a05280a53f9783e1e7404368b918"), looks := false }, kinds := [], alts := [], laidByText := true, laidKinds := [.data], laidTests := true, laidLooks := .later }
def CallsCardSaid : Prop := Claim7.holds Tryz.pinned (.plain (OpenSpec.ofChange callsSpec)) callsCard

/-- THE SECOND FORM's CARD OF 'grovelaw.Calls'. -/
def callsUptoCard : Claim7 := { stood := { row := callsUptoRow, standIns := [], harness := (true, "4dd8dc2ec6125745a571632de02e21fd7665a05280a53f9783e1e7404368b918"), looks := false }, kinds := [], alts := [], laidByText := true, laidKinds := [.data], laidTests := true, laidLooks := .later }
def CallsUptoCardSaid : Prop := Claim7.holds Tryz.pinned (.plain (OpenSpec.upto callsSpec)) callsUptoCard
end Rows
end Go.Proofs.YtlhohmlpcgbliaaGreatDoor
