/-
  DERIVED. GIVEN WITH THE SEED: THE CARDS: each row of YtlhohmlpcgbliaaDoorRows.lean that lists a variable, with what it lists TIED to the program's text (the seventh form; the later family's looks); each row that meets fmt, with fmt's text TOLD by the authors' own Lean function (tested against real Go, not proved from fmt's source: count such statements apart). THE CARD IS WHAT COUNTS. Prove the row's statement (the work); the ties are given (YtlhohmlpcgbliaaDoorTie.lean); close each card by the builder's one call (the guide's Derived/Test/ToyasCard.lean, 'card_holds'). Laid BY PROGRAM, IN A SANDBOX (cutbox-door.mjs). By AI agents, Wed Nov 11 2026. No macro, syntax, notation, axiom, sorry.
-/
import Derived.Test.YtlhohmlpcgbliaaDoorRows
import GoSem.ClaimSeven
namespace Go.Proofs.YtlhohmlpcgbliaaDoor
namespace Rows

/-- THE TIED CARD OF 'grovelaw.Hashes'. -/
def hashesCard : Claim7 := { stood := { row := hashesRow, standIns := [], harness := (true, "b78df9ad1cf82927d351e2d05e708bf9083f672890c2d1bc97775b1f2cf4f559"), looks := false }, kinds := [], alts := [], laidByText := true, laidKinds := [.data], laidTests := true, laidLooks := .later }
def HashesCardSaid : Prop := Claim7.holds Tryd.pinned (.plain (OpenSpec.ofChange hashesSpec)) hashesCard

/-- THE TIED CARD OF 'grovelaw.Checks'. -/
def checksCard : Claim7 := { stood := { row := checksRow, standIns := [], harness := (true, "b78df9ad1cf82927d351e2d05e708bf9083f672890c2d1bc97775b1f2cf4f559"), looks := false }, kinds := [], alts := [], laidByText := true, laidKinds := [.data, .data, .data], laidTests := true, laidLooks := .later }
def ChecksCardSaid : Prop := Claim7.holds Tryd.pinned (.plain (OpenSpec.ofChange checksSpec)) checksCard

/-- THE TIED CARD OF 'grovelaw.Paths'. -/
def pathsCard : Claim7 := { stood := { row := pathsRow, standIns := [], harness := (true, "b78df9ad1cf82927d351e2d05e708bf9083f672890c2d1bc97775b1f2cf4f559"), looks := false }, kinds := [], alts := [], laidByText := true, laidKinds := [.data, .data, .data], laidTests := true, laidLooks := .later }
def PathsCardSaid : Prop := Claim7.holds Tryd.pinned (.plain (OpenSpec.ofChange pathsSpec)) pathsCard

/-- THE TIED CARD OF 'grovekeep.Bound'. -/
def boundCard : Claim7 := { stood := { row := boundRow, standIns := [], harness := (true, "b78df9ad1cf82927d351e2d05e708bf9083f672890c2d1bc97775b1f2cf4f559"), looks := false }, kinds := [], alts := [], laidByText := true, laidKinds := [.data], laidTests := true, laidLooks := .later }
def BoundCardSaid : Prop := Claim7.holds Tryd.pinned (.plain (OpenSpec.ofChange boundSpec)) boundCard

/-- THE TIED CARD OF 'grovekeep.Told'. -/
def toldCard : Claim7 := { stood := { row := toldRow, standIns := [], harness := (true, "b78df9ad1cf82927d351e2d05e708bf9083f672890c2d1bc97775b1f2cf4f559"), looks := false }, kinds := [], alts := [], laidByText := true, laidKinds := [.data], laidTests := true, laidLooks := .later }
def ToldCardSaid : Prop := Claim7.holds Tryd.pinned (.plain (OpenSpec.ofChange toldSpec)) toldCard

/-- THE TIED CARD OF 'grovekeep.Shown'. -/
def shownCard : Claim7 := { stood := { row := shownRow, standIns := [], harness := (true, "b78df9ad1cf82927d351e2d05e708bf9083f672890c2d1bc97775b1f2cf4f559"), looks := false }, kinds := [], alts := [], laidByText := true, laidKinds := [.data, .data, .data], laidTests := true, laidLooks := .later }
def ShownCardSaid : Prop := Claim7.holds Tryd.pinned (.plain (OpenSpec.ofChange shownSpec)) shownCard

/-- THE TIED CARD OF 'grovekeep.Alike'. -/
def alikeCard : Claim7 := { stood := { row := alikeRow, standIns := [], harness := (true, "b78df9ad1cf82927d351e2d05e708bf9083f672890c2d1bc97775b1f2cf4f559"), looks := false }, kinds := [], alts := [], laidByText := true, laidKinds := [.data], laidTests := true, laidLooks := .later }
def AlikeCardSaid : Prop := Claim7.holds Tryd.pinned (.plain (OpenSpec.ofChange alikeSpec)) alikeCard

/-- THE TIED CARD OF 'grovekeep.Disk'. -/
def diskCard : Claim7 := { stood := { row := diskRow, standIns := [], harness := (true, "b78df9ad1cf82927d351e2d05e708bf9083f672890c2d1bc97775b1f2cf4f559"), looks := false }, kinds := [], alts := [], laidByText := true, laidKinds := [.data], laidTests := true, laidLooks := .later }
def DiskCardSaid : Prop := Claim7.holds Tryd.pinned (.plain (OpenSpec.ofChange diskSpec)) diskCard

/-- THE TIED CARD OF 'grovekeep.Later'. -/
def laterCard : Claim7 := { stood := { row := laterRow, standIns := [], harness := (true, "b78df9ad1cf82927d351e2d05e708bf9083f672890c2d1bc97775b1f2cf4f559"), looks := false }, kinds := [], alts := [], laidByText := true, laidKinds := [.data], laidTests := true, laidLooks := .later }
def LaterCardSaid : Prop := Claim7.holds Tryd.pinned (.plain (OpenSpec.ofChange laterSpec)) laterCard

/-- THE TIED CARD OF 'grovekeep.Crashed'. -/
def crashedCard : Claim7 := { stood := { row := crashedRow, standIns := [], harness := (true, "b78df9ad1cf82927d351e2d05e708bf9083f672890c2d1bc97775b1f2cf4f559"), looks := false }, kinds := [], alts := [], laidByText := true, laidKinds := [.data], laidTests := true, laidLooks := .later }
def CrashedCardSaid : Prop := Claim7.holds Tryd.pinned (.plain (OpenSpec.ofChange crashedSpec)) crashedCard

/-- THE TIED CARD OF 'grovekeep.Opened'. -/
def openedCard : Claim7 := { stood := { row := openedRow, standIns := [], harness := (true, "b78df9ad1cf82927d351e2d05e708bf9083f672890c2d1bc97775b1f2cf4f559"), looks := false }, kinds := [], alts := [], laidByText := true, laidKinds := [.data], laidTests := true, laidLooks := .later }
def OpenedCardSaid : Prop := Claim7.holds Tryd.pinned (.plain (OpenSpec.ofChange openedSpec)) openedCard

/-- THE SECOND FORM's CARD OF 'grovelaw.Hashes'. -/
def hashesUptoCard : Claim7 := { stood := { row := hashesUptoRow, standIns := [], harness := (true, "b78df9ad1cf82927d351e2d05e708bf9083f672890c2d1bc97775b1f2cf4f559"), looks := false }, kinds := [], alts := [], laidByText := true, laidKinds := [.data], laidTests := true, laidLooks := .later }
def HashesUptoCardSaid : Prop := Claim7.holds Tryd.pinned (.plain (OpenSpec.upto hashesSpec)) hashesUptoCard

/-- THE SECOND FORM's CARD OF 'grovelaw.Checks'. -/
def checksUptoCard : Claim7 := { stood := { row := checksUptoRow, standIns := [], harness := (true, "b78df9ad1cf82927d351e2d05e708bf9083f672890c2d1bc97775b1f2cf4f559"), looks := false }, kinds := [], alts := [], laidByText := true, laidKinds := [.data, .data, .data], laidTests := true, laidLooks := .later }
def ChecksUptoCardSaid : Prop := Claim7.holds Tryd.pinned (.plain (OpenSpec.upto checksSpec)) checksUptoCard

/-- THE SECOND FORM's CARD OF 'grovelaw.Paths'. -/
def pathsUptoCard : Claim7 := { stood := { row := pathsUptoRow, standIns := [], harness := (true, "b78df9ad1cf82927d351e2d05e708bf9083f672890c2d1bc97775b1f2cf4f559"), looks := false }, kinds := [], alts := [], laidByText := true, laidKinds := [.data, .data, .data], laidTests := true, laidLooks := .later }
def PathsUptoCardSaid : Prop := Claim7.holds Tryd.pinned (.plain (OpenSpec.upto pathsSpec)) pathsUptoCard

/-- THE SECOND FORM's CARD OF 'grovekeep.Bound'. -/
def boundUptoCard : Claim7 := { stood := { row := boundUptoRow, standIns := [], harness := (true, "b78df9ad1cf82927d351e2d05e708bf9083f672890c2d1bc97775b1f2cf4f559"), looks := false }, kinds := [], alts := [], laidByText := true, laidKinds := [.data], laidTests := true, laidLooks := .later }
def BoundUptoCardSaid : Prop := Claim7.holds Tryd.pinned (.plain (OpenSpec.upto boundSpec)) boundUptoCard

/-- THE SECOND FORM's CARD OF 'grovekeep.Told'. -/
def toldUptoCard : Claim7 := { stood := { row := toldUptoRow, standIns := [], harness := (true, "b78df9ad1cf82927d351e2d05e708bf9083f672890c2d1bc97775b1f2cf4f559"), looks := false }, kinds := [], alts := [], laidByText := true, laidKinds := [.data], laidTests := true, laidLooks := .later }
def ToldUptoCardSaid : Prop := Claim7.holds Tryd.pinned (.plain (OpenSpec.upto toldSpec)) toldUptoCard

/-- THE SECOND FORM's CARD OF 'grovekeep.Shown'. -/
def shownUptoCard : Claim7 := { stood := { row := shownUptoRow, standIns := [], harness := (true, "b78df9ad1cf82927d351e2d05e708bf9083f672890c2d1bc97775b1f2cf4f559"), looks := false }, kinds := [], alts := [], laidByText := true, laidKinds := [.data, .data, .data], laidTests := true, laidLooks := .later }
def ShownUptoCardSaid : Prop := Claim7.holds Tryd.pinned (.plain (OpenSpec.upto shownSpec)) shownUptoCard

/-- THE SECOND FORM's CARD OF 'grovekeep.Alike'. -/
def alikeUptoCard : Claim7 := { stood := { row := alikeUptoRow, standIns := [], harness := (true, "b78df9ad1cf82927d351e2d05e708bf9083f672890c2d1bc97775b1f2cf4f559"), looks := false }, kinds := [], alts := [], laidByText := true, laidKinds := [.data], laidTests := true, laidLooks := .later }
def AlikeUptoCardSaid : Prop := Claim7.holds Tryd.pinned (.plain (OpenSpec.upto alikeSpec)) alikeUptoCard

/-- THE SECOND FORM's CARD OF 'grovekeep.Disk'. -/
def diskUptoCard : Claim7 := { stood := { row := diskUptoRow, standIns := [], harness := (true, "b78df9ad1cf82927d351e2d05e708bf9083f672890c2d1bc97775b1f2cf4f559"), looks := false }, kinds := [], alts := [], laidByText := true, laidKinds := [.data], laidTests := true, laidLooks := .later }
def DiskUptoCardSaid : Prop := Claim7.holds Tryd.pinned (.plain (OpenSpec.upto diskSpec)) diskUptoCard

/-- THE SECOND FORM's CARD OF 'grovekeep.Later'. -/
def laterUptoCard : Claim7 := { stood := { row := laterUptoRow, standIns := [], harness := (true, "b78df9ad1cf82927d351e2d05e708bf9083f672890c2d1bc97775b1f2cf4f559"), looks := false }, kinds := [], alts := [], laidByText := true, laidKinds := [.data], laidTests := true, laidLooks := .later }
def LaterUptoCardSaid : Prop := Claim7.holds Tryd.pinned (.plain (OpenSpec.upto laterSpec)) laterUptoCard

/-- THE SECOND FORM's CARD OF 'grovekeep.Crashed'. -/
def crashedUptoCard : Claim7 := { stood := { row := crashedUptoRow, standIns := [], harness := (true, "b78df9ad1cf82927d351e2d05e708bf9083f672890c2d1bc97775b1f2cf4f559"), looks := false }, kinds := [], alts := [], laidByText := true, laidKinds := [.data], laidTests := true, laidLooks := .later }
def CrashedUptoCardSaid : Prop := Claim7.holds Tryd.pinned (.plain (OpenSpec.upto crashedSpec)) crashedUptoCard

/-- THE SECOND FORM's CARD OF 'grovekeep.Opened'. -/
def openedUptoCard : Claim7 := { stood := { row := openedUptoRow, standIns := [], harness := (true, "b78df9ad1cf82927d351e2d05e708bf9083f672890c2d1bc97775b1f2cf4f559"), looks := false }, kinds := [], alts := [], laidByText := true, laidKinds := [.data], laidTests := true, laidLooks := .later }
def OpenedUptoCardSaid : Prop := Claim7.holds Tryd.pinned (.plain (OpenSpec.upto openedSpec)) openedUptoCard
end Rows
end Go.Proofs.YtlhohmlpcgbliaaDoor
