/-
  DERIVED. GIVEN WITH THE SEED: THE CARDS: each row of YtdlmkienogimgaaGreatDoorRows.lean that lists a variable, with what it lists TIED to the program's text (the seventh form; the later family's looks); each row that meets fmt, with fmt's text TOLD by the authors' own Lean function (tested against real Go, not proved from fmt's source: count such statements apart). THE CARD IS WHAT COUNTS. Prove the row's statement (the work); the ties are given (YtdlmkienogimgaaGreatDoorTie.lean); close each card by the builder's one call (the guide's Derived/Test/ToyasCard.lean, 'card_holds'). Laid BY PROGRAM, IN A SANDBOX (cutbox-door.mjs). By AI agents, Wed Nov 11 2026. No macro, syntax, notation, axiom, sorry.
-/
import Derived.Test.YtdlmkienogimgaaGreatDoorRows
import GoSem.ClaimSeven
namespace Go.Proofs.YtdlmkienogimgaaGreatDoor
namespace Rows

/-- THE TIED CARD OF 'platterholdlaw2.TreeWhole'. -/
def treeWholeCard : Claim7 := { stood := { row := treeWholeRow, standIns := [], harness := (true, "69ff7e5796c1d7b032b75044fe64b79146b7890dc9dcd8ae9b6ba3cb0b700183"), looks := true }, kinds := [], alts := [], laidByText := true, laidKinds := [.data, .pinned], laidTests := true, laidLooks := .later }
def TreeWholeCardSaid : Prop := Claim7.holds Tryz.pinned (.plain (OpenSpec.ofChange treeWholeSpec)) treeWholeCard

/-- THE TIED CARD OF 'platterholdlaw2.TreeDrop'. -/
def treeDropCard : Claim7 := { stood := { row := treeDropRow, standIns := [], harness := (true, "69ff7e5796c1d7b032b75044fe64b79146b7890dc9dcd8ae9b6ba3cb0b700183"), looks := true }, kinds := [], alts := [], laidByText := true, laidKinds := [.data, .handle, .pinned], laidTests := true, laidLooks := .later }
def TreeDropCardSaid : Prop := Claim7.holds Tryz.pinned (.plain (OpenSpec.ofChange treeDropSpec)) treeDropCard

/-- THE TIED CARD OF 'platterholdlaw2.TreePlays'. -/
def treePlaysCard : Claim7 := { stood := { row := treePlaysRow, standIns := [], harness := (true, "69ff7e5796c1d7b032b75044fe64b79146b7890dc9dcd8ae9b6ba3cb0b700183"), looks := true }, kinds := [], alts := [], laidByText := true, laidKinds := [.data, .handle, .pinned], laidTests := true, laidLooks := .later }
def TreePlaysCardSaid : Prop := Claim7.holds Tryz.pinned (.plain (OpenSpec.ofChange treePlaysSpec)) treePlaysCard

/-- THE SECOND FORM's CARD OF 'platterholdlaw2.TreeWhole'. -/
def treeWholeUptoCard : Claim7 := { stood := { row := treeWholeUptoRow, standIns := [], harness := (true, "69ff7e5796c1d7b032b75044fe64b79146b7890dc9dcd8ae9b6ba3cb0b700183"), looks := true }, kinds := [], alts := [], laidByText := true, laidKinds := [.data, .pinned], laidTests := true, laidLooks := .later }
def TreeWholeUptoCardSaid : Prop := Claim7.holds Tryz.pinned (.plain (OpenSpec.upto treeWholeSpec)) treeWholeUptoCard

/-- THE SECOND FORM's CARD OF 'platterholdlaw2.TreeDrop'. -/
def treeDropUptoCard : Claim7 := { stood := { row := treeDropUptoRow, standIns := [], harness := (true, "69ff7e5796c1d7b032b75044fe64b79146b7890dc9dcd8ae9b6ba3cb0b700183"), looks := true }, kinds := [], alts := [], laidByText := true, laidKinds := [.data, .handle, .pinned], laidTests := true, laidLooks := .later }
def TreeDropUptoCardSaid : Prop := Claim7.holds Tryz.pinned (.plain (OpenSpec.upto treeDropSpec)) treeDropUptoCard

/-- THE SECOND FORM's CARD OF 'platterholdlaw2.TreePlays'. -/
def treePlaysUptoCard : Claim7 := { stood := { row := treePlaysUptoRow, standIns := [], harness := (true, "69ff7e5796c1d7b032b75044fe64b79146b7890dc9dcd8ae9b6ba3cb0b700183"), looks := true }, kinds := [], alts := [], laidByText := true, laidKinds := [.data, .handle, .pinned], laidTests := true, laidLooks := .later }
def TreePlaysUptoCardSaid : Prop := Claim7.holds Tryz.pinned (.plain (OpenSpec.upto treePlaysSpec)) treePlaysUptoCard
end Rows
end Go.Proofs.YtdlmkienogimgaaGreatDoor
