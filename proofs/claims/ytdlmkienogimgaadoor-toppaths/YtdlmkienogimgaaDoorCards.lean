/-
  DERIVED. GIVEN WITH THE SEED: THE CARDS: each row of YtdlmkienogimgaaDoorRows.lean that lists a variable, with what it lists TIED to the program's text (the seventh form; the later family's looks); each row that meets fmt, with fmt's text TOLD by the authors' own Lean function (tested against real Go, not proved from fmt's source: count such statements apart). THE CARD IS WHAT COUNTS. Prove the row's statement (the work); the ties are given (YtdlmkienogimgaaDoorTie.lean); close each card by the builder's one call (the guide's Derived/Test/ToyasCard.lean, 'card_holds'). Laid BY PROGRAM, IN A SANDBOX (cutbox-door.mjs). By AI agents, Wed Nov 11 2026. No macro, syntax, notation, axiom, sorry.
-/
import Derived.Test.YtdlmkienogimgaaDoorRows
import GoSem.ClaimSeven
namespace Go.Proofs.YtdlmkienogimgaaDoor
namespace Rows

/-- THE TIED CARD OF 'platterholdlaw2.TreeLinks'. -/
def treeLinksCard : Claim7 := { stood := { row := treeLinksRow, standIns := [], harness := (true, "b3e1f571893c6e46c9a20552838be2ded9e8cf16f6e661ba7dc0ba8e677ea7eb"), looks := false }, kinds := [], alts := [], laidByText := true, laidKinds := [.data, .pinned], laidTests := true, laidLooks := .later }
def TreeLinksCardSaid : Prop := Claim7.holds Tryd.pinned (.plain (OpenSpec.ofChange treeLinksSpec)) treeLinksCard

/-- THE TIED CARD OF 'platterholdlaw2.TreeMove'. -/
def treeMoveCard : Claim7 := { stood := { row := treeMoveRow, standIns := [], harness := (true, "b3e1f571893c6e46c9a20552838be2ded9e8cf16f6e661ba7dc0ba8e677ea7eb"), looks := false }, kinds := [], alts := [], laidByText := true, laidKinds := [.data, .pinned], laidTests := true, laidLooks := .later }
def TreeMoveCardSaid : Prop := Claim7.holds Tryd.pinned (.plain (OpenSpec.ofChange treeMoveSpec)) treeMoveCard

/-- THE TIED CARD OF 'platterholdtop.TopPaths'. -/
def topPathsCard : Claim7 := { stood := { row := topPathsRow, standIns := [], harness := (true, "b3e1f571893c6e46c9a20552838be2ded9e8cf16f6e661ba7dc0ba8e677ea7eb"), looks := false }, kinds := [], alts := [], laidByText := true, laidKinds := [.data, .pinned], laidTests := true, laidLooks := .later }
def TopPathsCardSaid : Prop := Claim7.holds Tryd.pinned (.plain (OpenSpec.ofChange topPathsSpec)) topPathsCard

/-- THE SECOND FORM's CARD OF 'platterholdlaw2.TreeLinks'. -/
def treeLinksUptoCard : Claim7 := { stood := { row := treeLinksUptoRow, standIns := [], harness := (true, "b3e1f571893c6e46c9a20552838be2ded9e8cf16f6e661ba7dc0ba8e677ea7eb"), looks := false }, kinds := [], alts := [], laidByText := true, laidKinds := [.data, .pinned], laidTests := true, laidLooks := .later }
def TreeLinksUptoCardSaid : Prop := Claim7.holds Tryd.pinned (.plain (OpenSpec.upto treeLinksSpec)) treeLinksUptoCard

/-- THE SECOND FORM's CARD OF 'platterholdlaw2.TreeMove'. -/
def treeMoveUptoCard : Claim7 := { stood := { row := treeMoveUptoRow, standIns := [], harness := (true, "b3e1f571893c6e46c9a20552838be2ded9e8cf16f6e661ba7dc0ba8e677ea7eb"), looks := false }, kinds := [], alts := [], laidByText := true, laidKinds := [.data, .pinned], laidTests := true, laidLooks := .later }
def TreeMoveUptoCardSaid : Prop := Claim7.holds Tryd.pinned (.plain (OpenSpec.upto treeMoveSpec)) treeMoveUptoCard

/-- THE SECOND FORM's CARD OF 'platterholdtop.TopPaths'. -/
def topPathsUptoCard : Claim7 := { stood := { row := topPathsUptoRow, standIns := [], harness := (true, "b3e1f571893c6e46c9a20552838be2ded9e8cf16f6e661ba7dc0ba8e677ea7eb"), looks := false }, kinds := [], alts := [], laidByText := true, laidKinds := [.data, .pinned], laidTests := true, laidLooks := .later }
def TopPathsUptoCardSaid : Prop := Claim7.holds Tryd.pinned (.plain (OpenSpec.upto topPathsSpec)) topPathsUptoCard
end Rows
end Go.Proofs.YtdlmkienogimgaaDoor
