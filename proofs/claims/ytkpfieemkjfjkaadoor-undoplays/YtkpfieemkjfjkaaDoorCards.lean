/-
  DERIVED. GIVEN WITH THE SEED: THE CARDS: each row of YtkpfieemkjfjkaaDoorRows.lean that lists a variable, with what it lists TIED to the program's text (the seventh form; the later family's looks); each row that meets fmt, with fmt's text TOLD by the authors' own Lean function (tested against real Go, not proved from fmt's source: count such statements apart). THE CARD IS WHAT COUNTS. Prove the row's statement (the work); the ties are given (YtkpfieemkjfjkaaDoorTie.lean); close each card by the builder's one call (the guide's Derived/Test/ToyasCard.lean, 'card_holds'). Laid BY PROGRAM, IN A SANDBOX (cutbox-door.mjs). By AI agents, Wed Nov 11 2026. No macro, syntax, notation, axiom, sorry.
-/
import Derived.Test.YtkpfieemkjfjkaaDoorRows
import GoSem.ClaimSeven
namespace Go.Proofs.YtkpfieemkjfjkaaDoor
namespace Rows

/-- THE TIED CARD OF 'platterholdlaw2.UndoAlone'. -/
def undoAloneCard : Claim7 := { stood := { row := undoAloneRow, standIns := [], harness := (true, "a2f5bdb2769daa4fe6619457e3c7214229b79db5930a4a8ac6308103954cbafe"), looks := true }, kinds := [], alts := [], laidByText := true, laidKinds := [.handle], laidTests := true, laidLooks := .later }
def UndoAloneCardSaid : Prop := Claim7.holds Tryd.pinned (.plain (OpenSpec.ofChange undoAloneSpec)) undoAloneCard

/-- THE TIED CARD OF 'platterholdlaw2.UndoPlays'. -/
def undoPlaysCard : Claim7 := { stood := { row := undoPlaysRow, standIns := [], harness := (true, "a2f5bdb2769daa4fe6619457e3c7214229b79db5930a4a8ac6308103954cbafe"), looks := true }, kinds := [], alts := [], laidByText := true, laidKinds := [.handle], laidTests := true, laidLooks := .later }
def UndoPlaysCardSaid : Prop := Claim7.holds Tryd.pinned (.plain (OpenSpec.ofChange undoPlaysSpec)) undoPlaysCard

/-- THE SECOND FORM's CARD OF 'platterholdlaw2.UndoAlone'. -/
def undoAloneUptoCard : Claim7 := { stood := { row := undoAloneUptoRow, standIns := [], harness := (true, "a2f5bdb2769daa4fe6619457e3c7214229b79db5930a4a8ac6308103954cbafe"), looks := true }, kinds := [], alts := [], laidByText := true, laidKinds := [.handle], laidTests := true, laidLooks := .later }
def UndoAloneUptoCardSaid : Prop := Claim7.holds Tryd.pinned (.plain (OpenSpec.upto undoAloneSpec)) undoAloneUptoCard

/-- THE SECOND FORM's CARD OF 'platterholdlaw2.UndoPlays'. -/
def undoPlaysUptoCard : Claim7 := { stood := { row := undoPlaysUptoRow, standIns := [], harness := (true, "a2f5bdb2769daa4fe6619457e3c7214229b79db5930a4a8ac6308103954cbafe"), looks := true }, kinds := [], alts := [], laidByText := true, laidKinds := [.handle], laidTests := true, laidLooks := .later }
def UndoPlaysUptoCardSaid : Prop := Claim7.holds Tryd.pinned (.plain (OpenSpec.upto undoPlaysSpec)) undoPlaysUptoCard
end Rows
end Go.Proofs.YtkpfieemkjfjkaaDoor
