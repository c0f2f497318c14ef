/-
  DERIVED. GIVEN WITH THE SEED: THE CARDS: each row of YtebjefgdjfjndaaDoorRows.lean that lists a variable, with what it lists TIED to the program's text (the seventh form; the later family's looks); each row that meets fmt, with fmt's text TOLD by the authors' own Lean function (tested against real Go, not proved from fmt's source: count such statements apart). THE CARD IS WHAT COUNTS. Prove the row's statement (the work); the ties are given (YtebjefgdjfjndaaDoorTie.lean); close each card by the builder's one call (the guide's Derived/Test/ToyasCard.lean, 'card_holds'). Laid BY PROGRAM, IN A SANDBOX (cutbox-door.mjs). By AI agents, Wed Nov 11 2026. No macro, syntax, notation, axiom, sorry.
-/
import Derived.Test.YtebjefgdjfjndaaDoorRows
import GoSem.ClaimSeven
namespace Go.Proofs.YtebjefgdjfjndaaDoor
namespace Rows

/-- THE TIED CARD OF 'platterholdlaw1.ReedSays'. -/
def reedSaysCard : Claim7 := { stood := { row := reedSaysRow, standIns := [], harness := (true, "c0b44c004da81aa4d850f0a4992ffcb8d69fee173b43c91a818dd2d6010e4b8d"), looks := true }, kinds := [], alts := [], laidByText := true, laidKinds := [.handle], laidTests := true, laidLooks := .later }
def ReedSaysCardSaid : Prop := Claim7.holds Tryd.pinned (.plain (OpenSpec.ofChange reedSaysSpec)) reedSaysCard

/-- THE TIED CARD OF 'platterholdlaw1.ReedWrong'. -/
def reedWrongCard : Claim7 := { stood := { row := reedWrongRow, standIns := [], harness := (true, "c0b44c004da81aa4d850f0a4992ffcb8d69fee173b43c91a818dd2d6010e4b8d"), looks := true }, kinds := [], alts := [], laidByText := true, laidKinds := [.handle], laidTests := true, laidLooks := .later }
def ReedWrongCardSaid : Prop := Claim7.holds Tryd.pinned (.plain (OpenSpec.ofChange reedWrongSpec)) reedWrongCard

/-- THE SECOND FORM's CARD OF 'platterholdlaw1.ReedSays'. -/
def reedSaysUptoCard : Claim7 := { stood := { row := reedSaysUptoRow, standIns := [], harness := (true, "c0b44c004da81aa4d850f0a4992ffcb8d69fee173b43c91a818dd2d6010e4b8d"), looks := true }, kinds := [], alts := [], laidByText := true, laidKinds := [.handle], laidTests := true, laidLooks := .later }
def ReedSaysUptoCardSaid : Prop := Claim7.holds Tryd.pinned (.plain (OpenSpec.upto reedSaysSpec)) reedSaysUptoCard

/-- THE SECOND FORM's CARD OF 'platterholdlaw1.ReedWrong'. -/
def reedWrongUptoCard : Claim7 := { stood := { row := reedWrongUptoRow, standIns := [], harness := (true, "c0b44c004da81aa4d850f0a4992ffcb8d69fee173b43c91a818dd2d6010e4b8d"), looks := true }, kinds := [], alts := [], laidByText := true, laidKinds := [.handle], laidTests := true, laidLooks := .later }
def ReedWrongUptoCardSaid : Prop := Claim7.holds Tryd.pinned (.plain (OpenSpec.upto reedWrongSpec)) reedWrongUptoCard
end Rows
end Go.Proofs.YtebjefgdjfjndaaDoor
