/-
  DERIVED. GIVEN WITH THE SEED: THE CARDS: each row of YtpkchjdlleeccaaDoorRows.lean that lists a variable, with what it lists TIED to the program's text (the seventh form; the later family's looks); each row that meets fmt, with fmt's text TOLD by the authors' own Lean function (tested against real Go, not proved from fmt's source: count such statements apart). THE CARD IS WHAT COUNTS. Prove the row's statement (the work); the ties are given (YtpkchjdlleeccaaDoorTie.lean); close each card by the builder's one call (the guide's Derived/Test/ToyasCard.lean, 'card_holds'). Laid BY PROGRAM, IN A SANDBOX (cutbox-door.mjs). By AI agents, Wed Nov 11 2026. No macro, syntax, notation, axiom, sorry.
-/
import Derived.Test.YtpkchjdlleeccaaDoorRows
import GoSem.ClaimSeven
namespace Go.Proofs.YtpkchjdlleeccaaDoor
namespace Rows

/-- THE TIED CARD OF 'platterholdlaw1.HammingSays'. -/
def hammingSaysCard : Claim7 := { stood := { row := hammingSaysRow, standIns := [], harness := (true, "86cd8512ff9365b2af9f1a18539e7c69a591180136f07bd162da1e19e1141f1f"), looks := true }, kinds := [], alts := [], laidByText := true, laidKinds := [.data, .handle], laidTests := true, laidLooks := .later }
def HammingSaysCardSaid : Prop := Claim7.holds Tryd.pinned (.plain (OpenSpec.ofChange hammingSaysSpec)) hammingSaysCard

/-- THE TIED CARD OF 'platterholdlaw1.HammingFix'. -/
def hammingFixCard : Claim7 := { stood := { row := hammingFixRow, standIns := [], harness := (true, "86cd8512ff9365b2af9f1a18539e7c69a591180136f07bd162da1e19e1141f1f"), looks := true }, kinds := [], alts := [], laidByText := true, laidKinds := [.data], laidTests := true, laidLooks := .later }
def HammingFixCardSaid : Prop := Claim7.holds Tryd.pinned (.plain (OpenSpec.ofChange hammingFixSpec)) hammingFixCard

/-- THE TIED CARD OF 'platterholdlaw1.HammingPerfect'. -/
def hammingPerfectCard : Claim7 := { stood := { row := hammingPerfectRow, standIns := [], harness := (true, "86cd8512ff9365b2af9f1a18539e7c69a591180136f07bd162da1e19e1141f1f"), looks := true }, kinds := [], alts := [], laidByText := true, laidKinds := [.data, .handle], laidTests := true, laidLooks := .later }
def HammingPerfectCardSaid : Prop := Claim7.holds Tryd.pinned (.plain (OpenSpec.ofChange hammingPerfectSpec)) hammingPerfectCard

/-- THE TIED CARD OF 'platterholdlaw1.HammingApart'. -/
def hammingApartCard : Claim7 := { stood := { row := hammingApartRow, standIns := [], harness := (true, "86cd8512ff9365b2af9f1a18539e7c69a591180136f07bd162da1e19e1141f1f"), looks := true }, kinds := [], alts := [], laidByText := true, laidKinds := [.data], laidTests := true, laidLooks := .later }
def HammingApartCardSaid : Prop := Claim7.holds Tryd.pinned (.plain (OpenSpec.ofChange hammingApartSpec)) hammingApartCard

/-- THE SECOND FORM's CARD OF 'platterholdlaw1.HammingSays'. -/
def hammingSaysUptoCard : Claim7 := { stood := { row := hammingSaysUptoRow, standIns := [], harness := (true, "86cd8512ff9365b2af9f1a18539e7c69a591180136f07bd162da1e19e1141f1f"), looks := true }, kinds := [], alts := [], laidByText := true, laidKinds := [.data, .handle], laidTests := true, laidLooks := .later }
def HammingSaysUptoCardSaid : Prop := Claim7.holds Tryd.pinned (.plain (OpenSpec.upto hammingSaysSpec)) hammingSaysUptoCard

/-- THE SECOND FORM's CARD OF 'platterholdlaw1.HammingFix'. -/
def hammingFixUptoCard : Claim7 := { stood := { row := hammingFixUptoRow, standIns := [], harness := (true, "86cd8512ff9365b2af9f1a18539e7c69a591180136f07bd162da1e19e1141f1f"), looks := true }, kinds := [], alts := [], laidByText := true, laidKinds := [.data], laidTests := true, laidLooks := .later }
def HammingFixUptoCardSaid : Prop := Claim7.holds Tryd.pinned (.plain (OpenSpec.upto hammingFixSpec)) hammingFixUptoCard

/-- THE SECOND FORM's CARD OF 'platterholdlaw1.HammingPerfect'. -/
def hammingPerfectUptoCard : Claim7 := { stood := { row := hammingPerfectUptoRow, standIns := [], harness := (true, "86cd8512ff9365b2af9f1a18539e7c69a591180136f07bd162da1e19e1141f1f"), looks := true }, kinds := [], alts := [], laidByText := true, laidKinds := [.data, .handle], laidTests := true, laidLooks := .later }
def HammingPerfectUptoCardSaid : Prop := Claim7.holds Tryd.pinned (.plain (OpenSpec.upto hammingPerfectSpec)) hammingPerfectUptoCard

/-- THE SECOND FORM's CARD OF 'platterholdlaw1.HammingApart'. -/
def hammingApartUptoCard : Claim7 := { stood := { row := hammingApartUptoRow, standIns := [], harness := (true, "86cd8512ff9365b2af9f1a18539e7c69a591180136f07bd162da1e19e1141f1f"), looks := true }, kinds := [], alts := [], laidByText := true, laidKinds := [.data], laidTests := true, laidLooks := .later }
def HammingApartUptoCardSaid : Prop := Claim7.holds Tryd.pinned (.plain (OpenSpec.upto hammingApartSpec)) hammingApartUptoCard
end Rows
end Go.Proofs.YtpkchjdlleeccaaDoor
