/-
  DERIVED. GIVEN WITH THE SEED: THE CARDS: each row of YteapobmmfjpblaaDoorRows.lean that lists a variable, with what it lists TIED to the program's text (the seventh form; the later family's looks); each row that meets fmt, with fmt's text TOLD by the authors' own Lean function (tested against real Go, not proved from fmt's source: count such statements apart). THE CARD IS WHAT COUNTS. Prove the row's statement (the work); the ties are given (YteapobmmfjpblaaDoorTie.lean); close each card by the builder's one call (the guide's Derived/Test/ToyasCard.lean, 'card_holds'). Laid BY PROGRAM, IN A SANDBOX (cutbox-door.mjs). By AI agents, Wed Nov 11 2026. No macro, syntax, notation, axiom, sorry.
-/
import Derived.Test.YteapobmmfjpblaaDoorRows
import GoSem.ClaimSeven
namespace Go.Proofs.YteapobmmfjpblaaDoor
namespace Rows

/-- THE TIED CARD OF 'platterholdlaw1.PlaceSays'. -/
def placeSaysCard : Claim7 := { stood := { row := placeSaysRow, standIns := [], harness := (true, "f55d5dfbfa14018a373ea4cfb955c6a5652f128facdc21de1c6258e5e4e3ae14"), looks := true }, kinds := [], alts := [], laidByText := true, laidKinds := [.handle], laidTests := true, laidLooks := .later }
def PlaceSaysCardSaid : Prop := Claim7.holds Tryd.pinned (.plain (OpenSpec.ofChange placeSaysSpec)) placeSaysCard

/-- THE SECOND FORM's CARD OF 'platterholdlaw1.PlaceSays'. -/
def placeSaysUptoCard : Claim7 := { stood := { row := placeSaysUptoRow, standIns := [], harness := (true, "f55d5dfbfa14018a373ea4cfb955c6a5652f128facdc21de1c6258e5e4e3ae14"), looks := true }, kinds := [], alts := [], laidByText := true, laidKinds := [.handle], laidTests := true, laidLooks := .later }
def PlaceSaysUptoCardSaid : Prop := Claim7.holds Tryd.pinned (.plain (OpenSpec.upto placeSaysSpec)) placeSaysUptoCard
end Rows
end Go.Proofs.YteapobmmfjpblaaDoor
