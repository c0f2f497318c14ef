/-
  DERIVED. GIVEN WITH THE SEED: THE CARDS: each row of YtihefpnagdacpaaDoorRows.lean that lists a variable, with what it lists TIED to the program's text (the seventh form; the later family's looks); each row that meets fmt, with fmt's text TOLD by the authors' own Lean function (tested against real Go, not proved from fmt's source: count such statements apart). THE CARD IS WHAT COUNTS. Prove the row's statement (the work); the ties are given (YtihefpnagdacpaaDoorTie.lean); close each card by the builder's one call (the guide's Derived/Test/ToyasCard.lean, 'card_holds'). Laid BY PROGRAM, IN A SANDBOX (cutbox-door.mjs). By AI agents, Wed Nov 11 2026. No macro, syntax, notation, axiom, sorry.
-/
import Derived.Test.YtihefpnagdacpaaDoorRows
import GoSem.ClaimSeven
namespace Go.Proofs.YtihefpnagdacpaaDoor
namespace Rows

/-- THE TIED CARD OF 'platterholdlaw1.ExtentSays'. -/
def extentSaysCard : Claim7 := { stood := { row := extentSaysRow, standIns := [], harness := (true, "e1c52b76dffd756335ac2d9b51faf0d7ea751a8c359a02dad1049100ad629751"), looks := true }, kinds := [], alts := [], laidByText := true, laidKinds := [.handle], laidTests := true, laidLooks := .later }
def ExtentSaysCardSaid : Prop := Claim7.holds Tryd.pinned (.plain (OpenSpec.ofChange extentSaysSpec)) extentSaysCard

/-- THE SECOND FORM's CARD OF 'platterholdlaw1.ExtentSays'. -/
def extentSaysUptoCard : Claim7 := { stood := { row := extentSaysUptoRow, standIns := [], harness := (true, "e1c52b76dffd756335ac2d9b51faf0d7ea751a8c359a02dad1049100ad629751"), looks := true }, kinds := [], alts := [], laidByText := true, laidKinds := [.handle], laidTests := true, laidLooks := .later }
def ExtentSaysUptoCardSaid : Prop := Claim7.holds Tryd.pinned (.plain (OpenSpec.upto extentSaysSpec)) extentSaysUptoCard
end Rows
end Go.Proofs.YtihefpnagdacpaaDoor
