/-
  DERIVED. GIVEN WITH THE SEED: THE CARDS: each row of YthgbknfdbobmiaaDoorRows.lean that lists a variable, with what it lists TIED to the program's text (the seventh form; the later family's looks); each row that meets fmt, with fmt's text TOLD by the authors' own Lean function (tested against real Go, not proved from fmt's source: count such statements apart). THE CARD IS WHAT COUNTS. Prove the row's statement (the work); the ties are given (YthgbknfdbobmiaaDoorTie.lean); close each card by the builder's one call (the guide's Derived/Test/ToyasCard.lean, 'card_holds'). Laid BY PROGRAM, IN A SANDBOX (cutbox-door.mjs). By AI agents, Wed Nov 11 2026. No macro, syntax, notation, axiom, sorry.
-/
import Derived.Test.YthgbknfdbobmiaaDoorRows
import GoSem.ClaimSeven
namespace Go.Proofs.YthgbknfdbobmiaaDoor
namespace Rows

/-- THE TIED CARD OF 'platterholdlaw3.ShadowPlays'. -/
def shadowPlaysCard : Claim7 := { stood := { row := shadowPlaysRow, standIns := [], harness := (true, "7f8c4224128e4dd7497937677b0dbe4668c85ae12a71a96ad8494b014e2147b2"), looks := true }, kinds := [], alts := [], laidByText := true, laidKinds := [.handle], laidTests := true, laidLooks := .later }
def ShadowPlaysCardSaid : Prop := Claim7.holds Tryd.pinned (.plain (OpenSpec.ofChange shadowPlaysSpec)) shadowPlaysCard

/-- THE SECOND FORM's CARD OF 'platterholdlaw3.ShadowPlays'. -/
def shadowPlaysUptoCard : Claim7 := { stood := { row := shadowPlaysUptoRow, standIns := [], harness := (true, "7f8c4224128e4dd7497937677b0dbe4668c85ae12a71a96ad8494b014e2147b2"), looks := true }, kinds := [], alts := [], laidByText := true, laidKinds := [.handle], laidTests := true, laidLooks := .later }
def ShadowPlaysUptoCardSaid : Prop := Claim7.holds Tryd.pinned (.plain (OpenSpec.upto shadowPlaysSpec)) shadowPlaysUptoCard
end Rows
end Go.Proofs.YthgbknfdbobmiaaDoor
