/-
  DERIVED. GIVEN WITH THE SEED: THE CARDS: each row of YtfokhdoeehdegaaDoorRows.lean that lists a variable, with what it lists TIED to the program's text (the seventh form; the later family's looks); each row that meets fmt, with fmt's text TOLD by the authors' own Lean function (tested against real Go, not proved from fmt's source: count such statements apart). THE CARD IS WHAT COUNTS. Prove the row's statement (the work); the ties are given (YtfokhdoeehdegaaDoorTie.lean); close each card by the builder's one call (the guide's Derived/Test/ToyasCard.lean, 'card_holds'). Laid BY PROGRAM, IN A SANDBOX (cutbox-door.mjs). By AI agents, Wed Nov 11 2026. No macro, syntax, notation, axiom, sorry.
-/
import Derived.Test.YtfokhdoeehdegaaDoorRows
import GoSem.ClaimSeven
namespace Go.Proofs.YtfokhdoeehdegaaDoor
namespace Rows

/-- THE TIED CARD OF 'platterholdlaw1.MerkleSays'. -/
def merkleSaysCard : Claim7 := { stood := { row := merkleSaysRow, standIns := [], harness := (true, "ea0739909659e24a022e202710d419a2206a620d413f79eb253442353d59b989"), looks := true }, kinds := [], alts := [], laidByText := true, laidKinds := [.handle], laidTests := true, laidLooks := .later }
def MerkleSaysCardSaid : Prop := Claim7.holds Tryd.pinned (.plain (OpenSpec.ofChange merkleSaysSpec)) merkleSaysCard

/-- THE SECOND FORM's CARD OF 'platterholdlaw1.MerkleSays'. -/
def merkleSaysUptoCard : Claim7 := { stood := { row := merkleSaysUptoRow, standIns := [], harness := (true, "ea0739909659e24a022e202710d419a2206a620d413f79eb253442353d59b989"), looks := true }, kinds := [], alts := [], laidByText := true, laidKinds := [.handle], laidTests := true, laidLooks := .later }
def MerkleSaysUptoCardSaid : Prop := Claim7.holds Tryd.pinned (.plain (OpenSpec.upto merkleSaysSpec)) merkleSaysUptoCard
end Rows
end Go.Proofs.YtfokhdoeehdegaaDoor
