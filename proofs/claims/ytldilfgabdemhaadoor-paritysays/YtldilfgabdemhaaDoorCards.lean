/-
  DERIVED. GIVEN WITH THE SEED: THE CARDS: each row of YtldilfgabdemhaaDoorRows.lean that lists a variable, with what it lists TIED to the program's text (the seventh form; the later family's looks); each row that meets fmt, with fmt's text TOLD by the authors' own Lean function (tested against real Go, not proved from fmt's source: count such statements apart). THE CARD IS WHAT COUNTS. Prove the row's statement (the work); the ties are given (YtldilfgabdemhaaDoorTie.lean); close each card by the builder's one call (the guide's Derived/Test/ToyasCard.lean, 'card_holds'). Laid BY PROGRAM, IN A SANDBOX (cutbox-door.mjs). By AI agents, Wed Nov 11 2026. No macro, syntax, notation, axiom, sorry.
-/
import Derived.Test.YtldilfgabdemhaaDoorRows
import GoSem.ClaimSeven
namespace Go.Proofs.YtldilfgabdemhaaDoor
namespace Rows

/-- THE TIED CARD OF 'platterholdlaw1.ParitySays'. -/
def paritySaysCard : Claim7 := { stood := { row := paritySaysRow, standIns := [], harness := (true, "87426b2ba33e582f7e2f95a07e515bb7d7558f1ada1c173802c6314931e851a9"), looks := true }, kinds := [], alts := [], laidByText := true, laidKinds := [.handle], laidTests := true, laidLooks := .later }
def ParitySaysCardSaid : Prop := Claim7.holds Tryd.pinned (.plain (OpenSpec.ofChange paritySaysSpec)) paritySaysCard

/-- THE TIED CARD OF 'platterholdlaw1.ParityAgain'. -/
def parityAgainCard : Claim7 := { stood := { row := parityAgainRow, standIns := [], harness := (true, "87426b2ba33e582f7e2f95a07e515bb7d7558f1ada1c173802c6314931e851a9"), looks := true }, kinds := [], alts := [], laidByText := true, laidKinds := [.handle], laidTests := true, laidLooks := .later }
def ParityAgainCardSaid : Prop := Claim7.holds Tryd.pinned (.plain (OpenSpec.ofChange parityAgainSpec)) parityAgainCard

/-- THE SECOND FORM's CARD OF 'platterholdlaw1.ParitySays'. -/
def paritySaysUptoCard : Claim7 := { stood := { row := paritySaysUptoRow, standIns := [], harness := (true, "87426b2ba33e582f7e2f95a07e515bb7d7558f1ada1c173802c6314931e851a9"), looks := true }, kinds := [], alts := [], laidByText := true, laidKinds := [.handle], laidTests := true, laidLooks := .later }
def ParitySaysUptoCardSaid : Prop := Claim7.holds Tryd.pinned (.plain (OpenSpec.upto paritySaysSpec)) paritySaysUptoCard

/-- THE SECOND FORM's CARD OF 'platterholdlaw1.ParityAgain'. -/
def parityAgainUptoCard : Claim7 := { stood := { row := parityAgainUptoRow, standIns := [], harness := (true, "87426b2ba33e582f7e2f95a07e515bb7d7558f1ada1c173802c6314931e851a9"), looks := true }, kinds := [], alts := [], laidByText := true, laidKinds := [.handle], laidTests := true, laidLooks := .later }
def ParityAgainUptoCardSaid : Prop := Claim7.holds Tryd.pinned (.plain (OpenSpec.upto parityAgainSpec)) parityAgainUptoCard
end Rows
end Go.Proofs.YtldilfgabdemhaaDoor
