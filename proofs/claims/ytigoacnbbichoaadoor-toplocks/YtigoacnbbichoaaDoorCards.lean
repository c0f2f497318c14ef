/-
  DERIVED. GIVEN WITH THE SEED: THE CARDS: each row of YtigoacnbbichoaaDoorRows.lean that lists a variable, with what it lists TIED to the program's text (the seventh form; the later family's looks); each row that meets fmt, with fmt's text TOLD by the authors' own Lean function (tested against real Go, not proved from fmt's source: count such statements apart). THE CARD IS WHAT COUNTS. Prove the row's statement (the work); the ties are given (YtigoacnbbichoaaDoorTie.lean); close each card by the builder's one call (the guide's Derived/Test/ToyasCard.lean, 'card_holds'). Laid BY PROGRAM, IN A SANDBOX (cutbox-door.mjs). By AI agents, Wed Nov 11 2026. No macro, syntax, notation, axiom, sorry.
-/
import Derived.Test.YtigoacnbbichoaaDoorRows
import GoSem.ClaimSeven
namespace Go.Proofs.YtigoacnbbichoaaDoor
namespace Rows

/-- THE TIED CARD OF 'platterholdlaw2.RangesAlone'. -/
def rangesAloneCard : Claim7 := { stood := { row := rangesAloneRow, standIns := [], harness := (true, "c49a467ce0af77da80ec3fb4ef3ea55318f0e36012b09574457765b835d4575a"), looks := true }, kinds := [], alts := [], laidByText := true, laidKinds := [.handle], laidTests := true, laidLooks := .later }
def RangesAloneCardSaid : Prop := Claim7.holds Tryd.pinned (.plain (OpenSpec.ofChange rangesAloneSpec)) rangesAloneCard

/-- THE TIED CARD OF 'platterholdlaw2.RangesOne'. -/
def rangesOneCard : Claim7 := { stood := { row := rangesOneRow, standIns := [], harness := (true, "c49a467ce0af77da80ec3fb4ef3ea55318f0e36012b09574457765b835d4575a"), looks := true }, kinds := [], alts := [], laidByText := true, laidKinds := [.handle], laidTests := true, laidLooks := .later }
def RangesOneCardSaid : Prop := Claim7.holds Tryd.pinned (.plain (OpenSpec.ofChange rangesOneSpec)) rangesOneCard

/-- THE TIED CARD OF 'platterholdlaw2.RangesFree'. -/
def rangesFreeCard : Claim7 := { stood := { row := rangesFreeRow, standIns := [], harness := (true, "c49a467ce0af77da80ec3fb4ef3ea55318f0e36012b09574457765b835d4575a"), looks := true }, kinds := [], alts := [], laidByText := true, laidKinds := [.handle], laidTests := true, laidLooks := .later }
def RangesFreeCardSaid : Prop := Claim7.holds Tryd.pinned (.plain (OpenSpec.ofChange rangesFreeSpec)) rangesFreeCard

/-- THE TIED CARD OF 'platterholdtop.TopLocks'. -/
def topLocksCard : Claim7 := { stood := { row := topLocksRow, standIns := [], harness := (true, "c49a467ce0af77da80ec3fb4ef3ea55318f0e36012b09574457765b835d4575a"), looks := true }, kinds := [], alts := [], laidByText := true, laidKinds := [.handle], laidTests := true, laidLooks := .later }
def TopLocksCardSaid : Prop := Claim7.holds Tryd.pinned (.plain (OpenSpec.ofChange topLocksSpec)) topLocksCard

/-- THE SECOND FORM's CARD OF 'platterholdlaw2.RangesAlone'. -/
def rangesAloneUptoCard : Claim7 := { stood := { row := rangesAloneUptoRow, standIns := [], harness := (true, "c49a467ce0af77da80ec3fb4ef3ea55318f0e36012b09574457765b835d4575a"), looks := true }, kinds := [], alts := [], laidByText := true, laidKinds := [.handle], laidTests := true, laidLooks := .later }
def RangesAloneUptoCardSaid : Prop := Claim7.holds Tryd.pinned (.plain (OpenSpec.upto rangesAloneSpec)) rangesAloneUptoCard

/-- THE SECOND FORM's CARD OF 'platterholdlaw2.RangesOne'. -/
def rangesOneUptoCard : Claim7 := { stood := { row := rangesOneUptoRow, standIns := [], harness := (true, "c49a467ce0af77da80ec3fb4ef3ea55318f0e36012b09574457765b835d4575a"), looks := true }, kinds := [], alts := [], laidByText := true, laidKinds := [.handle], laidTests := true, laidLooks := .later }
def RangesOneUptoCardSaid : Prop := Claim7.holds Tryd.pinned (.plain (OpenSpec.upto rangesOneSpec)) rangesOneUptoCard

/-- THE SECOND FORM's CARD OF 'platterholdlaw2.RangesFree'. -/
def rangesFreeUptoCard : Claim7 := { stood := { row := rangesFreeUptoRow, standIns := [], harness := (true, "c49a467ce0af77da80ec3fb4ef3ea55318f0e36012b09574457765b835d4575a"), looks := true }, kinds := [], alts := [], laidByText := true, laidKinds := [.handle], laidTests := true, laidLooks := .later }
def RangesFreeUptoCardSaid : Prop := Claim7.holds Tryd.pinned (.plain (OpenSpec.upto rangesFreeSpec)) rangesFreeUptoCard

/-- THE SECOND FORM's CARD OF 'platterholdtop.TopLocks'. -/
def topLocksUptoCard : Claim7 := { stood := { row := topLocksUptoRow, standIns := [], harness := (true, "c49a467ce0af77da80ec3fb4ef3ea55318f0e36012b09574457765b835d4575a"), looks := true }, kinds := [], alts := [], laidByText := true, laidKinds := [.handle], laidTests := true, laidLooks := .later }
def TopLocksUptoCardSaid : Prop := Claim7.holds Tryd.pinned (.plain (OpenSpec.upto topLocksSpec)) topLocksUptoCard
end Rows
end Go.Proofs.YtigoacnbbichoaaDoor
