/-
  DERIVED. GIVEN WITH THE SEED: THE CARDS: each row of YtgkmgcmppkdbgaaDoorRows.lean that lists a variable, with what it lists TIED to the program's text (the seventh form; the later family's looks); each row that meets fmt, with fmt's text TOLD by the authors' own Lean function (tested against real Go, not proved from fmt's source: count such statements apart). THE CARD IS WHAT COUNTS. Prove the row's statement (the work); the ties are given (YtgkmgcmppkdbgaaDoorTie.lean); close each card by the builder's one call (the guide's Derived/Test/ToyasCard.lean, 'card_holds'). Laid BY PROGRAM, IN A SANDBOX (cutbox-door.mjs). By AI agents, Wed Nov 11 2026. No macro, syntax, notation, axiom, sorry.
-/
import Derived.Test.YtgkmgcmppkdbgaaDoorRows
import GoSem.ClaimSeven
namespace Go.Proofs.YtgkmgcmppkdbgaaDoor
namespace Rows

/-- THE TIED CARD OF 'platterholdlaw1.BitmapFirst'. -/
def bitmapFirstCard : Claim7 := { stood := { row := bitmapFirstRow, standIns := [], harness := (true, "16d92c67622c7c9de9100c6fbbb7a7fd9c351ace5832e1bc8eeb6249d6a6729f"), looks := true }, kinds := [], alts := [], laidByText := true, laidKinds := [.handle], laidTests := true, laidLooks := .later }
def BitmapFirstCardSaid : Prop := Claim7.holds Tryd.pinned (.plain (OpenSpec.ofChange bitmapFirstSpec)) bitmapFirstCard

/-- THE TIED CARD OF 'platterholdlaw1.BitmapBack'. -/
def bitmapBackCard : Claim7 := { stood := { row := bitmapBackRow, standIns := [], harness := (true, "16d92c67622c7c9de9100c6fbbb7a7fd9c351ace5832e1bc8eeb6249d6a6729f"), looks := true }, kinds := [], alts := [], laidByText := true, laidKinds := [.handle], laidTests := true, laidLooks := .later }
def BitmapBackCardSaid : Prop := Claim7.holds Tryd.pinned (.plain (OpenSpec.ofChange bitmapBackSpec)) bitmapBackCard

/-- THE TIED CARD OF 'platterholdlaw1.BitmapPlays'. -/
def bitmapPlaysCard : Claim7 := { stood := { row := bitmapPlaysRow, standIns := [], harness := (true, "16d92c67622c7c9de9100c6fbbb7a7fd9c351ace5832e1bc8eeb6249d6a6729f"), looks := true }, kinds := [], alts := [], laidByText := true, laidKinds := [.handle], laidTests := true, laidLooks := .later }
def BitmapPlaysCardSaid : Prop := Claim7.holds Tryd.pinned (.plain (OpenSpec.ofChange bitmapPlaysSpec)) bitmapPlaysCard

/-- THE SECOND FORM's CARD OF 'platterholdlaw1.BitmapFirst'. -/
def bitmapFirstUptoCard : Claim7 := { stood := { row := bitmapFirstUptoRow, standIns := [], harness := (true, "16d92c67622c7c9de9100c6fbbb7a7fd9c351ace5832e1bc8eeb6249d6a6729f"), looks := true }, kinds := [], alts := [], laidByText := true, laidKinds := [.handle], laidTests := true, laidLooks := .later }
def BitmapFirstUptoCardSaid : Prop := Claim7.holds Tryd.pinned (.plain (OpenSpec.upto bitmapFirstSpec)) bitmapFirstUptoCard

/-- THE SECOND FORM's CARD OF 'platterholdlaw1.BitmapBack'. -/
def bitmapBackUptoCard : Claim7 := { stood := { row := bitmapBackUptoRow, standIns := [], harness := (true, "16d92c67622c7c9de9100c6fbbb7a7fd9c351ace5832e1bc8eeb6249d6a6729f"), looks := true }, kinds := [], alts := [], laidByText := true, laidKinds := [.handle], laidTests := true, laidLooks := .later }
def BitmapBackUptoCardSaid : Prop := Claim7.holds Tryd.pinned (.plain (OpenSpec.upto bitmapBackSpec)) bitmapBackUptoCard

/-- THE SECOND FORM's CARD OF 'platterholdlaw1.BitmapPlays'. -/
def bitmapPlaysUptoCard : Claim7 := { stood := { row := bitmapPlaysUptoRow, standIns := [], harness := (true, "16d92c67622c7c9de9100c6fbbb7a7fd9c351ace5832e1bc8eeb6249d6a6729f"), looks := true }, kinds := [], alts := [], laidByText := true, laidKinds := [.handle], laidTests := true, laidLooks := .later }
def BitmapPlaysUptoCardSaid : Prop := Claim7.holds Tryd.pinned (.plain (OpenSpec.upto bitmapPlaysSpec)) bitmapPlaysUptoCard
end Rows
end Go.Proofs.YtgkmgcmppkdbgaaDoor
