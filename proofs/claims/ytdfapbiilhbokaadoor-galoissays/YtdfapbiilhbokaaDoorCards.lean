/-
  DERIVED. GIVEN WITH THE SEED: THE CARDS: each row of YtdfapbiilhbokaaDoorRows.lean that lists a variable, with what it lists TIED to the program's text (the seventh form; the later family's looks); each row that meets fmt, with fmt's text TOLD by the authors' own Lean function (tested against real Go, not proved from fmt's source: count such statements apart). THE CARD IS WHAT COUNTS. Prove the row's statement (the work); the ties are given (YtdfapbiilhbokaaDoorTie.lean); close each card by the builder's one call (the guide's Derived/Test/ToyasCard.lean, 'card_holds'). Laid BY PROGRAM, IN A SANDBOX (cutbox-door.mjs). By AI agents, Wed Nov 11 2026. No macro, syntax, notation, axiom, sorry.
-/
import Derived.Test.YtdfapbiilhbokaaDoorRows
import GoSem.ClaimSeven
namespace Go.Proofs.YtdfapbiilhbokaaDoor
namespace Rows

/-- THE TIED CARD OF 'platterholdlaw1.GaloisSays'. -/
def galoisSaysCard : Claim7 := { stood := { row := galoisSaysRow, standIns := [], harness := (true, "585fe9bdbaa6a94a4ab1523897aa168c481df8ec6756c1191acec318dd6dba60"), looks := true }, kinds := [], alts := [], laidByText := true, laidKinds := [.handle], laidTests := true, laidLooks := .later }
def GaloisSaysCardSaid : Prop := Claim7.holds Tryd.pinned (.plain (OpenSpec.ofChange galoisSaysSpec)) galoisSaysCard

/-- THE TIED CARD OF 'platterholdlaw1.GaloisInverse'. -/
def galoisInverseCard : Claim7 := { stood := { row := galoisInverseRow, standIns := [], harness := (true, "585fe9bdbaa6a94a4ab1523897aa168c481df8ec6756c1191acec318dd6dba60"), looks := true }, kinds := [], alts := [], laidByText := true, laidKinds := [.handle], laidTests := true, laidLooks := .later }
def GaloisInverseCardSaid : Prop := Claim7.holds Tryd.pinned (.plain (OpenSpec.ofChange galoisInverseSpec)) galoisInverseCard

/-- THE SECOND FORM's CARD OF 'platterholdlaw1.GaloisSays'. -/
def galoisSaysUptoCard : Claim7 := { stood := { row := galoisSaysUptoRow, standIns := [], harness := (true, "585fe9bdbaa6a94a4ab1523897aa168c481df8ec6756c1191acec318dd6dba60"), looks := true }, kinds := [], alts := [], laidByText := true, laidKinds := [.handle], laidTests := true, laidLooks := .later }
def GaloisSaysUptoCardSaid : Prop := Claim7.holds Tryd.pinned (.plain (OpenSpec.upto galoisSaysSpec)) galoisSaysUptoCard

/-- THE SECOND FORM's CARD OF 'platterholdlaw1.GaloisInverse'. -/
def galoisInverseUptoCard : Claim7 := { stood := { row := galoisInverseUptoRow, standIns := [], harness := (true, "585fe9bdbaa6a94a4ab1523897aa168c481df8ec6756c1191acec318dd6dba60"), looks := true }, kinds := [], alts := [], laidByText := true, laidKinds := [.handle], laidTests := true, laidLooks := .later }
def GaloisInverseUptoCardSaid : Prop := Claim7.holds Tryd.pinned (.plain (OpenSpec.upto galoisInverseSpec)) galoisInverseUptoCard
end Rows
end Go.Proofs.YtdfapbiilhbokaaDoor
