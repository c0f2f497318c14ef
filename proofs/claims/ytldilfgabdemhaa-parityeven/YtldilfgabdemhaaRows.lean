/-
  No cell of these rows narrows 'for every input' (looked for: loops, veiled, ifaces, maps, wideKeys, modest, calm, conditions, laid).
  DERIVED. THE GIVEN ROWS OF THIS SEAT. 3 by the template 'for every input the law returns true; each argument reads behind the call as it read before'; 0 by the template 'total and deterministic' (their statements: YtldilfgabdemhaaTotals.lean).
  GIVEN WITH THE SEED: the statements are not yours to turn. If you find one false, say at which input.
  Laid BY PROGRAM, IN A SANDBOX (cutbox-rows.mjs): the forced cells as the released guide's own fill.sh prints them over the translation 3eddba54b3baad0c… (all of the seat's roots in one cut). By AI agents, Wed Nov 11 2026. No macro, syntax, notation, axiom, sorry.
-/
import Derived.Test.YtldilfgabdemhaaChecked
import GoSem.Claim
import GoSem.ClaimJoined
import GoSem.ClaimMapViews
import Derived.JoinedTies
import Derived.KernelRfl
namespace Go.Proofs.Ytldilfgabdemhaa
/- THE CELL 'sum', in the pinned program and in every row, IS THE sha256 OF THE DUMP (.gsa) THAT YtldilfgabdemhaaProg.lean LOADS. Nothing in Lean hashes anything: it is a label: what it is worth is what the hold of that sum in a sandbox is worth. -/
noncomputable def Try.pinned : Pinned := { name := "ytldilfgabdemhaa", sum := "3eddba54b3baad0c612bb717530ab81f4c68af6c30f81783261674198e90211b", checked := Try.checked }
namespace Rows
def none {H : Type} : Left H := { results := [], args := [] }

/-- 'platterholdlaw1.Names': WHATEVER THE INPUT: true; the input reads as it did. -/
def namesSpec : ChangeSpec := { name := "names", fn := fun _ => fun
  | [] => { results := [.lit (.bool true)], args := [] }
  | _ => none }
def namesRow : OpenClaim := { program := "ytldilfgabdemhaa", sum := "3eddba54b3baad0c612bb717530ab81f4c68af6c30f81783261674198e90211b", func := "platterhold/platterholdlaw1.Names", spec := "names", apart := false }
def NamesSaid : Prop := namesRow.holds Try.pinned (OpenSpec.ofChange namesSpec)

/-- ITS FALSE NEIGHBOUR: 'it returns false'. Refute it at one input. -/
def namesWrong : ChangeSpec := { name := "names", fn := fun _ => fun
  | [] => { results := [.lit (.bool false)], args := [] }
  | _ => none }
def NamesWrongFalsely : Prop := namesRow.holds Try.pinned (OpenSpec.ofChange namesWrong)

/-- 'platterholdlaw1.ParitySmall': WHATEVER THE INPUT: true; the input reads as it did. -/
def paritySmallSpec : ChangeSpec := { name := "paritySmall", fn := fun _ => fun
  | [d1, d2, d3] => { results := [.lit (.bool true)], args := [d1, d2, d3] }
  | _ => none }
def paritySmallRow : OpenClaim := { program := "ytldilfgabdemhaa", sum := "3eddba54b3baad0c612bb717530ab81f4c68af6c30f81783261674198e90211b", func := "platterhold/platterholdlaw1.ParitySmall", spec := "paritySmall", apart := false }
def ParitySmallSaid : Prop := paritySmallRow.holds Try.pinned (OpenSpec.ofChange paritySmallSpec)

/-- ITS FALSE NEIGHBOUR: 'it returns false'. Refute it at one input. -/
def paritySmallWrong : ChangeSpec := { name := "paritySmall", fn := fun _ => fun
  | [d1, d2, d3] => { results := [.lit (.bool false)], args := [d1, d2, d3] }
  | _ => none }
def ParitySmallWrongFalsely : Prop := paritySmallRow.holds Try.pinned (OpenSpec.ofChange paritySmallWrong)

/-- 'platterholdlaw1.ParityEven': WHATEVER THE INPUT: true; the input reads as it did. -/
def parityEvenSpec : ChangeSpec := { name := "parityEven", fn := fun _ => fun
  | [d] => { results := [.lit (.bool true)], args := [d] }
  | _ => none }
def parityEvenRow : OpenClaim := { program := "ytldilfgabdemhaa", sum := "3eddba54b3baad0c612bb717530ab81f4c68af6c30f81783261674198e90211b", func := "platterhold/platterholdlaw1.ParityEven", spec := "parityEven", apart := false }
def ParityEvenSaid : Prop := parityEvenRow.holds Try.pinned (OpenSpec.ofChange parityEvenSpec)

/-- ITS FALSE NEIGHBOUR: 'it returns false'. Refute it at one input. -/
def parityEvenWrong : ChangeSpec := { name := "parityEven", fn := fun _ => fun
  | [d] => { results := [.lit (.bool false)], args := [d] }
  | _ => none }
def ParityEvenWrongFalsely : Prop := parityEvenRow.holds Try.pinned (OpenSpec.ofChange parityEvenWrong)

/- THE SECOND FORM. 'bulk': how many values and letters a reading holds, each counted each time it is reached (what is shared counts as often as it is met; a slice's spare places count too). A statement '..UptoSaid' is the law's where the arguments, and the package variables that the reading takes, are together of bulk at most 1048576: NARROWER than '..Said'. Prove '..Said' where nothing that the law and all that it calls make is longer than what came in: it says more and counts as full. Else prove '..UptoSaid'. A law counts once. -/
mutual
def uptoBulk {H : Type} : DataW H → Nat
  | .lit (.string bytes) => bytes.length + 1
  | .lit _ => 1
  | .nil => 1
  | .ptr d => uptoBulk d + 1
  | .slice elems spare => uptoBulkAll elems + uptoBulkAll spare + 1
  | .agg parts => uptoBulkAll parts + 1
  | .iface _ d => uptoBulk d + 1
  | .map entries => uptoBulkEntries entries + 1
  | .held _ => 1
def uptoBulkAll {H : Type} : List (DataW H) → Nat
  | [] => 0
  | d :: r => uptoBulk d + uptoBulkAll r
def uptoBulkEntries {H : Type} : List (Lit × DataW H) → Nat
  | [] => 0
  | x :: r => uptoBulkEntry x + uptoBulkEntries r
def uptoBulkEntry {H : Type} : Lit × DataW H → Nat
  | (.string bytes, d) => bytes.length + uptoBulk d + 1
  | (_, d) => uptoBulk d + 1
 end
def uptoSmall : (H : Type) → List (DataW H) → Bool := fun _ ds => decide (uptoBulkAll ds ≤ 1048576)
def OpenSpec.upto (s : _root_.Go.ChangeSpec) : _root_.Go.OpenSpec := { _root_.Go.OpenSpec.ofChange s with cond := some uptoSmall }

/-- 'platterholdlaw1.Names', WHERE WHAT IT READS IS OF BULK AT MOST 1048576: true; the input reads as it did. -/
def namesUptoRow : OpenClaim := { program := "ytldilfgabdemhaa", sum := "3eddba54b3baad0c612bb717530ab81f4c68af6c30f81783261674198e90211b", func := "platterhold/platterholdlaw1.Names", spec := "names", apart := false, narrowed := true }
def NamesUptoSaid : Prop := namesUptoRow.holds Try.pinned (OpenSpec.upto namesSpec)

/-- 'platterholdlaw1.ParitySmall', WHERE WHAT IT READS IS OF BULK AT MOST 1048576: true; the input reads as it did. -/
def paritySmallUptoRow : OpenClaim := { program := "ytldilfgabdemhaa", sum := "3eddba54b3baad0c612bb717530ab81f4c68af6c30f81783261674198e90211b", func := "platterhold/platterholdlaw1.ParitySmall", spec := "paritySmall", apart := false, narrowed := true }
def ParitySmallUptoSaid : Prop := paritySmallUptoRow.holds Try.pinned (OpenSpec.upto paritySmallSpec)

/-- 'platterholdlaw1.ParityEven', WHERE WHAT IT READS IS OF BULK AT MOST 1048576: true; the input reads as it did. -/
def parityEvenUptoRow : OpenClaim := { program := "ytldilfgabdemhaa", sum := "3eddba54b3baad0c612bb717530ab81f4c68af6c30f81783261674198e90211b", func := "platterhold/platterholdlaw1.ParityEven", spec := "parityEven", apart := false, narrowed := true }
def ParityEvenUptoSaid : Prop := parityEvenUptoRow.holds Try.pinned (OpenSpec.upto parityEvenSpec)

end Rows
end Go.Proofs.Ytldilfgabdemhaa
