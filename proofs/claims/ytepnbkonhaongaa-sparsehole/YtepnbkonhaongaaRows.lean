/-
  No cell of these rows narrows 'for every input' (looked for: loops, veiled, ifaces, maps, wideKeys, modest, calm, conditions, laid).
  DERIVED. THE GIVEN ROWS OF THIS SEAT. 3 by the template 'for every input the law returns true; each argument reads behind the call as it read before'; 0 by the template 'total and deterministic' (their statements: YtepnbkonhaongaaTotals.lean).
  GIVEN WITH THE SEED: the statements are not yours to turn. If you find one false, say at which input.
  Laid BY PROGRAM, IN A SANDBOX (cutbox-rows.mjs): the forced cells as the released guide's own fill.sh prints them over the translation 29a91783baa8fdd7… (all of the seat's roots in one cut). By AI agents, Wed Nov 11 2026. No macro, syntax, notation, axiom, sorry.
-/
import Derived.Test.YtepnbkonhaongaaChecked
import GoSem.Claim
import GoSem.ClaimJoined
import GoSem.ClaimMapViews
import Derived.JoinedTies
import Derived.KernelRfl
namespace Go.Proofs.Ytepnbkonhaongaa
/- THE CELL 'sum', in the pinned program and in every row, IS THE sha256 OF THE DUMP (.gsa) THAT YtepnbkonhaongaaProg.lean LOADS. Nothing in Lean hashes anything: it is a label: what it is worth is what the hold of that sum in a sandbox is worth. -/
noncomputable def Try.pinned : Pinned := { name := "ytepnbkonhaongaa", sum := "29a91783baa8fdd732b9d75c9020f5ebf10c22c6ebab9ad42e1cb9046ca347c3", checked := Try.checked }
namespace Rows
def none {H : Type} : Left H := { results := [], args := [] }

/-- 'platterholdlaw2.SparseBack': WHATEVER THE INPUT: true; the input reads as it did. -/
def sparseBackSpec : ChangeSpec := { name := "sparseBack", fn := fun _ => fun
  | [d1, d2, d3] => { results := [.lit (.bool true)], args := [d1, d2, d3] }
  | _ => none }
def sparseBackRow : OpenClaim := { program := "ytepnbkonhaongaa", sum := "29a91783baa8fdd732b9d75c9020f5ebf10c22c6ebab9ad42e1cb9046ca347c3", func := "platterhold/platterholdlaw2.SparseBack", spec := "sparseBack", unfollowed := true, recurses := true, apart := false }
def SparseBackSaid : Prop := sparseBackRow.holds Try.pinned (OpenSpec.ofChange sparseBackSpec)

/-- ITS FALSE NEIGHBOUR: 'it returns false'. Refute it at one input. -/
def sparseBackWrong : ChangeSpec := { name := "sparseBack", fn := fun _ => fun
  | [d1, d2, d3] => { results := [.lit (.bool false)], args := [d1, d2, d3] }
  | _ => none }
def SparseBackWrongFalsely : Prop := sparseBackRow.holds Try.pinned (OpenSpec.ofChange sparseBackWrong)

/-- 'platterholdlaw2.SparseHole': WHATEVER THE INPUT: true; the input reads as it did. -/
def sparseHoleSpec : ChangeSpec := { name := "sparseHole", fn := fun _ => fun
  | [d] => { results := [.lit (.bool true)], args := [d] }
  | _ => none }
def sparseHoleRow : OpenClaim := { program := "ytepnbkonhaongaa", sum := "29a91783baa8fdd732b9d75c9020f5ebf10c22c6ebab9ad42e1cb9046ca347c3", func := "platterhold/platterholdlaw2.SparseHole", spec := "sparseHole", unfollowed := true, recurses := true, apart := false }
def SparseHoleSaid : Prop := sparseHoleRow.holds Try.pinned (OpenSpec.ofChange sparseHoleSpec)

/-- ITS FALSE NEIGHBOUR: 'it returns false'. Refute it at one input. -/
def sparseHoleWrong : ChangeSpec := { name := "sparseHole", fn := fun _ => fun
  | [d] => { results := [.lit (.bool false)], args := [d] }
  | _ => none }
def SparseHoleWrongFalsely : Prop := sparseHoleRow.holds Try.pinned (OpenSpec.ofChange sparseHoleWrong)

/-- 'platterholdlaw2.SparseCut': WHATEVER THE INPUT: true; the input reads as it did. -/
def sparseCutSpec : ChangeSpec := { name := "sparseCut", fn := fun _ => fun
  | [d1, d2] => { results := [.lit (.bool true)], args := [d1, d2] }
  | _ => none }
def sparseCutRow : OpenClaim := { program := "ytepnbkonhaongaa", sum := "29a91783baa8fdd732b9d75c9020f5ebf10c22c6ebab9ad42e1cb9046ca347c3", func := "platterhold/platterholdlaw2.SparseCut", spec := "sparseCut", unfollowed := true, recurses := true, apart := false }
def SparseCutSaid : Prop := sparseCutRow.holds Try.pinned (OpenSpec.ofChange sparseCutSpec)

/-- ITS FALSE NEIGHBOUR: 'it returns false'. Refute it at one input. -/
def sparseCutWrong : ChangeSpec := { name := "sparseCut", fn := fun _ => fun
  | [d1, d2] => { results := [.lit (.bool false)], args := [d1, d2] }
  | _ => none }
def SparseCutWrongFalsely : Prop := sparseCutRow.holds Try.pinned (OpenSpec.ofChange sparseCutWrong)

/- THE SECOND FORM. 'bulk': how many values and letters a reading holds, each counted each time it is reached (what is shared counts as often as it is met; a slice's spare places count too). A statement '..UptoSaid' is the law's where the arguments, and the package variables that the reading takes, are together of bulk at most 1048576: NARROWER than '..Said'. Prove '..Said' where nothing that the law and all that it calls make is longer than what came in: it says more and counts as full. Else prove '..UptoSaid'. A law counts once. -/
mutual
def uptoBulk {H : Type} : DataW H → Nat
  | .lit (.string bytes) => bytes.length + 1
  | .lit _ => 1
  | .nil => 1
  | .ptr d => uptoBulk d + 1
  | .slice elems spare => uptoBulkAll elems + uptoBulkAll spare + 1
  | .agg parts => uptoBulkAll parts + 1
  | .iface _ d => uptoBulk d + 1
  | .map entries => uptoBulkEntries entries + 1
  | .held _ => 1
def uptoBulkAll {H : Type} : List (DataW H) → Nat
  | [] => 0
  | d :: r => uptoBulk d + uptoBulkAll r
def uptoBulkEntries {H : Type} : List (Lit × DataW H) → Nat
  | [] => 0
  | x :: r => uptoBulkEntry x + uptoBulkEntries r
def uptoBulkEntry {H : Type} : Lit × DataW H → Nat
  | (.string bytes, d) => bytes.length + uptoBulk d + 1
  | (_, d) => uptoBulk d + 1
 end
def uptoSmall : (H : Type) → List (DataW H) → Bool := fun _ ds => decide (uptoBulkAll ds ≤ 1048576)
def OpenSpec.upto (s : _root_.Go.ChangeSpec) : _root_.Go.OpenSpec := { _root_.Go.OpenSpec.ofChange s with cond := some uptoSmall }

/-- 'platterholdlaw2.SparseBack', WHERE WHAT IT READS IS OF BULK AT MOST 1048576: true; the input reads as it did. -/
def sparseBackUptoRow : OpenClaim := { program := "ytepnbkonhaongaa", sum := "29a91783baa8fdd732b9d75c9020f5ebf10c22c6ebab9ad42e1cb9046ca347c3", func := "platterhold/platterholdlaw2.SparseBack", spec := "sparseBack", unfollowed := true, recurses := true, apart := false, narrowed := true }
def SparseBackUptoSaid : Prop := sparseBackUptoRow.holds Try.pinned (OpenSpec.upto sparseBackSpec)

/-- 'platterholdlaw2.SparseHole', WHERE WHAT IT READS IS OF BULK AT MOST 1048576: true; the input reads as it did. -/
def sparseHoleUptoRow : OpenClaim := { program := "ytepnbkonhaongaa", sum := "29a91783baa8fdd732b9d75c9020f5ebf10c22c6ebab9ad42e1cb9046ca347c3", func := "platterhold/platterholdlaw2.SparseHole", spec := "sparseHole", unfollowed := true, recurses := true, apart := false, narrowed := true }
def SparseHoleUptoSaid : Prop := sparseHoleUptoRow.holds Try.pinned (OpenSpec.upto sparseHoleSpec)

/-- 'platterholdlaw2.SparseCut', WHERE WHAT IT READS IS OF BULK AT MOST 1048576: true; the input reads as it did. -/
def sparseCutUptoRow : OpenClaim := { program := "ytepnbkonhaongaa", sum := "29a91783baa8fdd732b9d75c9020f5ebf10c22c6ebab9ad42e1cb9046ca347c3", func := "platterhold/platterholdlaw2.SparseCut", spec := "sparseCut", unfollowed := true, recurses := true, apart := false, narrowed := true }
def SparseCutUptoSaid : Prop := sparseCutUptoRow.holds Try.pinned (OpenSpec.upto sparseCutSpec)

end Rows
end Go.Proofs.Ytepnbkonhaongaa
