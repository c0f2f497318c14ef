/-
  No cell of these rows narrows 'for every input' (looked for: loops, veiled, ifaces, maps, wideKeys, modest, calm, conditions, laid).
  DERIVED. THE GIVEN ROWS OF THIS SEAT. 4 by the template 'for every input the law returns true; each argument reads behind the call as it read before'; 0 by the template 'total and deterministic' (their statements: YtebjefgdjfjndaaTotals.lean).
  GIVEN WITH THE SEED: the statements are not yours to turn. If you find one false, say at which input.
  Laid BY PROGRAM, IN A SANDBOX (cutbox-rows.mjs): the forced cells as the released guide's own fill.sh prints them over the translation 9db46f844738f41a… (all of the seat's roots in one cut). By AI agents, Wed Nov 11 2026. No macro, syntax, notation, axiom, sorry.
-/
import Derived.Test.YtebjefgdjfjndaaChecked
import GoSem.Claim
import GoSem.ClaimJoined
import GoSem.ClaimMapViews
import Derived.JoinedTies
import Derived.KernelRfl
namespace Go.Proofs.Ytebjefgdjfjndaa
/- THE CELL 'sum', in the pinned program and in every row, IS THE sha256 OF THE DUMP (.gsa) THAT YtebjefgdjfjndaaProg.lean LOADS. Nothing in Lean hashes anything: it is a label: what it is worth is what the hold of that sum in a sandbox is worth. -/
noncomputable def Try.pinned : Pinned := { name := "ytebjefgdjfjndaa", sum := "9db46f844738f41adac3fddc2c85e3fac5efa3c544807d1e2ee1313f8170ae28", checked := Try.checked }
namespace Rows
def none {H : Type} : Left H := { results := [], args := [] }

/-- 'platterholdlaw1.ReedAny': WHATEVER THE INPUT: true; the input reads as it did. -/
def reedAnySpec : ChangeSpec := { name := "reedAny", fn := fun _ => fun
  | [d1, d2, d3] => { results := [.lit (.bool true)], args := [d1, d2, d3] }
  | _ => none }
def reedAnyRow : OpenClaim := { program := "ytebjefgdjfjndaa", sum := "9db46f844738f41adac3fddc2c85e3fac5efa3c544807d1e2ee1313f8170ae28", func := "platterhold/platterholdlaw1.ReedAny", spec := "reedAny", apart := false }
def ReedAnySaid : Prop := reedAnyRow.holds Try.pinned (OpenSpec.ofChange reedAnySpec)

/-- ITS FALSE NEIGHBOUR: 'it returns false'. Refute it at one input. -/
def reedAnyWrong : ChangeSpec := { name := "reedAny", fn := fun _ => fun
  | [d1, d2, d3] => { results := [.lit (.bool false)], args := [d1, d2, d3] }
  | _ => none }
def ReedAnyWrongFalsely : Prop := reedAnyRow.holds Try.pinned (OpenSpec.ofChange reedAnyWrong)

/-- 'platterholdlaw1.ReedApart': WHATEVER THE INPUT: true; the input reads as it did. -/
def reedApartSpec : ChangeSpec := { name := "reedApart", fn := fun _ => fun
  | [d1, d2, d3] => { results := [.lit (.bool true)], args := [d1, d2, d3] }
  | _ => none }
def reedApartRow : OpenClaim := { program := "ytebjefgdjfjndaa", sum := "9db46f844738f41adac3fddc2c85e3fac5efa3c544807d1e2ee1313f8170ae28", func := "platterhold/platterholdlaw1.ReedApart", spec := "reedApart", apart := false }
def ReedApartSaid : Prop := reedApartRow.holds Try.pinned (OpenSpec.ofChange reedApartSpec)

/-- ITS FALSE NEIGHBOUR: 'it returns false'. Refute it at one input. -/
def reedApartWrong : ChangeSpec := { name := "reedApart", fn := fun _ => fun
  | [d1, d2, d3] => { results := [.lit (.bool false)], args := [d1, d2, d3] }
  | _ => none }
def ReedApartWrongFalsely : Prop := reedApartRow.holds Try.pinned (OpenSpec.ofChange reedApartWrong)

/-- 'platterholdlaw1.ReedSum': WHATEVER THE INPUT: true; the input reads as it did. -/
def reedSumSpec : ChangeSpec := { name := "reedSum", fn := fun _ => fun
  | [d1, d2, d3] => { results := [.lit (.bool true)], args := [d1, d2, d3] }
  | _ => none }
def reedSumRow : OpenClaim := { program := "ytebjefgdjfjndaa", sum := "9db46f844738f41adac3fddc2c85e3fac5efa3c544807d1e2ee1313f8170ae28", func := "platterhold/platterholdlaw1.ReedSum", spec := "reedSum", apart := false }
def ReedSumSaid : Prop := reedSumRow.holds Try.pinned (OpenSpec.ofChange reedSumSpec)

/-- ITS FALSE NEIGHBOUR: 'it returns false'. Refute it at one input. -/
def reedSumWrong : ChangeSpec := { name := "reedSum", fn := fun _ => fun
  | [d1, d2, d3] => { results := [.lit (.bool false)], args := [d1, d2, d3] }
  | _ => none }
def ReedSumWrongFalsely : Prop := reedSumRow.holds Try.pinned (OpenSpec.ofChange reedSumWrong)

/-- 'platterholdtop.TopArray': WHATEVER THE INPUT: true; the input reads as it did. -/
def topArraySpec : ChangeSpec := { name := "topArray", fn := fun _ => fun
  | [d1, d2] => { results := [.lit (.bool true)], args := [d1, d2] }
  | _ => none }
def topArrayRow : OpenClaim := { program := "ytebjefgdjfjndaa", sum := "9db46f844738f41adac3fddc2c85e3fac5efa3c544807d1e2ee1313f8170ae28", func := "platterhold/platterholdtop.TopArray", spec := "topArray", apart := false }
def TopArraySaid : Prop := topArrayRow.holds Try.pinned (OpenSpec.ofChange topArraySpec)

/-- ITS FALSE NEIGHBOUR: 'it returns false'. Refute it at one input. -/
def topArrayWrong : ChangeSpec := { name := "topArray", fn := fun _ => fun
  | [d1, d2] => { results := [.lit (.bool false)], args := [d1, d2] }
  | _ => none }
def TopArrayWrongFalsely : Prop := topArrayRow.holds Try.pinned (OpenSpec.ofChange topArrayWrong)

/- THE SECOND FORM. 'bulk': how many values and letters a reading holds, each counted each time it is reached (what is shared counts as often as it is met; a slice's spare places count too). A statement '..UptoSaid' is the law's where the arguments, and the package variables that the reading takes, are together of bulk at most 1048576: NARROWER than '..Said'. Prove '..Said' where nothing that the law and all that it calls make is longer than what came in: it says more and counts as full. Else prove '..UptoSaid'. A law counts once. -/
mutual
def uptoBulk {H : Type} : DataW H → Nat
  | .lit (.string bytes) => bytes.length + 1
  | .lit _ => 1
  | .nil => 1
  | .ptr d => uptoBulk d + 1
  | .slice elems spare => uptoBulkAll elems + uptoBulkAll spare + 1
  | .agg parts => uptoBulkAll parts + 1
  | .iface _ d => uptoBulk d + 1
  | .map entries => uptoBulkEntries entries + 1
  | .held _ => 1
def uptoBulkAll {H : Type} : List (DataW H) → Nat
  | [] => 0
  | d :: r => uptoBulk d + uptoBulkAll r
def uptoBulkEntries {H : Type} : List (Lit × DataW H) → Nat
  | [] => 0
  | x :: r => uptoBulkEntry x + uptoBulkEntries r
def uptoBulkEntry {H : Type} : Lit × DataW H → Nat
  | (.string bytes, d) => bytes.length + uptoBulk d + 1
  | (_, d) => uptoBulk d + 1
 end
def uptoSmall : (H : Type) → List (DataW H) → Bool := fun _ ds => decide (uptoBulkAll ds ≤ 1048576)
def OpenSpec.upto (s : _root_.Go.ChangeSpec) : _root_.Go.OpenSpec := { _root_.Go.OpenSpec.ofChange s with cond := some uptoSmall }

/-- 'platterholdlaw1.ReedAny', WHERE WHAT IT READS IS OF BULK AT MOST 1048576: true; the input reads as it did. -/
def reedAnyUptoRow : OpenClaim := { program := "ytebjefgdjfjndaa", sum := "9db46f844738f41adac3fddc2c85e3fac5efa3c544807d1e2ee1313f8170ae28", func := "platterhold/platterholdlaw1.ReedAny", spec := "reedAny", apart := false, narrowed := true }
def ReedAnyUptoSaid : Prop := reedAnyUptoRow.holds Try.pinned (OpenSpec.upto reedAnySpec)

/-- 'platterholdlaw1.ReedApart', WHERE WHAT IT READS IS OF BULK AT MOST 1048576: true; the input reads as it did. -/
def reedApartUptoRow : OpenClaim := { program := "ytebjefgdjfjndaa", sum := "9db46f844738f41adac3fddc2c85e3fac5efa3c544807d1e2ee1313f8170ae28", func := "platterhold/platterholdlaw1.ReedApart", spec := "reedApart", apart := false, narrowed := true }
def ReedApartUptoSaid : Prop := reedApartUptoRow.holds Try.pinned (OpenSpec.upto reedApartSpec)

/-- 'platterholdlaw1.ReedSum', WHERE WHAT IT READS IS OF BULK AT MOST 1048576: true; the input reads as it did. -/
def reedSumUptoRow : OpenClaim := { program := "ytebjefgdjfjndaa", sum := "9db46f844738f41adac3fddc2c85e3fac5efa3c544807d1e2ee1313f8170ae28", func := "platterhold/platterholdlaw1.ReedSum", spec := "reedSum", apart := false, narrowed := true }
def ReedSumUptoSaid : Prop := reedSumUptoRow.holds Try.pinned (OpenSpec.upto reedSumSpec)

/-- 'platterholdtop.TopArray', WHERE WHAT IT READS IS OF BULK AT MOST 1048576: true; the input reads as it did. -/
def topArrayUptoRow : OpenClaim := { program := "ytebjefgdjfjndaa", sum := "9db46f844738f41adac3fddc2c85e3fac5efa3c544807d1e2ee1313f8170ae28", func := "platterhold/platterholdtop.TopArray", spec := "topArray", apart := false, narrowed := true }
def TopArrayUptoSaid : Prop := topArrayUptoRow.holds Try.pinned (OpenSpec.upto topArraySpec)

end Rows
end Go.Proofs.Ytebjefgdjfjndaa
