/-
  NARROWER THAN 'FOR EVERY INPUT', by the rows' own cells (each row's printed sentence says how): RangesAlone: laid · RangesOne: laid · RangesFree: laid · TopLocks: laid.
  DERIVED. THE GIVEN ROWS OF THIS SEAT. 4 by the template 'for every input the law returns true; each argument reads behind the call as it read before'; 0 by the template 'total and deterministic' (their statements: YtigoacnbbichoaaDoorTotals.lean).
  GIVEN WITH THE SEED: the statements are not yours to turn. If you find one false, say at which input.
  Laid BY PROGRAM, IN A SANDBOX (cutbox-rows.mjs): the forced cells as the released guide's own fill.sh prints them over the translation 43f9023bb6122e3e… (all of the seat's roots in one cut). By AI agents, Wed Nov 11 2026. No macro, syntax, notation, axiom, sorry.
-/
import Derived.Test.YtigoacnbbichoaaDoorChecked
import GoSem.Claim
import GoSem.ClaimJoined
import GoSem.ClaimMapViews
import Derived.JoinedTies
import Derived.KernelRfl
namespace Go.Proofs.YtigoacnbbichoaaDoor
/- THE CELL 'sum', in the pinned program and in every row, IS THE sha256 OF THE DUMP (.gsa) THAT YtigoacnbbichoaaDoorProg.lean LOADS. Nothing in Lean hashes anything: it is a label: what it is worth is what the hold of that sum in a sandbox is worth. -/
noncomputable def Tryd.pinned : Pinned := { name := "ytigoacnbbichoaadoor", sum := "43f9023bb6122e3e819842a3d1615ed36717069279f359ecf4d38b8d18cfb712", checked := Tryd.checked }
namespace Rows
def none {H : Type} : Left H := { results := [], args := [] }

/- WHAT THE LISTED PACKAGE-LEVEL VARIABLES READ AS WHEN THE CALL BEGINS. Each datum BY PROGRAM (the guide's laid-datum.mjs) off the statement by which the dump's own 'gosem.cut.vars' lays the variable. In a bare row this is a premise. The card (YtigoacnbbichoaaDoorCards.lean) ties it to the program's text. -/
def laid_errors_errorType {H : Type} : DataW H := .iface "internal/reflectlite.rtype" (.agg [.ptr (.lit (.string [101, 114, 114, 111, 114]))])

/-- 'platterholdlaw2.RangesAlone': WHATEVER THE INPUT: true; the input reads as it did. -/
def rangesAloneSpec : ChangeSpec := { name := "rangesAlone", fn := fun _ => fun
  | [d] => { results := [.lit (.bool true)], args := [d] }
  | _ => none }
def rangesAloneRow : OpenClaim := { program := "ytigoacnbbichoaadoor", sum := "43f9023bb6122e3e819842a3d1615ed36717069279f359ecf4d38b8d18cfb712", func := "platterhold/platterholdlaw2.RangesAlone", spec := "rangesAlone", inPlace := ["internal/reflectlite.ValueOf", "(internal/reflectlite.Value).Type", "(internal/reflectlite.Value).IsNil", "internal/reflectlite.TypeOf", "(internal/reflectlite.Value).Elem", "(internal/reflectlite.Value).Set"], unfollowed := true, recurses := true, named := ["errors.errorType"], apart := false, laid := [("errors.errorType", laid_errors_errorType)] }
def RangesAloneSaid : Prop := rangesAloneRow.holds Tryd.pinned (OpenSpec.ofChange rangesAloneSpec)

/-- ITS FALSE NEIGHBOUR: 'it returns false'. Refute it at one input. -/
def rangesAloneWrong : ChangeSpec := { name := "rangesAlone", fn := fun _ => fun
  | [d] => { results := [.lit (.bool false)], args := [d] }
  | _ => none }
def RangesAloneWrongFalsely : Prop := rangesAloneRow.holds Tryd.pinned (OpenSpec.ofChange rangesAloneWrong)

/-- 'platterholdlaw2.RangesOne': WHATEVER THE INPUT: true; the input reads as it did. -/
def rangesOneSpec : ChangeSpec := { name := "rangesOne", fn := fun _ => fun
  | [d] => { results := [.lit (.bool true)], args := [d] }
  | _ => none }
def rangesOneRow : OpenClaim := { program := "ytigoacnbbichoaadoor", sum := "43f9023bb6122e3e819842a3d1615ed36717069279f359ecf4d38b8d18cfb712", func := "platterhold/platterholdlaw2.RangesOne", spec := "rangesOne", inPlace := ["internal/reflectlite.ValueOf", "(internal/reflectlite.Value).Type", "(internal/reflectlite.Value).IsNil", "internal/reflectlite.TypeOf", "(internal/reflectlite.Value).Elem", "(internal/reflectlite.Value).Set"], unfollowed := true, recurses := true, named := ["errors.errorType"], apart := false, laid := [("errors.errorType", laid_errors_errorType)] }
def RangesOneSaid : Prop := rangesOneRow.holds Tryd.pinned (OpenSpec.ofChange rangesOneSpec)

/-- ITS FALSE NEIGHBOUR: 'it returns false'. Refute it at one input. -/
def rangesOneWrong : ChangeSpec := { name := "rangesOne", fn := fun _ => fun
  | [d] => { results := [.lit (.bool false)], args := [d] }
  | _ => none }
def RangesOneWrongFalsely : Prop := rangesOneRow.holds Tryd.pinned (OpenSpec.ofChange rangesOneWrong)

/-- 'platterholdlaw2.RangesFree': WHATEVER THE INPUT: true; the input reads as it did. -/
def rangesFreeSpec : ChangeSpec := { name := "rangesFree", fn := fun _ => fun
  | [d1, d2, d3] => { results := [.lit (.bool true)], args := [d1, d2, d3] }
  | _ => none }
def rangesFreeRow : OpenClaim := { program := "ytigoacnbbichoaadoor", sum := "43f9023bb6122e3e819842a3d1615ed36717069279f359ecf4d38b8d18cfb712", func := "platterhold/platterholdlaw2.RangesFree", spec := "rangesFree", inPlace := ["internal/reflectlite.ValueOf", "(internal/reflectlite.Value).Type", "(internal/reflectlite.Value).IsNil", "internal/reflectlite.TypeOf", "(internal/reflectlite.Value).Elem", "(internal/reflectlite.Value).Set"], unfollowed := true, recurses := true, named := ["errors.errorType"], apart := false, laid := [("errors.errorType", laid_errors_errorType)] }
def RangesFreeSaid : Prop := rangesFreeRow.holds Tryd.pinned (OpenSpec.ofChange rangesFreeSpec)

/-- ITS FALSE NEIGHBOUR: 'it returns false'. Refute it at one input. -/
def rangesFreeWrong : ChangeSpec := { name := "rangesFree", fn := fun _ => fun
  | [d1, d2, d3] => { results := [.lit (.bool false)], args := [d1, d2, d3] }
  | _ => none }
def RangesFreeWrongFalsely : Prop := rangesFreeRow.holds Tryd.pinned (OpenSpec.ofChange rangesFreeWrong)

/-- 'platterholdtop.TopLocks': WHATEVER THE INPUT: true; the input reads as it did. -/
def topLocksSpec : ChangeSpec := { name := "topLocks", fn := fun _ => fun
  | [d1, d2, d3, d4, d5, d6] => { results := [.lit (.bool true)], args := [d1, d2, d3, d4, d5, d6] }
  | _ => none }
def topLocksRow : OpenClaim := { program := "ytigoacnbbichoaadoor", sum := "43f9023bb6122e3e819842a3d1615ed36717069279f359ecf4d38b8d18cfb712", func := "platterhold/platterholdtop.TopLocks", spec := "topLocks", inPlace := ["internal/reflectlite.ValueOf", "(internal/reflectlite.Value).Type", "(internal/reflectlite.Value).IsNil", "internal/reflectlite.TypeOf", "(internal/reflectlite.Value).Elem", "(internal/reflectlite.Value).Set"], unfollowed := true, recurses := true, named := ["errors.errorType"], apart := false, laid := [("errors.errorType", laid_errors_errorType)] }
def TopLocksSaid : Prop := topLocksRow.holds Tryd.pinned (OpenSpec.ofChange topLocksSpec)

/-- ITS FALSE NEIGHBOUR: 'it returns false'. Refute it at one input. -/
def topLocksWrong : ChangeSpec := { name := "topLocks", fn := fun _ => fun
  | [d1, d2, d3, d4, d5, d6] => { results := [.lit (.bool false)], args := [d1, d2, d3, d4, d5, d6] }
  | _ => none }
def TopLocksWrongFalsely : Prop := topLocksRow.holds Tryd.pinned (OpenSpec.ofChange topLocksWrong)

/- THE SECOND FORM. 'bulk': how many values and letters a reading holds, each counted each time it is reached (what is shared counts as often as it is met; a slice's spare places count too). A statement '..UptoSaid' is the law's where the arguments, and the package variables that the reading takes, are together of bulk at most 1048576: NARROWER than '..Said'. Prove '..Said' where nothing that the law and all that it calls make is longer than what came in: it says more and counts as full. Else prove '..UptoSaid'. A law counts once. -/
mutual
def uptoBulk {H : Type} : DataW H → Nat
  | .lit (.string bytes) => bytes.length + 1
  | .lit _ => 1
  | .nil => 1
  | .ptr d => uptoBulk d + 1
  | .slice elems spare => uptoBulkAll elems + uptoBulkAll spare + 1
  | .agg parts => uptoBulkAll parts + 1
  | .iface _ d => uptoBulk d + 1
  | .map entries => uptoBulkEntries entries + 1
  | .held _ => 1
def uptoBulkAll {H : Type} : List (DataW H) → Nat
  | [] => 0
  | d :: r => uptoBulk d + uptoBulkAll r
def uptoBulkEntries {H : Type} : List (Lit × DataW H) → Nat
  | [] => 0
  | x :: r => uptoBulkEntry x + uptoBulkEntries r
def uptoBulkEntry {H : Type} : Lit × DataW H → Nat
  | (.string bytes, d) => bytes.length + uptoBulk d + 1
  | (_, d) => uptoBulk d + 1
 end
def uptoSmall : (H : Type) → List (DataW H) → Bool := fun _ ds => decide (uptoBulkAll ds ≤ 1048576)
def OpenSpec.upto (s : _root_.Go.ChangeSpec) : _root_.Go.OpenSpec := { _root_.Go.OpenSpec.ofChange s with cond := some uptoSmall }

/-- 'platterholdlaw2.RangesAlone', WHERE WHAT IT READS IS OF BULK AT MOST 1048576: true; the input reads as it did. -/
def rangesAloneUptoRow : OpenClaim := { program := "ytigoacnbbichoaadoor", sum := "43f9023bb6122e3e819842a3d1615ed36717069279f359ecf4d38b8d18cfb712", func := "platterhold/platterholdlaw2.RangesAlone", spec := "rangesAlone", inPlace := ["internal/reflectlite.ValueOf", "(internal/reflectlite.Value).Type", "(internal/reflectlite.Value).IsNil", "internal/reflectlite.TypeOf", "(internal/reflectlite.Value).Elem", "(internal/reflectlite.Value).Set"], unfollowed := true, recurses := true, named := ["errors.errorType"], apart := false, laid := [("errors.errorType", laid_errors_errorType)], narrowed := true }
def RangesAloneUptoSaid : Prop := rangesAloneUptoRow.holds Tryd.pinned (OpenSpec.upto rangesAloneSpec)

/-- 'platterholdlaw2.RangesOne', WHERE WHAT IT READS IS OF BULK AT MOST 1048576: true; the input reads as it did. -/
def rangesOneUptoRow : OpenClaim := { program := "ytigoacnbbichoaadoor", sum := "43f9023bb6122e3e819842a3d1615ed36717069279f359ecf4d38b8d18cfb712", func := "platterhold/platterholdlaw2.RangesOne", spec := "rangesOne", inPlace := ["internal/reflectlite.ValueOf", "(internal/reflectlite.Value).Type", "(internal/reflectlite.Value).IsNil", "internal/reflectlite.TypeOf", "(internal/reflectlite.Value).Elem", "(internal/reflectlite.Value).Set"], unfollowed := true, recurses := true, named := ["errors.errorType"], apart := false, laid := [("errors.errorType", laid_errors_errorType)], narrowed := true }
def RangesOneUptoSaid : Prop := rangesOneUptoRow.holds Tryd.pinned (OpenSpec.upto rangesOneSpec)

/-- 'platterholdlaw2.RangesFree', WHERE WHAT IT READS IS OF BULK AT MOST 1048576: true; the input reads as it did. -/
def rangesFreeUptoRow : OpenClaim := { program := "ytigoacnbbichoaadoor", sum := "43f9023bb6122e3e819842a3d1615ed36717069279f359ecf4d38b8d18cfb712", func := "platterhold/platterholdlaw2.RangesFree", spec := "rangesFree", inPlace := ["internal/reflectlite.ValueOf", "(internal/reflectlite.Value).Type", "(internal/reflectlite.Value).IsNil", "internal/reflectlite.TypeOf", "(internal/reflectlite.Value).Elem", "(internal/reflectlite.Value).Set"], unfollowed := true, recurses := true, named := ["errors.errorType"], apart := false, laid := [("errors.errorType", laid_errors_errorType)], narrowed := true }
def RangesFreeUptoSaid : Prop := rangesFreeUptoRow.holds Tryd.pinned (OpenSpec.upto rangesFreeSpec)

/-- 'platterholdtop.TopLocks', WHERE WHAT IT READS IS OF BULK AT MOST 1048576: true; the input reads as it did. -/
def topLocksUptoRow : OpenClaim := { program := "ytigoacnbbichoaadoor", sum := "43f9023bb6122e3e819842a3d1615ed36717069279f359ecf4d38b8d18cfb712", func := "platterhold/platterholdtop.TopLocks", spec := "topLocks", inPlace := ["internal/reflectlite.ValueOf", "(internal/reflectlite.Value).Type", "(internal/reflectlite.Value).IsNil", "internal/reflectlite.TypeOf", "(internal/reflectlite.Value).Elem", "(internal/reflectlite.Value).Set"], unfollowed := true, recurses := true, named := ["errors.errorType"], apart := false, laid := [("errors.errorType", laid_errors_errorType)], narrowed := true }
def TopLocksUptoSaid : Prop := topLocksUptoRow.holds Tryd.pinned (OpenSpec.upto topLocksSpec)

end Rows
end Go.Proofs.YtigoacnbbichoaaDoor
