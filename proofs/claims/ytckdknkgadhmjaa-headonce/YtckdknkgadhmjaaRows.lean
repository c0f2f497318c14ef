/-
  No cell of these rows narrows 'for every input' (looked for: loops, veiled, ifaces, maps, wideKeys, modest, calm, conditions, laid).
  DERIVED. THE GIVEN ROWS OF THIS SEAT. 4 by the template 'for every input the law returns true; each argument reads behind the call as it read before'; 0 by the template 'total and deterministic' (their statements: YtckdknkgadhmjaaTotals.lean).
  GIVEN WITH THE SEED: the statements are not yours to turn. If you find one false, say at which input.
  Laid BY PROGRAM, IN A SANDBOX (cutbox-rows.mjs): the forced cells as the released guide's own fill.sh prints them over the translation a23c9f04d929133d… (all of the seat's roots in one cut). By AI agents, Wed Nov 11 2026. No macro, syntax, notation, axiom, sorry.
-/
import Derived.Test.YtckdknkgadhmjaaChecked
import GoSem.Claim
import GoSem.ClaimJoined
import GoSem.ClaimMapViews
import Derived.JoinedTies
import Derived.KernelRfl
namespace Go.Proofs.Ytckdknkgadhmjaa
/- THE CELL 'sum', in the pinned program and in every row, IS THE sha256 OF THE DUMP (.gsa) THAT YtckdknkgadhmjaaProg.lean LOADS. Nothing in Lean hashes anything: it is a label: what it is worth is what the hold of that sum in a sandbox is worth. -/
noncomputable def Try.pinned : Pinned := { name := "ytckdknkgadhmjaa", sum := "a23c9f04d929133df8c4af69d863e069297e41fbc4d2617bc31fed1dea144cc5", checked := Try.checked }
namespace Rows
def none {H : Type} : Left H := { results := [], args := [] }

/-- 'platterholdlaw1.HeadSweep': WHATEVER THE INPUT: true; the input reads as it did. -/
def headSweepSpec : ChangeSpec := { name := "headSweep", fn := fun _ => fun
  | [d1, d2, d3] => { results := [.lit (.bool true)], args := [d1, d2, d3] }
  | _ => none }
def headSweepRow : OpenClaim := { program := "ytckdknkgadhmjaa", sum := "a23c9f04d929133df8c4af69d863e069297e41fbc4d2617bc31fed1dea144cc5", func := "platterhold/platterholdlaw1.HeadSweep", spec := "headSweep", unfollowed := true, recurses := true, apart := false }
def HeadSweepSaid : Prop := headSweepRow.holds Try.pinned (OpenSpec.ofChange headSweepSpec)

/-- ITS FALSE NEIGHBOUR: 'it returns false'. Refute it at one input. -/
def headSweepWrong : ChangeSpec := { name := "headSweep", fn := fun _ => fun
  | [d1, d2, d3] => { results := [.lit (.bool false)], args := [d1, d2, d3] }
  | _ => none }
def HeadSweepWrongFalsely : Prop := headSweepRow.holds Try.pinned (OpenSpec.ofChange headSweepWrong)

/-- 'platterholdlaw1.HeadOnce': WHATEVER THE INPUT: true; the input reads as it did. -/
def headOnceSpec : ChangeSpec := { name := "headOnce", fn := fun _ => fun
  | [d1, d2, d3] => { results := [.lit (.bool true)], args := [d1, d2, d3] }
  | _ => none }
def headOnceRow : OpenClaim := { program := "ytckdknkgadhmjaa", sum := "a23c9f04d929133df8c4af69d863e069297e41fbc4d2617bc31fed1dea144cc5", func := "platterhold/platterholdlaw1.HeadOnce", spec := "headOnce", unfollowed := true, recurses := true, apart := false }
def HeadOnceSaid : Prop := headOnceRow.holds Try.pinned (OpenSpec.ofChange headOnceSpec)

/-- ITS FALSE NEIGHBOUR: 'it returns false'. Refute it at one input. -/
def headOnceWrong : ChangeSpec := { name := "headOnce", fn := fun _ => fun
  | [d1, d2, d3] => { results := [.lit (.bool false)], args := [d1, d2, d3] }
  | _ => none }
def HeadOnceWrongFalsely : Prop := headOnceRow.holds Try.pinned (OpenSpec.ofChange headOnceWrong)

/-- 'platterholdlaw1.HeadNear': WHATEVER THE INPUT: true; the input reads as it did. -/
def headNearSpec : ChangeSpec := { name := "headNear", fn := fun _ => fun
  | [d1, d2] => { results := [.lit (.bool true)], args := [d1, d2] }
  | _ => none }
def headNearRow : OpenClaim := { program := "ytckdknkgadhmjaa", sum := "a23c9f04d929133df8c4af69d863e069297e41fbc4d2617bc31fed1dea144cc5", func := "platterhold/platterholdlaw1.HeadNear", spec := "headNear", unfollowed := true, recurses := true, apart := false }
def HeadNearSaid : Prop := headNearRow.holds Try.pinned (OpenSpec.ofChange headNearSpec)

/-- ITS FALSE NEIGHBOUR: 'it returns false'. Refute it at one input. -/
def headNearWrong : ChangeSpec := { name := "headNear", fn := fun _ => fun
  | [d1, d2] => { results := [.lit (.bool false)], args := [d1, d2] }
  | _ => none }
def HeadNearWrongFalsely : Prop := headNearRow.holds Try.pinned (OpenSpec.ofChange headNearWrong)

/-- 'platterholdlaw1.HeadMirror': WHATEVER THE INPUT: true; the input reads as it did. -/
def headMirrorSpec : ChangeSpec := { name := "headMirror", fn := fun _ => fun
  | [d1, d2, d3] => { results := [.lit (.bool true)], args := [d1, d2, d3] }
  | _ => none }
def headMirrorRow : OpenClaim := { program := "ytckdknkgadhmjaa", sum := "a23c9f04d929133df8c4af69d863e069297e41fbc4d2617bc31fed1dea144cc5", func := "platterhold/platterholdlaw1.HeadMirror", spec := "headMirror", unfollowed := true, recurses := true, apart := false }
def HeadMirrorSaid : Prop := headMirrorRow.holds Try.pinned (OpenSpec.ofChange headMirrorSpec)

/-- ITS FALSE NEIGHBOUR: 'it returns false'. Refute it at one input. -/
def headMirrorWrong : ChangeSpec := { name := "headMirror", fn := fun _ => fun
  | [d1, d2, d3] => { results := [.lit (.bool false)], args := [d1, d2, d3] }
  | _ => none }
def HeadMirrorWrongFalsely : Prop := headMirrorRow.holds Try.pinned (OpenSpec.ofChange headMirrorWrong)

/- THE SECOND FORM. 'bulk': how many values and letters a reading holds, each counted each time it is reached (what is shared counts as often as it is met; a slice's spare places count too). A statement '..UptoSaid' is the law's where the arguments, and the package variables that the reading takes, are together of bulk at most 1048576: NARROWER than '..Said'. Prove '..Said' where nothing that the law and all that it calls make is longer than what came in: it says more and counts as full. Else prove '..UptoSaid'. A law counts once. -/
mutual
def uptoBulk {H : Type} : DataW H → Nat
  | .lit (.string bytes) => bytes.length + 1
  | .lit _ => 1
  | .nil => 1
  | .ptr d => uptoBulk d + 1
  | .slice elems spare => uptoBulkAll elems + uptoBulkAll spare + 1
  | .agg parts => uptoBulkAll parts + 1
  | .iface _ d => uptoBulk d + 1
  | .map entries => uptoBulkEntries entries + 1
  | .held _ => 1
def uptoBulkAll {H : Type} : List (DataW H) → Nat
  | [] => 0
  | d :: r => uptoBulk d + uptoBulkAll r
def uptoBulkEntries {H : Type} : List (Lit × DataW H) → Nat
  | [] => 0
  | x :: r => uptoBulkEntry x + uptoBulkEntries r
def uptoBulkEntry {H : Type} : Lit × DataW H → Nat
  | (.string bytes, d) => bytes.length + uptoBulk d + 1
  | (_, d) => uptoBulk d + 1
 end
def uptoSmall : (H : Type) → List (DataW H) → Bool := fun _ ds => decide (uptoBulkAll ds ≤ 1048576)
def OpenSpec.upto (s : _root_.Go.ChangeSpec) : _root_.Go.OpenSpec := { _root_.Go.OpenSpec.ofChange s with cond := some uptoSmall }

/-- 'platterholdlaw1.HeadSweep', WHERE WHAT IT READS IS OF BULK AT MOST 1048576: true; the input reads as it did. -/
def headSweepUptoRow : OpenClaim := { program := "ytckdknkgadhmjaa", sum := "a23c9f04d929133df8c4af69d863e069297e41fbc4d2617bc31fed1dea144cc5", func := "platterhold/platterholdlaw1.HeadSweep", spec := "headSweep", unfollowed := true, recurses := true, apart := false, narrowed := true }
def HeadSweepUptoSaid : Prop := headSweepUptoRow.holds Try.pinned (OpenSpec.upto headSweepSpec)

/-- 'platterholdlaw1.HeadOnce', WHERE WHAT IT READS IS OF BULK AT MOST 1048576: true; the input reads as it did. -/
def headOnceUptoRow : OpenClaim := { program := "ytckdknkgadhmjaa", sum := "a23c9f04d929133df8c4af69d863e069297e41fbc4d2617bc31fed1dea144cc5", func := "platterhold/platterholdlaw1.HeadOnce", spec := "headOnce", unfollowed := true, recurses := true, apart := false, narrowed := true }
def HeadOnceUptoSaid : Prop := headOnceUptoRow.holds Try.pinned (OpenSpec.upto headOnceSpec)

/-- 'platterholdlaw1.HeadNear', WHERE WHAT IT READS IS OF BULK AT MOST 1048576: true; the input reads as it did. -/
def headNearUptoRow : OpenClaim := { program := "ytckdknkgadhmjaa", sum := "a23c9f04d929133df8c4af69d863e069297e41fbc4d2617bc31fed1dea144cc5", func := "platterhold/platterholdlaw1.HeadNear", spec := "headNear", unfollowed := true, recurses := true, apart := false, narrowed := true }
def HeadNearUptoSaid : Prop := headNearUptoRow.holds Try.pinned (OpenSpec.upto headNearSpec)

/-- 'platterholdlaw1.HeadMirror', WHERE WHAT IT READS IS OF BULK AT MOST 1048576: true; the input reads as it did. -/
def headMirrorUptoRow : OpenClaim := { program := "ytckdknkgadhmjaa", sum := "a23c9f04d929133df8c4af69d863e069297e41fbc4d2617bc31fed1dea144cc5", func := "platterhold/platterholdlaw1.HeadMirror", spec := "headMirror", unfollowed := true, recurses := true, apart := false, narrowed := true }
def HeadMirrorUptoSaid : Prop := headMirrorUptoRow.holds Try.pinned (OpenSpec.upto headMirrorSpec)

end Rows
end Go.Proofs.Ytckdknkgadhmjaa
