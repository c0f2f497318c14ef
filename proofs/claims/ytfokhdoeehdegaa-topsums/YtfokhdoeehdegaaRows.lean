/-
  No cell of these rows narrows 'for every input' (looked for: loops, veiled, ifaces, maps, wideKeys, modest, calm, conditions, laid).
  DERIVED. THE GIVEN ROWS OF THIS SEAT. 4 by the template 'for every input the law returns true; each argument reads behind the call as it read before'; 0 by the template 'total and deterministic' (their statements: YtfokhdoeehdegaaTotals.lean).
  GIVEN WITH THE SEED: the statements are not yours to turn. If you find one false, say at which input.
  Laid BY PROGRAM, IN A SANDBOX (cutbox-rows.mjs): the forced cells as the released guide's own fill.sh prints them over the translation 75ea94c4aa4d1420… (all of the seat's roots in one cut). By AI agents, Wed Nov 11 2026. No macro, syntax, notation, axiom, sorry.
-/
import Derived.Test.YtfokhdoeehdegaaChecked
import GoSem.Claim
import GoSem.ClaimJoined
import GoSem.ClaimMapViews
import Derived.JoinedTies
import Derived.KernelRfl
namespace Go.Proofs.Ytfokhdoeehdegaa
/- THE CELL 'sum', in the pinned program and in every row, IS THE sha256 OF THE DUMP (.gsa) THAT YtfokhdoeehdegaaProg.lean LOADS. Nothing in Lean hashes anything: it is a label: what it is worth is what the hold of that sum in a sandbox is worth. -/
noncomputable def Try.pinned : Pinned := { name := "ytfokhdoeehdegaa", sum := "75ea94c4aa4d142051d45712e7c6c7e94bced58496b193493fb59568cd4e63a1", checked := Try.checked }
namespace Rows
def none {H : Type} : Left H := { results := [], args := [] }

/-- 'platterholdlaw1.MerkleWay': WHATEVER THE INPUT: true; the input reads as it did. -/
def merkleWaySpec : ChangeSpec := { name := "merkleWay", fn := fun _ => fun
  | [d1, d2] => { results := [.lit (.bool true)], args := [d1, d2] }
  | _ => none }
def merkleWayRow : OpenClaim := { program := "ytfokhdoeehdegaa", sum := "75ea94c4aa4d142051d45712e7c6c7e94bced58496b193493fb59568cd4e63a1", func := "platterhold/platterholdlaw1.MerkleWay", spec := "merkleWay", unfollowed := true, recurses := true, apart := false }
def MerkleWaySaid : Prop := merkleWayRow.holds Try.pinned (OpenSpec.ofChange merkleWaySpec)

/-- ITS FALSE NEIGHBOUR: 'it returns false'. Refute it at one input. -/
def merkleWayWrong : ChangeSpec := { name := "merkleWay", fn := fun _ => fun
  | [d1, d2] => { results := [.lit (.bool false)], args := [d1, d2] }
  | _ => none }
def MerkleWayWrongFalsely : Prop := merkleWayRow.holds Try.pinned (OpenSpec.ofChange merkleWayWrong)

/-- 'platterholdlaw1.MerkleChange': WHATEVER THE INPUT: true; the input reads as it did. -/
def merkleChangeSpec : ChangeSpec := { name := "merkleChange", fn := fun _ => fun
  | [d1, d2, d3] => { results := [.lit (.bool true)], args := [d1, d2, d3] }
  | _ => none }
def merkleChangeRow : OpenClaim := { program := "ytfokhdoeehdegaa", sum := "75ea94c4aa4d142051d45712e7c6c7e94bced58496b193493fb59568cd4e63a1", func := "platterhold/platterholdlaw1.MerkleChange", spec := "merkleChange", unfollowed := true, recurses := true, apart := false }
def MerkleChangeSaid : Prop := merkleChangeRow.holds Try.pinned (OpenSpec.ofChange merkleChangeSpec)

/-- ITS FALSE NEIGHBOUR: 'it returns false'. Refute it at one input. -/
def merkleChangeWrong : ChangeSpec := { name := "merkleChange", fn := fun _ => fun
  | [d1, d2, d3] => { results := [.lit (.bool false)], args := [d1, d2, d3] }
  | _ => none }
def MerkleChangeWrongFalsely : Prop := merkleChangeRow.holds Try.pinned (OpenSpec.ofChange merkleChangeWrong)

/-- 'platterholdlaw1.MerkleLong': WHATEVER THE INPUT: true; the input reads as it did. -/
def merkleLongSpec : ChangeSpec := { name := "merkleLong", fn := fun _ => fun
  | [d1, d2] => { results := [.lit (.bool true)], args := [d1, d2] }
  | _ => none }
def merkleLongRow : OpenClaim := { program := "ytfokhdoeehdegaa", sum := "75ea94c4aa4d142051d45712e7c6c7e94bced58496b193493fb59568cd4e63a1", func := "platterhold/platterholdlaw1.MerkleLong", spec := "merkleLong", unfollowed := true, recurses := true, apart := false }
def MerkleLongSaid : Prop := merkleLongRow.holds Try.pinned (OpenSpec.ofChange merkleLongSpec)

/-- ITS FALSE NEIGHBOUR: 'it returns false'. Refute it at one input. -/
def merkleLongWrong : ChangeSpec := { name := "merkleLong", fn := fun _ => fun
  | [d1, d2] => { results := [.lit (.bool false)], args := [d1, d2] }
  | _ => none }
def MerkleLongWrongFalsely : Prop := merkleLongRow.holds Try.pinned (OpenSpec.ofChange merkleLongWrong)

/-- 'platterholdtop.TopSums': WHATEVER THE INPUT: true; the input reads as it did. -/
def topSumsSpec : ChangeSpec := { name := "topSums", fn := fun _ => fun
  | [d1, d2] => { results := [.lit (.bool true)], args := [d1, d2] }
  | _ => none }
def topSumsRow : OpenClaim := { program := "ytfokhdoeehdegaa", sum := "75ea94c4aa4d142051d45712e7c6c7e94bced58496b193493fb59568cd4e63a1", func := "platterhold/platterholdtop.TopSums", spec := "topSums", unfollowed := true, recurses := true, apart := false }
def TopSumsSaid : Prop := topSumsRow.holds Try.pinned (OpenSpec.ofChange topSumsSpec)

/-- ITS FALSE NEIGHBOUR: 'it returns false'. Refute it at one input. -/
def topSumsWrong : ChangeSpec := { name := "topSums", fn := fun _ => fun
  | [d1, d2] => { results := [.lit (.bool false)], args := [d1, d2] }
  | _ => none }
def TopSumsWrongFalsely : Prop := topSumsRow.holds Try.pinned (OpenSpec.ofChange topSumsWrong)

/- THE SECOND FORM. 'bulk': how many values and letters a reading holds, each counted each time it is reached (what is shared counts as often as it is met; a slice's spare places count too). A statement '..UptoSaid' is the law's where the arguments, and the package variables that the reading takes, are together of bulk at most 1048576: NARROWER than '..Said'. Prove '..Said' where nothing that the law and all that it calls make is longer than what came in: it says more and counts as full. Else prove '..UptoSaid'. A law counts once. -/
mutual
def uptoBulk {H : Type} : DataW H → Nat
  | .lit (.string bytes) => bytes.length + 1
  | .lit _ => 1
  | .nil => 1
  | .ptr d => uptoBulk d + 1
  | .slice elems spare => uptoBulkAll elems + uptoBulkAll spare + 1
  | .agg parts => uptoBulkAll parts + 1
  | .iface _ d => uptoBulk d + 1
  | .map entries => uptoBulkEntries entries + 1
  | .held _ => 1
def uptoBulkAll {H : Type} : List (DataW H) → Nat
  | [] => 0
  | d :: r => uptoBulk d + uptoBulkAll r
def uptoBulkEntries {H : Type} : List (Lit × DataW H) → Nat
  | [] => 0
  | x :: r => uptoBulkEntry x + uptoBulkEntries r
def uptoBulkEntry {H : Type} : Lit × DataW H → Nat
  | (.string bytes, d) => bytes.length + uptoBulk d + 1
  | (_, d) => uptoBulk d + 1
 end
def uptoSmall : (H : Type) → List (DataW H) → Bool := fun _ ds => decide (uptoBulkAll ds ≤ 1048576)
def OpenSpec.upto (s : _root_.Go.ChangeSpec) : _root_.Go.OpenSpec := { _root_.Go.OpenSpec.ofChange s with cond := some uptoSmall }

/-- 'platterholdlaw1.MerkleWay', WHERE WHAT IT READS IS OF BULK AT MOST 1048576: true; the input reads as it did. -/
def merkleWayUptoRow : OpenClaim := { program := "ytfokhdoeehdegaa", sum := "75ea94c4aa4d142051d45712e7c6c7e94bced58496b193493fb59568cd4e63a1", func := "platterhold/platterholdlaw1.MerkleWay", spec := "merkleWay", unfollowed := true, recurses := true, apart := false, narrowed := true }
def MerkleWayUptoSaid : Prop := merkleWayUptoRow.holds Try.pinned (OpenSpec.upto merkleWaySpec)

/-- 'platterholdlaw1.MerkleChange', WHERE WHAT IT READS IS OF BULK AT MOST 1048576: true; the input reads as it did. -/
def merkleChangeUptoRow : OpenClaim := { program := "ytfokhdoeehdegaa", sum := "75ea94c4aa4d142051d45712e7c6c7e94bced58496b193493fb59568cd4e63a1", func := "platterhold/platterholdlaw1.MerkleChange", spec := "merkleChange", unfollowed := true, recurses := true, apart := false, narrowed := true }
def MerkleChangeUptoSaid : Prop := merkleChangeUptoRow.holds Try.pinned (OpenSpec.upto merkleChangeSpec)

/-- 'platterholdlaw1.MerkleLong', WHERE WHAT IT READS IS OF BULK AT MOST 1048576: true; the input reads as it did. -/
def merkleLongUptoRow : OpenClaim := { program := "ytfokhdoeehdegaa", sum := "75ea94c4aa4d142051d45712e7c6c7e94bced58496b193493fb59568cd4e63a1", func := "platterhold/platterholdlaw1.MerkleLong", spec := "merkleLong", unfollowed := true, recurses := true, apart := false, narrowed := true }
def MerkleLongUptoSaid : Prop := merkleLongUptoRow.holds Try.pinned (OpenSpec.upto merkleLongSpec)

/-- 'platterholdtop.TopSums', WHERE WHAT IT READS IS OF BULK AT MOST 1048576: true; the input reads as it did. -/
def topSumsUptoRow : OpenClaim := { program := "ytfokhdoeehdegaa", sum := "75ea94c4aa4d142051d45712e7c6c7e94bced58496b193493fb59568cd4e63a1", func := "platterhold/platterholdtop.TopSums", spec := "topSums", unfollowed := true, recurses := true, apart := false, narrowed := true }
def TopSumsUptoSaid : Prop := topSumsUptoRow.holds Try.pinned (OpenSpec.upto topSumsSpec)

end Rows
end Go.Proofs.Ytfokhdoeehdegaa
