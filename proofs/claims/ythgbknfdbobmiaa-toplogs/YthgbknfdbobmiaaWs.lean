/- This text says how a set of numbers below twenty lies in memory as a map, element by element; it speaks of no call; no condition. -/
import Derived.Test.YthgbknfdbobmiaaWc
import Derived.Maps.OwnSet
import Derived.Maps.Ext
namespace Go.Proofs.Ythgbknfdbobmiaa
open Go.RowKit Go.Deep Go.Maps

/-- Each element is told by itself: it has no parts. -/
def elE : Value → Option (DataW Value × List MemPlace)
  | .agg cs => match cs.toList with
    | [] => some (.held (.agg #[]), [])
    | _ => none
  | _ => none
theorem elE_form {v : Value} {d : DataW Value × List MemPlace} (h : elE v = some d) : v = .agg #[] := by
  unfold elE at h
  split at h
  · rename_i cs
    split at h
    · rename_i e
      obtain ⟨l⟩ := cs
      have e2 : l = [] := e
      subst e2
      rfl
    · cases h
  · cases h
def kyL (k : Nat) : Lit := .int .i64 (k : Int)
theorem kyL_ne {k j : Nat} (h : k ≠ j) : kyL k ≠ kyL j := fun e => h (by unfold kyL at e; cases e; rfl)
theorem keyed3 : Keyed Try.prog 3 := int_keyed Try.underlying3
theorem kyL_is {k : Nat} (h : k ≤ 1000) : WideAt.IsKeyLit (kyL k) := keyed3.key (keyOf_int_mk Try.underlying3 (q := .i64) (a := (k : Int)) (WalkArith.wf_i64 (by omega)))
theorem keyOf3 {k : Nat} (h : k ≤ 1000) : keyOf Try.prog 3 (.int .i64 (k : Int)) = some (kyL k) := keyOf_int_mk Try.underlying3 (WalkArith.wf_i64 (by omega))
theorem zeroE (w : World) : (zeroValue 85).run Try.prog w = .ok (.agg #[]) w := by kernel_rfl

theorem Stay.map {S : Nat → Prop} {w w' : World} {b : Nat} (h : w.mapTurned w' b) (hS : S b) : Stay S w w' :=
  have g := h.grown
  ⟨g.os, g.tape, g.output, g.size, fun i hi hn => g.block i hi (fun e => by cases e; exact hn hS)⟩

end Go.Proofs.Ythgbknfdbobmiaa
