/- This text proves nothing of the program: it says which value an error of package api is, by its number; no condition. -/
import Derived.WalkKit
namespace Go.Proofs.Ythgbknfdbobmiaa

/-- The error of a number, nil for 0. -/
def errV (e : Nat) : Value := if e = 0 then .nilIface else .iface 55 (.int .i64 (e : Int))

theorem errV_zero : errV 0 = .nilIface := rfl
theorem errV_pos {e : Nat} (h : e ≠ 0) : errV e = .iface 55 (.int .i64 (e : Int)) := by simp [errV, h]

end Go.Proofs.Ythgbknfdbobmiaa
