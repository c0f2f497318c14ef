/- This text proves plain facts on how many ones a number has; it speaks of no program; no condition. -/
import Derived.WalkKit
namespace Go.Proofs.YtpkchjdlleeccaaDoor

/-- How many of the lowest bits of a number are ones. -/
def pcF : Nat → Nat → Nat
  | 0, _ => 0
  | f + 1, d => d % 2 + pcF f (d / 2)

theorem pc_zero (k : Nat) : pcF k 0 = 0 := by
  induction k with
  | zero => rfl
  | succ k ih => simp [pcF, ih]

theorem pc_step {x k : Nat} (h0 : 0 < x) (h : x < 2 ^ k) : ∃ k', k = k' + 1 ∧ x / 2 < 2 ^ k' ∧ pcF k x = x % 2 + pcF k' (x / 2) := by
  cases k with
  | zero => simp at h; omega
  | succ k =>
    refine ⟨k, rfl, ?_, rfl⟩
    rw [Nat.pow_succ] at h
    omega

end Go.Proofs.YtpkchjdlleeccaaDoor
