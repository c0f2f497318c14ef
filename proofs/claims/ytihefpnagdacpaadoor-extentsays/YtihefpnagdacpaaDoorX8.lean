/- This text proves what the document's own function Run answers (is a run right?); old memory stays; no condition. -/
import Derived.Test.YtihefpnagdacpaaDoorX7
import Derived.Test.YtihefpnagdacpaaDoorX3
namespace Go.Proofs.YtihefpnagdacpaaDoor
open Go.RowKit Go.Deep

set_option maxHeartbeats 1000000 in
theorem refRun_any (f s : Int) (w : World) :
    Calls Tryd.prog 14 #[.agg #[.int .i64 f, .int .i64 s]] w fun e w' => e = .returned (.bool (rB (f, s))) ∧ Below w.heap.size w w' := by
  by_cases h1 : 0 ≤ f
  · by_cases h2 : f < 1000
    · by_cases h3 : 1 ≤ s
      · by_cases h4 : s ≤ 1000 - f
        · rw [show rB (f, s) = true from by simp [rB, h1, h2, h3, h4]]
          go_enter Tryd.func14, Tryd.ntmps14
          go_wp2
          go_ret
          exact ⟨rfl, below_one _ _⟩
        · rw [show rB (f, s) = false from by simp [rB, h4]]
          go_enter Tryd.func14, Tryd.ntmps14
          go_wp2
          go_ret
          exact ⟨rfl, below_one _ _⟩
      · rw [show rB (f, s) = false from by simp [rB, h3]]
        go_enter Tryd.func14, Tryd.ntmps14
        go_wp2
        go_ret
        exact ⟨rfl, below_one _ _⟩
    · rw [show rB (f, s) = false from by simp [rB, h2]]
      go_enter Tryd.func14, Tryd.ntmps14
      go_wp2
      go_ret
      exact ⟨rfl, below_one _ _⟩
  · rw [show rB (f, s) = false from by simp [rB, h1]]
    go_enter Tryd.func14, Tryd.ntmps14
    go_wp2
    go_ret
    exact ⟨rfl, below_one _ _⟩

end Go.Proofs.YtihefpnagdacpaaDoor
