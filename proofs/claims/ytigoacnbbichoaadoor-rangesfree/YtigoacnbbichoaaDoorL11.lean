/- This text proves what the document's own RightLock answers: whether a lock may be; old memory is as it was; the only condition is that its first place fits its kind of number. -/
import Derived.Test.YtigoacnbbichoaaDoorL2
import Derived.Deep.RegionWith
import Derived.OwnWalk
namespace Go.Proofs.YtigoacnbbichoaaDoor
open Go.RowKit Go.Deep

set_option maxHeartbeats 1000000 in
theorem r2in_any (x lo hi : Int) (w : World) :
    Calls Tryd.prog 21 #[.int .i64 x, .int .i64 lo, .int .i64 hi] w fun e w' => e = .returned (.bool (decide (lo ≤ x ∧ x ≤ hi))) ∧ w = w' := by
  by_cases h1 : lo ≤ x
  · by_cases h2 : x ≤ hi
    · have e : decide (lo ≤ x ∧ x ≤ hi) = true := by simp [h1, h2]
      rw [e]
      go_enter Tryd.func21, Tryd.ntmps21
      go_wp2
      go_ret
      exact ⟨rfl, rfl⟩
    · have e : decide (lo ≤ x ∧ x ≤ hi) = false := by simp [h2]
      rw [e]
      go_enter Tryd.func21, Tryd.ntmps21
      go_wp2
      go_ret
      exact ⟨rfl, rfl⟩
  · have e : decide (lo ≤ x ∧ x ≤ hi) = false := by simp [h1]
    rw [e]
    go_enter Tryd.func21, Tryd.ntmps21
    go_wp2
    go_ret
    exact ⟨rfl, rfl⟩

set_option maxHeartbeats 4000000 in
theorem right_any (o f z : Int) (a : Bool) (w : World) (hf : Fit f) :
    Calls Tryd.prog 10 #[lkV o f z a] w fun e w' => e = .returned (.bool (okK o f z)) ∧ Below w.heap.size w w' := by
  obtain ⟨f1, f2⟩ := hf
  have HA : Hid (∀ w, Calls Tryd.prog 21 #[.int .i64 o, .int .i64 0, .int .i64 3] w fun e w' => e = .returned (.bool (decide (0 ≤ o ∧ o ≤ 3))) ∧ w = w') := fun w => r2in_any o 0 3 w
  have HB : Hid (∀ w, Calls Tryd.prog 21 #[.int .i64 f, .int .i64 0, .int .i64 63] w fun e w' => e = .returned (.bool (decide (0 ≤ f ∧ f ≤ 63))) ∧ w = w') := fun w => r2in_any f 0 63 w
  have HC : Hid (∀ w, Calls Tryd.prog 21 #[.int .i64 z, .int .i64 1, .int .i64 (64 - f)] w fun e w' => e = .returned (.bool (decide (1 ≤ z ∧ z ≤ 64 - f))) ∧ w = w') := fun w => r2in_any z 1 (64 - f) w
  unfold lkV
  by_cases h1 : 0 ≤ o ∧ o ≤ 3
  · rw [decide_eq_true h1] at HA
    by_cases h2 : 0 ≤ f ∧ f ≤ 63
    · rw [decide_eq_true h2] at HB
      have e : okK o f z = decide (1 ≤ z ∧ z ≤ 64 - f) := by
        unfold okK
        by_cases h3 : 1 ≤ z ∧ z ≤ 64 - f
        · rw [decide_eq_true h3]; simp; omega
        · rw [decide_eq_false h3]; simp; omega
      rw [e]
      obtain ⟨h20, h21⟩ := h2
      generalize decide (1 ≤ z ∧ z ≤ 64 - f) = b at HC ⊢
      clear h1 e
      go_enter Tryd.func10, Tryd.ntmps10
      go_wp2_with (first
        | (go_at_call_of 21 (Value.int .i64 3); refine (HA.out _).mono ?_; rintro e w1 ⟨rfl, rfl⟩)
        | (go_at_call_of 21 (Value.int .i64 63); refine (HB.out _).mono ?_; rintro e w1 ⟨rfl, rfl⟩)
        | (go_at_call_of 21 z; refine (HC.out _).mono ?_; rintro e w1 ⟨rfl, rfl⟩))
      go_ret
      exact ⟨rfl, below_one _ _⟩
    · rw [decide_eq_false h2] at HB
      have e : okK o f z = false := by unfold okK; simp; omega
      rw [e]
      clear h1 h2 e
      go_enter Tryd.func10, Tryd.ntmps10
      go_wp2_with (first
        | (go_at_call_of 21 (Value.int .i64 3); refine (HA.out _).mono ?_; rintro e w1 ⟨rfl, rfl⟩)
        | (go_at_call_of 21 (Value.int .i64 63); refine (HB.out _).mono ?_; rintro e w1 ⟨rfl, rfl⟩))
      go_ret
      exact ⟨rfl, below_one _ _⟩
  · rw [decide_eq_false h1] at HA
    have e : okK o f z = false := by unfold okK; simp; omega
    rw [e]
    clear h1 e
    go_enter Tryd.func10, Tryd.ntmps10
    go_wp2_with (go_at_call 21; refine (HA.out _).mono ?_; rintro e w1 ⟨rfl, rfl⟩)
    go_ret
    exact ⟨rfl, below_one _ _⟩

end Go.Proofs.YtigoacnbbichoaaDoor
