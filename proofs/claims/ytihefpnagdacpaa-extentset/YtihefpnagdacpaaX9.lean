/- This text proves the closed fact of the laws on extents: it holds; old memory stays; no condition. -/
import Derived.Test.YtihefpnagdacpaaX7
import Derived.Test.YtihefpnagdacpaaX3
namespace Go.Proofs.Ytihefpnagdacpaa
open Go.RowKit Go.Deep

theorem fact_add : chgE orB [(1, 2)] (3, 1) = 0 ∧ chgL orB [(1, 2)] (3, 1) = [(1, 3)] := by
  refine chg_is (by decide) (by decide) (by decide) fun p => ?_
  rw [memR_one, memR_one]
  unfold orB
  rw [Bool.eq_iff_iff, Bool.or_eq_true, inR_iff, inR_iff, inR_iff]
  simp only
  omega
theorem fact_cut : chgE cutB [(1, 3)] (2, 1) = 0 ∧ chgL cutB [(1, 3)] (2, 1) = [(1, 1), (3, 1)] := by
  refine chg_is (by decide) (by decide) (by decide) fun p => ?_
  rw [memR_cons, memR_one, memR_one]
  unfold cutB
  rw [Bool.eq_iff_iff, Bool.or_eq_true, Bool.and_eq_true, Bool.not_eq_true', inR_iff, inR_iff, inR_iff, inR_false]
  simp only
  omega

theorem runs_lit (w : World) (f s : Int) (t : TypeId) : RunsIs (w.alloc (.cells #[.int .i64 f, .int .i64 s] t)) (.slice (some ⟨w.heap.size, 0, none⟩) 1 1) [(f, s)] := by
  refine ⟨_, 1, rfl, by unfold maxLen; simp, fun _ => ⟨w.heap.size, 0, rfl, by simp, fun i hi => ?_⟩⟩
  obtain rfl : i = 0 := by simpa using hi
  exact ⟨cell_new _ _ _ _, cell_new _ _ _ _⟩

set_option maxHeartbeats 1000000 in
theorem extentFact_any (w : World) : Calls Try.prog 7 #[] w fun e w' => e = .returned (.bool true) ∧ Below w.heap.size w w' := by
  have HA : Hid _ := fun (_ : Nat) => add_any _ _ [(1, 2)] (3, 1) (runs_lit w 1 2 24)
  have HC : Hid _ := fun (w1 : World) (v1 : Value) (h : RunsIs w1 v1 [(1, 3)]) => cut_any w1 v1 [(1, 3)] (2, 1) h
  have HS : Hid _ := fun (w2 : World) (v1 v2 : Value) (h : RunsIs w2 v1 [(1, 3)]) (h2 : RunsIs w2 v2 [(1, 3)]) => runs_any w2 v1 v2 [(1, 3)] [(1, 3)] h h2
  rw [fact_add.1, fact_add.2] at HA
  rw [fact_cut.1, fact_cut.2] at HC
  rw [show rnB [(1, 3)] [(1, 3)] = true from by decide] at HS
  rw [errV_zero] at HA HC
  simp only at HA HC
  go_enter Try.func7, Try.ntmps7
  go_wp2_with (first
    | (go_at_call 10; refine (HA.out 0).mono ?_; rintro e w1 ⟨v1, rfl, hr1, hb1⟩)
    | (go_at_call 11; refine (HC.out _ _ hr1).mono ?_; rintro e w2 ⟨v2, rfl, hr2, hb2⟩; obtain ⟨a2, c2, _, _, rfl, _, _⟩ := hr2.where)
    | (go_at_call 12; refine (HS.out _ _ _ ((hr1.later hb2).later (below_one _ _)) (runs_lit _ 1 3 24)).mono ?_; rintro e w3 ⟨rfl, q3, rfl⟩))
  go_ret
  exact ⟨rfl, Below.next (Below.next (Below.next (Below.next (below_one _ _) hb1) hb2) (below_one _ _)) (below_drew _ _ _)⟩

end Go.Proofs.Ytihefpnagdacpaa
