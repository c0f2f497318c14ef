/- This text proves that the law ExtentSize returns true for every set and every run: what a run brings, and what of it was there, are all of it; the only condition is that the slice lies there. -/
import Derived.Test.YtihefpnagdacpaaX9
namespace Go.Proofs.Ytihefpnagdacpaa
open Go.RowKit Go.Deep

/-- What a run brings, and what of it was there. -/
theorem size_parts {l : List Rn} {r : Rn} (h1 : chgE orB l r = 0) (h2 : chgE cutB l r = 0) :
    szL (chgL orB l r) - szL (chgL cutB l r) = r.2 ∧ szL l ≤ szL (chgL orB l r) ∧ szL (chgL cutB l r) ≤ szL l ∧ 0 ≤ szL (chgL cutB l r) ∧ szL (chgL orB l r) ≤ 1000 := by
  obtain ⟨a1, a2, a3, a4⟩ := chg_ok h1 rfl
  obtain ⟨b1, b2, _, _⟩ := chg_ok h2 rfl
  have o1 := szL_ok ((runsE_ok _).1 a1).2
  have o2 := szL_ok ((runsE_ok _).1 b1).2
  have o3 := szL_ok a3
  have p1 : cnP (memR (chgL orB l r)) 1000 = cnP (memR (chgL cutB l r)) 1000 + cnP (inR r) 1000 := cnP_parts fun p _ _ => by
    rw [a2, b2]
    unfold orB cutB
    cases memR l p <;> cases inR r p <;> simp
  have p2 : cnP (memR (chgL orB l r)) 1000 = cnP (memR l) 1000 + cnP (fun p => inR r p && !memR l p) 1000 := cnP_parts fun p _ _ => by
    rw [a2]
    unfold orB
    cases memR l p <;> cases inR r p <;> simp
  have p3 : cnP (memR l) 1000 = cnP (memR (chgL cutB l r)) 1000 + cnP (fun p => inR r p && memR l p) 1000 := cnP_parts fun p _ _ => by
    rw [b2]
    unfold cutB
    cases memR l p <;> cases inR r p <;> simp
  have p4 := cnP_run a4
  have p5 := cnP_le (memR (chgL orB l r)) 1000
  omega

set_option maxHeartbeats 4000000 in
set_option maxRecDepth 100000 in
theorem extentSize_walk (w : World) (v : Value) (l : List Rn) (r : Rn) (hx : RunsIs w v l) :
    Calls Try.prog 5 #[v, .agg #[.int .i64 r.1, .int .i64 r.2]] w fun e w' => e = .returned (.bool true) ∧ Below w.heap.size w w' := by
  obtain ⟨F, T, rfl⟩ : ∃ F T, r = (F, T) := ⟨r.1, r.2, rfl⟩
  have HB0 : Hid (Below w.heap.size w (w.alloc (.cells #[.int .i64 F, .int .i64 T] 24))) := below_one _ _
  have HBX : Hid (∀ w1, Below (w.alloc (.cells #[.int .i64 F, .int .i64 T] 24)).heap.size (w.alloc (.cells #[.int .i64 F, .int .i64 T] 24)) w1 → w1.cell? ⟨w.heap.size, 0, none⟩ = some (.int .i64 F) ∧ w1.cell? ⟨w.heap.size, 1, none⟩ = some (.int .i64 T)) := fun w1 h => by
    exact ⟨by rw [h.cell (p := ⟨w.heap.size, 0, none⟩) (by simp)]; exact cell_new _ _ _ _, by rw [h.cell (p := ⟨w.heap.size, 1, none⟩) (by simp)]; exact cell_new _ _ _ _⟩
  have HX : Hid (∀ w1, Below (w.alloc (.cells #[.int .i64 F, .int .i64 T] 24)).heap.size (w.alloc (.cells #[.int .i64 F, .int .i64 T] 24)) w1 → RunsIs w1 v l) := fun w1 h => (hx.later HB0.out).later h
  have HSz : Hid _ := fun (w1 : World) (h : RunsIs w1 v l) => size_any w1 v l h
  have HAd : Hid _ := fun (w1 : World) (h : RunsIs w1 v l) => add_any w1 v l (F, T) h
  have HCu : Hid _ := fun (w1 : World) (h : RunsIs w1 v l) => cut_any w1 v l (F, T) h
  have HS1 : Hid _ := fun (w1 : World) (v1 : Value) (h : RunsIs w1 v1 (chgL orB l (F, T))) => size_any w1 v1 (chgL orB l (F, T)) h
  have HS2 : Hid _ := fun (w1 : World) (v1 : Value) (h : RunsIs w1 v1 (chgL cutB l (F, T))) => size_any w1 v1 (chgL cutB l (F, T)) h
  clear hx
  by_cases h1 : chgE orB l (F, T) = 0
  · have h0 : runsE l = 0 := (chgE_zero.1 h1).1
    rw [h1, errV_zero] at HAd
    rw [h0, errV_zero, if_pos rfl] at HSz
    rw [(chg_ok h1 rfl).1, errV_zero, if_pos rfl] at HS1
    by_cases h2 : chgE cutB l (F, T) = 0
    · rw [h2, errV_zero] at HCu
      rw [(chg_ok h2 rfl).1, errV_zero, if_pos rfl] at HS2
      obtain ⟨q1, q2, q3, q4, q5⟩ := size_parts h1 h2
      clear h1 h2 h0
      generalize szL (chgL orB l (F, T)) = b at HS1 q1 q2 q3 q4 q5
      generalize szL (chgL cutB l (F, T)) = c at HS2 q1 q2 q3 q4 q5
      generalize szL l = a at HSz q1 q2 q3 q4 q5
      have q6 : (b - a) + (a - c) = T := by simp only at q1; omega
      have q7 : ((b - a) + (a - c) == T) = true := by simp [q6]
      clear q6 q1
      simp only at HAd HCu
      go_enter Try.func5, Try.ntmps5
      go_wp2_with (first
        | (go_at_call 7; refine (extentFact_any _).mono ?_; rintro e w1 ⟨rfl, hb1⟩)
        | (go_at_call 10; refine (HAd.out _ (HX.out _ hb2)).mono ?_; rintro e w3 ⟨v3, rfl, hr3, hb3⟩; obtain ⟨c2, c3⟩ := HBX.out w3 (Below.next hb2 hb3))
        | (go_at_call 11; refine (HCu.out _ (HX.out _ (Below.next hb2 hb3))).mono ?_; rintro e w4 ⟨v4, rfl, hr4, hb4⟩; have hr3' := hr3.later hb4)
        | (go_at_call_of 14 v; refine (HSz.out _ (HX.out _ hb1)).mono ?_; rintro e w2 ⟨rfl, hb2'⟩; have hb2 := Below.next hb1 hb2'; obtain ⟨c0, c1⟩ := HBX.out w2 hb2)
        | (go_at_call_of 14 v3; refine (HS1.out _ _ hr3').mono ?_; rintro e w5 ⟨rfl, hb5⟩; have hr4' := hr4.later hb5)
        | (go_at_call_of 14 v4; refine (HS2.out _ _ hr4').mono ?_; rintro e w6 ⟨rfl, hb6⟩; obtain ⟨c4, c5⟩ := HBX.out w6 (Below.next (Below.next (Below.next (Below.next hb2 hb3) hb4) hb5) hb6)))
      go_ret
      exact ⟨rfl, Below.next HB0.out (Below.next (Below.next (Below.next (Below.next hb2 hb3) hb4) hb5) hb6)⟩
    · rw [errV_pos h2] at HCu
      clear h1 h2 h0 HS1 HS2
      generalize ((chgE cutB l (F, T) : Nat) : Int) = z at HCu
      generalize szL l = a at HSz
      simp only at HAd HCu
      go_enter Try.func5, Try.ntmps5
      go_wp2_with (first
        | (go_at_call 7; refine (extentFact_any _).mono ?_; rintro e w1 ⟨rfl, hb1⟩)
        | (go_at_call 10; refine (HAd.out _ (HX.out _ hb2)).mono ?_; rintro e w3 ⟨v3, rfl, hr3, hb3⟩; obtain ⟨c2, c3⟩ := HBX.out w3 (Below.next hb2 hb3))
        | (go_at_call 11; refine (HCu.out _ (HX.out _ (Below.next hb2 hb3))).mono ?_; rintro e w4 ⟨v4, rfl, hr4, hb4⟩)
        | (go_at_call_of 14 v; refine (HSz.out _ (HX.out _ hb1)).mono ?_; rintro e w2 ⟨rfl, hb2'⟩; have hb2 := Below.next hb1 hb2'; obtain ⟨c0, c1⟩ := HBX.out w2 hb2))
      go_ret
      exact ⟨rfl, Below.next HB0.out (Below.next (Below.next hb2 hb3) hb4)⟩
  · rw [errV_pos h1] at HAd
    clear HS1 HS2
    by_cases h0 : runsE l = 0
    · rw [h0, errV_zero, if_pos rfl] at HSz
      clear h0 h1
      generalize ((chgE orB l (F, T) : Nat) : Int) = z at HAd
      generalize errV (chgE cutB l (F, T)) = E3 at HCu
      generalize szL l = a at HSz
      simp only at HAd HCu
      go_enter Try.func5, Try.ntmps5
      go_wp2_with (first
        | (go_at_call 7; refine (extentFact_any _).mono ?_; rintro e w1 ⟨rfl, hb1⟩)
        | (go_at_call 10; refine (HAd.out _ (HX.out _ hb2)).mono ?_; rintro e w3 ⟨v3, rfl, hr3, hb3⟩; obtain ⟨c2, c3⟩ := HBX.out w3 (Below.next hb2 hb3))
        | (go_at_call 11; refine (HCu.out _ (HX.out _ (Below.next hb2 hb3))).mono ?_; rintro e w4 ⟨v4, rfl, hr4, hb4⟩)
        | (go_at_call_of 14 v; refine (HSz.out _ (HX.out _ hb1)).mono ?_; rintro e w2 ⟨rfl, hb2'⟩; have hb2 := Below.next hb1 hb2'; obtain ⟨c0, c1⟩ := HBX.out w2 hb2))
      go_ret
      exact ⟨rfl, Below.next HB0.out (Below.next (Below.next hb2 hb3) hb4)⟩
    · rw [errV_pos h0, if_neg h0] at HSz
      clear h0 h1
      generalize ((chgE orB l (F, T) : Nat) : Int) = z at HAd
      generalize ((runsE l : Nat) : Int) = z1 at HSz
      generalize errV (chgE cutB l (F, T)) = E3 at HCu
      simp only at HAd HCu
      go_enter Try.func5, Try.ntmps5
      go_wp2_with (first
        | (go_at_call 7; refine (extentFact_any _).mono ?_; rintro e w1 ⟨rfl, hb1⟩)
        | (go_at_call 10; refine (HAd.out _ (HX.out _ hb2)).mono ?_; rintro e w3 ⟨v3, rfl, hr3, hb3⟩; obtain ⟨c2, c3⟩ := HBX.out w3 (Below.next hb2 hb3))
        | (go_at_call 11; refine (HCu.out _ (HX.out _ (Below.next hb2 hb3))).mono ?_; rintro e w4 ⟨v4, rfl, hr4, hb4⟩)
        | (go_at_call_of 14 v; refine (HSz.out _ (HX.out _ hb1)).mono ?_; rintro e w2 ⟨rfl, hb2'⟩; have hb2 := Below.next hb1 hb2'; obtain ⟨c0, c1⟩ := HBX.out w2 hb2))
      go_ret
      exact ⟨rfl, Below.next HB0.out (Below.next (Below.next hb2 hb3) hb4)⟩

theorem extentSize_any (w : World) (v v1 : Value) (l : List Rn) (r : Rn) (hx : RunsIs w v l) (h1 : v1 = .agg #[.int .i64 r.1, .int .i64 r.2]) :
    Calls Try.prog 5 #[v, v1] w fun e w' => e = .returned (.bool true) ∧ Below w.heap.size w w' := by
  subst h1
  exact extentSize_walk w v l r hx

end Go.Proofs.Ytihefpnagdacpaa
