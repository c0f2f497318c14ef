/- This text proves that the law ExtentOne returns true for every set and every run: a set has one form; the only condition is that the slice lies there. -/
import Derived.Test.YtihefpnagdacpaaX9
namespace Go.Proofs.Ytihefpnagdacpaa
open Go.RowKit Go.Deep

theorem one_again {l : List Rn} {r : Rn} (h : chgE orB l r = 0) : chgE orB (chgL orB l r) r = 0 ∧ chgL orB (chgL orB l r) r = chgL orB l r := by
  obtain ⟨a1, a2, a3, a4⟩ := chg_ok h rfl
  refine chg_is a1 ((rB_iff r).2 a4) a1 fun p => ?_
  rw [a2]
  unfold orB
  cases memR l p <;> cases inR r p <;> rfl
theorem one_back {l : List Rn} {r : Rn} (h : chgE orB l r = 0) (h2 : chgE cutB l r = 0) : chgE orB (chgL cutB l r) r = 0 ∧ chgL orB (chgL cutB l r) r = chgL orB l r := by
  obtain ⟨a1, a2, a3, a4⟩ := chg_ok h rfl
  obtain ⟨b1, b2, _, _⟩ := chg_ok h2 rfl
  refine chg_is b1 ((rB_iff r).2 a4) a1 fun p => ?_
  rw [a2, b2]
  unfold orB cutB
  cases memR l p <;> cases inR r p <;> rfl
theorem rnB_self (l : List Rn) : rnB l l = true := by unfold rnB; simp

set_option maxHeartbeats 4000000 in
set_option maxRecDepth 100000 in
theorem extentOne_walk (w : World) (v : Value) (l : List Rn) (r : Rn) (hx : RunsIs w v l) :
    Calls Try.prog 4 #[v, .agg #[.int .i64 r.1, .int .i64 r.2]] w fun e w' => e = .returned (.bool true) ∧ Below w.heap.size w w' := by
  obtain ⟨F, T, rfl⟩ : ∃ F T, r = (F, T) := ⟨r.1, r.2, rfl⟩
  have HB0 : Hid (Below w.heap.size w (w.alloc (.cells #[.int .i64 F, .int .i64 T] 24))) := below_one _ _
  have HBX : Hid (∀ w1, Below (w.alloc (.cells #[.int .i64 F, .int .i64 T] 24)).heap.size (w.alloc (.cells #[.int .i64 F, .int .i64 T] 24)) w1 → w1.cell? ⟨w.heap.size, 0, none⟩ = some (.int .i64 F) ∧ w1.cell? ⟨w.heap.size, 1, none⟩ = some (.int .i64 T)) := fun w1 h => by
    exact ⟨by rw [h.cell (p := ⟨w.heap.size, 0, none⟩) (by simp)]; exact cell_new _ _ _ _, by rw [h.cell (p := ⟨w.heap.size, 1, none⟩) (by simp)]; exact cell_new _ _ _ _⟩
  have HX : Hid (∀ w1, Below (w.alloc (.cells #[.int .i64 F, .int .i64 T] 24)).heap.size (w.alloc (.cells #[.int .i64 F, .int .i64 T] 24)) w1 → RunsIs w1 v l) := fun w1 h => (hx.later HB0.out).later h
  have HAd : Hid _ := fun (w1 : World) (h : RunsIs w1 v l) => add_any w1 v l (F, T) h
  have HCu : Hid _ := fun (w1 : World) (h : RunsIs w1 v l) => cut_any w1 v l (F, T) h
  clear hx
  by_cases h1 : chgE orB l (F, T) = 0
  · have HA2 : Hid _ := fun (w1 : World) (v1 : Value) (h : RunsIs w1 v1 (chgL orB l (F, T))) => add_any w1 v1 _ (F, T) h
    have HCk : Hid _ := fun (w1 : World) (v1 : Value) (h : RunsIs w1 v1 (chgL orB l (F, T))) => check_any w1 v1 _ h
    have HEq : Hid _ := fun (w1 : World) (v1 v2 : Value) (h : RunsIs w1 v1 (chgL orB l (F, T))) (h2 : RunsIs w1 v2 (chgL orB l (F, T))) => runs_any w1 v1 v2 _ _ h h2
    rw [(one_again h1).1, (one_again h1).2, errV_zero] at HA2
    rw [(chg_ok h1 rfl).1, errV_zero] at HCk
    rw [rnB_self] at HEq
    rw [h1, errV_zero] at HAd
    by_cases h2 : chgE cutB l (F, T) = 0
    · have HA3 : Hid _ := fun (w1 : World) (v1 : Value) (h : RunsIs w1 v1 (chgL cutB l (F, T))) => add_any w1 v1 _ (F, T) h
      rw [(one_back h1 h2).1, (one_back h1 h2).2, errV_zero] at HA3
      rw [h2, errV_zero] at HCu
      clear h1 h2
      generalize chgL orB l (F, T) = M at HAd HA2 HCk HEq HA3
      generalize chgL cutB l (F, T) = L2 at HCu HA3
      simp only at HAd HA2 HA3 HCu
      go_enter Try.func4, Try.ntmps4
      go_wp2_with (first
        | (go_at_call 7; refine (extentFact_any _).mono ?_; rintro e w1 ⟨rfl, hb1⟩; obtain ⟨c0, c1⟩ := HBX.out w1 hb1)
        | (go_at_call_of 10 v; refine (HAd.out _ (HX.out _ hb1)).mono ?_; rintro e w2 ⟨v2, rfl, hr2, hb2⟩; obtain ⟨c2, c3⟩ := HBX.out w2 (Below.next hb1 hb2))
        | (go_at_call_of 10 v2; refine (HA2.out _ _ hr2).mono ?_; rintro e w3 ⟨v3, rfl, hr3, hb3⟩; have hB3 := Below.next (Below.next hb1 hb2) hb3; have hr2a := hr2.later hb3)
        | (go_at_call_of 12 v3; refine (HEq.out _ _ _ hr2a hr3).mono ?_; rintro e w4 ⟨rfl, q4, rfl⟩)
        | (go_at_call 13; refine (HCk.out _ _ (hr2a.later (below_drew _ _ _))).mono ?_; rintro e w5 ⟨rfl, hb5⟩; have hB5 := Below.next (Below.next hB3 (below_drew _ _ _)) hb5; obtain ⟨c4, c5⟩ := HBX.out w5 hB5; have hr2b := (hr2a.later (below_drew _ _ _)).later hb5)
        | (go_at_call 11; refine (HCu.out _ (HX.out _ hB5)).mono ?_; rintro e w6 ⟨v6, rfl, hr6, hb6⟩; obtain ⟨c6, c7⟩ := HBX.out w6 (Below.next hB5 hb6); have hr2c := hr2b.later hb6)
        | (go_at_call_of 10 v6; refine (HA3.out _ _ hr6).mono ?_; rintro e w7 ⟨v7, rfl, hr7, hb7⟩; have hr2d := hr2c.later hb7)
        | (go_at_call_of 12 v7; refine (HEq.out _ _ _ hr7 hr2d).mono ?_; rintro e w8 ⟨rfl, q8, rfl⟩))
      go_ret
      exact ⟨rfl, Below.next HB0.out (Below.next (Below.next (Below.next hB5 hb6) hb7) (below_drew _ _ _))⟩
    · rw [errV_pos h2] at HCu
      clear h1 h2
      generalize ((chgE cutB l (F, T) : Nat) : Int) = z at HCu
      generalize chgL orB l (F, T) = M at HAd HA2 HCk HEq
      generalize chgL cutB l (F, T) = L2 at HCu
      simp only at HAd HA2 HCu
      go_enter Try.func4, Try.ntmps4
      go_wp2_with (first
        | (go_at_call 7; refine (extentFact_any _).mono ?_; rintro e w1 ⟨rfl, hb1⟩; obtain ⟨c0, c1⟩ := HBX.out w1 hb1)
        | (go_at_call_of 10 v; refine (HAd.out _ (HX.out _ hb1)).mono ?_; rintro e w2 ⟨v2, rfl, hr2, hb2⟩; obtain ⟨c2, c3⟩ := HBX.out w2 (Below.next hb1 hb2))
        | (go_at_call_of 10 v2; refine (HA2.out _ _ hr2).mono ?_; rintro e w3 ⟨v3, rfl, hr3, hb3⟩; have hB3 := Below.next (Below.next hb1 hb2) hb3; have hr2a := hr2.later hb3)
        | (go_at_call_of 12 v3; refine (HEq.out _ _ _ hr2a hr3).mono ?_; rintro e w4 ⟨rfl, q4, rfl⟩)
        | (go_at_call 13; refine (HCk.out _ _ (hr2a.later (below_drew _ _ _))).mono ?_; rintro e w5 ⟨rfl, hb5⟩; have hB5 := Below.next (Below.next hB3 (below_drew _ _ _)) hb5; obtain ⟨c4, c5⟩ := HBX.out w5 hB5)
        | (go_at_call 11; refine (HCu.out _ (HX.out _ hB5)).mono ?_; rintro e w6 ⟨v6, rfl, hr6, hb6⟩))
      go_ret
      exact ⟨rfl, Below.next HB0.out (Below.next hB5 hb6)⟩
  · have HE : Hid (chgL orB l (F, T) = []) := by show chgL orB l (F, T) = []; unfold chgL; rw [if_neg h1]
    rw [errV_pos h1, HE.out] at HAd
    clear h1 HE
    generalize ((chgE orB l (F, T) : Nat) : Int) = z at HAd
    simp only at HAd
    go_enter Try.func4, Try.ntmps4
    go_wp2_with (first
      | (go_at_call 7; refine (extentFact_any _).mono ?_; rintro e w1 ⟨rfl, hb1⟩; obtain ⟨c0, c1⟩ := HBX.out w1 hb1)
      | (go_at_call_of 10 v; refine (HAd.out _ (HX.out _ hb1)).mono ?_; rintro e w2 ⟨v2, rfl, hr2, hb2⟩; obtain ⟨a2, cp2, rfl, _, _⟩ := hr2))
    go_ret
    exact ⟨rfl, Below.next HB0.out (Below.next hb1 hb2)⟩

theorem extentOne_any (w : World) (v v1 : Value) (l : List Rn) (r : Rn) (hx : RunsIs w v l) (h1 : v1 = .agg #[.int .i64 r.1, .int .i64 r.2]) :
    Calls Try.prog 4 #[v, v1] w fun e w' => e = .returned (.bool true) ∧ Below w.heap.size w w' := by
  subst h1
  exact extentOne_walk w v l r hx

end Go.Proofs.Ytihefpnagdacpaa
