/- This text proves that the law ExtentSet returns true for every set, every run and every place: a set is its places; the only condition is that the slice lies there. -/
import Derived.Test.YtihefpnagdacpaaX8
import Derived.Test.YtihefpnagdacpaaX9
namespace Go.Proofs.Ytihefpnagdacpaa
open Go.RowKit Go.Deep

theorem has_ok (w : World) (v : Value) (l : List Rn) (p : Int) (hx : RunsIs w v l) (h0 : runsE l = 0) :
    Calls Try.prog 8 #[v, .int .i64 p] w fun e w' => e = .returned (.tuple #[.bool (memR l p), .nilIface]) ∧ Below w.heap.size w w' := by
  have := has_any w v l p hx
  rw [h0, errV_zero] at this
  simpa using this

theorem rbox (w : World) (F T : Int) : ∀ w1, Below (w.alloc (.cells #[.int .i64 F, .int .i64 T] 24)).heap.size (w.alloc (.cells #[.int .i64 F, .int .i64 T] 24)) w1 → w1.cell? ⟨w.heap.size, 0, none⟩ = some (.int .i64 F) ∧ w1.cell? ⟨w.heap.size, 1, none⟩ = some (.int .i64 T) := fun w1 h => by
  exact ⟨by rw [h.cell (p := ⟨w.heap.size, 0, none⟩) (by simp)]; exact cell_new _ _ _ _, by rw [h.cell (p := ⟨w.heap.size, 1, none⟩) (by simp)]; exact cell_new _ _ _ _⟩

set_option maxHeartbeats 4000000 in
set_option maxRecDepth 100000 in
theorem set_Nxee (w : World) (v : Value) (l : List Rn) (F T p : Int) (hx : RunsIs w v l) (h0 : runsE l = 0) (hr : rB (F, T) = false) (ha : chgE orB l (F, T) ≠ 0) (hc : chgE cutB l (F, T) ≠ 0) :
    Calls Try.prog 3 #[v, .agg #[.int .i64 F, .int .i64 T], .int .i64 p] w fun e w' => e = .returned (.bool true) ∧ Below w.heap.size w w' := by
  have HB0 : Hid (Below w.heap.size w (w.alloc (.cells #[.int .i64 F, .int .i64 T] 24))) := below_one _ _
  have HBX : Hid _ := rbox w F T
  have HX : Hid (∀ w1, Below (w.alloc (.cells #[.int .i64 F, .int .i64 T] 24)).heap.size (w.alloc (.cells #[.int .i64 F, .int .i64 T] 24)) w1 → RunsIs w1 v l) := fun w1 h => (hx.later HB0.out).later h
  have HH : Hid _ := fun (w1 : World) (h : RunsIs w1 v l) => has_ok w1 v l p h h0
  have HR : Hid _ := fun (w1 : World) => refRun_any F T w1
  have HAd : Hid _ := fun (w1 : World) (h : RunsIs w1 v l) => add_any w1 v l (F, T) h
  have HCu : Hid _ := fun (w1 : World) (h : RunsIs w1 v l) => cut_any w1 v l (F, T) h
  generalize memR l p = was at HH
  rw [hr] at HR
  rw [errV_pos ha] at HAd
  generalize ((chgE orB l (F, T) : Nat) : Int) = za at HAd
  rw [errV_pos hc] at HCu
  generalize ((chgE cutB l (F, T) : Nat) : Int) = zc at HCu
  clear hx h0 hr ha hc
  generalize chgL orB l (F, T) = M1 at HAd
  generalize chgL cutB l (F, T) = M2 at HCu
  simp only at HAd HCu
  go_enter Try.func3, Try.ntmps3
  go_wp2_with (first
    | (go_at_call 7; refine (extentFact_any _).mono ?_; rintro e w1 ⟨rfl, hb1⟩)
    | (go_at_call_of 8 v; refine (HH.out _ (HX.out _ hb1)).mono ?_; rintro e w2 ⟨rfl, hb2⟩; have hB2 := Below.next hb1 hb2; obtain ⟨c0, c1⟩ := HBX.out w2 hB2)
    | (go_at_call 9; refine (HR.out _).mono ?_; rintro e w3 ⟨rfl, hb3⟩; have hB3 := Below.next hB2 hb3; obtain ⟨c2, c3⟩ := HBX.out w3 hB3)
    | (go_at_call 10; refine (HAd.out _ (HX.out _ hB3)).mono ?_; rintro e w4 ⟨v4, rfl, hr4, hb4⟩; have hB5 := Below.next hB3 hb4; obtain ⟨c4, c5⟩ := HBX.out w4 hB5)
    | (go_at_call 11; refine (HCu.out _ (HX.out _ hB5)).mono ?_; rintro e w6 ⟨v6, rfl, hr6, hb6⟩; have hB6 := Below.next hB5 hb6))
  go_ret
  exact ⟨rfl, Below.next HB0.out hB6⟩

set_option maxHeartbeats 4000000 in
set_option maxRecDepth 100000 in
theorem set_Atoo (w : World) (v : Value) (l : List Rn) (F T p : Int) (hx : RunsIs w v l) (h0 : runsE l = 0) (hr : rB (F, T) = true) (k1 : ¬ F ≤ p) (hw : memR l p = true) (ha : chgE orB l (F, T) = 0) (hc : chgE cutB l (F, T) = 0) :
    Calls Try.prog 3 #[v, .agg #[.int .i64 F, .int .i64 T], .int .i64 p] w fun e w' => e = .returned (.bool true) ∧ Below w.heap.size w w' := by
  have HB0 : Hid (Below w.heap.size w (w.alloc (.cells #[.int .i64 F, .int .i64 T] 24))) := below_one _ _
  have HBX : Hid _ := rbox w F T
  have HX : Hid (∀ w1, Below (w.alloc (.cells #[.int .i64 F, .int .i64 T] 24)).heap.size (w.alloc (.cells #[.int .i64 F, .int .i64 T] 24)) w1 → RunsIs w1 v l) := fun w1 h => (hx.later HB0.out).later h
  have HH : Hid _ := fun (w1 : World) (h : RunsIs w1 v l) => has_ok w1 v l p h h0
  have HR : Hid _ := fun (w1 : World) => refRun_any F T w1
  have HAd : Hid _ := fun (w1 : World) (h : RunsIs w1 v l) => add_any w1 v l (F, T) h
  have HCu : Hid _ := fun (w1 : World) (h : RunsIs w1 v l) => cut_any w1 v l (F, T) h
  rw [hw] at HH
  rw [hr] at HR
  have hi : inR (F, T) p = false := (inR_false _ _).2 (fun h => k1 h.1)
  have hrr := (rB_iff _).1 hr
  unfold isR at hrr
  obtain ⟨r1, r2, r3, r4⟩ := hrr
  simp only at r1 r2 r3 r4
  have HM1 : Hid _ := fun (w1 : World) (v1 : Value) (h : RunsIs w1 v1 (chgL orB l (F, T))) => has_ok w1 v1 _ p h (chg_ok ha rfl).1
  rw [(chg_ok ha rfl).2.1, hw, hi] at HM1
  rw [ha, errV_zero] at HAd
  rw [show orB true false = true from rfl] at HM1
  have HM2 : Hid _ := fun (w1 : World) (v1 : Value) (h : RunsIs w1 v1 (chgL cutB l (F, T))) => has_ok w1 v1 _ p h (chg_ok hc rfl).1
  rw [(chg_ok hc rfl).2.1, hw, hi] at HM2
  rw [hc, errV_zero] at HCu
  rw [show cutB true false = true from rfl] at HM2
  clear hx h0 hr ha hc hw hi
  generalize chgL orB l (F, T) = M1 at HAd HM1
  generalize chgL cutB l (F, T) = M2 at HCu HM2
  simp only at HAd HCu
  go_enter Try.func3, Try.ntmps3
  go_wp2_with (first
    | (go_at_call 7; refine (extentFact_any _).mono ?_; rintro e w1 ⟨rfl, hb1⟩)
    | (go_at_call_of 8 v; refine (HH.out _ (HX.out _ hb1)).mono ?_; rintro e w2 ⟨rfl, hb2⟩; have hB2 := Below.next hb1 hb2; obtain ⟨c0, c1⟩ := HBX.out w2 hB2)
    | (go_at_call 9; refine (HR.out _).mono ?_; rintro e w3 ⟨rfl, hb3⟩; have hB3 := Below.next hB2 hb3; obtain ⟨c2, c3⟩ := HBX.out w3 hB3)
    | (go_at_call 10; refine (HAd.out _ (HX.out _ hB3)).mono ?_; rintro e w4 ⟨v4, rfl, hr4, hb4⟩; have hB4 := Below.next hB3 hb4)
    | (go_at_call_of 8 v4; refine (HM1.out _ _ hr4).mono ?_; rintro e w5 ⟨rfl, hb5⟩; have hB5 := Below.next hB4 hb5; obtain ⟨c4, c5⟩ := HBX.out w5 hB5)
    | (go_at_call 11; refine (HCu.out _ (HX.out _ hB5)).mono ?_; rintro e w6 ⟨v6, rfl, hr6, hb6⟩; have hB6 := Below.next hB5 hb6)
    | (go_at_call_of 8 v6; refine (HM2.out _ _ hr6).mono ?_; rintro e w7 ⟨rfl, hb7⟩; have hB7 := Below.next hB6 hb7))
  go_ret
  exact ⟨rfl, Below.next HB0.out hB7⟩

set_option maxHeartbeats 4000000 in
set_option maxRecDepth 100000 in
theorem set_Atoe (w : World) (v : Value) (l : List Rn) (F T p : Int) (hx : RunsIs w v l) (h0 : runsE l = 0) (hr : rB (F, T) = true) (k1 : ¬ F ≤ p) (hw : memR l p = true) (ha : chgE orB l (F, T) = 0) (hc : chgE cutB l (F, T) ≠ 0) :
    Calls Try.prog 3 #[v, .agg #[.int .i64 F, .int .i64 T], .int .i64 p] w fun e w' => e = .returned (.bool true) ∧ Below w.heap.size w w' := by
  have HB0 : Hid (Below w.heap.size w (w.alloc (.cells #[.int .i64 F, .int .i64 T] 24))) := below_one _ _
  have HBX : Hid _ := rbox w F T
  have HX : Hid (∀ w1, Below (w.alloc (.cells #[.int .i64 F, .int .i64 T] 24)).heap.size (w.alloc (.cells #[.int .i64 F, .int .i64 T] 24)) w1 → RunsIs w1 v l) := fun w1 h => (hx.later HB0.out).later h
  have HH : Hid _ := fun (w1 : World) (h : RunsIs w1 v l) => has_ok w1 v l p h h0
  have HR : Hid _ := fun (w1 : World) => refRun_any F T w1
  have HAd : Hid _ := fun (w1 : World) (h : RunsIs w1 v l) => add_any w1 v l (F, T) h
  have HCu : Hid _ := fun (w1 : World) (h : RunsIs w1 v l) => cut_any w1 v l (F, T) h
  rw [hw] at HH
  rw [hr] at HR
  have hi : inR (F, T) p = false := (inR_false _ _).2 (fun h => k1 h.1)
  have hrr := (rB_iff _).1 hr
  unfold isR at hrr
  obtain ⟨r1, r2, r3, r4⟩ := hrr
  simp only at r1 r2 r3 r4
  have HM1 : Hid _ := fun (w1 : World) (v1 : Value) (h : RunsIs w1 v1 (chgL orB l (F, T))) => has_ok w1 v1 _ p h (chg_ok ha rfl).1
  rw [(chg_ok ha rfl).2.1, hw, hi] at HM1
  rw [ha, errV_zero] at HAd
  rw [show orB true false = true from rfl] at HM1
  rw [errV_pos hc] at HCu
  generalize ((chgE cutB l (F, T) : Nat) : Int) = zc at HCu
  clear hx h0 hr ha hc hw hi
  generalize chgL orB l (F, T) = M1 at HAd HM1
  generalize chgL cutB l (F, T) = M2 at HCu
  simp only at HAd HCu
  go_enter Try.func3, Try.ntmps3
  go_wp2_with (first
    | (go_at_call 7; refine (extentFact_any _).mono ?_; rintro e w1 ⟨rfl, hb1⟩)
    | (go_at_call_of 8 v; refine (HH.out _ (HX.out _ hb1)).mono ?_; rintro e w2 ⟨rfl, hb2⟩; have hB2 := Below.next hb1 hb2; obtain ⟨c0, c1⟩ := HBX.out w2 hB2)
    | (go_at_call 9; refine (HR.out _).mono ?_; rintro e w3 ⟨rfl, hb3⟩; have hB3 := Below.next hB2 hb3; obtain ⟨c2, c3⟩ := HBX.out w3 hB3)
    | (go_at_call 10; refine (HAd.out _ (HX.out _ hB3)).mono ?_; rintro e w4 ⟨v4, rfl, hr4, hb4⟩; have hB4 := Below.next hB3 hb4)
    | (go_at_call_of 8 v4; refine (HM1.out _ _ hr4).mono ?_; rintro e w5 ⟨rfl, hb5⟩; have hB5 := Below.next hB4 hb5; obtain ⟨c4, c5⟩ := HBX.out w5 hB5)
    | (go_at_call 11; refine (HCu.out _ (HX.out _ hB5)).mono ?_; rintro e w6 ⟨v6, rfl, hr6, hb6⟩; have hB6 := Below.next hB5 hb6))
  go_ret
  exact ⟨rfl, Below.next HB0.out hB6⟩

set_option maxHeartbeats 4000000 in
set_option maxRecDepth 100000 in
theorem set_Ateo (w : World) (v : Value) (l : List Rn) (F T p : Int) (hx : RunsIs w v l) (h0 : runsE l = 0) (hr : rB (F, T) = true) (k1 : ¬ F ≤ p) (hw : memR l p = true) (ha : chgE orB l (F, T) ≠ 0) (hc : chgE cutB l (F, T) = 0) :
    Calls Try.prog 3 #[v, .agg #[.int .i64 F, .int .i64 T], .int .i64 p] w fun e w' => e = .returned (.bool true) ∧ Below w.heap.size w w' := by
  have HB0 : Hid (Below w.heap.size w (w.alloc (.cells #[.int .i64 F, .int .i64 T] 24))) := below_one _ _
  have HBX : Hid _ := rbox w F T
  have HX : Hid (∀ w1, Below (w.alloc (.cells #[.int .i64 F, .int .i64 T] 24)).heap.size (w.alloc (.cells #[.int .i64 F, .int .i64 T] 24)) w1 → RunsIs w1 v l) := fun w1 h => (hx.later HB0.out).later h
  have HH : Hid _ := fun (w1 : World) (h : RunsIs w1 v l) => has_ok w1 v l p h h0
  have HR : Hid _ := fun (w1 : World) => refRun_any F T w1
  have HAd : Hid _ := fun (w1 : World) (h : RunsIs w1 v l) => add_any w1 v l (F, T) h
  have HCu : Hid _ := fun (w1 : World) (h : RunsIs w1 v l) => cut_any w1 v l (F, T) h
  rw [hw] at HH
  rw [hr] at HR
  have hi : inR (F, T) p = false := (inR_false _ _).2 (fun h => k1 h.1)
  have hrr := (rB_iff _).1 hr
  unfold isR at hrr
  obtain ⟨r1, r2, r3, r4⟩ := hrr
  simp only at r1 r2 r3 r4
  rw [errV_pos ha] at HAd
  generalize ((chgE orB l (F, T) : Nat) : Int) = za at HAd
  have HM2 : Hid _ := fun (w1 : World) (v1 : Value) (h : RunsIs w1 v1 (chgL cutB l (F, T))) => has_ok w1 v1 _ p h (chg_ok hc rfl).1
  rw [(chg_ok hc rfl).2.1, hw, hi] at HM2
  rw [hc, errV_zero] at HCu
  rw [show cutB true false = true from rfl] at HM2
  clear hx h0 hr ha hc hw hi
  generalize chgL orB l (F, T) = M1 at HAd
  generalize chgL cutB l (F, T) = M2 at HCu HM2
  simp only at HAd HCu
  go_enter Try.func3, Try.ntmps3
  go_wp2_with (first
    | (go_at_call 7; refine (extentFact_any _).mono ?_; rintro e w1 ⟨rfl, hb1⟩)
    | (go_at_call_of 8 v; refine (HH.out _ (HX.out _ hb1)).mono ?_; rintro e w2 ⟨rfl, hb2⟩; have hB2 := Below.next hb1 hb2; obtain ⟨c0, c1⟩ := HBX.out w2 hB2)
    | (go_at_call 9; refine (HR.out _).mono ?_; rintro e w3 ⟨rfl, hb3⟩; have hB3 := Below.next hB2 hb3; obtain ⟨c2, c3⟩ := HBX.out w3 hB3)
    | (go_at_call 10; refine (HAd.out _ (HX.out _ hB3)).mono ?_; rintro e w4 ⟨v4, rfl, hr4, hb4⟩; have hB5 := Below.next hB3 hb4; obtain ⟨c4, c5⟩ := HBX.out w4 hB5)
    | (go_at_call 11; refine (HCu.out _ (HX.out _ hB5)).mono ?_; rintro e w6 ⟨v6, rfl, hr6, hb6⟩; have hB6 := Below.next hB5 hb6)
    | (go_at_call_of 8 v6; refine (HM2.out _ _ hr6).mono ?_; rintro e w7 ⟨rfl, hb7⟩; have hB7 := Below.next hB6 hb7))
  go_ret
  exact ⟨rfl, Below.next HB0.out hB7⟩

set_option maxHeartbeats 4000000 in
set_option maxRecDepth 100000 in
theorem set_Atee (w : World) (v : Value) (l : List Rn) (F T p : Int) (hx : RunsIs w v l) (h0 : runsE l = 0) (hr : rB (F, T) = true) (k1 : ¬ F ≤ p) (hw : memR l p = true) (ha : chgE orB l (F, T) ≠ 0) (hc : chgE cutB l (F, T) ≠ 0) :
    Calls Try.prog 3 #[v, .agg #[.int .i64 F, .int .i64 T], .int .i64 p] w fun e w' => e = .returned (.bool true) ∧ Below w.heap.size w w' := by
  have HB0 : Hid (Below w.heap.size w (w.alloc (.cells #[.int .i64 F, .int .i64 T] 24))) := below_one _ _
  have HBX : Hid _ := rbox w F T
  have HX : Hid (∀ w1, Below (w.alloc (.cells #[.int .i64 F, .int .i64 T] 24)).heap.size (w.alloc (.cells #[.int .i64 F, .int .i64 T] 24)) w1 → RunsIs w1 v l) := fun w1 h => (hx.later HB0.out).later h
  have HH : Hid _ := fun (w1 : World) (h : RunsIs w1 v l) => has_ok w1 v l p h h0
  have HR : Hid _ := fun (w1 : World) => refRun_any F T w1
  have HAd : Hid _ := fun (w1 : World) (h : RunsIs w1 v l) => add_any w1 v l (F, T) h
  have HCu : Hid _ := fun (w1 : World) (h : RunsIs w1 v l) => cut_any w1 v l (F, T) h
  rw [hw] at HH
  rw [hr] at HR
  have hi : inR (F, T) p = false := (inR_false _ _).2 (fun h => k1 h.1)
  have hrr := (rB_iff _).1 hr
  unfold isR at hrr
  obtain ⟨r1, r2, r3, r4⟩ := hrr
  simp only at r1 r2 r3 r4
  rw [errV_pos ha] at HAd
  generalize ((chgE orB l (F, T) : Nat) : Int) = za at HAd
  rw [errV_pos hc] at HCu
  generalize ((chgE cutB l (F, T) : Nat) : Int) = zc at HCu
  clear hx h0 hr ha hc hw hi
  generalize chgL orB l (F, T) = M1 at HAd
  generalize chgL cutB l (F, T) = M2 at HCu
  simp only at HAd HCu
  go_enter Try.func3, Try.ntmps3
  go_wp2_with (first
    | (go_at_call 7; refine (extentFact_any _).mono ?_; rintro e w1 ⟨rfl, hb1⟩)
    | (go_at_call_of 8 v; refine (HH.out _ (HX.out _ hb1)).mono ?_; rintro e w2 ⟨rfl, hb2⟩; have hB2 := Below.next hb1 hb2; obtain ⟨c0, c1⟩ := HBX.out w2 hB2)
    | (go_at_call 9; refine (HR.out _).mono ?_; rintro e w3 ⟨rfl, hb3⟩; have hB3 := Below.next hB2 hb3; obtain ⟨c2, c3⟩ := HBX.out w3 hB3)
    | (go_at_call 10; refine (HAd.out _ (HX.out _ hB3)).mono ?_; rintro e w4 ⟨v4, rfl, hr4, hb4⟩; have hB5 := Below.next hB3 hb4; obtain ⟨c4, c5⟩ := HBX.out w4 hB5)
    | (go_at_call 11; refine (HCu.out _ (HX.out _ hB5)).mono ?_; rintro e w6 ⟨v6, rfl, hr6, hb6⟩; have hB6 := Below.next hB5 hb6))
  go_ret
  exact ⟨rfl, Below.next HB0.out hB6⟩

set_option maxHeartbeats 4000000 in
set_option maxRecDepth 100000 in
theorem set_Afoo (w : World) (v : Value) (l : List Rn) (F T p : Int) (hx : RunsIs w v l) (h0 : runsE l = 0) (hr : rB (F, T) = true) (k1 : ¬ F ≤ p) (hw : memR l p = false) (ha : chgE orB l (F, T) = 0) (hc : chgE cutB l (F, T) = 0) :
    Calls Try.prog 3 #[v, .agg #[.int .i64 F, .int .i64 T], .int .i64 p] w fun e w' => e = .returned (.bool true) ∧ Below w.heap.size w w' := by
  have HB0 : Hid (Below w.heap.size w (w.alloc (.cells #[.int .i64 F, .int .i64 T] 24))) := below_one _ _
  have HBX : Hid _ := rbox w F T
  have HX : Hid (∀ w1, Below (w.alloc (.cells #[.int .i64 F, .int .i64 T] 24)).heap.size (w.alloc (.cells #[.int .i64 F, .int .i64 T] 24)) w1 → RunsIs w1 v l) := fun w1 h => (hx.later HB0.out).later h
  have HH : Hid _ := fun (w1 : World) (h : RunsIs w1 v l) => has_ok w1 v l p h h0
  have HR : Hid _ := fun (w1 : World) => refRun_any F T w1
  have HAd : Hid _ := fun (w1 : World) (h : RunsIs w1 v l) => add_any w1 v l (F, T) h
  have HCu : Hid _ := fun (w1 : World) (h : RunsIs w1 v l) => cut_any w1 v l (F, T) h
  rw [hw] at HH
  rw [hr] at HR
  have hi : inR (F, T) p = false := (inR_false _ _).2 (fun h => k1 h.1)
  have hrr := (rB_iff _).1 hr
  unfold isR at hrr
  obtain ⟨r1, r2, r3, r4⟩ := hrr
  simp only at r1 r2 r3 r4
  have HM1 : Hid _ := fun (w1 : World) (v1 : Value) (h : RunsIs w1 v1 (chgL orB l (F, T))) => has_ok w1 v1 _ p h (chg_ok ha rfl).1
  rw [(chg_ok ha rfl).2.1, hw, hi] at HM1
  rw [ha, errV_zero] at HAd
  rw [show orB false false = false from rfl] at HM1
  have HM2 : Hid _ := fun (w1 : World) (v1 : Value) (h : RunsIs w1 v1 (chgL cutB l (F, T))) => has_ok w1 v1 _ p h (chg_ok hc rfl).1
  rw [(chg_ok hc rfl).2.1, hw, hi] at HM2
  rw [hc, errV_zero] at HCu
  rw [show cutB false false = false from rfl] at HM2
  clear hx h0 hr ha hc hw hi
  generalize chgL orB l (F, T) = M1 at HAd HM1
  generalize chgL cutB l (F, T) = M2 at HCu HM2
  simp only at HAd HCu
  go_enter Try.func3, Try.ntmps3
  go_wp2_with (first
    | (go_at_call 7; refine (extentFact_any _).mono ?_; rintro e w1 ⟨rfl, hb1⟩)
    | (go_at_call_of 8 v; refine (HH.out _ (HX.out _ hb1)).mono ?_; rintro e w2 ⟨rfl, hb2⟩; have hB2 := Below.next hb1 hb2; obtain ⟨c0, c1⟩ := HBX.out w2 hB2)
    | (go_at_call 9; refine (HR.out _).mono ?_; rintro e w3 ⟨rfl, hb3⟩; have hB3 := Below.next hB2 hb3; obtain ⟨c2, c3⟩ := HBX.out w3 hB3)
    | (go_at_call 10; refine (HAd.out _ (HX.out _ hB3)).mono ?_; rintro e w4 ⟨v4, rfl, hr4, hb4⟩; have hB4 := Below.next hB3 hb4)
    | (go_at_call_of 8 v4; refine (HM1.out _ _ hr4).mono ?_; rintro e w5 ⟨rfl, hb5⟩; have hB5 := Below.next hB4 hb5; obtain ⟨c4, c5⟩ := HBX.out w5 hB5)
    | (go_at_call 11; refine (HCu.out _ (HX.out _ hB5)).mono ?_; rintro e w6 ⟨v6, rfl, hr6, hb6⟩; have hB6 := Below.next hB5 hb6)
    | (go_at_call_of 8 v6; refine (HM2.out _ _ hr6).mono ?_; rintro e w7 ⟨rfl, hb7⟩; have hB7 := Below.next hB6 hb7))
  go_ret
  exact ⟨rfl, Below.next HB0.out hB7⟩

set_option maxHeartbeats 4000000 in
set_option maxRecDepth 100000 in
theorem set_Afoe (w : World) (v : Value) (l : List Rn) (F T p : Int) (hx : RunsIs w v l) (h0 : runsE l = 0) (hr : rB (F, T) = true) (k1 : ¬ F ≤ p) (hw : memR l p = false) (ha : chgE orB l (F, T) = 0) (hc : chgE cutB l (F, T) ≠ 0) :
    Calls Try.prog 3 #[v, .agg #[.int .i64 F, .int .i64 T], .int .i64 p] w fun e w' => e = .returned (.bool true) ∧ Below w.heap.size w w' := by
  have HB0 : Hid (Below w.heap.size w (w.alloc (.cells #[.int .i64 F, .int .i64 T] 24))) := below_one _ _
  have HBX : Hid _ := rbox w F T
  have HX : Hid (∀ w1, Below (w.alloc (.cells #[.int .i64 F, .int .i64 T] 24)).heap.size (w.alloc (.cells #[.int .i64 F, .int .i64 T] 24)) w1 → RunsIs w1 v l) := fun w1 h => (hx.later HB0.out).later h
  have HH : Hid _ := fun (w1 : World) (h : RunsIs w1 v l) => has_ok w1 v l p h h0
  have HR : Hid _ := fun (w1 : World) => refRun_any F T w1
  have HAd : Hid _ := fun (w1 : World) (h : RunsIs w1 v l) => add_any w1 v l (F, T) h
  have HCu : Hid _ := fun (w1 : World) (h : RunsIs w1 v l) => cut_any w1 v l (F, T) h
  rw [hw] at HH
  rw [hr] at HR
  have hi : inR (F, T) p = false := (inR_false _ _).2 (fun h => k1 h.1)
  have hrr := (rB_iff _).1 hr
  unfold isR at hrr
  obtain ⟨r1, r2, r3, r4⟩ := hrr
  simp only at r1 r2 r3 r4
  have HM1 : Hid _ := fun (w1 : World) (v1 : Value) (h : RunsIs w1 v1 (chgL orB l (F, T))) => has_ok w1 v1 _ p h (chg_ok ha rfl).1
  rw [(chg_ok ha rfl).2.1, hw, hi] at HM1
  rw [ha, errV_zero] at HAd
  rw [show orB false false = false from rfl] at HM1
  rw [errV_pos hc] at HCu
  generalize ((chgE cutB l (F, T) : Nat) : Int) = zc at HCu
  clear hx h0 hr ha hc hw hi
  generalize chgL orB l (F, T) = M1 at HAd HM1
  generalize chgL cutB l (F, T) = M2 at HCu
  simp only at HAd HCu
  go_enter Try.func3, Try.ntmps3
  go_wp2_with (first
    | (go_at_call 7; refine (extentFact_any _).mono ?_; rintro e w1 ⟨rfl, hb1⟩)
    | (go_at_call_of 8 v; refine (HH.out _ (HX.out _ hb1)).mono ?_; rintro e w2 ⟨rfl, hb2⟩; have hB2 := Below.next hb1 hb2; obtain ⟨c0, c1⟩ := HBX.out w2 hB2)
    | (go_at_call 9; refine (HR.out _).mono ?_; rintro e w3 ⟨rfl, hb3⟩; have hB3 := Below.next hB2 hb3; obtain ⟨c2, c3⟩ := HBX.out w3 hB3)
    | (go_at_call 10; refine (HAd.out _ (HX.out _ hB3)).mono ?_; rintro e w4 ⟨v4, rfl, hr4, hb4⟩; have hB4 := Below.next hB3 hb4)
    | (go_at_call_of 8 v4; refine (HM1.out _ _ hr4).mono ?_; rintro e w5 ⟨rfl, hb5⟩; have hB5 := Below.next hB4 hb5; obtain ⟨c4, c5⟩ := HBX.out w5 hB5)
    | (go_at_call 11; refine (HCu.out _ (HX.out _ hB5)).mono ?_; rintro e w6 ⟨v6, rfl, hr6, hb6⟩; have hB6 := Below.next hB5 hb6))
  go_ret
  exact ⟨rfl, Below.next HB0.out hB6⟩

set_option maxHeartbeats 4000000 in
set_option maxRecDepth 100000 in
theorem set_Afeo (w : World) (v : Value) (l : List Rn) (F T p : Int) (hx : RunsIs w v l) (h0 : runsE l = 0) (hr : rB (F, T) = true) (k1 : ¬ F ≤ p) (hw : memR l p = false) (ha : chgE orB l (F, T) ≠ 0) (hc : chgE cutB l (F, T) = 0) :
    Calls Try.prog 3 #[v, .agg #[.int .i64 F, .int .i64 T], .int .i64 p] w fun e w' => e = .returned (.bool true) ∧ Below w.heap.size w w' := by
  have HB0 : Hid (Below w.heap.size w (w.alloc (.cells #[.int .i64 F, .int .i64 T] 24))) := below_one _ _
  have HBX : Hid _ := rbox w F T
  have HX : Hid (∀ w1, Below (w.alloc (.cells #[.int .i64 F, .int .i64 T] 24)).heap.size (w.alloc (.cells #[.int .i64 F, .int .i64 T] 24)) w1 → RunsIs w1 v l) := fun w1 h => (hx.later HB0.out).later h
  have HH : Hid _ := fun (w1 : World) (h : RunsIs w1 v l) => has_ok w1 v l p h h0
  have HR : Hid _ := fun (w1 : World) => refRun_any F T w1
  have HAd : Hid _ := fun (w1 : World) (h : RunsIs w1 v l) => add_any w1 v l (F, T) h
  have HCu : Hid _ := fun (w1 : World) (h : RunsIs w1 v l) => cut_any w1 v l (F, T) h
  rw [hw] at HH
  rw [hr] at HR
  have hi : inR (F, T) p = false := (inR_false _ _).2 (fun h => k1 h.1)
  have hrr := (rB_iff _).1 hr
  unfold isR at hrr
  obtain ⟨r1, r2, r3, r4⟩ := hrr
  simp only at r1 r2 r3 r4
  rw [errV_pos ha] at HAd
  generalize ((chgE orB l (F, T) : Nat) : Int) = za at HAd
  have HM2 : Hid _ := fun (w1 : World) (v1 : Value) (h : RunsIs w1 v1 (chgL cutB l (F, T))) => has_ok w1 v1 _ p h (chg_ok hc rfl).1
  rw [(chg_ok hc rfl).2.1, hw, hi] at HM2
  rw [hc, errV_zero] at HCu
  rw [show cutB false false = false from rfl] at HM2
  clear hx h0 hr ha hc hw hi
  generalize chgL orB l (F, T) = M1 at HAd
  generalize chgL cutB l (F, T) = M2 at HCu HM2
  simp only at HAd HCu
  go_enter Try.func3, Try.ntmps3
  go_wp2_with (first
    | (go_at_call 7; refine (extentFact_any _).mono ?_; rintro e w1 ⟨rfl, hb1⟩)
    | (go_at_call_of 8 v; refine (HH.out _ (HX.out _ hb1)).mono ?_; rintro e w2 ⟨rfl, hb2⟩; have hB2 := Below.next hb1 hb2; obtain ⟨c0, c1⟩ := HBX.out w2 hB2)
    | (go_at_call 9; refine (HR.out _).mono ?_; rintro e w3 ⟨rfl, hb3⟩; have hB3 := Below.next hB2 hb3; obtain ⟨c2, c3⟩ := HBX.out w3 hB3)
    | (go_at_call 10; refine (HAd.out _ (HX.out _ hB3)).mono ?_; rintro e w4 ⟨v4, rfl, hr4, hb4⟩; have hB5 := Below.next hB3 hb4; obtain ⟨c4, c5⟩ := HBX.out w4 hB5)
    | (go_at_call 11; refine (HCu.out _ (HX.out _ hB5)).mono ?_; rintro e w6 ⟨v6, rfl, hr6, hb6⟩; have hB6 := Below.next hB5 hb6)
    | (go_at_call_of 8 v6; refine (HM2.out _ _ hr6).mono ?_; rintro e w7 ⟨rfl, hb7⟩; have hB7 := Below.next hB6 hb7))
  go_ret
  exact ⟨rfl, Below.next HB0.out hB7⟩

set_option maxHeartbeats 4000000 in
set_option maxRecDepth 100000 in
theorem set_Afee (w : World) (v : Value) (l : List Rn) (F T p : Int) (hx : RunsIs w v l) (h0 : runsE l = 0) (hr : rB (F, T) = true) (k1 : ¬ F ≤ p) (hw : memR l p = false) (ha : chgE orB l (F, T) ≠ 0) (hc : chgE cutB l (F, T) ≠ 0) :
    Calls Try.prog 3 #[v, .agg #[.int .i64 F, .int .i64 T], .int .i64 p] w fun e w' => e = .returned (.bool true) ∧ Below w.heap.size w w' := by
  have HB0 : Hid (Below w.heap.size w (w.alloc (.cells #[.int .i64 F, .int .i64 T] 24))) := below_one _ _
  have HBX : Hid _ := rbox w F T
  have HX : Hid (∀ w1, Below (w.alloc (.cells #[.int .i64 F, .int .i64 T] 24)).heap.size (w.alloc (.cells #[.int .i64 F, .int .i64 T] 24)) w1 → RunsIs w1 v l) := fun w1 h => (hx.later HB0.out).later h
  have HH : Hid _ := fun (w1 : World) (h : RunsIs w1 v l) => has_ok w1 v l p h h0
  have HR : Hid _ := fun (w1 : World) => refRun_any F T w1
  have HAd : Hid _ := fun (w1 : World) (h : RunsIs w1 v l) => add_any w1 v l (F, T) h
  have HCu : Hid _ := fun (w1 : World) (h : RunsIs w1 v l) => cut_any w1 v l (F, T) h
  rw [hw] at HH
  rw [hr] at HR
  have hi : inR (F, T) p = false := (inR_false _ _).2 (fun h => k1 h.1)
  have hrr := (rB_iff _).1 hr
  unfold isR at hrr
  obtain ⟨r1, r2, r3, r4⟩ := hrr
  simp only at r1 r2 r3 r4
  rw [errV_pos ha] at HAd
  generalize ((chgE orB l (F, T) : Nat) : Int) = za at HAd
  rw [errV_pos hc] at HCu
  generalize ((chgE cutB l (F, T) : Nat) : Int) = zc at HCu
  clear hx h0 hr ha hc hw hi
  generalize chgL orB l (F, T) = M1 at HAd
  generalize chgL cutB l (F, T) = M2 at HCu
  simp only at HAd HCu
  go_enter Try.func3, Try.ntmps3
  go_wp2_with (first
    | (go_at_call 7; refine (extentFact_any _).mono ?_; rintro e w1 ⟨rfl, hb1⟩)
    | (go_at_call_of 8 v; refine (HH.out _ (HX.out _ hb1)).mono ?_; rintro e w2 ⟨rfl, hb2⟩; have hB2 := Below.next hb1 hb2; obtain ⟨c0, c1⟩ := HBX.out w2 hB2)
    | (go_at_call 9; refine (HR.out _).mono ?_; rintro e w3 ⟨rfl, hb3⟩; have hB3 := Below.next hB2 hb3; obtain ⟨c2, c3⟩ := HBX.out w3 hB3)
    | (go_at_call 10; refine (HAd.out _ (HX.out _ hB3)).mono ?_; rintro e w4 ⟨v4, rfl, hr4, hb4⟩; have hB5 := Below.next hB3 hb4; obtain ⟨c4, c5⟩ := HBX.out w4 hB5)
    | (go_at_call 11; refine (HCu.out _ (HX.out _ hB5)).mono ?_; rintro e w6 ⟨v6, rfl, hr6, hb6⟩; have hB6 := Below.next hB5 hb6))
  go_ret
  exact ⟨rfl, Below.next HB0.out hB6⟩

set_option maxHeartbeats 4000000 in
set_option maxRecDepth 100000 in
theorem set_Btoo (w : World) (v : Value) (l : List Rn) (F T p : Int) (hx : RunsIs w v l) (h0 : runsE l = 0) (hr : rB (F, T) = true) (k1 : F ≤ p) (k2 : ¬ p < F + T) (hw : memR l p = true) (ha : chgE orB l (F, T) = 0) (hc : chgE cutB l (F, T) = 0) :
    Calls Try.prog 3 #[v, .agg #[.int .i64 F, .int .i64 T], .int .i64 p] w fun e w' => e = .returned (.bool true) ∧ Below w.heap.size w w' := by
  have HB0 : Hid (Below w.heap.size w (w.alloc (.cells #[.int .i64 F, .int .i64 T] 24))) := below_one _ _
  have HBX : Hid _ := rbox w F T
  have HX : Hid (∀ w1, Below (w.alloc (.cells #[.int .i64 F, .int .i64 T] 24)).heap.size (w.alloc (.cells #[.int .i64 F, .int .i64 T] 24)) w1 → RunsIs w1 v l) := fun w1 h => (hx.later HB0.out).later h
  have HH : Hid _ := fun (w1 : World) (h : RunsIs w1 v l) => has_ok w1 v l p h h0
  have HR : Hid _ := fun (w1 : World) => refRun_any F T w1
  have HAd : Hid _ := fun (w1 : World) (h : RunsIs w1 v l) => add_any w1 v l (F, T) h
  have HCu : Hid _ := fun (w1 : World) (h : RunsIs w1 v l) => cut_any w1 v l (F, T) h
  rw [hw] at HH
  rw [hr] at HR
  have hi : inR (F, T) p = false := (inR_false _ _).2 (fun h => k2 h.2)
  have hrr := (rB_iff _).1 hr
  unfold isR at hrr
  obtain ⟨r1, r2, r3, r4⟩ := hrr
  simp only at r1 r2 r3 r4
  have HM1 : Hid _ := fun (w1 : World) (v1 : Value) (h : RunsIs w1 v1 (chgL orB l (F, T))) => has_ok w1 v1 _ p h (chg_ok ha rfl).1
  rw [(chg_ok ha rfl).2.1, hw, hi] at HM1
  rw [ha, errV_zero] at HAd
  rw [show orB true false = true from rfl] at HM1
  have HM2 : Hid _ := fun (w1 : World) (v1 : Value) (h : RunsIs w1 v1 (chgL cutB l (F, T))) => has_ok w1 v1 _ p h (chg_ok hc rfl).1
  rw [(chg_ok hc rfl).2.1, hw, hi] at HM2
  rw [hc, errV_zero] at HCu
  rw [show cutB true false = true from rfl] at HM2
  clear hx h0 hr ha hc hw hi
  generalize chgL orB l (F, T) = M1 at HAd HM1
  generalize chgL cutB l (F, T) = M2 at HCu HM2
  simp only at HAd HCu
  go_enter Try.func3, Try.ntmps3
  go_wp2_with (first
    | (go_at_call 7; refine (extentFact_any _).mono ?_; rintro e w1 ⟨rfl, hb1⟩)
    | (go_at_call_of 8 v; refine (HH.out _ (HX.out _ hb1)).mono ?_; rintro e w2 ⟨rfl, hb2⟩; have hB2 := Below.next hb1 hb2; obtain ⟨c0, c1⟩ := HBX.out w2 hB2)
    | (go_at_call 9; refine (HR.out _).mono ?_; rintro e w3 ⟨rfl, hb3⟩; have hB3 := Below.next hB2 hb3; obtain ⟨c2, c3⟩ := HBX.out w3 hB3)
    | (go_at_call 10; refine (HAd.out _ (HX.out _ hB3)).mono ?_; rintro e w4 ⟨v4, rfl, hr4, hb4⟩; have hB4 := Below.next hB3 hb4)
    | (go_at_call_of 8 v4; refine (HM1.out _ _ hr4).mono ?_; rintro e w5 ⟨rfl, hb5⟩; have hB5 := Below.next hB4 hb5; obtain ⟨c4, c5⟩ := HBX.out w5 hB5)
    | (go_at_call 11; refine (HCu.out _ (HX.out _ hB5)).mono ?_; rintro e w6 ⟨v6, rfl, hr6, hb6⟩; have hB6 := Below.next hB5 hb6)
    | (go_at_call_of 8 v6; refine (HM2.out _ _ hr6).mono ?_; rintro e w7 ⟨rfl, hb7⟩; have hB7 := Below.next hB6 hb7))
  go_ret
  exact ⟨rfl, Below.next HB0.out hB7⟩

set_option maxHeartbeats 4000000 in
set_option maxRecDepth 100000 in
theorem set_Btoe (w : World) (v : Value) (l : List Rn) (F T p : Int) (hx : RunsIs w v l) (h0 : runsE l = 0) (hr : rB (F, T) = true) (k1 : F ≤ p) (k2 : ¬ p < F + T) (hw : memR l p = true) (ha : chgE orB l (F, T) = 0) (hc : chgE cutB l (F, T) ≠ 0) :
    Calls Try.prog 3 #[v, .agg #[.int .i64 F, .int .i64 T], .int .i64 p] w fun e w' => e = .returned (.bool true) ∧ Below w.heap.size w w' := by
  have HB0 : Hid (Below w.heap.size w (w.alloc (.cells #[.int .i64 F, .int .i64 T] 24))) := below_one _ _
  have HBX : Hid _ := rbox w F T
  have HX : Hid (∀ w1, Below (w.alloc (.cells #[.int .i64 F, .int .i64 T] 24)).heap.size (w.alloc (.cells #[.int .i64 F, .int .i64 T] 24)) w1 → RunsIs w1 v l) := fun w1 h => (hx.later HB0.out).later h
  have HH : Hid _ := fun (w1 : World) (h : RunsIs w1 v l) => has_ok w1 v l p h h0
  have HR : Hid _ := fun (w1 : World) => refRun_any F T w1
  have HAd : Hid _ := fun (w1 : World) (h : RunsIs w1 v l) => add_any w1 v l (F, T) h
  have HCu : Hid _ := fun (w1 : World) (h : RunsIs w1 v l) => cut_any w1 v l (F, T) h
  rw [hw] at HH
  rw [hr] at HR
  have hi : inR (F, T) p = false := (inR_false _ _).2 (fun h => k2 h.2)
  have hrr := (rB_iff _).1 hr
  unfold isR at hrr
  obtain ⟨r1, r2, r3, r4⟩ := hrr
  simp only at r1 r2 r3 r4
  have HM1 : Hid _ := fun (w1 : World) (v1 : Value) (h : RunsIs w1 v1 (chgL orB l (F, T))) => has_ok w1 v1 _ p h (chg_ok ha rfl).1
  rw [(chg_ok ha rfl).2.1, hw, hi] at HM1
  rw [ha, errV_zero] at HAd
  rw [show orB true false = true from rfl] at HM1
  rw [errV_pos hc] at HCu
  generalize ((chgE cutB l (F, T) : Nat) : Int) = zc at HCu
  clear hx h0 hr ha hc hw hi
  generalize chgL orB l (F, T) = M1 at HAd HM1
  generalize chgL cutB l (F, T) = M2 at HCu
  simp only at HAd HCu
  go_enter Try.func3, Try.ntmps3
  go_wp2_with (first
    | (go_at_call 7; refine (extentFact_any _).mono ?_; rintro e w1 ⟨rfl, hb1⟩)
    | (go_at_call_of 8 v; refine (HH.out _ (HX.out _ hb1)).mono ?_; rintro e w2 ⟨rfl, hb2⟩; have hB2 := Below.next hb1 hb2; obtain ⟨c0, c1⟩ := HBX.out w2 hB2)
    | (go_at_call 9; refine (HR.out _).mono ?_; rintro e w3 ⟨rfl, hb3⟩; have hB3 := Below.next hB2 hb3; obtain ⟨c2, c3⟩ := HBX.out w3 hB3)
    | (go_at_call 10; refine (HAd.out _ (HX.out _ hB3)).mono ?_; rintro e w4 ⟨v4, rfl, hr4, hb4⟩; have hB4 := Below.next hB3 hb4)
    | (go_at_call_of 8 v4; refine (HM1.out _ _ hr4).mono ?_; rintro e w5 ⟨rfl, hb5⟩; have hB5 := Below.next hB4 hb5; obtain ⟨c4, c5⟩ := HBX.out w5 hB5)
    | (go_at_call 11; refine (HCu.out _ (HX.out _ hB5)).mono ?_; rintro e w6 ⟨v6, rfl, hr6, hb6⟩; have hB6 := Below.next hB5 hb6))
  go_ret
  exact ⟨rfl, Below.next HB0.out hB6⟩

set_option maxHeartbeats 4000000 in
set_option maxRecDepth 100000 in
theorem set_Bteo (w : World) (v : Value) (l : List Rn) (F T p : Int) (hx : RunsIs w v l) (h0 : runsE l = 0) (hr : rB (F, T) = true) (k1 : F ≤ p) (k2 : ¬ p < F + T) (hw : memR l p = true) (ha : chgE orB l (F, T) ≠ 0) (hc : chgE cutB l (F, T) = 0) :
    Calls Try.prog 3 #[v, .agg #[.int .i64 F, .int .i64 T], .int .i64 p] w fun e w' => e = .returned (.bool true) ∧ Below w.heap.size w w' := by
  have HB0 : Hid (Below w.heap.size w (w.alloc (.cells #[.int .i64 F, .int .i64 T] 24))) := below_one _ _
  have HBX : Hid _ := rbox w F T
  have HX : Hid (∀ w1, Below (w.alloc (.cells #[.int .i64 F, .int .i64 T] 24)).heap.size (w.alloc (.cells #[.int .i64 F, .int .i64 T] 24)) w1 → RunsIs w1 v l) := fun w1 h => (hx.later HB0.out).later h
  have HH : Hid _ := fun (w1 : World) (h : RunsIs w1 v l) => has_ok w1 v l p h h0
  have HR : Hid _ := fun (w1 : World) => refRun_any F T w1
  have HAd : Hid _ := fun (w1 : World) (h : RunsIs w1 v l) => add_any w1 v l (F, T) h
  have HCu : Hid _ := fun (w1 : World) (h : RunsIs w1 v l) => cut_any w1 v l (F, T) h
  rw [hw] at HH
  rw [hr] at HR
  have hi : inR (F, T) p = false := (inR_false _ _).2 (fun h => k2 h.2)
  have hrr := (rB_iff _).1 hr
  unfold isR at hrr
  obtain ⟨r1, r2, r3, r4⟩ := hrr
  simp only at r1 r2 r3 r4
  rw [errV_pos ha] at HAd
  generalize ((chgE orB l (F, T) : Nat) : Int) = za at HAd
  have HM2 : Hid _ := fun (w1 : World) (v1 : Value) (h : RunsIs w1 v1 (chgL cutB l (F, T))) => has_ok w1 v1 _ p h (chg_ok hc rfl).1
  rw [(chg_ok hc rfl).2.1, hw, hi] at HM2
  rw [hc, errV_zero] at HCu
  rw [show cutB true false = true from rfl] at HM2
  clear hx h0 hr ha hc hw hi
  generalize chgL orB l (F, T) = M1 at HAd
  generalize chgL cutB l (F, T) = M2 at HCu HM2
  simp only at HAd HCu
  go_enter Try.func3, Try.ntmps3
  go_wp2_with (first
    | (go_at_call 7; refine (extentFact_any _).mono ?_; rintro e w1 ⟨rfl, hb1⟩)
    | (go_at_call_of 8 v; refine (HH.out _ (HX.out _ hb1)).mono ?_; rintro e w2 ⟨rfl, hb2⟩; have hB2 := Below.next hb1 hb2; obtain ⟨c0, c1⟩ := HBX.out w2 hB2)
    | (go_at_call 9; refine (HR.out _).mono ?_; rintro e w3 ⟨rfl, hb3⟩; have hB3 := Below.next hB2 hb3; obtain ⟨c2, c3⟩ := HBX.out w3 hB3)
    | (go_at_call 10; refine (HAd.out _ (HX.out _ hB3)).mono ?_; rintro e w4 ⟨v4, rfl, hr4, hb4⟩; have hB5 := Below.next hB3 hb4; obtain ⟨c4, c5⟩ := HBX.out w4 hB5)
    | (go_at_call 11; refine (HCu.out _ (HX.out _ hB5)).mono ?_; rintro e w6 ⟨v6, rfl, hr6, hb6⟩; have hB6 := Below.next hB5 hb6)
    | (go_at_call_of 8 v6; refine (HM2.out _ _ hr6).mono ?_; rintro e w7 ⟨rfl, hb7⟩; have hB7 := Below.next hB6 hb7))
  go_ret
  exact ⟨rfl, Below.next HB0.out hB7⟩

set_option maxHeartbeats 4000000 in
set_option maxRecDepth 100000 in
theorem set_Btee (w : World) (v : Value) (l : List Rn) (F T p : Int) (hx : RunsIs w v l) (h0 : runsE l = 0) (hr : rB (F, T) = true) (k1 : F ≤ p) (k2 : ¬ p < F + T) (hw : memR l p = true) (ha : chgE orB l (F, T) ≠ 0) (hc : chgE cutB l (F, T) ≠ 0) :
    Calls Try.prog 3 #[v, .agg #[.int .i64 F, .int .i64 T], .int .i64 p] w fun e w' => e = .returned (.bool true) ∧ Below w.heap.size w w' := by
  have HB0 : Hid (Below w.heap.size w (w.alloc (.cells #[.int .i64 F, .int .i64 T] 24))) := below_one _ _
  have HBX : Hid _ := rbox w F T
  have HX : Hid (∀ w1, Below (w.alloc (.cells #[.int .i64 F, .int .i64 T] 24)).heap.size (w.alloc (.cells #[.int .i64 F, .int .i64 T] 24)) w1 → RunsIs w1 v l) := fun w1 h => (hx.later HB0.out).later h
  have HH : Hid _ := fun (w1 : World) (h : RunsIs w1 v l) => has_ok w1 v l p h h0
  have HR : Hid _ := fun (w1 : World) => refRun_any F T w1
  have HAd : Hid _ := fun (w1 : World) (h : RunsIs w1 v l) => add_any w1 v l (F, T) h
  have HCu : Hid _ := fun (w1 : World) (h : RunsIs w1 v l) => cut_any w1 v l (F, T) h
  rw [hw] at HH
  rw [hr] at HR
  have hi : inR (F, T) p = false := (inR_false _ _).2 (fun h => k2 h.2)
  have hrr := (rB_iff _).1 hr
  unfold isR at hrr
  obtain ⟨r1, r2, r3, r4⟩ := hrr
  simp only at r1 r2 r3 r4
  rw [errV_pos ha] at HAd
  generalize ((chgE orB l (F, T) : Nat) : Int) = za at HAd
  rw [errV_pos hc] at HCu
  generalize ((chgE cutB l (F, T) : Nat) : Int) = zc at HCu
  clear hx h0 hr ha hc hw hi
  generalize chgL orB l (F, T) = M1 at HAd
  generalize chgL cutB l (F, T) = M2 at HCu
  simp only at HAd HCu
  go_enter Try.func3, Try.ntmps3
  go_wp2_with (first
    | (go_at_call 7; refine (extentFact_any _).mono ?_; rintro e w1 ⟨rfl, hb1⟩)
    | (go_at_call_of 8 v; refine (HH.out _ (HX.out _ hb1)).mono ?_; rintro e w2 ⟨rfl, hb2⟩; have hB2 := Below.next hb1 hb2; obtain ⟨c0, c1⟩ := HBX.out w2 hB2)
    | (go_at_call 9; refine (HR.out _).mono ?_; rintro e w3 ⟨rfl, hb3⟩; have hB3 := Below.next hB2 hb3; obtain ⟨c2, c3⟩ := HBX.out w3 hB3)
    | (go_at_call 10; refine (HAd.out _ (HX.out _ hB3)).mono ?_; rintro e w4 ⟨v4, rfl, hr4, hb4⟩; have hB5 := Below.next hB3 hb4; obtain ⟨c4, c5⟩ := HBX.out w4 hB5)
    | (go_at_call 11; refine (HCu.out _ (HX.out _ hB5)).mono ?_; rintro e w6 ⟨v6, rfl, hr6, hb6⟩; have hB6 := Below.next hB5 hb6))
  go_ret
  exact ⟨rfl, Below.next HB0.out hB6⟩

set_option maxHeartbeats 4000000 in
set_option maxRecDepth 100000 in
theorem set_Bfoo (w : World) (v : Value) (l : List Rn) (F T p : Int) (hx : RunsIs w v l) (h0 : runsE l = 0) (hr : rB (F, T) = true) (k1 : F ≤ p) (k2 : ¬ p < F + T) (hw : memR l p = false) (ha : chgE orB l (F, T) = 0) (hc : chgE cutB l (F, T) = 0) :
    Calls Try.prog 3 #[v, .agg #[.int .i64 F, .int .i64 T], .int .i64 p] w fun e w' => e = .returned (.bool true) ∧ Below w.heap.size w w' := by
  have HB0 : Hid (Below w.heap.size w (w.alloc (.cells #[.int .i64 F, .int .i64 T] 24))) := below_one _ _
  have HBX : Hid _ := rbox w F T
  have HX : Hid (∀ w1, Below (w.alloc (.cells #[.int .i64 F, .int .i64 T] 24)).heap.size (w.alloc (.cells #[.int .i64 F, .int .i64 T] 24)) w1 → RunsIs w1 v l) := fun w1 h => (hx.later HB0.out).later h
  have HH : Hid _ := fun (w1 : World) (h : RunsIs w1 v l) => has_ok w1 v l p h h0
  have HR : Hid _ := fun (w1 : World) => refRun_any F T w1
  have HAd : Hid _ := fun (w1 : World) (h : RunsIs w1 v l) => add_any w1 v l (F, T) h
  have HCu : Hid _ := fun (w1 : World) (h : RunsIs w1 v l) => cut_any w1 v l (F, T) h
  rw [hw] at HH
  rw [hr] at HR
  have hi : inR (F, T) p = false := (inR_false _ _).2 (fun h => k2 h.2)
  have hrr := (rB_iff _).1 hr
  unfold isR at hrr
  obtain ⟨r1, r2, r3, r4⟩ := hrr
  simp only at r1 r2 r3 r4
  have HM1 : Hid _ := fun (w1 : World) (v1 : Value) (h : RunsIs w1 v1 (chgL orB l (F, T))) => has_ok w1 v1 _ p h (chg_ok ha rfl).1
  rw [(chg_ok ha rfl).2.1, hw, hi] at HM1
  rw [ha, errV_zero] at HAd
  rw [show orB false false = false from rfl] at HM1
  have HM2 : Hid _ := fun (w1 : World) (v1 : Value) (h : RunsIs w1 v1 (chgL cutB l (F, T))) => has_ok w1 v1 _ p h (chg_ok hc rfl).1
  rw [(chg_ok hc rfl).2.1, hw, hi] at HM2
  rw [hc, errV_zero] at HCu
  rw [show cutB false false = false from rfl] at HM2
  clear hx h0 hr ha hc hw hi
  generalize chgL orB l (F, T) = M1 at HAd HM1
  generalize chgL cutB l (F, T) = M2 at HCu HM2
  simp only at HAd HCu
  go_enter Try.func3, Try.ntmps3
  go_wp2_with (first
    | (go_at_call 7; refine (extentFact_any _).mono ?_; rintro e w1 ⟨rfl, hb1⟩)
    | (go_at_call_of 8 v; refine (HH.out _ (HX.out _ hb1)).mono ?_; rintro e w2 ⟨rfl, hb2⟩; have hB2 := Below.next hb1 hb2; obtain ⟨c0, c1⟩ := HBX.out w2 hB2)
    | (go_at_call 9; refine (HR.out _).mono ?_; rintro e w3 ⟨rfl, hb3⟩; have hB3 := Below.next hB2 hb3; obtain ⟨c2, c3⟩ := HBX.out w3 hB3)
    | (go_at_call 10; refine (HAd.out _ (HX.out _ hB3)).mono ?_; rintro e w4 ⟨v4, rfl, hr4, hb4⟩; have hB4 := Below.next hB3 hb4)
    | (go_at_call_of 8 v4; refine (HM1.out _ _ hr4).mono ?_; rintro e w5 ⟨rfl, hb5⟩; have hB5 := Below.next hB4 hb5; obtain ⟨c4, c5⟩ := HBX.out w5 hB5)
    | (go_at_call 11; refine (HCu.out _ (HX.out _ hB5)).mono ?_; rintro e w6 ⟨v6, rfl, hr6, hb6⟩; have hB6 := Below.next hB5 hb6)
    | (go_at_call_of 8 v6; refine (HM2.out _ _ hr6).mono ?_; rintro e w7 ⟨rfl, hb7⟩; have hB7 := Below.next hB6 hb7))
  go_ret
  exact ⟨rfl, Below.next HB0.out hB7⟩

set_option maxHeartbeats 4000000 in
set_option maxRecDepth 100000 in
theorem set_Bfoe (w : World) (v : Value) (l : List Rn) (F T p : Int) (hx : RunsIs w v l) (h0 : runsE l = 0) (hr : rB (F, T) = true) (k1 : F ≤ p) (k2 : ¬ p < F + T) (hw : memR l p = false) (ha : chgE orB l (F, T) = 0) (hc : chgE cutB l (F, T) ≠ 0) :
    Calls Try.prog 3 #[v, .agg #[.int .i64 F, .int .i64 T], .int .i64 p] w fun e w' => e = .returned (.bool true) ∧ Below w.heap.size w w' := by
  have HB0 : Hid (Below w.heap.size w (w.alloc (.cells #[.int .i64 F, .int .i64 T] 24))) := below_one _ _
  have HBX : Hid _ := rbox w F T
  have HX : Hid (∀ w1, Below (w.alloc (.cells #[.int .i64 F, .int .i64 T] 24)).heap.size (w.alloc (.cells #[.int .i64 F, .int .i64 T] 24)) w1 → RunsIs w1 v l) := fun w1 h => (hx.later HB0.out).later h
  have HH : Hid _ := fun (w1 : World) (h : RunsIs w1 v l) => has_ok w1 v l p h h0
  have HR : Hid _ := fun (w1 : World) => refRun_any F T w1
  have HAd : Hid _ := fun (w1 : World) (h : RunsIs w1 v l) => add_any w1 v l (F, T) h
  have HCu : Hid _ := fun (w1 : World) (h : RunsIs w1 v l) => cut_any w1 v l (F, T) h
  rw [hw] at HH
  rw [hr] at HR
  have hi : inR (F, T) p = false := (inR_false _ _).2 (fun h => k2 h.2)
  have hrr := (rB_iff _).1 hr
  unfold isR at hrr
  obtain ⟨r1, r2, r3, r4⟩ := hrr
  simp only at r1 r2 r3 r4
  have HM1 : Hid _ := fun (w1 : World) (v1 : Value) (h : RunsIs w1 v1 (chgL orB l (F, T))) => has_ok w1 v1 _ p h (chg_ok ha rfl).1
  rw [(chg_ok ha rfl).2.1, hw, hi] at HM1
  rw [ha, errV_zero] at HAd
  rw [show orB false false = false from rfl] at HM1
  rw [errV_pos hc] at HCu
  generalize ((chgE cutB l (F, T) : Nat) : Int) = zc at HCu
  clear hx h0 hr ha hc hw hi
  generalize chgL orB l (F, T) = M1 at HAd HM1
  generalize chgL cutB l (F, T) = M2 at HCu
  simp only at HAd HCu
  go_enter Try.func3, Try.ntmps3
  go_wp2_with (first
    | (go_at_call 7; refine (extentFact_any _).mono ?_; rintro e w1 ⟨rfl, hb1⟩)
    | (go_at_call_of 8 v; refine (HH.out _ (HX.out _ hb1)).mono ?_; rintro e w2 ⟨rfl, hb2⟩; have hB2 := Below.next hb1 hb2; obtain ⟨c0, c1⟩ := HBX.out w2 hB2)
    | (go_at_call 9; refine (HR.out _).mono ?_; rintro e w3 ⟨rfl, hb3⟩; have hB3 := Below.next hB2 hb3; obtain ⟨c2, c3⟩ := HBX.out w3 hB3)
    | (go_at_call 10; refine (HAd.out _ (HX.out _ hB3)).mono ?_; rintro e w4 ⟨v4, rfl, hr4, hb4⟩; have hB4 := Below.next hB3 hb4)
    | (go_at_call_of 8 v4; refine (HM1.out _ _ hr4).mono ?_; rintro e w5 ⟨rfl, hb5⟩; have hB5 := Below.next hB4 hb5; obtain ⟨c4, c5⟩ := HBX.out w5 hB5)
    | (go_at_call 11; refine (HCu.out _ (HX.out _ hB5)).mono ?_; rintro e w6 ⟨v6, rfl, hr6, hb6⟩; have hB6 := Below.next hB5 hb6))
  go_ret
  exact ⟨rfl, Below.next HB0.out hB6⟩

set_option maxHeartbeats 4000000 in
set_option maxRecDepth 100000 in
theorem set_Bfeo (w : World) (v : Value) (l : List Rn) (F T p : Int) (hx : RunsIs w v l) (h0 : runsE l = 0) (hr : rB (F, T) = true) (k1 : F ≤ p) (k2 : ¬ p < F + T) (hw : memR l p = false) (ha : chgE orB l (F, T) ≠ 0) (hc : chgE cutB l (F, T) = 0) :
    Calls Try.prog 3 #[v, .agg #[.int .i64 F, .int .i64 T], .int .i64 p] w fun e w' => e = .returned (.bool true) ∧ Below w.heap.size w w' := by
  have HB0 : Hid (Below w.heap.size w (w.alloc (.cells #[.int .i64 F, .int .i64 T] 24))) := below_one _ _
  have HBX : Hid _ := rbox w F T
  have HX : Hid (∀ w1, Below (w.alloc (.cells #[.int .i64 F, .int .i64 T] 24)).heap.size (w.alloc (.cells #[.int .i64 F, .int .i64 T] 24)) w1 → RunsIs w1 v l) := fun w1 h => (hx.later HB0.out).later h
  have HH : Hid _ := fun (w1 : World) (h : RunsIs w1 v l) => has_ok w1 v l p h h0
  have HR : Hid _ := fun (w1 : World) => refRun_any F T w1
  have HAd : Hid _ := fun (w1 : World) (h : RunsIs w1 v l) => add_any w1 v l (F, T) h
  have HCu : Hid _ := fun (w1 : World) (h : RunsIs w1 v l) => cut_any w1 v l (F, T) h
  rw [hw] at HH
  rw [hr] at HR
  have hi : inR (F, T) p = false := (inR_false _ _).2 (fun h => k2 h.2)
  have hrr := (rB_iff _).1 hr
  unfold isR at hrr
  obtain ⟨r1, r2, r3, r4⟩ := hrr
  simp only at r1 r2 r3 r4
  rw [errV_pos ha] at HAd
  generalize ((chgE orB l (F, T) : Nat) : Int) = za at HAd
  have HM2 : Hid _ := fun (w1 : World) (v1 : Value) (h : RunsIs w1 v1 (chgL cutB l (F, T))) => has_ok w1 v1 _ p h (chg_ok hc rfl).1
  rw [(chg_ok hc rfl).2.1, hw, hi] at HM2
  rw [hc, errV_zero] at HCu
  rw [show cutB false false = false from rfl] at HM2
  clear hx h0 hr ha hc hw hi
  generalize chgL orB l (F, T) = M1 at HAd
  generalize chgL cutB l (F, T) = M2 at HCu HM2
  simp only at HAd HCu
  go_enter Try.func3, Try.ntmps3
  go_wp2_with (first
    | (go_at_call 7; refine (extentFact_any _).mono ?_; rintro e w1 ⟨rfl, hb1⟩)
    | (go_at_call_of 8 v; refine (HH.out _ (HX.out _ hb1)).mono ?_; rintro e w2 ⟨rfl, hb2⟩; have hB2 := Below.next hb1 hb2; obtain ⟨c0, c1⟩ := HBX.out w2 hB2)
    | (go_at_call 9; refine (HR.out _).mono ?_; rintro e w3 ⟨rfl, hb3⟩; have hB3 := Below.next hB2 hb3; obtain ⟨c2, c3⟩ := HBX.out w3 hB3)
    | (go_at_call 10; refine (HAd.out _ (HX.out _ hB3)).mono ?_; rintro e w4 ⟨v4, rfl, hr4, hb4⟩; have hB5 := Below.next hB3 hb4; obtain ⟨c4, c5⟩ := HBX.out w4 hB5)
    | (go_at_call 11; refine (HCu.out _ (HX.out _ hB5)).mono ?_; rintro e w6 ⟨v6, rfl, hr6, hb6⟩; have hB6 := Below.next hB5 hb6)
    | (go_at_call_of 8 v6; refine (HM2.out _ _ hr6).mono ?_; rintro e w7 ⟨rfl, hb7⟩; have hB7 := Below.next hB6 hb7))
  go_ret
  exact ⟨rfl, Below.next HB0.out hB7⟩

set_option maxHeartbeats 4000000 in
set_option maxRecDepth 100000 in
theorem set_Bfee (w : World) (v : Value) (l : List Rn) (F T p : Int) (hx : RunsIs w v l) (h0 : runsE l = 0) (hr : rB (F, T) = true) (k1 : F ≤ p) (k2 : ¬ p < F + T) (hw : memR l p = false) (ha : chgE orB l (F, T) ≠ 0) (hc : chgE cutB l (F, T) ≠ 0) :
    Calls Try.prog 3 #[v, .agg #[.int .i64 F, .int .i64 T], .int .i64 p] w fun e w' => e = .returned (.bool true) ∧ Below w.heap.size w w' := by
  have HB0 : Hid (Below w.heap.size w (w.alloc (.cells #[.int .i64 F, .int .i64 T] 24))) := below_one _ _
  have HBX : Hid _ := rbox w F T
  have HX : Hid (∀ w1, Below (w.alloc (.cells #[.int .i64 F, .int .i64 T] 24)).heap.size (w.alloc (.cells #[.int .i64 F, .int .i64 T] 24)) w1 → RunsIs w1 v l) := fun w1 h => (hx.later HB0.out).later h
  have HH : Hid _ := fun (w1 : World) (h : RunsIs w1 v l) => has_ok w1 v l p h h0
  have HR : Hid _ := fun (w1 : World) => refRun_any F T w1
  have HAd : Hid _ := fun (w1 : World) (h : RunsIs w1 v l) => add_any w1 v l (F, T) h
  have HCu : Hid _ := fun (w1 : World) (h : RunsIs w1 v l) => cut_any w1 v l (F, T) h
  rw [hw] at HH
  rw [hr] at HR
  have hi : inR (F, T) p = false := (inR_false _ _).2 (fun h => k2 h.2)
  have hrr := (rB_iff _).1 hr
  unfold isR at hrr
  obtain ⟨r1, r2, r3, r4⟩ := hrr
  simp only at r1 r2 r3 r4
  rw [errV_pos ha] at HAd
  generalize ((chgE orB l (F, T) : Nat) : Int) = za at HAd
  rw [errV_pos hc] at HCu
  generalize ((chgE cutB l (F, T) : Nat) : Int) = zc at HCu
  clear hx h0 hr ha hc hw hi
  generalize chgL orB l (F, T) = M1 at HAd
  generalize chgL cutB l (F, T) = M2 at HCu
  simp only at HAd HCu
  go_enter Try.func3, Try.ntmps3
  go_wp2_with (first
    | (go_at_call 7; refine (extentFact_any _).mono ?_; rintro e w1 ⟨rfl, hb1⟩)
    | (go_at_call_of 8 v; refine (HH.out _ (HX.out _ hb1)).mono ?_; rintro e w2 ⟨rfl, hb2⟩; have hB2 := Below.next hb1 hb2; obtain ⟨c0, c1⟩ := HBX.out w2 hB2)
    | (go_at_call 9; refine (HR.out _).mono ?_; rintro e w3 ⟨rfl, hb3⟩; have hB3 := Below.next hB2 hb3; obtain ⟨c2, c3⟩ := HBX.out w3 hB3)
    | (go_at_call 10; refine (HAd.out _ (HX.out _ hB3)).mono ?_; rintro e w4 ⟨v4, rfl, hr4, hb4⟩; have hB5 := Below.next hB3 hb4; obtain ⟨c4, c5⟩ := HBX.out w4 hB5)
    | (go_at_call 11; refine (HCu.out _ (HX.out _ hB5)).mono ?_; rintro e w6 ⟨v6, rfl, hr6, hb6⟩; have hB6 := Below.next hB5 hb6))
  go_ret
  exact ⟨rfl, Below.next HB0.out hB6⟩

set_option maxHeartbeats 4000000 in
set_option maxRecDepth 100000 in
theorem set_Ctoo (w : World) (v : Value) (l : List Rn) (F T p : Int) (hx : RunsIs w v l) (h0 : runsE l = 0) (hr : rB (F, T) = true) (k1 : F ≤ p) (k2 : p < F + T) (hw : memR l p = true) (ha : chgE orB l (F, T) = 0) (hc : chgE cutB l (F, T) = 0) :
    Calls Try.prog 3 #[v, .agg #[.int .i64 F, .int .i64 T], .int .i64 p] w fun e w' => e = .returned (.bool true) ∧ Below w.heap.size w w' := by
  have HB0 : Hid (Below w.heap.size w (w.alloc (.cells #[.int .i64 F, .int .i64 T] 24))) := below_one _ _
  have HBX : Hid _ := rbox w F T
  have HX : Hid (∀ w1, Below (w.alloc (.cells #[.int .i64 F, .int .i64 T] 24)).heap.size (w.alloc (.cells #[.int .i64 F, .int .i64 T] 24)) w1 → RunsIs w1 v l) := fun w1 h => (hx.later HB0.out).later h
  have HH : Hid _ := fun (w1 : World) (h : RunsIs w1 v l) => has_ok w1 v l p h h0
  have HR : Hid _ := fun (w1 : World) => refRun_any F T w1
  have HAd : Hid _ := fun (w1 : World) (h : RunsIs w1 v l) => add_any w1 v l (F, T) h
  have HCu : Hid _ := fun (w1 : World) (h : RunsIs w1 v l) => cut_any w1 v l (F, T) h
  rw [hw] at HH
  rw [hr] at HR
  have hi : inR (F, T) p = true := (inR_iff _ _).2 ⟨k1, k2⟩
  have hrr := (rB_iff _).1 hr
  unfold isR at hrr
  obtain ⟨r1, r2, r3, r4⟩ := hrr
  simp only at r1 r2 r3 r4
  have HM1 : Hid _ := fun (w1 : World) (v1 : Value) (h : RunsIs w1 v1 (chgL orB l (F, T))) => has_ok w1 v1 _ p h (chg_ok ha rfl).1
  rw [(chg_ok ha rfl).2.1, hw, hi] at HM1
  rw [ha, errV_zero] at HAd
  rw [show orB true true = true from rfl] at HM1
  have HM2 : Hid _ := fun (w1 : World) (v1 : Value) (h : RunsIs w1 v1 (chgL cutB l (F, T))) => has_ok w1 v1 _ p h (chg_ok hc rfl).1
  rw [(chg_ok hc rfl).2.1, hw, hi] at HM2
  rw [hc, errV_zero] at HCu
  rw [show cutB true true = false from rfl] at HM2
  clear hx h0 hr ha hc hw hi
  generalize chgL orB l (F, T) = M1 at HAd HM1
  generalize chgL cutB l (F, T) = M2 at HCu HM2
  simp only at HAd HCu
  go_enter Try.func3, Try.ntmps3
  go_wp2_with (first
    | (go_at_call 7; refine (extentFact_any _).mono ?_; rintro e w1 ⟨rfl, hb1⟩)
    | (go_at_call_of 8 v; refine (HH.out _ (HX.out _ hb1)).mono ?_; rintro e w2 ⟨rfl, hb2⟩; have hB2 := Below.next hb1 hb2; obtain ⟨c0, c1⟩ := HBX.out w2 hB2)
    | (go_at_call 9; refine (HR.out _).mono ?_; rintro e w3 ⟨rfl, hb3⟩; have hB3 := Below.next hB2 hb3; obtain ⟨c2, c3⟩ := HBX.out w3 hB3)
    | (go_at_call 10; refine (HAd.out _ (HX.out _ hB3)).mono ?_; rintro e w4 ⟨v4, rfl, hr4, hb4⟩; have hB4 := Below.next hB3 hb4)
    | (go_at_call_of 8 v4; refine (HM1.out _ _ hr4).mono ?_; rintro e w5 ⟨rfl, hb5⟩; have hB5 := Below.next hB4 hb5; obtain ⟨c4, c5⟩ := HBX.out w5 hB5)
    | (go_at_call 11; refine (HCu.out _ (HX.out _ hB5)).mono ?_; rintro e w6 ⟨v6, rfl, hr6, hb6⟩; have hB6 := Below.next hB5 hb6)
    | (go_at_call_of 8 v6; refine (HM2.out _ _ hr6).mono ?_; rintro e w7 ⟨rfl, hb7⟩; have hB7 := Below.next hB6 hb7))
  go_ret
  exact ⟨rfl, Below.next HB0.out hB7⟩

set_option maxHeartbeats 4000000 in
set_option maxRecDepth 100000 in
theorem set_Ctoe (w : World) (v : Value) (l : List Rn) (F T p : Int) (hx : RunsIs w v l) (h0 : runsE l = 0) (hr : rB (F, T) = true) (k1 : F ≤ p) (k2 : p < F + T) (hw : memR l p = true) (ha : chgE orB l (F, T) = 0) (hc : chgE cutB l (F, T) ≠ 0) :
    Calls Try.prog 3 #[v, .agg #[.int .i64 F, .int .i64 T], .int .i64 p] w fun e w' => e = .returned (.bool true) ∧ Below w.heap.size w w' := by
  have HB0 : Hid (Below w.heap.size w (w.alloc (.cells #[.int .i64 F, .int .i64 T] 24))) := below_one _ _
  have HBX : Hid _ := rbox w F T
  have HX : Hid (∀ w1, Below (w.alloc (.cells #[.int .i64 F, .int .i64 T] 24)).heap.size (w.alloc (.cells #[.int .i64 F, .int .i64 T] 24)) w1 → RunsIs w1 v l) := fun w1 h => (hx.later HB0.out).later h
  have HH : Hid _ := fun (w1 : World) (h : RunsIs w1 v l) => has_ok w1 v l p h h0
  have HR : Hid _ := fun (w1 : World) => refRun_any F T w1
  have HAd : Hid _ := fun (w1 : World) (h : RunsIs w1 v l) => add_any w1 v l (F, T) h
  have HCu : Hid _ := fun (w1 : World) (h : RunsIs w1 v l) => cut_any w1 v l (F, T) h
  rw [hw] at HH
  rw [hr] at HR
  have hi : inR (F, T) p = true := (inR_iff _ _).2 ⟨k1, k2⟩
  have hrr := (rB_iff _).1 hr
  unfold isR at hrr
  obtain ⟨r1, r2, r3, r4⟩ := hrr
  simp only at r1 r2 r3 r4
  have HM1 : Hid _ := fun (w1 : World) (v1 : Value) (h : RunsIs w1 v1 (chgL orB l (F, T))) => has_ok w1 v1 _ p h (chg_ok ha rfl).1
  rw [(chg_ok ha rfl).2.1, hw, hi] at HM1
  rw [ha, errV_zero] at HAd
  rw [show orB true true = true from rfl] at HM1
  rw [errV_pos hc] at HCu
  generalize ((chgE cutB l (F, T) : Nat) : Int) = zc at HCu
  clear hx h0 hr ha hc hw hi
  generalize chgL orB l (F, T) = M1 at HAd HM1
  generalize chgL cutB l (F, T) = M2 at HCu
  simp only at HAd HCu
  go_enter Try.func3, Try.ntmps3
  go_wp2_with (first
    | (go_at_call 7; refine (extentFact_any _).mono ?_; rintro e w1 ⟨rfl, hb1⟩)
    | (go_at_call_of 8 v; refine (HH.out _ (HX.out _ hb1)).mono ?_; rintro e w2 ⟨rfl, hb2⟩; have hB2 := Below.next hb1 hb2; obtain ⟨c0, c1⟩ := HBX.out w2 hB2)
    | (go_at_call 9; refine (HR.out _).mono ?_; rintro e w3 ⟨rfl, hb3⟩; have hB3 := Below.next hB2 hb3; obtain ⟨c2, c3⟩ := HBX.out w3 hB3)
    | (go_at_call 10; refine (HAd.out _ (HX.out _ hB3)).mono ?_; rintro e w4 ⟨v4, rfl, hr4, hb4⟩; have hB4 := Below.next hB3 hb4)
    | (go_at_call_of 8 v4; refine (HM1.out _ _ hr4).mono ?_; rintro e w5 ⟨rfl, hb5⟩; have hB5 := Below.next hB4 hb5; obtain ⟨c4, c5⟩ := HBX.out w5 hB5)
    | (go_at_call 11; refine (HCu.out _ (HX.out _ hB5)).mono ?_; rintro e w6 ⟨v6, rfl, hr6, hb6⟩; have hB6 := Below.next hB5 hb6))
  go_ret
  exact ⟨rfl, Below.next HB0.out hB6⟩

set_option maxHeartbeats 4000000 in
set_option maxRecDepth 100000 in
theorem set_Cteo (w : World) (v : Value) (l : List Rn) (F T p : Int) (hx : RunsIs w v l) (h0 : runsE l = 0) (hr : rB (F, T) = true) (k1 : F ≤ p) (k2 : p < F + T) (hw : memR l p = true) (ha : chgE orB l (F, T) ≠ 0) (hc : chgE cutB l (F, T) = 0) :
    Calls Try.prog 3 #[v, .agg #[.int .i64 F, .int .i64 T], .int .i64 p] w fun e w' => e = .returned (.bool true) ∧ Below w.heap.size w w' := by
  have HB0 : Hid (Below w.heap.size w (w.alloc (.cells #[.int .i64 F, .int .i64 T] 24))) := below_one _ _
  have HBX : Hid _ := rbox w F T
  have HX : Hid (∀ w1, Below (w.alloc (.cells #[.int .i64 F, .int .i64 T] 24)).heap.size (w.alloc (.cells #[.int .i64 F, .int .i64 T] 24)) w1 → RunsIs w1 v l) := fun w1 h => (hx.later HB0.out).later h
  have HH : Hid _ := fun (w1 : World) (h : RunsIs w1 v l) => has_ok w1 v l p h h0
  have HR : Hid _ := fun (w1 : World) => refRun_any F T w1
  have HAd : Hid _ := fun (w1 : World) (h : RunsIs w1 v l) => add_any w1 v l (F, T) h
  have HCu : Hid _ := fun (w1 : World) (h : RunsIs w1 v l) => cut_any w1 v l (F, T) h
  rw [hw] at HH
  rw [hr] at HR
  have hi : inR (F, T) p = true := (inR_iff _ _).2 ⟨k1, k2⟩
  have hrr := (rB_iff _).1 hr
  unfold isR at hrr
  obtain ⟨r1, r2, r3, r4⟩ := hrr
  simp only at r1 r2 r3 r4
  rw [errV_pos ha] at HAd
  generalize ((chgE orB l (F, T) : Nat) : Int) = za at HAd
  have HM2 : Hid _ := fun (w1 : World) (v1 : Value) (h : RunsIs w1 v1 (chgL cutB l (F, T))) => has_ok w1 v1 _ p h (chg_ok hc rfl).1
  rw [(chg_ok hc rfl).2.1, hw, hi] at HM2
  rw [hc, errV_zero] at HCu
  rw [show cutB true true = false from rfl] at HM2
  clear hx h0 hr ha hc hw hi
  generalize chgL orB l (F, T) = M1 at HAd
  generalize chgL cutB l (F, T) = M2 at HCu HM2
  simp only at HAd HCu
  go_enter Try.func3, Try.ntmps3
  go_wp2_with (first
    | (go_at_call 7; refine (extentFact_any _).mono ?_; rintro e w1 ⟨rfl, hb1⟩)
    | (go_at_call_of 8 v; refine (HH.out _ (HX.out _ hb1)).mono ?_; rintro e w2 ⟨rfl, hb2⟩; have hB2 := Below.next hb1 hb2; obtain ⟨c0, c1⟩ := HBX.out w2 hB2)
    | (go_at_call 9; refine (HR.out _).mono ?_; rintro e w3 ⟨rfl, hb3⟩; have hB3 := Below.next hB2 hb3; obtain ⟨c2, c3⟩ := HBX.out w3 hB3)
    | (go_at_call 10; refine (HAd.out _ (HX.out _ hB3)).mono ?_; rintro e w4 ⟨v4, rfl, hr4, hb4⟩; have hB5 := Below.next hB3 hb4; obtain ⟨c4, c5⟩ := HBX.out w4 hB5)
    | (go_at_call 11; refine (HCu.out _ (HX.out _ hB5)).mono ?_; rintro e w6 ⟨v6, rfl, hr6, hb6⟩; have hB6 := Below.next hB5 hb6)
    | (go_at_call_of 8 v6; refine (HM2.out _ _ hr6).mono ?_; rintro e w7 ⟨rfl, hb7⟩; have hB7 := Below.next hB6 hb7))
  go_ret
  exact ⟨rfl, Below.next HB0.out hB7⟩

set_option maxHeartbeats 4000000 in
set_option maxRecDepth 100000 in
theorem set_Ctee (w : World) (v : Value) (l : List Rn) (F T p : Int) (hx : RunsIs w v l) (h0 : runsE l = 0) (hr : rB (F, T) = true) (k1 : F ≤ p) (k2 : p < F + T) (hw : memR l p = true) (ha : chgE orB l (F, T) ≠ 0) (hc : chgE cutB l (F, T) ≠ 0) :
    Calls Try.prog 3 #[v, .agg #[.int .i64 F, .int .i64 T], .int .i64 p] w fun e w' => e = .returned (.bool true) ∧ Below w.heap.size w w' := by
  have HB0 : Hid (Below w.heap.size w (w.alloc (.cells #[.int .i64 F, .int .i64 T] 24))) := below_one _ _
  have HBX : Hid _ := rbox w F T
  have HX : Hid (∀ w1, Below (w.alloc (.cells #[.int .i64 F, .int .i64 T] 24)).heap.size (w.alloc (.cells #[.int .i64 F, .int .i64 T] 24)) w1 → RunsIs w1 v l) := fun w1 h => (hx.later HB0.out).later h
  have HH : Hid _ := fun (w1 : World) (h : RunsIs w1 v l) => has_ok w1 v l p h h0
  have HR : Hid _ := fun (w1 : World) => refRun_any F T w1
  have HAd : Hid _ := fun (w1 : World) (h : RunsIs w1 v l) => add_any w1 v l (F, T) h
  have HCu : Hid _ := fun (w1 : World) (h : RunsIs w1 v l) => cut_any w1 v l (F, T) h
  rw [hw] at HH
  rw [hr] at HR
  have hi : inR (F, T) p = true := (inR_iff _ _).2 ⟨k1, k2⟩
  have hrr := (rB_iff _).1 hr
  unfold isR at hrr
  obtain ⟨r1, r2, r3, r4⟩ := hrr
  simp only at r1 r2 r3 r4
  rw [errV_pos ha] at HAd
  generalize ((chgE orB l (F, T) : Nat) : Int) = za at HAd
  rw [errV_pos hc] at HCu
  generalize ((chgE cutB l (F, T) : Nat) : Int) = zc at HCu
  clear hx h0 hr ha hc hw hi
  generalize chgL orB l (F, T) = M1 at HAd
  generalize chgL cutB l (F, T) = M2 at HCu
  simp only at HAd HCu
  go_enter Try.func3, Try.ntmps3
  go_wp2_with (first
    | (go_at_call 7; refine (extentFact_any _).mono ?_; rintro e w1 ⟨rfl, hb1⟩)
    | (go_at_call_of 8 v; refine (HH.out _ (HX.out _ hb1)).mono ?_; rintro e w2 ⟨rfl, hb2⟩; have hB2 := Below.next hb1 hb2; obtain ⟨c0, c1⟩ := HBX.out w2 hB2)
    | (go_at_call 9; refine (HR.out _).mono ?_; rintro e w3 ⟨rfl, hb3⟩; have hB3 := Below.next hB2 hb3; obtain ⟨c2, c3⟩ := HBX.out w3 hB3)
    | (go_at_call 10; refine (HAd.out _ (HX.out _ hB3)).mono ?_; rintro e w4 ⟨v4, rfl, hr4, hb4⟩; have hB5 := Below.next hB3 hb4; obtain ⟨c4, c5⟩ := HBX.out w4 hB5)
    | (go_at_call 11; refine (HCu.out _ (HX.out _ hB5)).mono ?_; rintro e w6 ⟨v6, rfl, hr6, hb6⟩; have hB6 := Below.next hB5 hb6))
  go_ret
  exact ⟨rfl, Below.next HB0.out hB6⟩

set_option maxHeartbeats 4000000 in
set_option maxRecDepth 100000 in
theorem set_Cfoo (w : World) (v : Value) (l : List Rn) (F T p : Int) (hx : RunsIs w v l) (h0 : runsE l = 0) (hr : rB (F, T) = true) (k1 : F ≤ p) (k2 : p < F + T) (hw : memR l p = false) (ha : chgE orB l (F, T) = 0) (hc : chgE cutB l (F, T) = 0) :
    Calls Try.prog 3 #[v, .agg #[.int .i64 F, .int .i64 T], .int .i64 p] w fun e w' => e = .returned (.bool true) ∧ Below w.heap.size w w' := by
  have HB0 : Hid (Below w.heap.size w (w.alloc (.cells #[.int .i64 F, .int .i64 T] 24))) := below_one _ _
  have HBX : Hid _ := rbox w F T
  have HX : Hid (∀ w1, Below (w.alloc (.cells #[.int .i64 F, .int .i64 T] 24)).heap.size (w.alloc (.cells #[.int .i64 F, .int .i64 T] 24)) w1 → RunsIs w1 v l) := fun w1 h => (hx.later HB0.out).later h
  have HH : Hid _ := fun (w1 : World) (h : RunsIs w1 v l) => has_ok w1 v l p h h0
  have HR : Hid _ := fun (w1 : World) => refRun_any F T w1
  have HAd : Hid _ := fun (w1 : World) (h : RunsIs w1 v l) => add_any w1 v l (F, T) h
  have HCu : Hid _ := fun (w1 : World) (h : RunsIs w1 v l) => cut_any w1 v l (F, T) h
  rw [hw] at HH
  rw [hr] at HR
  have hi : inR (F, T) p = true := (inR_iff _ _).2 ⟨k1, k2⟩
  have hrr := (rB_iff _).1 hr
  unfold isR at hrr
  obtain ⟨r1, r2, r3, r4⟩ := hrr
  simp only at r1 r2 r3 r4
  have HM1 : Hid _ := fun (w1 : World) (v1 : Value) (h : RunsIs w1 v1 (chgL orB l (F, T))) => has_ok w1 v1 _ p h (chg_ok ha rfl).1
  rw [(chg_ok ha rfl).2.1, hw, hi] at HM1
  rw [ha, errV_zero] at HAd
  rw [show orB false true = true from rfl] at HM1
  have HM2 : Hid _ := fun (w1 : World) (v1 : Value) (h : RunsIs w1 v1 (chgL cutB l (F, T))) => has_ok w1 v1 _ p h (chg_ok hc rfl).1
  rw [(chg_ok hc rfl).2.1, hw, hi] at HM2
  rw [hc, errV_zero] at HCu
  rw [show cutB false true = false from rfl] at HM2
  clear hx h0 hr ha hc hw hi
  generalize chgL orB l (F, T) = M1 at HAd HM1
  generalize chgL cutB l (F, T) = M2 at HCu HM2
  simp only at HAd HCu
  go_enter Try.func3, Try.ntmps3
  go_wp2_with (first
    | (go_at_call 7; refine (extentFact_any _).mono ?_; rintro e w1 ⟨rfl, hb1⟩)
    | (go_at_call_of 8 v; refine (HH.out _ (HX.out _ hb1)).mono ?_; rintro e w2 ⟨rfl, hb2⟩; have hB2 := Below.next hb1 hb2; obtain ⟨c0, c1⟩ := HBX.out w2 hB2)
    | (go_at_call 9; refine (HR.out _).mono ?_; rintro e w3 ⟨rfl, hb3⟩; have hB3 := Below.next hB2 hb3; obtain ⟨c2, c3⟩ := HBX.out w3 hB3)
    | (go_at_call 10; refine (HAd.out _ (HX.out _ hB3)).mono ?_; rintro e w4 ⟨v4, rfl, hr4, hb4⟩; have hB4 := Below.next hB3 hb4)
    | (go_at_call_of 8 v4; refine (HM1.out _ _ hr4).mono ?_; rintro e w5 ⟨rfl, hb5⟩; have hB5 := Below.next hB4 hb5; obtain ⟨c4, c5⟩ := HBX.out w5 hB5)
    | (go_at_call 11; refine (HCu.out _ (HX.out _ hB5)).mono ?_; rintro e w6 ⟨v6, rfl, hr6, hb6⟩; have hB6 := Below.next hB5 hb6)
    | (go_at_call_of 8 v6; refine (HM2.out _ _ hr6).mono ?_; rintro e w7 ⟨rfl, hb7⟩; have hB7 := Below.next hB6 hb7))
  go_ret
  exact ⟨rfl, Below.next HB0.out hB7⟩

set_option maxHeartbeats 4000000 in
set_option maxRecDepth 100000 in
theorem set_Cfoe (w : World) (v : Value) (l : List Rn) (F T p : Int) (hx : RunsIs w v l) (h0 : runsE l = 0) (hr : rB (F, T) = true) (k1 : F ≤ p) (k2 : p < F + T) (hw : memR l p = false) (ha : chgE orB l (F, T) = 0) (hc : chgE cutB l (F, T) ≠ 0) :
    Calls Try.prog 3 #[v, .agg #[.int .i64 F, .int .i64 T], .int .i64 p] w fun e w' => e = .returned (.bool true) ∧ Below w.heap.size w w' := by
  have HB0 : Hid (Below w.heap.size w (w.alloc (.cells #[.int .i64 F, .int .i64 T] 24))) := below_one _ _
  have HBX : Hid _ := rbox w F T
  have HX : Hid (∀ w1, Below (w.alloc (.cells #[.int .i64 F, .int .i64 T] 24)).heap.size (w.alloc (.cells #[.int .i64 F, .int .i64 T] 24)) w1 → RunsIs w1 v l) := fun w1 h => (hx.later HB0.out).later h
  have HH : Hid _ := fun (w1 : World) (h : RunsIs w1 v l) => has_ok w1 v l p h h0
  have HR : Hid _ := fun (w1 : World) => refRun_any F T w1
  have HAd : Hid _ := fun (w1 : World) (h : RunsIs w1 v l) => add_any w1 v l (F, T) h
  have HCu : Hid _ := fun (w1 : World) (h : RunsIs w1 v l) => cut_any w1 v l (F, T) h
  rw [hw] at HH
  rw [hr] at HR
  have hi : inR (F, T) p = true := (inR_iff _ _).2 ⟨k1, k2⟩
  have hrr := (rB_iff _).1 hr
  unfold isR at hrr
  obtain ⟨r1, r2, r3, r4⟩ := hrr
  simp only at r1 r2 r3 r4
  have HM1 : Hid _ := fun (w1 : World) (v1 : Value) (h : RunsIs w1 v1 (chgL orB l (F, T))) => has_ok w1 v1 _ p h (chg_ok ha rfl).1
  rw [(chg_ok ha rfl).2.1, hw, hi] at HM1
  rw [ha, errV_zero] at HAd
  rw [show orB false true = true from rfl] at HM1
  rw [errV_pos hc] at HCu
  generalize ((chgE cutB l (F, T) : Nat) : Int) = zc at HCu
  clear hx h0 hr ha hc hw hi
  generalize chgL orB l (F, T) = M1 at HAd HM1
  generalize chgL cutB l (F, T) = M2 at HCu
  simp only at HAd HCu
  go_enter Try.func3, Try.ntmps3
  go_wp2_with (first
    | (go_at_call 7; refine (extentFact_any _).mono ?_; rintro e w1 ⟨rfl, hb1⟩)
    | (go_at_call_of 8 v; refine (HH.out _ (HX.out _ hb1)).mono ?_; rintro e w2 ⟨rfl, hb2⟩; have hB2 := Below.next hb1 hb2; obtain ⟨c0, c1⟩ := HBX.out w2 hB2)
    | (go_at_call 9; refine (HR.out _).mono ?_; rintro e w3 ⟨rfl, hb3⟩; have hB3 := Below.next hB2 hb3; obtain ⟨c2, c3⟩ := HBX.out w3 hB3)
    | (go_at_call 10; refine (HAd.out _ (HX.out _ hB3)).mono ?_; rintro e w4 ⟨v4, rfl, hr4, hb4⟩; have hB4 := Below.next hB3 hb4)
    | (go_at_call_of 8 v4; refine (HM1.out _ _ hr4).mono ?_; rintro e w5 ⟨rfl, hb5⟩; have hB5 := Below.next hB4 hb5; obtain ⟨c4, c5⟩ := HBX.out w5 hB5)
    | (go_at_call 11; refine (HCu.out _ (HX.out _ hB5)).mono ?_; rintro e w6 ⟨v6, rfl, hr6, hb6⟩; have hB6 := Below.next hB5 hb6))
  go_ret
  exact ⟨rfl, Below.next HB0.out hB6⟩

set_option maxHeartbeats 4000000 in
set_option maxRecDepth 100000 in
theorem set_Cfeo (w : World) (v : Value) (l : List Rn) (F T p : Int) (hx : RunsIs w v l) (h0 : runsE l = 0) (hr : rB (F, T) = true) (k1 : F ≤ p) (k2 : p < F + T) (hw : memR l p = false) (ha : chgE orB l (F, T) ≠ 0) (hc : chgE cutB l (F, T) = 0) :
    Calls Try.prog 3 #[v, .agg #[.int .i64 F, .int .i64 T], .int .i64 p] w fun e w' => e = .returned (.bool true) ∧ Below w.heap.size w w' := by
  have HB0 : Hid (Below w.heap.size w (w.alloc (.cells #[.int .i64 F, .int .i64 T] 24))) := below_one _ _
  have HBX : Hid _ := rbox w F T
  have HX : Hid (∀ w1, Below (w.alloc (.cells #[.int .i64 F, .int .i64 T] 24)).heap.size (w.alloc (.cells #[.int .i64 F, .int .i64 T] 24)) w1 → RunsIs w1 v l) := fun w1 h => (hx.later HB0.out).later h
  have HH : Hid _ := fun (w1 : World) (h : RunsIs w1 v l) => has_ok w1 v l p h h0
  have HR : Hid _ := fun (w1 : World) => refRun_any F T w1
  have HAd : Hid _ := fun (w1 : World) (h : RunsIs w1 v l) => add_any w1 v l (F, T) h
  have HCu : Hid _ := fun (w1 : World) (h : RunsIs w1 v l) => cut_any w1 v l (F, T) h
  rw [hw] at HH
  rw [hr] at HR
  have hi : inR (F, T) p = true := (inR_iff _ _).2 ⟨k1, k2⟩
  have hrr := (rB_iff _).1 hr
  unfold isR at hrr
  obtain ⟨r1, r2, r3, r4⟩ := hrr
  simp only at r1 r2 r3 r4
  rw [errV_pos ha] at HAd
  generalize ((chgE orB l (F, T) : Nat) : Int) = za at HAd
  have HM2 : Hid _ := fun (w1 : World) (v1 : Value) (h : RunsIs w1 v1 (chgL cutB l (F, T))) => has_ok w1 v1 _ p h (chg_ok hc rfl).1
  rw [(chg_ok hc rfl).2.1, hw, hi] at HM2
  rw [hc, errV_zero] at HCu
  rw [show cutB false true = false from rfl] at HM2
  clear hx h0 hr ha hc hw hi
  generalize chgL orB l (F, T) = M1 at HAd
  generalize chgL cutB l (F, T) = M2 at HCu HM2
  simp only at HAd HCu
  go_enter Try.func3, Try.ntmps3
  go_wp2_with (first
    | (go_at_call 7; refine (extentFact_any _).mono ?_; rintro e w1 ⟨rfl, hb1⟩)
    | (go_at_call_of 8 v; refine (HH.out _ (HX.out _ hb1)).mono ?_; rintro e w2 ⟨rfl, hb2⟩; have hB2 := Below.next hb1 hb2; obtain ⟨c0, c1⟩ := HBX.out w2 hB2)
    | (go_at_call 9; refine (HR.out _).mono ?_; rintro e w3 ⟨rfl, hb3⟩; have hB3 := Below.next hB2 hb3; obtain ⟨c2, c3⟩ := HBX.out w3 hB3)
    | (go_at_call 10; refine (HAd.out _ (HX.out _ hB3)).mono ?_; rintro e w4 ⟨v4, rfl, hr4, hb4⟩; have hB5 := Below.next hB3 hb4; obtain ⟨c4, c5⟩ := HBX.out w4 hB5)
    | (go_at_call 11; refine (HCu.out _ (HX.out _ hB5)).mono ?_; rintro e w6 ⟨v6, rfl, hr6, hb6⟩; have hB6 := Below.next hB5 hb6)
    | (go_at_call_of 8 v6; refine (HM2.out _ _ hr6).mono ?_; rintro e w7 ⟨rfl, hb7⟩; have hB7 := Below.next hB6 hb7))
  go_ret
  exact ⟨rfl, Below.next HB0.out hB7⟩

set_option maxHeartbeats 4000000 in
set_option maxRecDepth 100000 in
theorem set_Cfee (w : World) (v : Value) (l : List Rn) (F T p : Int) (hx : RunsIs w v l) (h0 : runsE l = 0) (hr : rB (F, T) = true) (k1 : F ≤ p) (k2 : p < F + T) (hw : memR l p = false) (ha : chgE orB l (F, T) ≠ 0) (hc : chgE cutB l (F, T) ≠ 0) :
    Calls Try.prog 3 #[v, .agg #[.int .i64 F, .int .i64 T], .int .i64 p] w fun e w' => e = .returned (.bool true) ∧ Below w.heap.size w w' := by
  have HB0 : Hid (Below w.heap.size w (w.alloc (.cells #[.int .i64 F, .int .i64 T] 24))) := below_one _ _
  have HBX : Hid _ := rbox w F T
  have HX : Hid (∀ w1, Below (w.alloc (.cells #[.int .i64 F, .int .i64 T] 24)).heap.size (w.alloc (.cells #[.int .i64 F, .int .i64 T] 24)) w1 → RunsIs w1 v l) := fun w1 h => (hx.later HB0.out).later h
  have HH : Hid _ := fun (w1 : World) (h : RunsIs w1 v l) => has_ok w1 v l p h h0
  have HR : Hid _ := fun (w1 : World) => refRun_any F T w1
  have HAd : Hid _ := fun (w1 : World) (h : RunsIs w1 v l) => add_any w1 v l (F, T) h
  have HCu : Hid _ := fun (w1 : World) (h : RunsIs w1 v l) => cut_any w1 v l (F, T) h
  rw [hw] at HH
  rw [hr] at HR
  have hi : inR (F, T) p = true := (inR_iff _ _).2 ⟨k1, k2⟩
  have hrr := (rB_iff _).1 hr
  unfold isR at hrr
  obtain ⟨r1, r2, r3, r4⟩ := hrr
  simp only at r1 r2 r3 r4
  rw [errV_pos ha] at HAd
  generalize ((chgE orB l (F, T) : Nat) : Int) = za at HAd
  rw [errV_pos hc] at HCu
  generalize ((chgE cutB l (F, T) : Nat) : Int) = zc at HCu
  clear hx h0 hr ha hc hw hi
  generalize chgL orB l (F, T) = M1 at HAd
  generalize chgL cutB l (F, T) = M2 at HCu
  simp only at HAd HCu
  go_enter Try.func3, Try.ntmps3
  go_wp2_with (first
    | (go_at_call 7; refine (extentFact_any _).mono ?_; rintro e w1 ⟨rfl, hb1⟩)
    | (go_at_call_of 8 v; refine (HH.out _ (HX.out _ hb1)).mono ?_; rintro e w2 ⟨rfl, hb2⟩; have hB2 := Below.next hb1 hb2; obtain ⟨c0, c1⟩ := HBX.out w2 hB2)
    | (go_at_call 9; refine (HR.out _).mono ?_; rintro e w3 ⟨rfl, hb3⟩; have hB3 := Below.next hB2 hb3; obtain ⟨c2, c3⟩ := HBX.out w3 hB3)
    | (go_at_call 10; refine (HAd.out _ (HX.out _ hB3)).mono ?_; rintro e w4 ⟨v4, rfl, hr4, hb4⟩; have hB5 := Below.next hB3 hb4; obtain ⟨c4, c5⟩ := HBX.out w4 hB5)
    | (go_at_call 11; refine (HCu.out _ (HX.out _ hB5)).mono ?_; rintro e w6 ⟨v6, rfl, hr6, hb6⟩; have hB6 := Below.next hB5 hb6))
  go_ret
  exact ⟨rfl, Below.next HB0.out hB6⟩

set_option maxHeartbeats 4000000 in
set_option maxRecDepth 100000 in
theorem extentSet_walk (w : World) (v : Value) (l : List Rn) (F T p : Int) (hx : RunsIs w v l) :
    Calls Try.prog 3 #[v, .agg #[.int .i64 F, .int .i64 T], .int .i64 p] w fun e w' => e = .returned (.bool true) ∧ Below w.heap.size w w' := by
  by_cases h0 : runsE l = 0
  · cases hr : rB (F, T) with
    | false =>
      have e : ∀ b, chgE b l (F, T) ≠ 0 := fun b h => by have := (chgE_zero.1 h).2.1; rw [hr] at this; cases this
      exact set_Nxee w v l F T p hx h0 hr (e _) (e _)
    | true =>
      by_cases ha : chgE orB l (F, T) = 0
      · by_cases hc : chgE cutB l (F, T) = 0
        · cases hw : memR l p with
          | true =>
            by_cases k1 : F ≤ p
            · by_cases k2 : p < F + T
              · exact set_Ctoo w v l F T p hx h0 hr k1 k2 hw ha hc
              · exact set_Btoo w v l F T p hx h0 hr k1 k2 hw ha hc
            · exact set_Atoo w v l F T p hx h0 hr k1 hw ha hc
          | false =>
            by_cases k1 : F ≤ p
            · by_cases k2 : p < F + T
              · exact set_Cfoo w v l F T p hx h0 hr k1 k2 hw ha hc
              · exact set_Bfoo w v l F T p hx h0 hr k1 k2 hw ha hc
            · exact set_Afoo w v l F T p hx h0 hr k1 hw ha hc
        · cases hw : memR l p with
          | true =>
            by_cases k1 : F ≤ p
            · by_cases k2 : p < F + T
              · exact set_Ctoe w v l F T p hx h0 hr k1 k2 hw ha hc
              · exact set_Btoe w v l F T p hx h0 hr k1 k2 hw ha hc
            · exact set_Atoe w v l F T p hx h0 hr k1 hw ha hc
          | false =>
            by_cases k1 : F ≤ p
            · by_cases k2 : p < F + T
              · exact set_Cfoe w v l F T p hx h0 hr k1 k2 hw ha hc
              · exact set_Bfoe w v l F T p hx h0 hr k1 k2 hw ha hc
            · exact set_Afoe w v l F T p hx h0 hr k1 hw ha hc
      · by_cases hc : chgE cutB l (F, T) = 0
        · cases hw : memR l p with
          | true =>
            by_cases k1 : F ≤ p
            · by_cases k2 : p < F + T
              · exact set_Cteo w v l F T p hx h0 hr k1 k2 hw ha hc
              · exact set_Bteo w v l F T p hx h0 hr k1 k2 hw ha hc
            · exact set_Ateo w v l F T p hx h0 hr k1 hw ha hc
          | false =>
            by_cases k1 : F ≤ p
            · by_cases k2 : p < F + T
              · exact set_Cfeo w v l F T p hx h0 hr k1 k2 hw ha hc
              · exact set_Bfeo w v l F T p hx h0 hr k1 k2 hw ha hc
            · exact set_Afeo w v l F T p hx h0 hr k1 hw ha hc
        · cases hw : memR l p with
          | true =>
            by_cases k1 : F ≤ p
            · by_cases k2 : p < F + T
              · exact set_Ctee w v l F T p hx h0 hr k1 k2 hw ha hc
              · exact set_Btee w v l F T p hx h0 hr k1 k2 hw ha hc
            · exact set_Atee w v l F T p hx h0 hr k1 hw ha hc
          | false =>
            by_cases k1 : F ≤ p
            · by_cases k2 : p < F + T
              · exact set_Cfee w v l F T p hx h0 hr k1 k2 hw ha hc
              · exact set_Bfee w v l F T p hx h0 hr k1 k2 hw ha hc
            · exact set_Afee w v l F T p hx h0 hr k1 hw ha hc
  · have HB0 : Hid (Below w.heap.size w (w.alloc (.cells #[.int .i64 F, .int .i64 T] 24))) := below_one _ _
    have HX : Hid (∀ w1, Below (w.alloc (.cells #[.int .i64 F, .int .i64 T] 24)).heap.size (w.alloc (.cells #[.int .i64 F, .int .i64 T] 24)) w1 → RunsIs w1 v l) := fun w1 h => (hx.later HB0.out).later h
    have HH : Hid _ := fun (w1 : World) (h : RunsIs w1 v l) => has_any w1 v l p h
    rw [decide_eq_false h0, Bool.false_and, errV_pos h0] at HH
    clear hx h0
    generalize ((runsE l : Nat) : Int) = z at HH
    go_enter Try.func3, Try.ntmps3
    go_wp2_with (first
      | (go_at_call 7; refine (extentFact_any _).mono ?_; rintro e w1 ⟨rfl, hb1⟩)
      | (go_at_call_of 8 v; refine (HH.out _ (HX.out _ hb1)).mono ?_; rintro e w2 ⟨rfl, hb2⟩))
    go_ret
    exact ⟨rfl, Below.next HB0.out (Below.next hb1 hb2)⟩

theorem extentSet_any (w : World) (v v1 : Value) (p : Int) (l : List Rn) (r : Rn) (hx : RunsIs w v l) (h1 : v1 = .agg #[.int .i64 r.1, .int .i64 r.2]) :
    Calls Try.prog 3 #[v, v1, .int .i64 p] w fun e w' => e = .returned (.bool true) ∧ Below w.heap.size w w' := by
  subst h1
  exact extentSet_walk w v l r.1 r.2 p hx

end Go.Proofs.Ytihefpnagdacpaa
