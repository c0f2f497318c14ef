/- This text proves that the law ExtentSays returns true for every set, every run and every place: what is wrong, the set with the run and without, and how many places it has are the document's; the conditions: the slice lies there, and errors.errorType holds what the program's own text lays. -/
import Derived.Test.YtihefpnagdacpaaDoorY2
import Derived.Test.YtihefpnagdacpaaDoorX7
import Derived.Test.YtihefpnagdacpaaDoorX3
namespace Go.Proofs.YtihefpnagdacpaaDoor
open Go.RowKit Go.Deep

theorem ebox (w : World) (F T : Int) : ∀ w1, Below (w.alloc (.cells #[.int .i64 F, .int .i64 T] 24)).heap.size (w.alloc (.cells #[.int .i64 F, .int .i64 T] 24)) w1 → w1.cell? ⟨w.heap.size, 0, none⟩ = some (.int .i64 F) ∧ w1.cell? ⟨w.heap.size, 1, none⟩ = some (.int .i64 T) := fun w1 h => by
  exact ⟨by rw [h.cell (p := ⟨w.heap.size, 0, none⟩) (by simp)]; exact cell_new _ _ _ _, by rw [h.cell (p := ⟨w.heap.size, 1, none⟩) (by simp)]; exact cell_new _ _ _ _⟩
theorem rn_self (l : List Rn) : rnB l l = true := by unfold rnB; simp

set_option maxHeartbeats 8000000 in
set_option maxRecDepth 100000 in
theorem says_ok (w : World) (v : Value) (l : List Rn) (F T p : Int) (hx : RunsIs w v l) (hL : Laid w) (h0 : runsE l = 0) :
    Calls Tryd.prog 3 #[v, .agg #[.int .i64 F, .int .i64 T], .int .i64 p] w fun e w' => e = .returned (.bool true) ∧ Below w.heap.size w w' := by
  have HB0 : Hid (Below w.heap.size w (w.alloc (.cells #[.int .i64 F, .int .i64 T] 24))) := below_one _ _
  have HBX : Hid _ := ebox w F T
  have HX : Hid (∀ w1, Below (w.alloc (.cells #[.int .i64 F, .int .i64 T] 24)).heap.size (w.alloc (.cells #[.int .i64 F, .int .i64 T] 24)) w1 → RunsIs w1 v l) := fun w1 h => (hx.later HB0.out).later h
  have HL : Hid (∀ w1, Below (w.alloc (.cells #[.int .i64 F, .int .i64 T] 24)).heap.size (w.alloc (.cells #[.int .i64 F, .int .i64 T] 24)) w1 → Laid w1) := fun w1 h => (hL.later HB0.out).later h
  have HRu : Hid _ := fun (w1 : World) (h : RunsIs w1 v l) => refRuns_any w1 v l h
  have HCk : Hid _ := fun (w1 : World) (h : RunsIs w1 v l) => check_any w1 v l h
  have HEr : Hid _ := fun (w1 : World) (h : Laid w1) => error_any (runsE l) ((runsE l : Nat) : Int) w1 h
  have HSz : Hid _ := fun (w1 : World) (h : RunsIs w1 v l) => size_any w1 v l h
  have HHa : Hid _ := fun (w1 : World) (h : RunsIs w1 v l) => has_any w1 v l p h
  have HC1 : Hid _ := fun (w1 : World) (h : RunsIs w1 v l) => chgd_add w1 v l (F, T) h
  have HA1 : Hid _ := fun (w1 : World) (h : RunsIs w1 v l) => add_any w1 v l (F, T) h
  have HE1 : Hid _ := fun (w1 : World) (h : Laid w1) => error_any (chgE orB l (F, T)) ((chgE orB l (F, T) : Nat) : Int) w1 h
  have HQ1 : Hid _ := fun (w1 : World) (v1 v2 : Value) (h : RunsIs w1 v1 (chgL orB l (F, T))) (h2 : RunsIs w1 v2 (chgL orB l (F, T))) => runs_any w1 v1 v2 _ _ h h2
  rw [rn_self] at HQ1
  rw [show (((chgE orB l (F, T) : Nat) : Int) == ((chgE orB l (F, T) : Nat) : Int)) = true by simp] at HE1
  have HC2 : Hid _ := fun (w1 : World) (h : RunsIs w1 v l) => chgd_cut w1 v l (F, T) h
  have HA2 : Hid _ := fun (w1 : World) (h : RunsIs w1 v l) => cut_any w1 v l (F, T) h
  have HE2 : Hid _ := fun (w1 : World) (h : Laid w1) => error_any (chgE cutB l (F, T)) ((chgE cutB l (F, T) : Nat) : Int) w1 h
  have HQ2 : Hid _ := fun (w1 : World) (v1 v2 : Value) (h : RunsIs w1 v1 (chgL cutB l (F, T))) (h2 : RunsIs w1 v2 (chgL cutB l (F, T))) => runs_any w1 v1 v2 _ _ h h2
  rw [rn_self] at HQ2
  rw [show (((chgE cutB l (F, T) : Nat) : Int) == ((chgE cutB l (F, T) : Nat) : Int)) = true by simp] at HE2
  rw [show (((runsE l : Nat) : Int) == ((runsE l : Nat) : Int)) = true by simp] at HEr
  have HIn : Hid _ := fun (w1 : World) (h : RunsIs w1 v l) => inRuns_any w1 v l p h (ok_each h0)
  have HRr : Hid (∀ x ∈ l, isR x) := ok_each h0
  have h16 : l.length ≤ 16 := ((runsE_ok l).1 h0).1
  rw [if_pos h0] at HSz
  rw [decide_eq_true h0, Bool.true_and] at HHa
  rw [h0] at HRu HEr HSz HHa HCk
  rw [show ((0 : Nat) : Int) = 0 from rfl] at HRu HEr
  generalize errV 0 = E0 at HEr HSz HHa HCk
  generalize hB : memR l p = B at HHa HIn
  have hBB : (B == B) = true := by simp
  clear hB
  generalize errV (chgE orB l (F, T)) = E1 at HA1 HE1
  generalize ((chgE orB l (F, T) : Nat) : Int) = z1 at HC1 HE1
  generalize chgL orB l (F, T) = M1 at HA1 HC1 HQ1
  generalize errV (chgE cutB l (F, T)) = E2 at HA2 HE2
  generalize ((chgE cutB l (F, T) : Nat) : Int) = z2 at HC2 HE2
  generalize chgL cutB l (F, T) = M2 at HA2 HC2 HQ2
  simp only at HC1 HC2 HA1 HA2
  obtain ⟨a, c, b, o, rfl, hl, ha, hb, hc⟩ := hx.where
  obtain ⟨n, hxn⟩ : ∃ n, n = l.length := ⟨_, rfl⟩
  have HN : Hid (n = l.length) := hxn
  rw [← hxn] at hl ha hb hc HX HRu HCk HSz HHa HC1 HC2 HA1 HA2 HIn h16 ⊢
  unfold maxLen at hl
  have HCc : Hid (∀ i, i < n → w.cell? ⟨b, o + i * 2, none⟩ = some (.int .i64 (rAt l i).1) ∧ w.cell? ⟨b, o + i * 2 + 1, none⟩ = some (.int .i64 (rAt l i).2)) := hc
  have HAa : Hid (0 < n → a = some ⟨b, o, none⟩) := ha
  clear hx hL h0 hc hxn ha
  go_enter Tryd.func3, Tryd.ntmps3
  have HS0 : Hid (Below (w.alloc (.cells #[.int .i64 F, .int .i64 T] 24)).heap.size (w.alloc (.cells #[.int .i64 F, .int .i64 T] 24)) (w.alloc (.cells #[.int .i64 F, .int .i64 T] 24))) := Below.refl _ _
  go_wp2_with fail
  refine (HRu.out _ (HX.out _ HS0.out)).mono ?_
  rintro e w1 ⟨rfl, hb1⟩
  have HS1 : Hid (Below (w.alloc (.cells #[.int .i64 F, .int .i64 T] 24)).heap.size (w.alloc (.cells #[.int .i64 F, .int .i64 T] 24)) w1) := Below.next HS0.out hb1
  clear hb1
  go_wp2_with fail
  refine (HCk.out _ (HX.out _ HS1.out)).mono ?_
  rintro e w2 ⟨rfl, hb2⟩
  have HS2 : Hid (Below (w.alloc (.cells #[.int .i64 F, .int .i64 T] 24)).heap.size (w.alloc (.cells #[.int .i64 F, .int .i64 T] 24)) w2) := Below.next HS1.out hb2
  clear hb2
  go_wp2_with fail
  refine (HEr.out _ (HL.out _ HS2.out)).mono ?_
  rintro e w3 ⟨rfl, hb3⟩
  have HS3 : Hid (Below (w.alloc (.cells #[.int .i64 F, .int .i64 T] 24)).heap.size (w.alloc (.cells #[.int .i64 F, .int .i64 T] 24)) w3) := Below.next HS2.out hb3
  clear hb3
  go_wp2_with fail
  refine (HSz.out _ (HX.out _ HS3.out)).mono ?_
  rintro e w4 ⟨rfl, hb4⟩
  have HS4 : Hid (Below (w.alloc (.cells #[.int .i64 F, .int .i64 T] 24)).heap.size (w.alloc (.cells #[.int .i64 F, .int .i64 T] 24)) w4) := Below.next HS3.out hb4
  clear hb4
  go_wp2_with fail
  refine (HHa.out _ (HX.out _ HS4.out)).mono ?_
  rintro e w5 ⟨rfl, hb5⟩
  have HS5 : Hid (Below (w.alloc (.cells #[.int .i64 F, .int .i64 T] 24)).heap.size (w.alloc (.cells #[.int .i64 F, .int .i64 T] 24)) w5) := Below.next HS4.out hb5
  clear hb5
  go_wp2
  go_loop [13, 14] (fun s i => ∃ k : Nat, k ≤ n ∧ i = .int .i64 (k : Int) ∧ s = .int .i64 (szL (l.take k))) (fun _ i => n - (intOf i).toNat)
  case atStart => exact ⟨0, Nat.zero_le _, rfl, rfl⟩
  case round =>
    obtain ⟨k, hk, rfl, rfl⟩ := hrel
    by_cases hlt : k < n
    · have hl1 : (k : Int) < (n : Int) := by omega
      have haa := HAa.out (by omega)
      subst haa
      have hold : Below w.heap.size w w5 := Below.next HB0.out HS5.out
      have k1 : w5.cell? ⟨b, o + k * 2 + 1, none⟩ = some (.int .i64 (rAt l k).2) := by rw [hold.cell (p := ⟨b, o + k * 2 + 1, none⟩) (hb (by omega))]; exact (HCc.out k hlt).2
      have HSm : Hid (szL (l.take (k + 1)) = szL (l.take k) + (rAt l k).2) := szL_take (by rw [← HN.out]; exact hlt)
      have h1 := szL_low (l.take k) (fun x hx => HRr.out x (List.mem_of_mem_take hx))
      have h2 := HRr.out (rAt l k) (rAt_mem (by rw [← HN.out]; exact hlt))
      unfold isR at h2
      have h3 : ((l.take k).length : Int) ≤ 16 := by rw [List.length_take]; omega
      have h4 : 0 ≤ szL (l.take k) ∧ szL (l.take k) ≤ 16000 ∧ 1 ≤ (rAt l k).2 ∧ (rAt l k).2 ≤ 1000 := by omega
      obtain ⟨h5, h6, h7, h8⟩ := h4
      clear hold h1 h2 h3
      generalize szL (l.take k) = S at h5 h6 HSm ⊢
      generalize (rAt l k).2 = Tk at k1 h7 h8 HSm
      go_wp2
      refine ⟨⟨k + 1, by omega, by go_num, by rw [HSm.out]⟩, ?_⟩
      simp [intOf]; omega
    · obtain rfl : k = n := by omega
      have hl1 : ¬ (k : Int) < (k : Int) := by omega
      have HSa : Hid (szL (l.take k) = szL l) := by show szL (l.take k) = szL l; rw [HN.out, List.take_length]
      rw [HSa.out]
      generalize szL l = S
      have hSS : (S == S) = true := by simp
      go_wp2_with fail
      refine (HEr.out _ (HL.out _ HS5.out)).mono ?_
      rintro e w6 ⟨rfl, hb6⟩
      have HG6 : Hid (Below w5.heap.size w5 w6) := hb6
      have HS6 : Hid (Below (w.alloc (.cells #[.int .i64 F, .int .i64 T] 24)).heap.size (w.alloc (.cells #[.int .i64 F, .int .i64 T] 24)) w6) := Below.next HS5.out hb6
      clear hb6
      go_wp2_with fail
      refine (HEr.out _ (HL.out _ HS6.out)).mono ?_
      rintro e w7 ⟨rfl, hb7⟩
      have HG7 : Hid (Below w6.heap.size w6 w7) := hb7
      have HS7 : Hid (Below (w.alloc (.cells #[.int .i64 F, .int .i64 T] 24)).heap.size (w.alloc (.cells #[.int .i64 F, .int .i64 T] 24)) w7) := Below.next HS6.out hb7
      clear hb7
      go_wp2_with fail
      refine (HIn.out _ (HX.out _ HS7.out)).mono ?_
      rintro e w8 ⟨rfl, q8, hw8⟩
      have HS8 : Hid (Below (w.alloc (.cells #[.int .i64 F, .int .i64 T] 24)).heap.size (w.alloc (.cells #[.int .i64 F, .int .i64 T] 24)) w8) := by rw [hw8]; exact Below.next HS7.out (below_drew _ _ _)
      have HD8 : Hid (∃ q, w8 = w7.drewN q) := ⟨q8, hw8⟩
      clear hw8
      obtain ⟨c8, d8⟩ := HBX.out _ HS8.out
      go_wp2_with fail
      refine (HC1.out _ (HX.out _ HS8.out)).mono ?_
      rintro e w9 ⟨v9, rfl, hr9, hb9⟩
      have HG9 : Hid (Below w8.heap.size w8 w9) := hb9
      have HS9 : Hid (Below (w.alloc (.cells #[.int .i64 F, .int .i64 T] 24)).heap.size (w.alloc (.cells #[.int .i64 F, .int .i64 T] 24)) w9) := Below.next HS8.out hb9
      have HV9 : Hid (∀ w', Below w9.heap.size w9 w' → RunsIs w' v9 M1) := fun w' h => hr9.later h
      have HW9 : Hid (Below w9.heap.size w9 w9) := Below.refl _ _
      clear hb9 hr9
      obtain ⟨c9, d9⟩ := HBX.out _ HS9.out
      go_wp2_with fail
      refine (HA1.out _ (HX.out _ HS9.out)).mono ?_
      rintro e w10 ⟨v10, rfl, hr10, hb10⟩
      have HG10 : Hid (Below w9.heap.size w9 w10) := hb10
      have HS10 : Hid (Below (w.alloc (.cells #[.int .i64 F, .int .i64 T] 24)).heap.size (w.alloc (.cells #[.int .i64 F, .int .i64 T] 24)) w10) := Below.next HS9.out hb10
      have HV10 : Hid (∀ w', Below w10.heap.size w10 w' → RunsIs w' v10 M1) := fun w' h => hr10.later h
      have HW10 : Hid (Below w10.heap.size w10 w10) := Below.refl _ _
      clear hb10 hr10
      go_wp2_with fail
      refine (HE1.out _ (HL.out _ HS10.out)).mono ?_
      rintro e w11 ⟨rfl, hb11⟩
      have HG11 : Hid (Below w10.heap.size w10 w11) := hb11
      have HS11 : Hid (Below (w.alloc (.cells #[.int .i64 F, .int .i64 T] 24)).heap.size (w.alloc (.cells #[.int .i64 F, .int .i64 T] 24)) w11) := Below.next HS10.out hb11
      clear hb11
      have hA11 := HV9.out _ (Below.next (HG10.out) HG11.out)
      have hB11 := HV10.out _ (HG11.out)
      go_wp2_with fail
      refine (HQ1.out _ _ _ hB11 hA11).mono ?_
      rintro e w12 ⟨rfl, q12, hw12⟩
      have HS12 : Hid (Below (w.alloc (.cells #[.int .i64 F, .int .i64 T] 24)).heap.size (w.alloc (.cells #[.int .i64 F, .int .i64 T] 24)) w12) := by rw [hw12]; exact Below.next HS11.out (below_drew _ _ _)
      have HD12 : Hid (∃ q, w12 = w11.drewN q) := ⟨q12, hw12⟩
      clear hw12
      clear hA11 hB11
      obtain ⟨c12, d12⟩ := HBX.out _ HS12.out
      go_wp2_with fail
      refine (HC2.out _ (HX.out _ HS12.out)).mono ?_
      rintro e w13 ⟨v13, rfl, hr13, hb13⟩
      have HG13 : Hid (Below w12.heap.size w12 w13) := hb13
      have HS13 : Hid (Below (w.alloc (.cells #[.int .i64 F, .int .i64 T] 24)).heap.size (w.alloc (.cells #[.int .i64 F, .int .i64 T] 24)) w13) := Below.next HS12.out hb13
      have HV13 : Hid (∀ w', Below w13.heap.size w13 w' → RunsIs w' v13 M2) := fun w' h => hr13.later h
      have HW13 : Hid (Below w13.heap.size w13 w13) := Below.refl _ _
      clear hb13 hr13
      obtain ⟨c13, d13⟩ := HBX.out _ HS13.out
      go_wp2_with fail
      refine (HA2.out _ (HX.out _ HS13.out)).mono ?_
      rintro e w14 ⟨v14, rfl, hr14, hb14⟩
      have HG14 : Hid (Below w13.heap.size w13 w14) := hb14
      have HS14 : Hid (Below (w.alloc (.cells #[.int .i64 F, .int .i64 T] 24)).heap.size (w.alloc (.cells #[.int .i64 F, .int .i64 T] 24)) w14) := Below.next HS13.out hb14
      have HV14 : Hid (∀ w', Below w14.heap.size w14 w' → RunsIs w' v14 M2) := fun w' h => hr14.later h
      have HW14 : Hid (Below w14.heap.size w14 w14) := Below.refl _ _
      clear hb14 hr14
      go_wp2_with fail
      refine (HE2.out _ (HL.out _ HS14.out)).mono ?_
      rintro e w15 ⟨rfl, hb15⟩
      have HG15 : Hid (Below w14.heap.size w14 w15) := hb15
      have HS15 : Hid (Below (w.alloc (.cells #[.int .i64 F, .int .i64 T] 24)).heap.size (w.alloc (.cells #[.int .i64 F, .int .i64 T] 24)) w15) := Below.next HS14.out hb15
      clear hb15
      have hA15 := HV13.out _ (Below.next (HG14.out) HG15.out)
      have hB15 := HV14.out _ (HG15.out)
      go_wp2_with fail
      refine (HQ2.out _ _ _ hB15 hA15).mono ?_
      rintro e w16 ⟨rfl, q16, hw16⟩
      have HS16 : Hid (Below (w.alloc (.cells #[.int .i64 F, .int .i64 T] 24)).heap.size (w.alloc (.cells #[.int .i64 F, .int .i64 T] 24)) w16) := by rw [hw16]; exact Below.next HS15.out (below_drew _ _ _)
      have HD16 : Hid (∃ q, w16 = w15.drewN q) := ⟨q16, hw16⟩
      clear hw16
      go_wp2
      go_ret
      exact ⟨rfl, Below.next HB0.out HS16.out⟩

set_option maxHeartbeats 8000000 in
set_option maxRecDepth 100000 in
theorem says_no (w : World) (v : Value) (l : List Rn) (F T p : Int) (hx : RunsIs w v l) (hL : Laid w) (h0 : runsE l ≠ 0) :
    Calls Tryd.prog 3 #[v, .agg #[.int .i64 F, .int .i64 T], .int .i64 p] w fun e w' => e = .returned (.bool true) ∧ Below w.heap.size w w' := by
  have HB0 : Hid (Below w.heap.size w (w.alloc (.cells #[.int .i64 F, .int .i64 T] 24))) := below_one _ _
  have HBX : Hid _ := ebox w F T
  have HX : Hid (∀ w1, Below (w.alloc (.cells #[.int .i64 F, .int .i64 T] 24)).heap.size (w.alloc (.cells #[.int .i64 F, .int .i64 T] 24)) w1 → RunsIs w1 v l) := fun w1 h => (hx.later HB0.out).later h
  have HL : Hid (∀ w1, Below (w.alloc (.cells #[.int .i64 F, .int .i64 T] 24)).heap.size (w.alloc (.cells #[.int .i64 F, .int .i64 T] 24)) w1 → Laid w1) := fun w1 h => (hL.later HB0.out).later h
  have HRu : Hid _ := fun (w1 : World) (h : RunsIs w1 v l) => refRuns_any w1 v l h
  have HCk : Hid _ := fun (w1 : World) (h : RunsIs w1 v l) => check_any w1 v l h
  have HEr : Hid _ := fun (w1 : World) (h : Laid w1) => error_any (runsE l) ((runsE l : Nat) : Int) w1 h
  have HSz : Hid _ := fun (w1 : World) (h : RunsIs w1 v l) => size_any w1 v l h
  have HHa : Hid _ := fun (w1 : World) (h : RunsIs w1 v l) => has_any w1 v l p h
  have HC1 : Hid _ := fun (w1 : World) (h : RunsIs w1 v l) => chgd_add w1 v l (F, T) h
  have HA1 : Hid _ := fun (w1 : World) (h : RunsIs w1 v l) => add_any w1 v l (F, T) h
  have HE1 : Hid _ := fun (w1 : World) (h : Laid w1) => error_any (chgE orB l (F, T)) ((chgE orB l (F, T) : Nat) : Int) w1 h
  have HQ1 : Hid _ := fun (w1 : World) (v1 v2 : Value) (h : RunsIs w1 v1 (chgL orB l (F, T))) (h2 : RunsIs w1 v2 (chgL orB l (F, T))) => runs_any w1 v1 v2 _ _ h h2
  rw [rn_self] at HQ1
  rw [show (((chgE orB l (F, T) : Nat) : Int) == ((chgE orB l (F, T) : Nat) : Int)) = true by simp] at HE1
  have HC2 : Hid _ := fun (w1 : World) (h : RunsIs w1 v l) => chgd_cut w1 v l (F, T) h
  have HA2 : Hid _ := fun (w1 : World) (h : RunsIs w1 v l) => cut_any w1 v l (F, T) h
  have HE2 : Hid _ := fun (w1 : World) (h : Laid w1) => error_any (chgE cutB l (F, T)) ((chgE cutB l (F, T) : Nat) : Int) w1 h
  have HQ2 : Hid _ := fun (w1 : World) (v1 v2 : Value) (h : RunsIs w1 v1 (chgL cutB l (F, T))) (h2 : RunsIs w1 v2 (chgL cutB l (F, T))) => runs_any w1 v1 v2 _ _ h h2
  rw [rn_self] at HQ2
  rw [show (((chgE cutB l (F, T) : Nat) : Int) == ((chgE cutB l (F, T) : Nat) : Int)) = true by simp] at HE2
  rw [show (((runsE l : Nat) : Int) == ((runsE l : Nat) : Int)) = true by simp] at HEr
  have hz : ((runsE l : Nat) : Int) ≠ 0 := by omega
  rw [if_neg h0] at HSz
  rw [decide_eq_false h0, Bool.false_and] at HHa
  generalize errV (runsE l) = E0 at HEr HSz HHa HCk
  generalize ((runsE l : Nat) : Int) = z at HRu HEr hz
  have hzb : (z == 0) = false := by simp [hz]
  generalize errV (chgE orB l (F, T)) = E1 at HA1 HE1
  generalize ((chgE orB l (F, T) : Nat) : Int) = z1 at HC1 HE1
  generalize chgL orB l (F, T) = M1 at HA1 HC1 HQ1
  generalize errV (chgE cutB l (F, T)) = E2 at HA2 HE2
  generalize ((chgE cutB l (F, T) : Nat) : Int) = z2 at HC2 HE2
  generalize chgL cutB l (F, T) = M2 at HA2 HC2 HQ2
  simp only at HC1 HC2 HA1 HA2
  obtain ⟨a, c, b, o, rfl, hl, ha, hb, hc⟩ := hx.where
  obtain ⟨n, hxn⟩ : ∃ n, n = l.length := ⟨_, rfl⟩
  have HN : Hid (n = l.length) := hxn
  rw [← hxn] at hl ha hb hc HX HRu HCk HSz HHa HC1 HC2 HA1 HA2 ⊢
  unfold maxLen at hl
  have HCc : Hid (∀ i, i < n → w.cell? ⟨b, o + i * 2, none⟩ = some (.int .i64 (rAt l i).1) ∧ w.cell? ⟨b, o + i * 2 + 1, none⟩ = some (.int .i64 (rAt l i).2)) := hc
  have HAa : Hid (0 < n → a = some ⟨b, o, none⟩) := ha
  clear hx hL h0 hc hxn ha
  go_enter Tryd.func3, Tryd.ntmps3
  have HS0 : Hid (Below (w.alloc (.cells #[.int .i64 F, .int .i64 T] 24)).heap.size (w.alloc (.cells #[.int .i64 F, .int .i64 T] 24)) (w.alloc (.cells #[.int .i64 F, .int .i64 T] 24))) := Below.refl _ _
  go_wp2_with fail
  refine (HRu.out _ (HX.out _ HS0.out)).mono ?_
  rintro e w1 ⟨rfl, hb1⟩
  have HS1 : Hid (Below (w.alloc (.cells #[.int .i64 F, .int .i64 T] 24)).heap.size (w.alloc (.cells #[.int .i64 F, .int .i64 T] 24)) w1) := Below.next HS0.out hb1
  clear hb1
  go_wp2_with fail
  refine (HCk.out _ (HX.out _ HS1.out)).mono ?_
  rintro e w2 ⟨rfl, hb2⟩
  have HS2 : Hid (Below (w.alloc (.cells #[.int .i64 F, .int .i64 T] 24)).heap.size (w.alloc (.cells #[.int .i64 F, .int .i64 T] 24)) w2) := Below.next HS1.out hb2
  clear hb2
  go_wp2_with fail
  refine (HEr.out _ (HL.out _ HS2.out)).mono ?_
  rintro e w3 ⟨rfl, hb3⟩
  have HS3 : Hid (Below (w.alloc (.cells #[.int .i64 F, .int .i64 T] 24)).heap.size (w.alloc (.cells #[.int .i64 F, .int .i64 T] 24)) w3) := Below.next HS2.out hb3
  clear hb3
  go_wp2_with fail
  refine (HSz.out _ (HX.out _ HS3.out)).mono ?_
  rintro e w4 ⟨rfl, hb4⟩
  have HS4 : Hid (Below (w.alloc (.cells #[.int .i64 F, .int .i64 T] 24)).heap.size (w.alloc (.cells #[.int .i64 F, .int .i64 T] 24)) w4) := Below.next HS3.out hb4
  clear hb4
  go_wp2_with fail
  refine (HHa.out _ (HX.out _ HS4.out)).mono ?_
  rintro e w5 ⟨rfl, hb5⟩
  have HS5 : Hid (Below (w.alloc (.cells #[.int .i64 F, .int .i64 T] 24)).heap.size (w.alloc (.cells #[.int .i64 F, .int .i64 T] 24)) w5) := Below.next HS4.out hb5
  clear hb5
  go_wp2
  go_loop [13, 14] (fun s i => i = .int .i64 0 ∧ s = .int .i64 0) (fun _ i => 0)
  case atStart => exact ⟨rfl, rfl⟩
  case round =>
    obtain ⟨rfl, rfl⟩ := hrel
    by_cases hlt : 0 < n
    · have hl1 : (0 : Int) < (n : Int) := by omega
      go_wp2_with fail
      refine (HEr.out _ (HL.out _ HS5.out)).mono ?_
      rintro e w6 ⟨rfl, hb6⟩
      have HG6 : Hid (Below w5.heap.size w5 w6) := hb6
      have HS6 : Hid (Below (w.alloc (.cells #[.int .i64 F, .int .i64 T] 24)).heap.size (w.alloc (.cells #[.int .i64 F, .int .i64 T] 24)) w6) := Below.next HS5.out hb6
      clear hb6
      go_wp2_with fail
      refine (HEr.out _ (HL.out _ HS6.out)).mono ?_
      rintro e w7 ⟨rfl, hb7⟩
      have HG7 : Hid (Below w6.heap.size w6 w7) := hb7
      have HS7 : Hid (Below (w.alloc (.cells #[.int .i64 F, .int .i64 T] 24)).heap.size (w.alloc (.cells #[.int .i64 F, .int .i64 T] 24)) w7) := Below.next HS6.out hb7
      clear hb7
      obtain ⟨c7, d7⟩ := HBX.out _ HS7.out
      go_wp2_with fail
      refine (HC1.out _ (HX.out _ HS7.out)).mono ?_
      rintro e w8 ⟨v8, rfl, hr8, hb8⟩
      have HG8 : Hid (Below w7.heap.size w7 w8) := hb8
      have HS8 : Hid (Below (w.alloc (.cells #[.int .i64 F, .int .i64 T] 24)).heap.size (w.alloc (.cells #[.int .i64 F, .int .i64 T] 24)) w8) := Below.next HS7.out hb8
      have HV8 : Hid (∀ w', Below w8.heap.size w8 w' → RunsIs w' v8 M1) := fun w' h => hr8.later h
      have HW8 : Hid (Below w8.heap.size w8 w8) := Below.refl _ _
      clear hb8 hr8
      obtain ⟨c8, d8⟩ := HBX.out _ HS8.out
      go_wp2_with fail
      refine (HA1.out _ (HX.out _ HS8.out)).mono ?_
      rintro e w9 ⟨v9, rfl, hr9, hb9⟩
      have HG9 : Hid (Below w8.heap.size w8 w9) := hb9
      have HS9 : Hid (Below (w.alloc (.cells #[.int .i64 F, .int .i64 T] 24)).heap.size (w.alloc (.cells #[.int .i64 F, .int .i64 T] 24)) w9) := Below.next HS8.out hb9
      have HV9 : Hid (∀ w', Below w9.heap.size w9 w' → RunsIs w' v9 M1) := fun w' h => hr9.later h
      have HW9 : Hid (Below w9.heap.size w9 w9) := Below.refl _ _
      clear hb9 hr9
      go_wp2_with fail
      refine (HE1.out _ (HL.out _ HS9.out)).mono ?_
      rintro e w10 ⟨rfl, hb10⟩
      have HG10 : Hid (Below w9.heap.size w9 w10) := hb10
      have HS10 : Hid (Below (w.alloc (.cells #[.int .i64 F, .int .i64 T] 24)).heap.size (w.alloc (.cells #[.int .i64 F, .int .i64 T] 24)) w10) := Below.next HS9.out hb10
      clear hb10
      have hA10 := HV8.out _ (Below.next (HG9.out) HG10.out)
      have hB10 := HV9.out _ (HG10.out)
      go_wp2_with fail
      refine (HQ1.out _ _ _ hB10 hA10).mono ?_
      rintro e w11 ⟨rfl, q11, hw11⟩
      have HS11 : Hid (Below (w.alloc (.cells #[.int .i64 F, .int .i64 T] 24)).heap.size (w.alloc (.cells #[.int .i64 F, .int .i64 T] 24)) w11) := by rw [hw11]; exact Below.next HS10.out (below_drew _ _ _)
      have HD11 : Hid (∃ q, w11 = w10.drewN q) := ⟨q11, hw11⟩
      clear hw11
      clear hA10 hB10
      obtain ⟨c11, d11⟩ := HBX.out _ HS11.out
      go_wp2_with fail
      refine (HC2.out _ (HX.out _ HS11.out)).mono ?_
      rintro e w12 ⟨v12, rfl, hr12, hb12⟩
      have HG12 : Hid (Below w11.heap.size w11 w12) := hb12
      have HS12 : Hid (Below (w.alloc (.cells #[.int .i64 F, .int .i64 T] 24)).heap.size (w.alloc (.cells #[.int .i64 F, .int .i64 T] 24)) w12) := Below.next HS11.out hb12
      have HV12 : Hid (∀ w', Below w12.heap.size w12 w' → RunsIs w' v12 M2) := fun w' h => hr12.later h
      have HW12 : Hid (Below w12.heap.size w12 w12) := Below.refl _ _
      clear hb12 hr12
      obtain ⟨c12, d12⟩ := HBX.out _ HS12.out
      go_wp2_with fail
      refine (HA2.out _ (HX.out _ HS12.out)).mono ?_
      rintro e w13 ⟨v13, rfl, hr13, hb13⟩
      have HG13 : Hid (Below w12.heap.size w12 w13) := hb13
      have HS13 : Hid (Below (w.alloc (.cells #[.int .i64 F, .int .i64 T] 24)).heap.size (w.alloc (.cells #[.int .i64 F, .int .i64 T] 24)) w13) := Below.next HS12.out hb13
      have HV13 : Hid (∀ w', Below w13.heap.size w13 w' → RunsIs w' v13 M2) := fun w' h => hr13.later h
      have HW13 : Hid (Below w13.heap.size w13 w13) := Below.refl _ _
      clear hb13 hr13
      go_wp2_with fail
      refine (HE2.out _ (HL.out _ HS13.out)).mono ?_
      rintro e w14 ⟨rfl, hb14⟩
      have HG14 : Hid (Below w13.heap.size w13 w14) := hb14
      have HS14 : Hid (Below (w.alloc (.cells #[.int .i64 F, .int .i64 T] 24)).heap.size (w.alloc (.cells #[.int .i64 F, .int .i64 T] 24)) w14) := Below.next HS13.out hb14
      clear hb14
      have hA14 := HV12.out _ (Below.next (HG13.out) HG14.out)
      have hB14 := HV13.out _ (HG14.out)
      go_wp2_with fail
      refine (HQ2.out _ _ _ hB14 hA14).mono ?_
      rintro e w15 ⟨rfl, q15, hw15⟩
      have HS15 : Hid (Below (w.alloc (.cells #[.int .i64 F, .int .i64 T] 24)).heap.size (w.alloc (.cells #[.int .i64 F, .int .i64 T] 24)) w15) := by rw [hw15]; exact Below.next HS14.out (below_drew _ _ _)
      have HD15 : Hid (∃ q, w15 = w14.drewN q) := ⟨q15, hw15⟩
      clear hw15
      go_wp2
      go_ret
      exact ⟨rfl, Below.next HB0.out HS15.out⟩
    · have hl1 : ¬ (0 : Int) < (n : Int) := by omega
      go_wp2_with fail
      refine (HEr.out _ (HL.out _ HS5.out)).mono ?_
      rintro e w6 ⟨rfl, hb6⟩
      have HG6 : Hid (Below w5.heap.size w5 w6) := hb6
      have HS6 : Hid (Below (w.alloc (.cells #[.int .i64 F, .int .i64 T] 24)).heap.size (w.alloc (.cells #[.int .i64 F, .int .i64 T] 24)) w6) := Below.next HS5.out hb6
      clear hb6
      go_wp2_with fail
      refine (HEr.out _ (HL.out _ HS6.out)).mono ?_
      rintro e w7 ⟨rfl, hb7⟩
      have HG7 : Hid (Below w6.heap.size w6 w7) := hb7
      have HS7 : Hid (Below (w.alloc (.cells #[.int .i64 F, .int .i64 T] 24)).heap.size (w.alloc (.cells #[.int .i64 F, .int .i64 T] 24)) w7) := Below.next HS6.out hb7
      clear hb7
      obtain ⟨c7, d7⟩ := HBX.out _ HS7.out
      go_wp2_with fail
      refine (HC1.out _ (HX.out _ HS7.out)).mono ?_
      rintro e w8 ⟨v8, rfl, hr8, hb8⟩
      have HG8 : Hid (Below w7.heap.size w7 w8) := hb8
      have HS8 : Hid (Below (w.alloc (.cells #[.int .i64 F, .int .i64 T] 24)).heap.size (w.alloc (.cells #[.int .i64 F, .int .i64 T] 24)) w8) := Below.next HS7.out hb8
      have HV8 : Hid (∀ w', Below w8.heap.size w8 w' → RunsIs w' v8 M1) := fun w' h => hr8.later h
      have HW8 : Hid (Below w8.heap.size w8 w8) := Below.refl _ _
      clear hb8 hr8
      obtain ⟨c8, d8⟩ := HBX.out _ HS8.out
      go_wp2_with fail
      refine (HA1.out _ (HX.out _ HS8.out)).mono ?_
      rintro e w9 ⟨v9, rfl, hr9, hb9⟩
      have HG9 : Hid (Below w8.heap.size w8 w9) := hb9
      have HS9 : Hid (Below (w.alloc (.cells #[.int .i64 F, .int .i64 T] 24)).heap.size (w.alloc (.cells #[.int .i64 F, .int .i64 T] 24)) w9) := Below.next HS8.out hb9
      have HV9 : Hid (∀ w', Below w9.heap.size w9 w' → RunsIs w' v9 M1) := fun w' h => hr9.later h
      have HW9 : Hid (Below w9.heap.size w9 w9) := Below.refl _ _
      clear hb9 hr9
      go_wp2_with fail
      refine (HE1.out _ (HL.out _ HS9.out)).mono ?_
      rintro e w10 ⟨rfl, hb10⟩
      have HG10 : Hid (Below w9.heap.size w9 w10) := hb10
      have HS10 : Hid (Below (w.alloc (.cells #[.int .i64 F, .int .i64 T] 24)).heap.size (w.alloc (.cells #[.int .i64 F, .int .i64 T] 24)) w10) := Below.next HS9.out hb10
      clear hb10
      have hA10 := HV8.out _ (Below.next (HG9.out) HG10.out)
      have hB10 := HV9.out _ (HG10.out)
      go_wp2_with fail
      refine (HQ1.out _ _ _ hB10 hA10).mono ?_
      rintro e w11 ⟨rfl, q11, hw11⟩
      have HS11 : Hid (Below (w.alloc (.cells #[.int .i64 F, .int .i64 T] 24)).heap.size (w.alloc (.cells #[.int .i64 F, .int .i64 T] 24)) w11) := by rw [hw11]; exact Below.next HS10.out (below_drew _ _ _)
      have HD11 : Hid (∃ q, w11 = w10.drewN q) := ⟨q11, hw11⟩
      clear hw11
      clear hA10 hB10
      obtain ⟨c11, d11⟩ := HBX.out _ HS11.out
      go_wp2_with fail
      refine (HC2.out _ (HX.out _ HS11.out)).mono ?_
      rintro e w12 ⟨v12, rfl, hr12, hb12⟩
      have HG12 : Hid (Below w11.heap.size w11 w12) := hb12
      have HS12 : Hid (Below (w.alloc (.cells #[.int .i64 F, .int .i64 T] 24)).heap.size (w.alloc (.cells #[.int .i64 F, .int .i64 T] 24)) w12) := Below.next HS11.out hb12
      have HV12 : Hid (∀ w', Below w12.heap.size w12 w' → RunsIs w' v12 M2) := fun w' h => hr12.later h
      have HW12 : Hid (Below w12.heap.size w12 w12) := Below.refl _ _
      clear hb12 hr12
      obtain ⟨c12, d12⟩ := HBX.out _ HS12.out
      go_wp2_with fail
      refine (HA2.out _ (HX.out _ HS12.out)).mono ?_
      rintro e w13 ⟨v13, rfl, hr13, hb13⟩
      have HG13 : Hid (Below w12.heap.size w12 w13) := hb13
      have HS13 : Hid (Below (w.alloc (.cells #[.int .i64 F, .int .i64 T] 24)).heap.size (w.alloc (.cells #[.int .i64 F, .int .i64 T] 24)) w13) := Below.next HS12.out hb13
      have HV13 : Hid (∀ w', Below w13.heap.size w13 w' → RunsIs w' v13 M2) := fun w' h => hr13.later h
      have HW13 : Hid (Below w13.heap.size w13 w13) := Below.refl _ _
      clear hb13 hr13
      go_wp2_with fail
      refine (HE2.out _ (HL.out _ HS13.out)).mono ?_
      rintro e w14 ⟨rfl, hb14⟩
      have HG14 : Hid (Below w13.heap.size w13 w14) := hb14
      have HS14 : Hid (Below (w.alloc (.cells #[.int .i64 F, .int .i64 T] 24)).heap.size (w.alloc (.cells #[.int .i64 F, .int .i64 T] 24)) w14) := Below.next HS13.out hb14
      clear hb14
      have hA14 := HV12.out _ (Below.next (HG13.out) HG14.out)
      have hB14 := HV13.out _ (HG14.out)
      go_wp2_with fail
      refine (HQ2.out _ _ _ hB14 hA14).mono ?_
      rintro e w15 ⟨rfl, q15, hw15⟩
      have HS15 : Hid (Below (w.alloc (.cells #[.int .i64 F, .int .i64 T] 24)).heap.size (w.alloc (.cells #[.int .i64 F, .int .i64 T] 24)) w15) := by rw [hw15]; exact Below.next HS14.out (below_drew _ _ _)
      have HD15 : Hid (∃ q, w15 = w14.drewN q) := ⟨q15, hw15⟩
      clear hw15
      go_wp2
      go_ret
      exact ⟨rfl, Below.next HB0.out HS15.out⟩

theorem extentSays_any (w : World) (v v1 : Value) (p : Int) (l : List Rn) (r : Rn) (hx : RunsIs w v l) (h1 : v1 = .agg #[.int .i64 r.1, .int .i64 r.2]) (hL : Laid w) :
    Calls Tryd.prog 3 #[v, v1, .int .i64 p] w fun e w' => e = .returned (.bool true) ∧ Below w.heap.size w w' := by
  subst h1
  by_cases h0 : runsE l = 0
  · exact says_ok w v l r.1 r.2 p hx hL h0
  · exact says_no w v l r.1 r.2 p hx hL h0

end Go.Proofs.YtihefpnagdacpaaDoor
