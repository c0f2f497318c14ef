/- This text proves that platterholdlaw1.MerkleSays returns true for any values, numbers and sides, and lets all old memory be; the conditions: the slices lie there, the values' can be cut, and the library's variable errors.errorType holds what the program's own text lays. -/
import Derived.Test.YtfokhdoeehdegaaDoorN2
import Derived.Test.YtfokhdoeehdegaaDoorM8
import Derived.Test.YtfokhdoeehdegaaDoorIn
namespace Go.Proofs.YtfokhdoeehdegaaDoor
open Go.RowKit Go.Deep

theorem rvalues_zero (w : World) (v : Value) (xs : List Int) (hx : SliceIs w v xs) (h : chkE xs = 0) :
    Calls Tryd.prog 10 #[v] w fun e w' => e = .returned (.int .i64 0) ∧ w = w' :=
  (rvalues_any w v xs hx).mono fun e w' ⟨he, hw⟩ => ⟨by rw [he, h]; rfl, hw⟩
theorem leaf_okE (x : Int) (w : World) (h : vB x = true) : Calls Tryd.prog 6 #[.int .i64 x] w fun e w' => e = .returned (.tuple #[.int .i64 (lf x), errV 0]) ∧ w = w' := leaf_ok x w h
theorem leaf_noE (x : Int) (w : World) (h : vB x = false) : Calls Tryd.prog 6 #[.int .i64 x] w fun e w' => e = .returned (.tuple #[.int .i64 0, errV 1]) ∧ w = w' := leaf_no x w h
theorem sides_nil (w : World) : SidesIs w (.slice none 0 0) [] := ⟨none, 0, rfl, Nat.zero_le _, fun h => absurd rfl h⟩

set_option maxHeartbeats 8000000 in
set_option maxRecDepth 100000 in
theorem msays_A1_B1 (w : World) (v : Value) (xs : List Int) (i x : Int) (sv : Value) (l : List (Bool × Int)) (hx : SliceC w v xs) (hs : SidesIs w sv l) (hL : Laid w) (hvb : vB x = true) (h16 : 16 < l.length) (hc : chkE xs = 0) (hi : 0 ≤ i ∧ i < (xs.length : Int)) :
    Calls Tryd.prog 3 #[v, .int .i64 i, .int .i64 x, sv] w fun e w' => e = .returned (.bool true) ∧ Below w.heap.size w w' := by
  have HX : Hid (SliceC w v xs) := hx
  have HS : Hid (SidesIs w sv l) := hs
  have HL : Hid (Laid w) := hL
  have HBw : Hid (Below w.heap.size w w) := Below.refl _ _
  have HC0 : Hid (chkE xs = 0) := hc
  obtain ⟨g1, g16, gv⟩ := chkE_zero hc
  have HRV : Hid (rootV xs = .tuple #[.int .i64 (rootL xs), errV 0]) := by show rootV xs = _; unfold rootV; rw [if_pos hc, hc]
  obtain ⟨a, c, hv, hcc, hsl⟩ := hx
  have HRR : Hid (∀ w', Below w.heap.size w w' → Calls Tryd.prog 12 #[.slice a xs.length c] w' fun e w'' => e = .returned (.int .i64 (rootL xs)) ∧ Below w'.heap.size w' w'') := fun w' hb =>
    (rroot_any 16 xs w' a xs.length c g1 g16 g16 hcc gv (by rw [← hv]; exact hsl.later hb)).mono fun e w'' ⟨he, q, hq⟩ => ⟨he, by rw [hq]; exact below_dn _ _ q⟩
  have hwe : wayE xs i = 0 := by unfold wayE; rw [if_pos hc, if_pos hi]
  have HWE : Hid (wayE xs i = 0) := hwe
  have HRW : Hid (∀ w', Below w.heap.size w w' → Calls Tryd.prog 14 #[.slice a xs.length c, .int .i64 i] w' fun e w'' => ∃ v8, e = .returned v8 ∧ SidesIs w'' v8 (wayI xs i) ∧ Below w'.heap.size w' w'') := fun w' hb => by
    obtain ⟨k, rfl⟩ : ∃ k : Nat, i = (k : Int) := ⟨i.toNat, by omega⟩
    refine (rway_any 16 xs w' a xs.length c k g1 g16 g16 hcc (by omega) gv (by rw [← hv]; exact hsl.later hb)).mono ?_
    rintro e w'' ⟨v8, he, ho, hb8⟩
    refine ⟨v8, he, ?_, hb8⟩
    rw [show wayI xs (k : Int) = wayL xs (k : Int).toNat from if_pos hwe, Int.toNat_natCast]
    exact sides_own ho (by have := wayL_len (i := k) g1 g16; unfold wayL at this; unfold maxLen; omega)
  have HIN : Hid ((0 : Int) ≤ i ∧ i ≤ (xs.length : Int) - 1) := ⟨hi.1, by omega⟩
  generalize rootL xs = r at HRV HRR
  obtain ⟨sa, sc, sb, so, hsv, sm, ha, hbb, hcell⟩ := hs.where
  obtain ⟨m, hm⟩ : ∃ m, m = l.length := ⟨_, rfl⟩
  have HM : Hid (m = l.length) := hm
  rw [← hm] at hsv h16 sm ha hbb hcell
  have HCE : Hid (∀ i, i < m → w.cell? ⟨sb, so + i * 2, none⟩ = some (.bool (sAt l i).1) ∧ w.cell? ⟨sb, so + i * 2 + 1, none⟩ = some (.int .i64 (sAt l i).2)) := hcell
  have HSL : Hid (0 < m → sb < w.heap.size) := hbb
  have HV : Hid (vB x = true) := hvb
  have HU : Hid (upV x l = .tuple #[.int .i64 0, errV 4]) := by show upV x l = _; unfold upV; rw [show upE x l = 4 from upE_full (by rw [← hm]; exact h16)]; rfl
  have HVX : Hid (((0 : Int) ≤ x ∧ x ≤ 1000)) := (isV_iff _).1 hvb
  obtain ⟨n, hn⟩ : ∃ n, n = xs.length := ⟨_, rfl⟩
  rw [← hn] at hv HIN HRR HRW
  have hn63 : n ≤ maxLen := by obtain ⟨_, _, _, h, _⟩ := hsl; rw [hn]; exact h
  unfold maxLen at hn63 sm
  subst hv hsv
  clear hs hL hc hcc hsl hvb hcell hbb hm hn hwe hi g1 g16 gv
  clear ha
  go_enter Tryd.func3, Tryd.ntmps3
  go_wp2_with fail
  refine (in_yes _ _ _ _ HVX.out).mono ?_
  rintro e w' ⟨rfl, rfl⟩
  go_wp2_with fail
  refine (rleaf_any _ _ HVX.out).mono ?_
  rintro e w' ⟨rfl, rfl⟩
  go_wp2_with fail
  refine (leaf_okE _ _ HV.out).mono ?_
  rintro e w' ⟨rfl, rfl⟩
  go_wp2_with fail
  refine (error_any (0) (0) _ (HL.out.later HBw.out)).mono ?_
  rintro e w1 ⟨rfl, hb⟩
  have HBw1 : Hid (Below w.heap.size w w1) := Below.next HBw.out hb
  rw [show (((0 : Nat) : Int) == (0)) = true from rfl]
  clear hb
  go_wp2_with fail
  refine (up_any _ _ _ _ (HS.out.later HBw1.out)).mono ?_
  rintro e w2 ⟨rfl, hb⟩
  have HBw2 : Hid (Below w.heap.size w w2) := Below.next HBw1.out hb
  rw [HU.out]
  clear hb
  go_wp2_with fail
  refine (error_any (4) (4) _ (HL.out.later HBw2.out)).mono ?_
  rintro e w3 ⟨rfl, hb⟩
  have HBw3 : Hid (Below w.heap.size w w3) := Below.next HBw2.out hb
  rw [show (((4 : Nat) : Int) == (4)) = true from rfl]
  clear hb
  go_wp2_with fail
  refine (rvalues_zero _ _ xs (HX.out.later HBw3.out).is HC0.out).mono ?_
  rintro e w' ⟨rfl, rfl⟩
  go_wp2_with fail
  refine (check_any _ _ xs (HX.out.later HBw3.out).is).mono ?_
  rintro e w' ⟨rfl, rfl⟩
  rw [HC0.out]
  go_wp2_with fail
  refine (error_any (0) (0) _ (HL.out.later HBw3.out)).mono ?_
  rintro e w4 ⟨rfl, hb⟩
  have HBw4 : Hid (Below w.heap.size w w4) := Below.next HBw3.out hb
  rw [show (((0 : Nat) : Int) == (0)) = true from rfl]
  clear hb
  go_wp2_with fail
  refine Calls.mono (HRR.out _ HBw4.out) ?_
  rintro e w5 ⟨rfl, hb⟩
  have HBw5 : Hid (Below w.heap.size w w5) := Below.next HBw4.out hb
  clear hb
  go_wp2_with fail
  refine (root_any _ _ xs (HX.out.later HBw5.out)).mono ?_
  rintro e w6 ⟨rfl, hb⟩
  have HBw6 : Hid (Below w.heap.size w w6) := Below.next HBw5.out hb
  rw [HRV.out]
  clear hb
  go_wp2_with fail
  refine (error_any (0) (0) _ (HL.out.later HBw6.out)).mono ?_
  rintro e w7 ⟨rfl, hb⟩
  have HBw7 : Hid (Below w.heap.size w w7) := Below.next HBw6.out hb
  rw [show (((0 : Nat) : Int) == (0)) = true from rfl]
  clear hb
  go_wp2_with (go_at_call 4; refine (in_yes _ _ _ _ HIN.out).mono ?_; rintro e w' ⟨rfl, rfl⟩)
  refine Calls.mono (HRW.out _ HBw7.out) ?_
  rintro e w8 ⟨v8, rfl, hs8, hb⟩
  have HBw8 : Hid (Below w.heap.size w w8) := Below.next HBw7.out hb
  have HS8 : Hid (SidesIs w8 v8 (wayI xs i)) := hs8
  clear hb hs8
  go_wp2_with fail
  refine (way_any _ _ xs i (HX.out.later HBw8.out)).mono ?_
  rintro e w9 ⟨v9, rfl, hown, hb⟩
  have HBw9 : Hid (Below w.heap.size w w9) := Below.next HBw8.out hb
  have HS8' : Hid (SidesIs w9 v8 (wayI xs i)) := HS8.out.later hb
  have HS9 : Hid (SidesIs w9 v9 (wayI xs i)) := wayI_own hown
  rw [HWE.out]
  clear hb hown
  go_wp2_with fail
  refine (error_any (0) (0) _ (HL.out.later HBw9.out)).mono ?_
  rintro e w10 ⟨rfl, hb⟩
  have HBw10 : Hid (Below w.heap.size w w10) := Below.next HBw9.out hb
  have HSB : Hid (Below w9.heap.size w9 w10) := hb
  rw [show (((0 : Nat) : Int) == (0)) = true from rfl]
  clear hb
  go_wp2_with fail
  refine (sides_any _ v9 v8 _ _ (HS9.out.later HSB.out) (HS8'.out.later HSB.out)).mono ?_
  rintro e w11 ⟨rfl, q, rfl⟩
  rw [show sdB (wayI xs i) (wayI xs i) = true from decide_eq_true rfl]
  go_wp2
  go_ret
  exact ⟨rfl, Below.next HBw10.out (below_dn _ _ q)⟩

set_option maxHeartbeats 8000000 in
set_option maxRecDepth 100000 in
theorem msays_A1_B2 (w : World) (v : Value) (xs : List Int) (i x : Int) (sv : Value) (l : List (Bool × Int)) (hx : SliceC w v xs) (hs : SidesIs w sv l) (hL : Laid w) (hvb : vB x = true) (h16 : 16 < l.length) (hc : chkE xs = 0) (hi : ¬ (0 ≤ i ∧ i < (xs.length : Int))) :
    Calls Tryd.prog 3 #[v, .int .i64 i, .int .i64 x, sv] w fun e w' => e = .returned (.bool true) ∧ Below w.heap.size w w' := by
  have HX : Hid (SliceC w v xs) := hx
  have HS : Hid (SidesIs w sv l) := hs
  have HL : Hid (Laid w) := hL
  have HBw : Hid (Below w.heap.size w w) := Below.refl _ _
  have HC0 : Hid (chkE xs = 0) := hc
  obtain ⟨g1, g16, gv⟩ := chkE_zero hc
  have HRV : Hid (rootV xs = .tuple #[.int .i64 (rootL xs), errV 0]) := by show rootV xs = _; unfold rootV; rw [if_pos hc, hc]
  obtain ⟨a, c, hv, hcc, hsl⟩ := hx
  have HRR : Hid (∀ w', Below w.heap.size w w' → Calls Tryd.prog 12 #[.slice a xs.length c] w' fun e w'' => e = .returned (.int .i64 (rootL xs)) ∧ Below w'.heap.size w' w'') := fun w' hb =>
    (rroot_any 16 xs w' a xs.length c g1 g16 g16 hcc gv (by rw [← hv]; exact hsl.later hb)).mono fun e w'' ⟨he, q, hq⟩ => ⟨he, by rw [hq]; exact below_dn _ _ q⟩
  have hwe : wayE xs i = 1 := by unfold wayE; rw [if_pos hc, if_neg hi]
  have HWE : Hid (wayE xs i = 1) := hwe
  have HWI : Hid (wayI xs i = []) := if_neg (by rw [hwe]; decide)
  have HIN : Hid (¬ ((0 : Int) ≤ i ∧ i ≤ (xs.length : Int) - 1)) := fun h => hi ⟨h.1, by omega⟩
  generalize rootL xs = r at HRV HRR
  obtain ⟨sa, sc, sb, so, hsv, sm, ha, hbb, hcell⟩ := hs.where
  obtain ⟨m, hm⟩ : ∃ m, m = l.length := ⟨_, rfl⟩
  have HM : Hid (m = l.length) := hm
  rw [← hm] at hsv h16 sm ha hbb hcell
  have HCE : Hid (∀ i, i < m → w.cell? ⟨sb, so + i * 2, none⟩ = some (.bool (sAt l i).1) ∧ w.cell? ⟨sb, so + i * 2 + 1, none⟩ = some (.int .i64 (sAt l i).2)) := hcell
  have HSL : Hid (0 < m → sb < w.heap.size) := hbb
  have HV : Hid (vB x = true) := hvb
  have HU : Hid (upV x l = .tuple #[.int .i64 0, errV 4]) := by show upV x l = _; unfold upV; rw [show upE x l = 4 from upE_full (by rw [← hm]; exact h16)]; rfl
  have HVX : Hid (((0 : Int) ≤ x ∧ x ≤ 1000)) := (isV_iff _).1 hvb
  obtain ⟨n, hn⟩ : ∃ n, n = xs.length := ⟨_, rfl⟩
  rw [← hn] at hv HIN HRR
  have hn63 : n ≤ maxLen := by obtain ⟨_, _, _, h, _⟩ := hsl; rw [hn]; exact h
  unfold maxLen at hn63 sm
  subst hv hsv
  clear hs hL hc hcc hsl hvb hcell hbb hm hn hwe hi g1 g16 gv
  clear ha
  go_enter Tryd.func3, Tryd.ntmps3
  go_wp2_with fail
  refine (in_yes _ _ _ _ HVX.out).mono ?_
  rintro e w' ⟨rfl, rfl⟩
  go_wp2_with fail
  refine (rleaf_any _ _ HVX.out).mono ?_
  rintro e w' ⟨rfl, rfl⟩
  go_wp2_with fail
  refine (leaf_okE _ _ HV.out).mono ?_
  rintro e w' ⟨rfl, rfl⟩
  go_wp2_with fail
  refine (error_any (0) (0) _ (HL.out.later HBw.out)).mono ?_
  rintro e w1 ⟨rfl, hb⟩
  have HBw1 : Hid (Below w.heap.size w w1) := Below.next HBw.out hb
  rw [show (((0 : Nat) : Int) == (0)) = true from rfl]
  clear hb
  go_wp2_with fail
  refine (up_any _ _ _ _ (HS.out.later HBw1.out)).mono ?_
  rintro e w2 ⟨rfl, hb⟩
  have HBw2 : Hid (Below w.heap.size w w2) := Below.next HBw1.out hb
  rw [HU.out]
  clear hb
  go_wp2_with fail
  refine (error_any (4) (4) _ (HL.out.later HBw2.out)).mono ?_
  rintro e w3 ⟨rfl, hb⟩
  have HBw3 : Hid (Below w.heap.size w w3) := Below.next HBw2.out hb
  rw [show (((4 : Nat) : Int) == (4)) = true from rfl]
  clear hb
  go_wp2_with fail
  refine (rvalues_zero _ _ xs (HX.out.later HBw3.out).is HC0.out).mono ?_
  rintro e w' ⟨rfl, rfl⟩
  go_wp2_with fail
  refine (check_any _ _ xs (HX.out.later HBw3.out).is).mono ?_
  rintro e w' ⟨rfl, rfl⟩
  rw [HC0.out]
  go_wp2_with fail
  refine (error_any (0) (0) _ (HL.out.later HBw3.out)).mono ?_
  rintro e w4 ⟨rfl, hb⟩
  have HBw4 : Hid (Below w.heap.size w w4) := Below.next HBw3.out hb
  rw [show (((0 : Nat) : Int) == (0)) = true from rfl]
  clear hb
  go_wp2_with fail
  refine Calls.mono (HRR.out _ HBw4.out) ?_
  rintro e w5 ⟨rfl, hb⟩
  have HBw5 : Hid (Below w.heap.size w w5) := Below.next HBw4.out hb
  clear hb
  go_wp2_with fail
  refine (root_any _ _ xs (HX.out.later HBw5.out)).mono ?_
  rintro e w6 ⟨rfl, hb⟩
  have HBw6 : Hid (Below w.heap.size w w6) := Below.next HBw5.out hb
  rw [HRV.out]
  clear hb
  go_wp2_with fail
  refine (error_any (0) (0) _ (HL.out.later HBw6.out)).mono ?_
  rintro e w7 ⟨rfl, hb⟩
  have HBw7 : Hid (Below w.heap.size w w7) := Below.next HBw6.out hb
  rw [show (((0 : Nat) : Int) == (0)) = true from rfl]
  clear hb
  go_wp2_with (go_at_call 4; refine (in_no _ _ _ _ HIN.out).mono ?_; rintro e w' ⟨rfl, rfl⟩)
  refine (way_any _ _ xs i (HX.out.later HBw7.out)).mono ?_
  rintro e w9 ⟨v9, rfl, hown, hb⟩
  have HBw9 : Hid (Below w.heap.size w w9) := Below.next HBw7.out hb
  have HS9 : Hid (SidesIs w9 v9 (wayI xs i)) := wayI_own hown
  rw [HWE.out]
  clear hb hown
  go_wp2_with fail
  refine (error_any (1) (1) _ (HL.out.later HBw9.out)).mono ?_
  rintro e w10 ⟨rfl, hb⟩
  have HBw10 : Hid (Below w.heap.size w w10) := Below.next HBw9.out hb
  have HSB : Hid (Below w9.heap.size w9 w10) := hb
  rw [show (((1 : Nat) : Int) == (1)) = true from rfl]
  clear hb
  go_wp2_with fail
  refine (sides_any _ v9 _ _ [] (HS9.out.later HSB.out) (sides_nil _)).mono ?_
  rintro e w11 ⟨rfl, q, rfl⟩
  rw [HWI.out, show sdB [] [] = true from rfl]
  go_wp2
  go_ret
  exact ⟨rfl, Below.next HBw10.out (below_dn _ _ q)⟩

set_option maxHeartbeats 8000000 in
set_option maxRecDepth 100000 in
theorem msays_A1_B3 (w : World) (v : Value) (xs : List Int) (i x : Int) (sv : Value) (l : List (Bool × Int)) (hx : SliceC w v xs) (hs : SidesIs w sv l) (hL : Laid w) (hvb : vB x = true) (h16 : 16 < l.length) (hc : chkE xs ≠ 0) :
    Calls Tryd.prog 3 #[v, .int .i64 i, .int .i64 x, sv] w fun e w' => e = .returned (.bool true) ∧ Below w.heap.size w w' := by
  have HX : Hid (SliceC w v xs) := hx
  have HS : Hid (SidesIs w sv l) := hs
  have HL : Hid (Laid w) := hL
  have HBw : Hid (Below w.heap.size w w) := Below.refl _ _
  have HRV : Hid (rootV xs = .tuple #[.int .i64 0, errV (chkE xs)]) := by show rootV xs = _; unfold rootV; rw [if_neg hc]
  have hwe : wayE xs i = chkE xs := if_neg hc
  have HWI : Hid (wayI xs i = []) := if_neg (by rw [hwe]; exact hc)
  have HWE : Hid (wayE xs i = chkE xs) := hwe
  have hez : ((chkE xs : Int) == 0) = false := by simp; omega
  have hez' : ((chkE xs : Int) != 0) = true := by simp; omega
  obtain ⟨a, c, hv, hcc, hsl⟩ := hx
  obtain ⟨sa, sc, sb, so, hsv, sm, ha, hbb, hcell⟩ := hs.where
  obtain ⟨m, hm⟩ : ∃ m, m = l.length := ⟨_, rfl⟩
  have HM : Hid (m = l.length) := hm
  rw [← hm] at hsv h16 sm ha hbb hcell
  have HCE : Hid (∀ i, i < m → w.cell? ⟨sb, so + i * 2, none⟩ = some (.bool (sAt l i).1) ∧ w.cell? ⟨sb, so + i * 2 + 1, none⟩ = some (.int .i64 (sAt l i).2)) := hcell
  have HSL : Hid (0 < m → sb < w.heap.size) := hbb
  have HV : Hid (vB x = true) := hvb
  have HU : Hid (upV x l = .tuple #[.int .i64 0, errV 4]) := by show upV x l = _; unfold upV; rw [show upE x l = 4 from upE_full (by rw [← hm]; exact h16)]; rfl
  have HVX : Hid (((0 : Int) ≤ x ∧ x ≤ 1000)) := (isV_iff _).1 hvb
  obtain ⟨n, hn⟩ : ∃ n, n = xs.length := ⟨_, rfl⟩
  rw [← hn] at hv
  have hn63 : n ≤ maxLen := by obtain ⟨_, _, _, h, _⟩ := hsl; rw [hn]; exact h
  unfold maxLen at hn63 sm
  subst hv hsv
  clear hs hL hc hcc hsl hvb hcell hbb hm hn hwe
  clear ha
  go_enter Tryd.func3, Tryd.ntmps3
  go_wp2_with fail
  refine (in_yes _ _ _ _ HVX.out).mono ?_
  rintro e w' ⟨rfl, rfl⟩
  go_wp2_with fail
  refine (rleaf_any _ _ HVX.out).mono ?_
  rintro e w' ⟨rfl, rfl⟩
  go_wp2_with fail
  refine (leaf_okE _ _ HV.out).mono ?_
  rintro e w' ⟨rfl, rfl⟩
  go_wp2_with fail
  refine (error_any (0) (0) _ (HL.out.later HBw.out)).mono ?_
  rintro e w1 ⟨rfl, hb⟩
  have HBw1 : Hid (Below w.heap.size w w1) := Below.next HBw.out hb
  rw [show (((0 : Nat) : Int) == (0)) = true from rfl]
  clear hb
  go_wp2_with fail
  refine (up_any _ _ _ _ (HS.out.later HBw1.out)).mono ?_
  rintro e w2 ⟨rfl, hb⟩
  have HBw2 : Hid (Below w.heap.size w w2) := Below.next HBw1.out hb
  rw [HU.out]
  clear hb
  go_wp2_with fail
  refine (error_any (4) (4) _ (HL.out.later HBw2.out)).mono ?_
  rintro e w3 ⟨rfl, hb⟩
  have HBw3 : Hid (Below w.heap.size w w3) := Below.next HBw2.out hb
  rw [show (((4 : Nat) : Int) == (4)) = true from rfl]
  clear hb
  go_wp2_with fail
  refine (rvalues_any _ _ xs (HX.out.later HBw3.out).is).mono ?_
  rintro e w' ⟨rfl, rfl⟩
  go_wp2_with fail
  refine (check_any _ _ xs (HX.out.later HBw3.out).is).mono ?_
  rintro e w' ⟨rfl, rfl⟩
  go_wp2_with fail
  refine (error_any (chkE xs) ((chkE xs : Int)) _ (HL.out.later HBw3.out)).mono ?_
  rintro e w4 ⟨rfl, hb⟩
  have HBw4 : Hid (Below w.heap.size w w4) := Below.next HBw3.out hb
  rw [show (((chkE xs : Nat) : Int) == ((chkE xs : Int))) = true from beq_self_eq_true _]
  clear hb
  go_wp2_with fail
  refine (root_any _ _ xs (HX.out.later HBw4.out)).mono ?_
  rintro e w6 ⟨rfl, hb⟩
  have HBw6 : Hid (Below w.heap.size w w6) := Below.next HBw4.out hb
  rw [HRV.out]
  clear hb
  go_wp2_with fail
  refine (error_any (chkE xs) ((chkE xs : Int)) _ (HL.out.later HBw6.out)).mono ?_
  rintro e w7 ⟨rfl, hb⟩
  have HBw7 : Hid (Below w.heap.size w w7) := Below.next HBw6.out hb
  rw [show (((chkE xs : Nat) : Int) == ((chkE xs : Int))) = true from beq_self_eq_true _]
  clear hb
  go_wp2_with fail
  refine (way_any _ _ xs i (HX.out.later HBw7.out)).mono ?_
  rintro e w9 ⟨v9, rfl, hown, hb⟩
  have HBw9 : Hid (Below w.heap.size w w9) := Below.next HBw7.out hb
  have HS9 : Hid (SidesIs w9 v9 (wayI xs i)) := wayI_own hown
  rw [HWE.out]
  clear hb hown
  go_wp2_with fail
  refine (error_any (chkE xs) ((chkE xs : Int)) _ (HL.out.later HBw9.out)).mono ?_
  rintro e w10 ⟨rfl, hb⟩
  have HBw10 : Hid (Below w.heap.size w w10) := Below.next HBw9.out hb
  have HSB : Hid (Below w9.heap.size w9 w10) := hb
  rw [show (((chkE xs : Nat) : Int) == ((chkE xs : Int))) = true from beq_self_eq_true _]
  clear hb
  go_wp2_with fail
  refine (sides_any _ v9 _ _ [] (HS9.out.later HSB.out) (sides_nil _)).mono ?_
  rintro e w11 ⟨rfl, q, rfl⟩
  rw [HWI.out, show sdB [] [] = true from rfl]
  go_wp2
  go_ret
  exact ⟨rfl, Below.next HBw10.out (below_dn _ _ q)⟩

set_option maxHeartbeats 8000000 in
set_option maxRecDepth 100000 in
theorem msays_A2_B1 (w : World) (v : Value) (xs : List Int) (i x : Int) (sv : Value) (l : List (Bool × Int)) (hx : SliceC w v xs) (hs : SidesIs w sv l) (hL : Laid w) (hvb : vB x = false) (h16 : 16 < l.length) (hc : chkE xs = 0) (hi : 0 ≤ i ∧ i < (xs.length : Int)) :
    Calls Tryd.prog 3 #[v, .int .i64 i, .int .i64 x, sv] w fun e w' => e = .returned (.bool true) ∧ Below w.heap.size w w' := by
  have HX : Hid (SliceC w v xs) := hx
  have HS : Hid (SidesIs w sv l) := hs
  have HL : Hid (Laid w) := hL
  have HBw : Hid (Below w.heap.size w w) := Below.refl _ _
  have HC0 : Hid (chkE xs = 0) := hc
  obtain ⟨g1, g16, gv⟩ := chkE_zero hc
  have HRV : Hid (rootV xs = .tuple #[.int .i64 (rootL xs), errV 0]) := by show rootV xs = _; unfold rootV; rw [if_pos hc, hc]
  obtain ⟨a, c, hv, hcc, hsl⟩ := hx
  have HRR : Hid (∀ w', Below w.heap.size w w' → Calls Tryd.prog 12 #[.slice a xs.length c] w' fun e w'' => e = .returned (.int .i64 (rootL xs)) ∧ Below w'.heap.size w' w'') := fun w' hb =>
    (rroot_any 16 xs w' a xs.length c g1 g16 g16 hcc gv (by rw [← hv]; exact hsl.later hb)).mono fun e w'' ⟨he, q, hq⟩ => ⟨he, by rw [hq]; exact below_dn _ _ q⟩
  have hwe : wayE xs i = 0 := by unfold wayE; rw [if_pos hc, if_pos hi]
  have HWE : Hid (wayE xs i = 0) := hwe
  have HRW : Hid (∀ w', Below w.heap.size w w' → Calls Tryd.prog 14 #[.slice a xs.length c, .int .i64 i] w' fun e w'' => ∃ v8, e = .returned v8 ∧ SidesIs w'' v8 (wayI xs i) ∧ Below w'.heap.size w' w'') := fun w' hb => by
    obtain ⟨k, rfl⟩ : ∃ k : Nat, i = (k : Int) := ⟨i.toNat, by omega⟩
    refine (rway_any 16 xs w' a xs.length c k g1 g16 g16 hcc (by omega) gv (by rw [← hv]; exact hsl.later hb)).mono ?_
    rintro e w'' ⟨v8, he, ho, hb8⟩
    refine ⟨v8, he, ?_, hb8⟩
    rw [show wayI xs (k : Int) = wayL xs (k : Int).toNat from if_pos hwe, Int.toNat_natCast]
    exact sides_own ho (by have := wayL_len (i := k) g1 g16; unfold wayL at this; unfold maxLen; omega)
  have HIN : Hid ((0 : Int) ≤ i ∧ i ≤ (xs.length : Int) - 1) := ⟨hi.1, by omega⟩
  generalize rootL xs = r at HRV HRR
  obtain ⟨sa, sc, sb, so, hsv, sm, ha, hbb, hcell⟩ := hs.where
  obtain ⟨m, hm⟩ : ∃ m, m = l.length := ⟨_, rfl⟩
  have HM : Hid (m = l.length) := hm
  rw [← hm] at hsv h16 sm ha hbb hcell
  have HCE : Hid (∀ i, i < m → w.cell? ⟨sb, so + i * 2, none⟩ = some (.bool (sAt l i).1) ∧ w.cell? ⟨sb, so + i * 2 + 1, none⟩ = some (.int .i64 (sAt l i).2)) := hcell
  have HSL : Hid (0 < m → sb < w.heap.size) := hbb
  have HV : Hid (vB x = false) := hvb
  have HU : Hid (upV x l = .tuple #[.int .i64 0, errV 4]) := by show upV x l = _; unfold upV; rw [show upE x l = 4 from upE_full (by rw [← hm]; exact h16)]; rfl
  have HVX : Hid (¬ ((0 : Int) ≤ x ∧ x ≤ 1000)) := isV_not hvb
  obtain ⟨n, hn⟩ : ∃ n, n = xs.length := ⟨_, rfl⟩
  rw [← hn] at hv HIN HRR HRW
  have hn63 : n ≤ maxLen := by obtain ⟨_, _, _, h, _⟩ := hsl; rw [hn]; exact h
  unfold maxLen at hn63 sm
  subst hv hsv
  clear hs hL hc hcc hsl hvb hcell hbb hm hn hwe hi g1 g16 gv
  clear ha
  go_enter Tryd.func3, Tryd.ntmps3
  go_wp2_with fail
  refine (in_no _ _ _ _ HVX.out).mono ?_
  rintro e w' ⟨rfl, rfl⟩
  go_wp2_with fail
  refine (leaf_noE _ _ HV.out).mono ?_
  rintro e w' ⟨rfl, rfl⟩
  go_wp2_with fail
  refine (error_any (1) (1) _ (HL.out.later HBw.out)).mono ?_
  rintro e w1 ⟨rfl, hb⟩
  have HBw1 : Hid (Below w.heap.size w w1) := Below.next HBw.out hb
  rw [show (((1 : Nat) : Int) == (1)) = true from rfl]
  clear hb
  go_wp2_with fail
  refine (up_any _ _ _ _ (HS.out.later HBw1.out)).mono ?_
  rintro e w2 ⟨rfl, hb⟩
  have HBw2 : Hid (Below w.heap.size w w2) := Below.next HBw1.out hb
  rw [HU.out]
  clear hb
  go_wp2_with fail
  refine (error_any (4) (4) _ (HL.out.later HBw2.out)).mono ?_
  rintro e w3 ⟨rfl, hb⟩
  have HBw3 : Hid (Below w.heap.size w w3) := Below.next HBw2.out hb
  rw [show (((4 : Nat) : Int) == (4)) = true from rfl]
  clear hb
  go_wp2_with fail
  refine (rvalues_zero _ _ xs (HX.out.later HBw3.out).is HC0.out).mono ?_
  rintro e w' ⟨rfl, rfl⟩
  go_wp2_with fail
  refine (check_any _ _ xs (HX.out.later HBw3.out).is).mono ?_
  rintro e w' ⟨rfl, rfl⟩
  rw [HC0.out]
  go_wp2_with fail
  refine (error_any (0) (0) _ (HL.out.later HBw3.out)).mono ?_
  rintro e w4 ⟨rfl, hb⟩
  have HBw4 : Hid (Below w.heap.size w w4) := Below.next HBw3.out hb
  rw [show (((0 : Nat) : Int) == (0)) = true from rfl]
  clear hb
  go_wp2_with fail
  refine Calls.mono (HRR.out _ HBw4.out) ?_
  rintro e w5 ⟨rfl, hb⟩
  have HBw5 : Hid (Below w.heap.size w w5) := Below.next HBw4.out hb
  clear hb
  go_wp2_with fail
  refine (root_any _ _ xs (HX.out.later HBw5.out)).mono ?_
  rintro e w6 ⟨rfl, hb⟩
  have HBw6 : Hid (Below w.heap.size w w6) := Below.next HBw5.out hb
  rw [HRV.out]
  clear hb
  go_wp2_with fail
  refine (error_any (0) (0) _ (HL.out.later HBw6.out)).mono ?_
  rintro e w7 ⟨rfl, hb⟩
  have HBw7 : Hid (Below w.heap.size w w7) := Below.next HBw6.out hb
  rw [show (((0 : Nat) : Int) == (0)) = true from rfl]
  clear hb
  go_wp2_with (go_at_call 4; refine (in_yes _ _ _ _ HIN.out).mono ?_; rintro e w' ⟨rfl, rfl⟩)
  refine Calls.mono (HRW.out _ HBw7.out) ?_
  rintro e w8 ⟨v8, rfl, hs8, hb⟩
  have HBw8 : Hid (Below w.heap.size w w8) := Below.next HBw7.out hb
  have HS8 : Hid (SidesIs w8 v8 (wayI xs i)) := hs8
  clear hb hs8
  go_wp2_with fail
  refine (way_any _ _ xs i (HX.out.later HBw8.out)).mono ?_
  rintro e w9 ⟨v9, rfl, hown, hb⟩
  have HBw9 : Hid (Below w.heap.size w w9) := Below.next HBw8.out hb
  have HS8' : Hid (SidesIs w9 v8 (wayI xs i)) := HS8.out.later hb
  have HS9 : Hid (SidesIs w9 v9 (wayI xs i)) := wayI_own hown
  rw [HWE.out]
  clear hb hown
  go_wp2_with fail
  refine (error_any (0) (0) _ (HL.out.later HBw9.out)).mono ?_
  rintro e w10 ⟨rfl, hb⟩
  have HBw10 : Hid (Below w.heap.size w w10) := Below.next HBw9.out hb
  have HSB : Hid (Below w9.heap.size w9 w10) := hb
  rw [show (((0 : Nat) : Int) == (0)) = true from rfl]
  clear hb
  go_wp2_with fail
  refine (sides_any _ v9 v8 _ _ (HS9.out.later HSB.out) (HS8'.out.later HSB.out)).mono ?_
  rintro e w11 ⟨rfl, q, rfl⟩
  rw [show sdB (wayI xs i) (wayI xs i) = true from decide_eq_true rfl]
  go_wp2
  go_ret
  exact ⟨rfl, Below.next HBw10.out (below_dn _ _ q)⟩

set_option maxHeartbeats 8000000 in
set_option maxRecDepth 100000 in
theorem msays_A2_B2 (w : World) (v : Value) (xs : List Int) (i x : Int) (sv : Value) (l : List (Bool × Int)) (hx : SliceC w v xs) (hs : SidesIs w sv l) (hL : Laid w) (hvb : vB x = false) (h16 : 16 < l.length) (hc : chkE xs = 0) (hi : ¬ (0 ≤ i ∧ i < (xs.length : Int))) :
    Calls Tryd.prog 3 #[v, .int .i64 i, .int .i64 x, sv] w fun e w' => e = .returned (.bool true) ∧ Below w.heap.size w w' := by
  have HX : Hid (SliceC w v xs) := hx
  have HS : Hid (SidesIs w sv l) := hs
  have HL : Hid (Laid w) := hL
  have HBw : Hid (Below w.heap.size w w) := Below.refl _ _
  have HC0 : Hid (chkE xs = 0) := hc
  obtain ⟨g1, g16, gv⟩ := chkE_zero hc
  have HRV : Hid (rootV xs = .tuple #[.int .i64 (rootL xs), errV 0]) := by show rootV xs = _; unfold rootV; rw [if_pos hc, hc]
  obtain ⟨a, c, hv, hcc, hsl⟩ := hx
  have HRR : Hid (∀ w', Below w.heap.size w w' → Calls Tryd.prog 12 #[.slice a xs.length c] w' fun e w'' => e = .returned (.int .i64 (rootL xs)) ∧ Below w'.heap.size w' w'') := fun w' hb =>
    (rroot_any 16 xs w' a xs.length c g1 g16 g16 hcc gv (by rw [← hv]; exact hsl.later hb)).mono fun e w'' ⟨he, q, hq⟩ => ⟨he, by rw [hq]; exact below_dn _ _ q⟩
  have hwe : wayE xs i = 1 := by unfold wayE; rw [if_pos hc, if_neg hi]
  have HWE : Hid (wayE xs i = 1) := hwe
  have HWI : Hid (wayI xs i = []) := if_neg (by rw [hwe]; decide)
  have HIN : Hid (¬ ((0 : Int) ≤ i ∧ i ≤ (xs.length : Int) - 1)) := fun h => hi ⟨h.1, by omega⟩
  generalize rootL xs = r at HRV HRR
  obtain ⟨sa, sc, sb, so, hsv, sm, ha, hbb, hcell⟩ := hs.where
  obtain ⟨m, hm⟩ : ∃ m, m = l.length := ⟨_, rfl⟩
  have HM : Hid (m = l.length) := hm
  rw [← hm] at hsv h16 sm ha hbb hcell
  have HCE : Hid (∀ i, i < m → w.cell? ⟨sb, so + i * 2, none⟩ = some (.bool (sAt l i).1) ∧ w.cell? ⟨sb, so + i * 2 + 1, none⟩ = some (.int .i64 (sAt l i).2)) := hcell
  have HSL : Hid (0 < m → sb < w.heap.size) := hbb
  have HV : Hid (vB x = false) := hvb
  have HU : Hid (upV x l = .tuple #[.int .i64 0, errV 4]) := by show upV x l = _; unfold upV; rw [show upE x l = 4 from upE_full (by rw [← hm]; exact h16)]; rfl
  have HVX : Hid (¬ ((0 : Int) ≤ x ∧ x ≤ 1000)) := isV_not hvb
  obtain ⟨n, hn⟩ : ∃ n, n = xs.length := ⟨_, rfl⟩
  rw [← hn] at hv HIN HRR
  have hn63 : n ≤ maxLen := by obtain ⟨_, _, _, h, _⟩ := hsl; rw [hn]; exact h
  unfold maxLen at hn63 sm
  subst hv hsv
  clear hs hL hc hcc hsl hvb hcell hbb hm hn hwe hi g1 g16 gv
  clear ha
  go_enter Tryd.func3, Tryd.ntmps3
  go_wp2_with fail
  refine (in_no _ _ _ _ HVX.out).mono ?_
  rintro e w' ⟨rfl, rfl⟩
  go_wp2_with fail
  refine (leaf_noE _ _ HV.out).mono ?_
  rintro e w' ⟨rfl, rfl⟩
  go_wp2_with fail
  refine (error_any (1) (1) _ (HL.out.later HBw.out)).mono ?_
  rintro e w1 ⟨rfl, hb⟩
  have HBw1 : Hid (Below w.heap.size w w1) := Below.next HBw.out hb
  rw [show (((1 : Nat) : Int) == (1)) = true from rfl]
  clear hb
  go_wp2_with fail
  refine (up_any _ _ _ _ (HS.out.later HBw1.out)).mono ?_
  rintro e w2 ⟨rfl, hb⟩
  have HBw2 : Hid (Below w.heap.size w w2) := Below.next HBw1.out hb
  rw [HU.out]
  clear hb
  go_wp2_with fail
  refine (error_any (4) (4) _ (HL.out.later HBw2.out)).mono ?_
  rintro e w3 ⟨rfl, hb⟩
  have HBw3 : Hid (Below w.heap.size w w3) := Below.next HBw2.out hb
  rw [show (((4 : Nat) : Int) == (4)) = true from rfl]
  clear hb
  go_wp2_with fail
  refine (rvalues_zero _ _ xs (HX.out.later HBw3.out).is HC0.out).mono ?_
  rintro e w' ⟨rfl, rfl⟩
  go_wp2_with fail
  refine (check_any _ _ xs (HX.out.later HBw3.out).is).mono ?_
  rintro e w' ⟨rfl, rfl⟩
  rw [HC0.out]
  go_wp2_with fail
  refine (error_any (0) (0) _ (HL.out.later HBw3.out)).mono ?_
  rintro e w4 ⟨rfl, hb⟩
  have HBw4 : Hid (Below w.heap.size w w4) := Below.next HBw3.out hb
  rw [show (((0 : Nat) : Int) == (0)) = true from rfl]
  clear hb
  go_wp2_with fail
  refine Calls.mono (HRR.out _ HBw4.out) ?_
  rintro e w5 ⟨rfl, hb⟩
  have HBw5 : Hid (Below w.heap.size w w5) := Below.next HBw4.out hb
  clear hb
  go_wp2_with fail
  refine (root_any _ _ xs (HX.out.later HBw5.out)).mono ?_
  rintro e w6 ⟨rfl, hb⟩
  have HBw6 : Hid (Below w.heap.size w w6) := Below.next HBw5.out hb
  rw [HRV.out]
  clear hb
  go_wp2_with fail
  refine (error_any (0) (0) _ (HL.out.later HBw6.out)).mono ?_
  rintro e w7 ⟨rfl, hb⟩
  have HBw7 : Hid (Below w.heap.size w w7) := Below.next HBw6.out hb
  rw [show (((0 : Nat) : Int) == (0)) = true from rfl]
  clear hb
  go_wp2_with (go_at_call 4; refine (in_no _ _ _ _ HIN.out).mono ?_; rintro e w' ⟨rfl, rfl⟩)
  refine (way_any _ _ xs i (HX.out.later HBw7.out)).mono ?_
  rintro e w9 ⟨v9, rfl, hown, hb⟩
  have HBw9 : Hid (Below w.heap.size w w9) := Below.next HBw7.out hb
  have HS9 : Hid (SidesIs w9 v9 (wayI xs i)) := wayI_own hown
  rw [HWE.out]
  clear hb hown
  go_wp2_with fail
  refine (error_any (1) (1) _ (HL.out.later HBw9.out)).mono ?_
  rintro e w10 ⟨rfl, hb⟩
  have HBw10 : Hid (Below w.heap.size w w10) := Below.next HBw9.out hb
  have HSB : Hid (Below w9.heap.size w9 w10) := hb
  rw [show (((1 : Nat) : Int) == (1)) = true from rfl]
  clear hb
  go_wp2_with fail
  refine (sides_any _ v9 _ _ [] (HS9.out.later HSB.out) (sides_nil _)).mono ?_
  rintro e w11 ⟨rfl, q, rfl⟩
  rw [HWI.out, show sdB [] [] = true from rfl]
  go_wp2
  go_ret
  exact ⟨rfl, Below.next HBw10.out (below_dn _ _ q)⟩

set_option maxHeartbeats 8000000 in
set_option maxRecDepth 100000 in
theorem msays_A2_B3 (w : World) (v : Value) (xs : List Int) (i x : Int) (sv : Value) (l : List (Bool × Int)) (hx : SliceC w v xs) (hs : SidesIs w sv l) (hL : Laid w) (hvb : vB x = false) (h16 : 16 < l.length) (hc : chkE xs ≠ 0) :
    Calls Tryd.prog 3 #[v, .int .i64 i, .int .i64 x, sv] w fun e w' => e = .returned (.bool true) ∧ Below w.heap.size w w' := by
  have HX : Hid (SliceC w v xs) := hx
  have HS : Hid (SidesIs w sv l) := hs
  have HL : Hid (Laid w) := hL
  have HBw : Hid (Below w.heap.size w w) := Below.refl _ _
  have HRV : Hid (rootV xs = .tuple #[.int .i64 0, errV (chkE xs)]) := by show rootV xs = _; unfold rootV; rw [if_neg hc]
  have hwe : wayE xs i = chkE xs := if_neg hc
  have HWI : Hid (wayI xs i = []) := if_neg (by rw [hwe]; exact hc)
  have HWE : Hid (wayE xs i = chkE xs) := hwe
  have hez : ((chkE xs : Int) == 0) = false := by simp; omega
  have hez' : ((chkE xs : Int) != 0) = true := by simp; omega
  obtain ⟨a, c, hv, hcc, hsl⟩ := hx
  obtain ⟨sa, sc, sb, so, hsv, sm, ha, hbb, hcell⟩ := hs.where
  obtain ⟨m, hm⟩ : ∃ m, m = l.length := ⟨_, rfl⟩
  have HM : Hid (m = l.length) := hm
  rw [← hm] at hsv h16 sm ha hbb hcell
  have HCE : Hid (∀ i, i < m → w.cell? ⟨sb, so + i * 2, none⟩ = some (.bool (sAt l i).1) ∧ w.cell? ⟨sb, so + i * 2 + 1, none⟩ = some (.int .i64 (sAt l i).2)) := hcell
  have HSL : Hid (0 < m → sb < w.heap.size) := hbb
  have HV : Hid (vB x = false) := hvb
  have HU : Hid (upV x l = .tuple #[.int .i64 0, errV 4]) := by show upV x l = _; unfold upV; rw [show upE x l = 4 from upE_full (by rw [← hm]; exact h16)]; rfl
  have HVX : Hid (¬ ((0 : Int) ≤ x ∧ x ≤ 1000)) := isV_not hvb
  obtain ⟨n, hn⟩ : ∃ n, n = xs.length := ⟨_, rfl⟩
  rw [← hn] at hv
  have hn63 : n ≤ maxLen := by obtain ⟨_, _, _, h, _⟩ := hsl; rw [hn]; exact h
  unfold maxLen at hn63 sm
  subst hv hsv
  clear hs hL hc hcc hsl hvb hcell hbb hm hn hwe
  clear ha
  go_enter Tryd.func3, Tryd.ntmps3
  go_wp2_with fail
  refine (in_no _ _ _ _ HVX.out).mono ?_
  rintro e w' ⟨rfl, rfl⟩
  go_wp2_with fail
  refine (leaf_noE _ _ HV.out).mono ?_
  rintro e w' ⟨rfl, rfl⟩
  go_wp2_with fail
  refine (error_any (1) (1) _ (HL.out.later HBw.out)).mono ?_
  rintro e w1 ⟨rfl, hb⟩
  have HBw1 : Hid (Below w.heap.size w w1) := Below.next HBw.out hb
  rw [show (((1 : Nat) : Int) == (1)) = true from rfl]
  clear hb
  go_wp2_with fail
  refine (up_any _ _ _ _ (HS.out.later HBw1.out)).mono ?_
  rintro e w2 ⟨rfl, hb⟩
  have HBw2 : Hid (Below w.heap.size w w2) := Below.next HBw1.out hb
  rw [HU.out]
  clear hb
  go_wp2_with fail
  refine (error_any (4) (4) _ (HL.out.later HBw2.out)).mono ?_
  rintro e w3 ⟨rfl, hb⟩
  have HBw3 : Hid (Below w.heap.size w w3) := Below.next HBw2.out hb
  rw [show (((4 : Nat) : Int) == (4)) = true from rfl]
  clear hb
  go_wp2_with fail
  refine (rvalues_any _ _ xs (HX.out.later HBw3.out).is).mono ?_
  rintro e w' ⟨rfl, rfl⟩
  go_wp2_with fail
  refine (check_any _ _ xs (HX.out.later HBw3.out).is).mono ?_
  rintro e w' ⟨rfl, rfl⟩
  go_wp2_with fail
  refine (error_any (chkE xs) ((chkE xs : Int)) _ (HL.out.later HBw3.out)).mono ?_
  rintro e w4 ⟨rfl, hb⟩
  have HBw4 : Hid (Below w.heap.size w w4) := Below.next HBw3.out hb
  rw [show (((chkE xs : Nat) : Int) == ((chkE xs : Int))) = true from beq_self_eq_true _]
  clear hb
  go_wp2_with fail
  refine (root_any _ _ xs (HX.out.later HBw4.out)).mono ?_
  rintro e w6 ⟨rfl, hb⟩
  have HBw6 : Hid (Below w.heap.size w w6) := Below.next HBw4.out hb
  rw [HRV.out]
  clear hb
  go_wp2_with fail
  refine (error_any (chkE xs) ((chkE xs : Int)) _ (HL.out.later HBw6.out)).mono ?_
  rintro e w7 ⟨rfl, hb⟩
  have HBw7 : Hid (Below w.heap.size w w7) := Below.next HBw6.out hb
  rw [show (((chkE xs : Nat) : Int) == ((chkE xs : Int))) = true from beq_self_eq_true _]
  clear hb
  go_wp2_with fail
  refine (way_any _ _ xs i (HX.out.later HBw7.out)).mono ?_
  rintro e w9 ⟨v9, rfl, hown, hb⟩
  have HBw9 : Hid (Below w.heap.size w w9) := Below.next HBw7.out hb
  have HS9 : Hid (SidesIs w9 v9 (wayI xs i)) := wayI_own hown
  rw [HWE.out]
  clear hb hown
  go_wp2_with fail
  refine (error_any (chkE xs) ((chkE xs : Int)) _ (HL.out.later HBw9.out)).mono ?_
  rintro e w10 ⟨rfl, hb⟩
  have HBw10 : Hid (Below w.heap.size w w10) := Below.next HBw9.out hb
  have HSB : Hid (Below w9.heap.size w9 w10) := hb
  rw [show (((chkE xs : Nat) : Int) == ((chkE xs : Int))) = true from beq_self_eq_true _]
  clear hb
  go_wp2_with fail
  refine (sides_any _ v9 _ _ [] (HS9.out.later HSB.out) (sides_nil _)).mono ?_
  rintro e w11 ⟨rfl, q, rfl⟩
  rw [HWI.out, show sdB [] [] = true from rfl]
  go_wp2
  go_ret
  exact ⟨rfl, Below.next HBw10.out (below_dn _ _ q)⟩

set_option maxHeartbeats 8000000 in
set_option maxRecDepth 100000 in
theorem msays_A3_B1 (w : World) (v : Value) (xs : List Int) (i x : Int) (sv : Value) (l : List (Bool × Int)) (hx : SliceC w v xs) (hs : SidesIs w sv l) (hL : Laid w) (hvb : vB x = false) (h16 : l.length ≤ 16) (hc : chkE xs = 0) (hi : 0 ≤ i ∧ i < (xs.length : Int)) :
    Calls Tryd.prog 3 #[v, .int .i64 i, .int .i64 x, sv] w fun e w' => e = .returned (.bool true) ∧ Below w.heap.size w w' := by
  have HX : Hid (SliceC w v xs) := hx
  have HS : Hid (SidesIs w sv l) := hs
  have HL : Hid (Laid w) := hL
  have HBw : Hid (Below w.heap.size w w) := Below.refl _ _
  have HC0 : Hid (chkE xs = 0) := hc
  obtain ⟨g1, g16, gv⟩ := chkE_zero hc
  have HRV : Hid (rootV xs = .tuple #[.int .i64 (rootL xs), errV 0]) := by show rootV xs = _; unfold rootV; rw [if_pos hc, hc]
  obtain ⟨a, c, hv, hcc, hsl⟩ := hx
  have HRR : Hid (∀ w', Below w.heap.size w w' → Calls Tryd.prog 12 #[.slice a xs.length c] w' fun e w'' => e = .returned (.int .i64 (rootL xs)) ∧ Below w'.heap.size w' w'') := fun w' hb =>
    (rroot_any 16 xs w' a xs.length c g1 g16 g16 hcc gv (by rw [← hv]; exact hsl.later hb)).mono fun e w'' ⟨he, q, hq⟩ => ⟨he, by rw [hq]; exact below_dn _ _ q⟩
  have hwe : wayE xs i = 0 := by unfold wayE; rw [if_pos hc, if_pos hi]
  have HWE : Hid (wayE xs i = 0) := hwe
  have HRW : Hid (∀ w', Below w.heap.size w w' → Calls Tryd.prog 14 #[.slice a xs.length c, .int .i64 i] w' fun e w'' => ∃ v8, e = .returned v8 ∧ SidesIs w'' v8 (wayI xs i) ∧ Below w'.heap.size w' w'') := fun w' hb => by
    obtain ⟨k, rfl⟩ : ∃ k : Nat, i = (k : Int) := ⟨i.toNat, by omega⟩
    refine (rway_any 16 xs w' a xs.length c k g1 g16 g16 hcc (by omega) gv (by rw [← hv]; exact hsl.later hb)).mono ?_
    rintro e w'' ⟨v8, he, ho, hb8⟩
    refine ⟨v8, he, ?_, hb8⟩
    rw [show wayI xs (k : Int) = wayL xs (k : Int).toNat from if_pos hwe, Int.toNat_natCast]
    exact sides_own ho (by have := wayL_len (i := k) g1 g16; unfold wayL at this; unfold maxLen; omega)
  have HIN : Hid ((0 : Int) ≤ i ∧ i ≤ (xs.length : Int) - 1) := ⟨hi.1, by omega⟩
  generalize rootL xs = r at HRV HRR
  obtain ⟨sa, sc, sb, so, hsv, sm, ha, hbb, hcell⟩ := hs.where
  obtain ⟨m, hm⟩ : ∃ m, m = l.length := ⟨_, rfl⟩
  have HM : Hid (m = l.length) := hm
  rw [← hm] at hsv h16 sm ha hbb hcell
  have HCE : Hid (∀ i, i < m → w.cell? ⟨sb, so + i * 2, none⟩ = some (.bool (sAt l i).1) ∧ w.cell? ⟨sb, so + i * 2 + 1, none⟩ = some (.int .i64 (sAt l i).2)) := hcell
  have HSL : Hid (0 < m → sb < w.heap.size) := hbb
  have HV : Hid (vB x = false) := hvb
  have HU : Hid (upV x l = .tuple #[.int .i64 0, errV 1]) := by show upV x l = _; unfold upV; rw [show upE x l = 1 from upE_v (by rw [← hm]; exact h16) hvb]; rfl
  have HVX : Hid (¬ ((0 : Int) ≤ x ∧ x ≤ 1000)) := isV_not hvb
  obtain ⟨n, hn⟩ : ∃ n, n = xs.length := ⟨_, rfl⟩
  rw [← hn] at hv HIN HRR HRW
  have hn63 : n ≤ maxLen := by obtain ⟨_, _, _, h, _⟩ := hsl; rw [hn]; exact h
  unfold maxLen at hn63 sm
  subst hv hsv
  clear hs hL hc hcc hsl hvb hcell hbb hm hn hwe hi g1 g16 gv
  clear ha
  go_enter Tryd.func3, Tryd.ntmps3
  go_wp2_with fail
  refine (in_no _ _ _ _ HVX.out).mono ?_
  rintro e w' ⟨rfl, rfl⟩
  go_wp2_with fail
  refine (leaf_noE _ _ HV.out).mono ?_
  rintro e w' ⟨rfl, rfl⟩
  go_wp2_with fail
  refine (error_any (1) (1) _ (HL.out.later HBw.out)).mono ?_
  rintro e w1 ⟨rfl, hb⟩
  have HBw1 : Hid (Below w.heap.size w w1) := Below.next HBw.out hb
  rw [show (((1 : Nat) : Int) == (1)) = true from rfl]
  clear hb
  go_wp2_with fail
  refine (up_any _ _ _ _ (HS.out.later HBw1.out)).mono ?_
  rintro e w2 ⟨rfl, hb⟩
  have HBw2 : Hid (Below w.heap.size w w2) := Below.next HBw1.out hb
  rw [HU.out]
  clear hb
  go_wp2_with fail
  refine (error_any (1) (1) _ (HL.out.later HBw2.out)).mono ?_
  rintro e w3 ⟨rfl, hb⟩
  have HBw3 : Hid (Below w.heap.size w w3) := Below.next HBw2.out hb
  rw [show (((1 : Nat) : Int) == (1)) = true from rfl]
  clear hb
  go_wp2_with fail
  refine (rvalues_zero _ _ xs (HX.out.later HBw3.out).is HC0.out).mono ?_
  rintro e w' ⟨rfl, rfl⟩
  go_wp2_with fail
  refine (check_any _ _ xs (HX.out.later HBw3.out).is).mono ?_
  rintro e w' ⟨rfl, rfl⟩
  rw [HC0.out]
  go_wp2_with fail
  refine (error_any (0) (0) _ (HL.out.later HBw3.out)).mono ?_
  rintro e w4 ⟨rfl, hb⟩
  have HBw4 : Hid (Below w.heap.size w w4) := Below.next HBw3.out hb
  rw [show (((0 : Nat) : Int) == (0)) = true from rfl]
  clear hb
  go_wp2_with fail
  refine Calls.mono (HRR.out _ HBw4.out) ?_
  rintro e w5 ⟨rfl, hb⟩
  have HBw5 : Hid (Below w.heap.size w w5) := Below.next HBw4.out hb
  clear hb
  go_wp2_with fail
  refine (root_any _ _ xs (HX.out.later HBw5.out)).mono ?_
  rintro e w6 ⟨rfl, hb⟩
  have HBw6 : Hid (Below w.heap.size w w6) := Below.next HBw5.out hb
  rw [HRV.out]
  clear hb
  go_wp2_with fail
  refine (error_any (0) (0) _ (HL.out.later HBw6.out)).mono ?_
  rintro e w7 ⟨rfl, hb⟩
  have HBw7 : Hid (Below w.heap.size w w7) := Below.next HBw6.out hb
  rw [show (((0 : Nat) : Int) == (0)) = true from rfl]
  clear hb
  go_wp2_with (go_at_call 4; refine (in_yes _ _ _ _ HIN.out).mono ?_; rintro e w' ⟨rfl, rfl⟩)
  refine Calls.mono (HRW.out _ HBw7.out) ?_
  rintro e w8 ⟨v8, rfl, hs8, hb⟩
  have HBw8 : Hid (Below w.heap.size w w8) := Below.next HBw7.out hb
  have HS8 : Hid (SidesIs w8 v8 (wayI xs i)) := hs8
  clear hb hs8
  go_wp2_with fail
  refine (way_any _ _ xs i (HX.out.later HBw8.out)).mono ?_
  rintro e w9 ⟨v9, rfl, hown, hb⟩
  have HBw9 : Hid (Below w.heap.size w w9) := Below.next HBw8.out hb
  have HS8' : Hid (SidesIs w9 v8 (wayI xs i)) := HS8.out.later hb
  have HS9 : Hid (SidesIs w9 v9 (wayI xs i)) := wayI_own hown
  rw [HWE.out]
  clear hb hown
  go_wp2_with fail
  refine (error_any (0) (0) _ (HL.out.later HBw9.out)).mono ?_
  rintro e w10 ⟨rfl, hb⟩
  have HBw10 : Hid (Below w.heap.size w w10) := Below.next HBw9.out hb
  have HSB : Hid (Below w9.heap.size w9 w10) := hb
  rw [show (((0 : Nat) : Int) == (0)) = true from rfl]
  clear hb
  go_wp2_with fail
  refine (sides_any _ v9 v8 _ _ (HS9.out.later HSB.out) (HS8'.out.later HSB.out)).mono ?_
  rintro e w11 ⟨rfl, q, rfl⟩
  rw [show sdB (wayI xs i) (wayI xs i) = true from decide_eq_true rfl]
  go_wp2
  go_ret
  exact ⟨rfl, Below.next HBw10.out (below_dn _ _ q)⟩

set_option maxHeartbeats 8000000 in
set_option maxRecDepth 100000 in
theorem msays_A3_B2 (w : World) (v : Value) (xs : List Int) (i x : Int) (sv : Value) (l : List (Bool × Int)) (hx : SliceC w v xs) (hs : SidesIs w sv l) (hL : Laid w) (hvb : vB x = false) (h16 : l.length ≤ 16) (hc : chkE xs = 0) (hi : ¬ (0 ≤ i ∧ i < (xs.length : Int))) :
    Calls Tryd.prog 3 #[v, .int .i64 i, .int .i64 x, sv] w fun e w' => e = .returned (.bool true) ∧ Below w.heap.size w w' := by
  have HX : Hid (SliceC w v xs) := hx
  have HS : Hid (SidesIs w sv l) := hs
  have HL : Hid (Laid w) := hL
  have HBw : Hid (Below w.heap.size w w) := Below.refl _ _
  have HC0 : Hid (chkE xs = 0) := hc
  obtain ⟨g1, g16, gv⟩ := chkE_zero hc
  have HRV : Hid (rootV xs = .tuple #[.int .i64 (rootL xs), errV 0]) := by show rootV xs = _; unfold rootV; rw [if_pos hc, hc]
  obtain ⟨a, c, hv, hcc, hsl⟩ := hx
  have HRR : Hid (∀ w', Below w.heap.size w w' → Calls Tryd.prog 12 #[.slice a xs.length c] w' fun e w'' => e = .returned (.int .i64 (rootL xs)) ∧ Below w'.heap.size w' w'') := fun w' hb =>
    (rroot_any 16 xs w' a xs.length c g1 g16 g16 hcc gv (by rw [← hv]; exact hsl.later hb)).mono fun e w'' ⟨he, q, hq⟩ => ⟨he, by rw [hq]; exact below_dn _ _ q⟩
  have hwe : wayE xs i = 1 := by unfold wayE; rw [if_pos hc, if_neg hi]
  have HWE : Hid (wayE xs i = 1) := hwe
  have HWI : Hid (wayI xs i = []) := if_neg (by rw [hwe]; decide)
  have HIN : Hid (¬ ((0 : Int) ≤ i ∧ i ≤ (xs.length : Int) - 1)) := fun h => hi ⟨h.1, by omega⟩
  generalize rootL xs = r at HRV HRR
  obtain ⟨sa, sc, sb, so, hsv, sm, ha, hbb, hcell⟩ := hs.where
  obtain ⟨m, hm⟩ : ∃ m, m = l.length := ⟨_, rfl⟩
  have HM : Hid (m = l.length) := hm
  rw [← hm] at hsv h16 sm ha hbb hcell
  have HCE : Hid (∀ i, i < m → w.cell? ⟨sb, so + i * 2, none⟩ = some (.bool (sAt l i).1) ∧ w.cell? ⟨sb, so + i * 2 + 1, none⟩ = some (.int .i64 (sAt l i).2)) := hcell
  have HSL : Hid (0 < m → sb < w.heap.size) := hbb
  have HV : Hid (vB x = false) := hvb
  have HU : Hid (upV x l = .tuple #[.int .i64 0, errV 1]) := by show upV x l = _; unfold upV; rw [show upE x l = 1 from upE_v (by rw [← hm]; exact h16) hvb]; rfl
  have HVX : Hid (¬ ((0 : Int) ≤ x ∧ x ≤ 1000)) := isV_not hvb
  obtain ⟨n, hn⟩ : ∃ n, n = xs.length := ⟨_, rfl⟩
  rw [← hn] at hv HIN HRR
  have hn63 : n ≤ maxLen := by obtain ⟨_, _, _, h, _⟩ := hsl; rw [hn]; exact h
  unfold maxLen at hn63 sm
  subst hv hsv
  clear hs hL hc hcc hsl hvb hcell hbb hm hn hwe hi g1 g16 gv
  clear ha
  go_enter Tryd.func3, Tryd.ntmps3
  go_wp2_with fail
  refine (in_no _ _ _ _ HVX.out).mono ?_
  rintro e w' ⟨rfl, rfl⟩
  go_wp2_with fail
  refine (leaf_noE _ _ HV.out).mono ?_
  rintro e w' ⟨rfl, rfl⟩
  go_wp2_with fail
  refine (error_any (1) (1) _ (HL.out.later HBw.out)).mono ?_
  rintro e w1 ⟨rfl, hb⟩
  have HBw1 : Hid (Below w.heap.size w w1) := Below.next HBw.out hb
  rw [show (((1 : Nat) : Int) == (1)) = true from rfl]
  clear hb
  go_wp2_with fail
  refine (up_any _ _ _ _ (HS.out.later HBw1.out)).mono ?_
  rintro e w2 ⟨rfl, hb⟩
  have HBw2 : Hid (Below w.heap.size w w2) := Below.next HBw1.out hb
  rw [HU.out]
  clear hb
  go_wp2_with fail
  refine (error_any (1) (1) _ (HL.out.later HBw2.out)).mono ?_
  rintro e w3 ⟨rfl, hb⟩
  have HBw3 : Hid (Below w.heap.size w w3) := Below.next HBw2.out hb
  rw [show (((1 : Nat) : Int) == (1)) = true from rfl]
  clear hb
  go_wp2_with fail
  refine (rvalues_zero _ _ xs (HX.out.later HBw3.out).is HC0.out).mono ?_
  rintro e w' ⟨rfl, rfl⟩
  go_wp2_with fail
  refine (check_any _ _ xs (HX.out.later HBw3.out).is).mono ?_
  rintro e w' ⟨rfl, rfl⟩
  rw [HC0.out]
  go_wp2_with fail
  refine (error_any (0) (0) _ (HL.out.later HBw3.out)).mono ?_
  rintro e w4 ⟨rfl, hb⟩
  have HBw4 : Hid (Below w.heap.size w w4) := Below.next HBw3.out hb
  rw [show (((0 : Nat) : Int) == (0)) = true from rfl]
  clear hb
  go_wp2_with fail
  refine Calls.mono (HRR.out _ HBw4.out) ?_
  rintro e w5 ⟨rfl, hb⟩
  have HBw5 : Hid (Below w.heap.size w w5) := Below.next HBw4.out hb
  clear hb
  go_wp2_with fail
  refine (root_any _ _ xs (HX.out.later HBw5.out)).mono ?_
  rintro e w6 ⟨rfl, hb⟩
  have HBw6 : Hid (Below w.heap.size w w6) := Below.next HBw5.out hb
  rw [HRV.out]
  clear hb
  go_wp2_with fail
  refine (error_any (0) (0) _ (HL.out.later HBw6.out)).mono ?_
  rintro e w7 ⟨rfl, hb⟩
  have HBw7 : Hid (Below w.heap.size w w7) := Below.next HBw6.out hb
  rw [show (((0 : Nat) : Int) == (0)) = true from rfl]
  clear hb
  go_wp2_with (go_at_call 4; refine (in_no _ _ _ _ HIN.out).mono ?_; rintro e w' ⟨rfl, rfl⟩)
  refine (way_any _ _ xs i (HX.out.later HBw7.out)).mono ?_
  rintro e w9 ⟨v9, rfl, hown, hb⟩
  have HBw9 : Hid (Below w.heap.size w w9) := Below.next HBw7.out hb
  have HS9 : Hid (SidesIs w9 v9 (wayI xs i)) := wayI_own hown
  rw [HWE.out]
  clear hb hown
  go_wp2_with fail
  refine (error_any (1) (1) _ (HL.out.later HBw9.out)).mono ?_
  rintro e w10 ⟨rfl, hb⟩
  have HBw10 : Hid (Below w.heap.size w w10) := Below.next HBw9.out hb
  have HSB : Hid (Below w9.heap.size w9 w10) := hb
  rw [show (((1 : Nat) : Int) == (1)) = true from rfl]
  clear hb
  go_wp2_with fail
  refine (sides_any _ v9 _ _ [] (HS9.out.later HSB.out) (sides_nil _)).mono ?_
  rintro e w11 ⟨rfl, q, rfl⟩
  rw [HWI.out, show sdB [] [] = true from rfl]
  go_wp2
  go_ret
  exact ⟨rfl, Below.next HBw10.out (below_dn _ _ q)⟩

set_option maxHeartbeats 8000000 in
set_option maxRecDepth 100000 in
theorem msays_A3_B3 (w : World) (v : Value) (xs : List Int) (i x : Int) (sv : Value) (l : List (Bool × Int)) (hx : SliceC w v xs) (hs : SidesIs w sv l) (hL : Laid w) (hvb : vB x = false) (h16 : l.length ≤ 16) (hc : chkE xs ≠ 0) :
    Calls Tryd.prog 3 #[v, .int .i64 i, .int .i64 x, sv] w fun e w' => e = .returned (.bool true) ∧ Below w.heap.size w w' := by
  have HX : Hid (SliceC w v xs) := hx
  have HS : Hid (SidesIs w sv l) := hs
  have HL : Hid (Laid w) := hL
  have HBw : Hid (Below w.heap.size w w) := Below.refl _ _
  have HRV : Hid (rootV xs = .tuple #[.int .i64 0, errV (chkE xs)]) := by show rootV xs = _; unfold rootV; rw [if_neg hc]
  have hwe : wayE xs i = chkE xs := if_neg hc
  have HWI : Hid (wayI xs i = []) := if_neg (by rw [hwe]; exact hc)
  have HWE : Hid (wayE xs i = chkE xs) := hwe
  have hez : ((chkE xs : Int) == 0) = false := by simp; omega
  have hez' : ((chkE xs : Int) != 0) = true := by simp; omega
  obtain ⟨a, c, hv, hcc, hsl⟩ := hx
  obtain ⟨sa, sc, sb, so, hsv, sm, ha, hbb, hcell⟩ := hs.where
  obtain ⟨m, hm⟩ : ∃ m, m = l.length := ⟨_, rfl⟩
  have HM : Hid (m = l.length) := hm
  rw [← hm] at hsv h16 sm ha hbb hcell
  have HCE : Hid (∀ i, i < m → w.cell? ⟨sb, so + i * 2, none⟩ = some (.bool (sAt l i).1) ∧ w.cell? ⟨sb, so + i * 2 + 1, none⟩ = some (.int .i64 (sAt l i).2)) := hcell
  have HSL : Hid (0 < m → sb < w.heap.size) := hbb
  have HV : Hid (vB x = false) := hvb
  have HU : Hid (upV x l = .tuple #[.int .i64 0, errV 1]) := by show upV x l = _; unfold upV; rw [show upE x l = 1 from upE_v (by rw [← hm]; exact h16) hvb]; rfl
  have HVX : Hid (¬ ((0 : Int) ≤ x ∧ x ≤ 1000)) := isV_not hvb
  obtain ⟨n, hn⟩ : ∃ n, n = xs.length := ⟨_, rfl⟩
  rw [← hn] at hv
  have hn63 : n ≤ maxLen := by obtain ⟨_, _, _, h, _⟩ := hsl; rw [hn]; exact h
  unfold maxLen at hn63 sm
  subst hv hsv
  clear hs hL hc hcc hsl hvb hcell hbb hm hn hwe
  clear ha
  go_enter Tryd.func3, Tryd.ntmps3
  go_wp2_with fail
  refine (in_no _ _ _ _ HVX.out).mono ?_
  rintro e w' ⟨rfl, rfl⟩
  go_wp2_with fail
  refine (leaf_noE _ _ HV.out).mono ?_
  rintro e w' ⟨rfl, rfl⟩
  go_wp2_with fail
  refine (error_any (1) (1) _ (HL.out.later HBw.out)).mono ?_
  rintro e w1 ⟨rfl, hb⟩
  have HBw1 : Hid (Below w.heap.size w w1) := Below.next HBw.out hb
  rw [show (((1 : Nat) : Int) == (1)) = true from rfl]
  clear hb
  go_wp2_with fail
  refine (up_any _ _ _ _ (HS.out.later HBw1.out)).mono ?_
  rintro e w2 ⟨rfl, hb⟩
  have HBw2 : Hid (Below w.heap.size w w2) := Below.next HBw1.out hb
  rw [HU.out]
  clear hb
  go_wp2_with fail
  refine (error_any (1) (1) _ (HL.out.later HBw2.out)).mono ?_
  rintro e w3 ⟨rfl, hb⟩
  have HBw3 : Hid (Below w.heap.size w w3) := Below.next HBw2.out hb
  rw [show (((1 : Nat) : Int) == (1)) = true from rfl]
  clear hb
  go_wp2_with fail
  refine (rvalues_any _ _ xs (HX.out.later HBw3.out).is).mono ?_
  rintro e w' ⟨rfl, rfl⟩
  go_wp2_with fail
  refine (check_any _ _ xs (HX.out.later HBw3.out).is).mono ?_
  rintro e w' ⟨rfl, rfl⟩
  go_wp2_with fail
  refine (error_any (chkE xs) ((chkE xs : Int)) _ (HL.out.later HBw3.out)).mono ?_
  rintro e w4 ⟨rfl, hb⟩
  have HBw4 : Hid (Below w.heap.size w w4) := Below.next HBw3.out hb
  rw [show (((chkE xs : Nat) : Int) == ((chkE xs : Int))) = true from beq_self_eq_true _]
  clear hb
  go_wp2_with fail
  refine (root_any _ _ xs (HX.out.later HBw4.out)).mono ?_
  rintro e w6 ⟨rfl, hb⟩
  have HBw6 : Hid (Below w.heap.size w w6) := Below.next HBw4.out hb
  rw [HRV.out]
  clear hb
  go_wp2_with fail
  refine (error_any (chkE xs) ((chkE xs : Int)) _ (HL.out.later HBw6.out)).mono ?_
  rintro e w7 ⟨rfl, hb⟩
  have HBw7 : Hid (Below w.heap.size w w7) := Below.next HBw6.out hb
  rw [show (((chkE xs : Nat) : Int) == ((chkE xs : Int))) = true from beq_self_eq_true _]
  clear hb
  go_wp2_with fail
  refine (way_any _ _ xs i (HX.out.later HBw7.out)).mono ?_
  rintro e w9 ⟨v9, rfl, hown, hb⟩
  have HBw9 : Hid (Below w.heap.size w w9) := Below.next HBw7.out hb
  have HS9 : Hid (SidesIs w9 v9 (wayI xs i)) := wayI_own hown
  rw [HWE.out]
  clear hb hown
  go_wp2_with fail
  refine (error_any (chkE xs) ((chkE xs : Int)) _ (HL.out.later HBw9.out)).mono ?_
  rintro e w10 ⟨rfl, hb⟩
  have HBw10 : Hid (Below w.heap.size w w10) := Below.next HBw9.out hb
  have HSB : Hid (Below w9.heap.size w9 w10) := hb
  rw [show (((chkE xs : Nat) : Int) == ((chkE xs : Int))) = true from beq_self_eq_true _]
  clear hb
  go_wp2_with fail
  refine (sides_any _ v9 _ _ [] (HS9.out.later HSB.out) (sides_nil _)).mono ?_
  rintro e w11 ⟨rfl, q, rfl⟩
  rw [HWI.out, show sdB [] [] = true from rfl]
  go_wp2
  go_ret
  exact ⟨rfl, Below.next HBw10.out (below_dn _ _ q)⟩

set_option maxHeartbeats 8000000 in
set_option maxRecDepth 100000 in
theorem msays_A4_B1 (w : World) (v : Value) (xs : List Int) (i x : Int) (sv : Value) (l : List (Bool × Int)) (hx : SliceC w v xs) (hs : SidesIs w sv l) (hL : Laid w) (hvb : vB x = true) (h16 : l.length ≤ 16) (hc : chkE xs = 0) (hi : 0 ≤ i ∧ i < (xs.length : Int)) :
    Calls Tryd.prog 3 #[v, .int .i64 i, .int .i64 x, sv] w fun e w' => e = .returned (.bool true) ∧ Below w.heap.size w w' := by
  have HX : Hid (SliceC w v xs) := hx
  have HS : Hid (SidesIs w sv l) := hs
  have HL : Hid (Laid w) := hL
  have HBw : Hid (Below w.heap.size w w) := Below.refl _ _
  have HC0 : Hid (chkE xs = 0) := hc
  obtain ⟨g1, g16, gv⟩ := chkE_zero hc
  have HRV : Hid (rootV xs = .tuple #[.int .i64 (rootL xs), errV 0]) := by show rootV xs = _; unfold rootV; rw [if_pos hc, hc]
  obtain ⟨a, c, hv, hcc, hsl⟩ := hx
  have HRR : Hid (∀ w', Below w.heap.size w w' → Calls Tryd.prog 12 #[.slice a xs.length c] w' fun e w'' => e = .returned (.int .i64 (rootL xs)) ∧ Below w'.heap.size w' w'') := fun w' hb =>
    (rroot_any 16 xs w' a xs.length c g1 g16 g16 hcc gv (by rw [← hv]; exact hsl.later hb)).mono fun e w'' ⟨he, q, hq⟩ => ⟨he, by rw [hq]; exact below_dn _ _ q⟩
  have hwe : wayE xs i = 0 := by unfold wayE; rw [if_pos hc, if_pos hi]
  have HWE : Hid (wayE xs i = 0) := hwe
  have HRW : Hid (∀ w', Below w.heap.size w w' → Calls Tryd.prog 14 #[.slice a xs.length c, .int .i64 i] w' fun e w'' => ∃ v8, e = .returned v8 ∧ SidesIs w'' v8 (wayI xs i) ∧ Below w'.heap.size w' w'') := fun w' hb => by
    obtain ⟨k, rfl⟩ : ∃ k : Nat, i = (k : Int) := ⟨i.toNat, by omega⟩
    refine (rway_any 16 xs w' a xs.length c k g1 g16 g16 hcc (by omega) gv (by rw [← hv]; exact hsl.later hb)).mono ?_
    rintro e w'' ⟨v8, he, ho, hb8⟩
    refine ⟨v8, he, ?_, hb8⟩
    rw [show wayI xs (k : Int) = wayL xs (k : Int).toNat from if_pos hwe, Int.toNat_natCast]
    exact sides_own ho (by have := wayL_len (i := k) g1 g16; unfold wayL at this; unfold maxLen; omega)
  have HIN : Hid ((0 : Int) ≤ i ∧ i ≤ (xs.length : Int) - 1) := ⟨hi.1, by omega⟩
  generalize rootL xs = r at HRV HRR
  obtain ⟨sa, sc, sb, so, hsv, sm, ha, hbb, hcell⟩ := hs.where
  obtain ⟨m, hm⟩ : ∃ m, m = l.length := ⟨_, rfl⟩
  have HM : Hid (m = l.length) := hm
  rw [← hm] at hsv h16 sm ha hbb hcell
  have HCE : Hid (∀ i, i < m → w.cell? ⟨sb, so + i * 2, none⟩ = some (.bool (sAt l i).1) ∧ w.cell? ⟨sb, so + i * 2 + 1, none⟩ = some (.int .i64 (sAt l i).2)) := hcell
  have HSL : Hid (0 < m → sb < w.heap.size) := hbb
  have HV : Hid (vB x = true) := hvb
  have HVX : Hid (((0 : Int) ≤ x ∧ x ≤ 1000)) := (isV_iff _).1 hvb
  obtain ⟨n, hn⟩ : ∃ n, n = xs.length := ⟨_, rfl⟩
  rw [← hn] at hv HIN HRR HRW
  have hn63 : n ≤ maxLen := by obtain ⟨_, _, _, h, _⟩ := hsl; rw [hn]; exact h
  unfold maxLen at hn63 sm
  subst hv hsv
  clear hs hL hc hcc hsl hvb hcell hbb hm hn hwe hi g1 g16 gv
  go_enter Tryd.func3, Tryd.ntmps3
  go_wp2_with fail
  refine (in_yes _ _ _ _ HVX.out).mono ?_
  rintro e w' ⟨rfl, rfl⟩
  go_wp2_with fail
  refine (rleaf_any _ _ HVX.out).mono ?_
  rintro e w' ⟨rfl, rfl⟩
  go_wp2_with fail
  refine (leaf_okE _ _ HV.out).mono ?_
  rintro e w' ⟨rfl, rfl⟩
  go_wp2_with fail
  refine (error_any (0) (0) _ (HL.out.later HBw.out)).mono ?_
  rintro e w1 ⟨rfl, hb⟩
  have HBw1 : Hid (Below w.heap.size w w1) := Below.next HBw.out hb
  rw [show (((0 : Nat) : Int) == (0)) = true from rfl]
  clear hb
  have h16' : ¬ 16 < m := by omega
  go_wp2_with fail
  refine (rleaf_any _ _ HVX.out).mono ?_
  rintro e w' ⟨rfl, rfl⟩
  go_wp2_with fail
  go_loop [9, 10, 14] (fun e t i => ∃ k : Nat, k ≤ m ∧ i = .int .i64 k ∧ ∃ y : Int, t = .int .i64 y ∧ ((e = .int .i64 0 ∧ y = goUp (lf x) (l.take k) ∧ ∀ j, j < k → 0 ≤ (sAt l j).2 ∧ (sAt l j).2 ≤ 9972) ∨ (e = .int .i64 1 ∧ upE x l = 1))) (fun _ _ i => m - (intOf i).toNat)
  case atStart => exact ⟨0, Nat.zero_le _, rfl, _, rfl, .inl ⟨rfl, rfl, fun j hj => absurd hj (Nat.not_lt_zero _)⟩⟩
  case round =>
    obtain ⟨k, hk, rfl, y, rfl, hrel⟩ := hrel
    rcases hrel with ⟨rfl, hy, hall⟩ | ⟨rfl, hu1⟩
    · have HY : Hid (y = goUp (lf x) (l.take k)) := hy
      have HA : Hid (∀ j, j < k → 0 ≤ (sAt l j).2 ∧ (sAt l j).2 ≤ 9972) := hall
      have hyr : 0 ≤ y ∧ y ≤ 9972 := by rw [hy]; exact goUp_in l k
      clear hy hall
      by_cases hlt : k < m
      · have hlt' : (k : Int) < (m : Int) := by omega
        have hc1 : w1.cell? ⟨sb, so + k * 2, none⟩ = some (.bool (sAt l k).1) := by rw [HBw1.out.cell (p := ⟨sb, so + k * 2, none⟩) (HSL.out (by omega))]; exact (HCE.out k hlt).1
        have hc2 : w1.cell? ⟨sb, so + k * 2 + 1, none⟩ = some (.int .i64 (sAt l k).2) := by rw [HBw1.out.cell (p := ⟨sb, so + k * 2 + 1, none⟩) (HSL.out (by omega))]; exact (HCE.out k hlt).2
        have haa := ha (by omega)
        subst haa
        have HT : Hid _ := goUp_take (lf x) (l := l) (k := k) (by rw [← HM.out]; exact hlt)
        rw [← HY.out] at HT
        by_cases hz : 0 ≤ (sAt l k).2 ∧ (sAt l k).2 ≤ 9972
        · have HZ : Hid (0 ≤ (sAt l k).2 ∧ (sAt l k).2 ≤ 9972) := hz
          have HA' : Hid (∀ j, j < k + 1 → 0 ≤ (sAt l j).2 ∧ (sAt l j).2 ≤ 9972) := fun j hj => by
            by_cases e : j = k
            · rw [e]; exact hz
            · exact HA.out j (by omega)
          obtain ⟨⟨y', z⟩, hyz⟩ : ∃ y, y = sAt l k := ⟨_, rfl⟩
          rw [← hyz] at hc1 hc2 HZ HT
          clear hyz hz HA
          simp only at hc1 hc2
          replace HZ : Hid (0 ≤ z ∧ z ≤ 9972) := HZ
          cases y' with
          | true =>
            have HT' : Hid (goUp (lf x) (l.take (k + 1)) = jn z y) := by show goUp (lf x) (l.take (k + 1)) = jn z y; have := HT.out; simpa [oneUp] using this
            clear HT
            go_wp2_with (first | (go_at_call 4; refine (in_yes _ _ _ _ HZ.out).mono ?_; rintro e w' ⟨rfl, rfl⟩) | (go_at_call 8; refine (rjoin_any _ _ _ HZ.out hyr).mono ?_; rintro e w' ⟨rfl, rfl⟩))
            go_round
            case rel => exact ⟨k + 1, by omega, by go_num, _, rfl, .inl ⟨rfl, HT'.out.symm, HA'.out⟩⟩
            case measure => simp [intOf]; omega
          | false =>
            have HT' : Hid (goUp (lf x) (l.take (k + 1)) = jn y z) := by show goUp (lf x) (l.take (k + 1)) = jn y z; have := HT.out; simpa [oneUp] using this
            clear HT
            go_wp2_with (first | (go_at_call 4; refine (in_yes _ _ _ _ HZ.out).mono ?_; rintro e w' ⟨rfl, rfl⟩) | (go_at_call 8; refine (rjoin_any _ _ _ hyr HZ.out).mono ?_; rintro e w' ⟨rfl, rfl⟩))
            go_round
            case rel => exact ⟨k + 1, by omega, by go_num, _, rfl, .inl ⟨rfl, HT'.out.symm, HA'.out⟩⟩
            case measure => simp [intOf]; omega
        · have HZ : Hid (¬ (0 ≤ (sAt l k).2 ∧ (sAt l k).2 ≤ 9972)) := hz
          have HUE : Hid (upE x l = 1) := upE_s (k := k) (by rw [← HM.out]; exact h16) HV.out (by rw [← HM.out]; exact hlt) hz
          obtain ⟨⟨y', z⟩, hyz⟩ : ∃ y, y = sAt l k := ⟨_, rfl⟩
          rw [← hyz] at hc1 hc2 HZ
          clear hyz hz HA HT
          simp only at hc1 hc2
          replace HZ : Hid (¬ (0 ≤ z ∧ z ≤ 9972)) := HZ
          go_wp2_with (go_at_call 4; refine (in_no _ _ _ _ HZ.out).mono ?_; rintro e w' ⟨rfl, rfl⟩)
          go_round
          case rel => exact ⟨k + 1, by omega, by go_num, _, rfl, .inr ⟨rfl, HUE.out⟩⟩
          case measure => simp [intOf]; omega
      · have hkn : k = m := by omega
        subst hkn
        have HU : Hid (upV x l = .tuple #[.int .i64 y, errV 0]) := by
          show upV x l = _
          have h0 : upE x l = 0 := upE_ok (by rw [← HM.out]; exact h16) HV.out (by rw [← HM.out]; exact HA.out)
          unfold upV; rw [h0, if_pos rfl, HY.out, HM.out, List.take_length]
        clear HA HY
        go_wp2_with fail
        refine (up_any _ _ _ _ (HS.out.later HBw1.out)).mono ?_
        rintro e w2 ⟨rfl, hb⟩
        have HBw2 : Hid (Below w.heap.size w w2) := Below.next HBw1.out hb
        rw [HU.out]
        clear hb
        go_wp2_with fail
        refine (error_any (0) (0) _ (HL.out.later HBw2.out)).mono ?_
        rintro e w3 ⟨rfl, hb⟩
        have HBw3 : Hid (Below w.heap.size w w3) := Below.next HBw2.out hb
        rw [show (((0 : Nat) : Int) == (0)) = true from rfl]
        clear hb
        go_wp2_with fail
        refine (rvalues_zero _ _ xs (HX.out.later HBw3.out).is HC0.out).mono ?_
        rintro e w' ⟨rfl, rfl⟩
        go_wp2_with fail
        refine (check_any _ _ xs (HX.out.later HBw3.out).is).mono ?_
        rintro e w' ⟨rfl, rfl⟩
        rw [HC0.out]
        go_wp2_with fail
        refine (error_any (0) (0) _ (HL.out.later HBw3.out)).mono ?_
        rintro e w4 ⟨rfl, hb⟩
        have HBw4 : Hid (Below w.heap.size w w4) := Below.next HBw3.out hb
        rw [show (((0 : Nat) : Int) == (0)) = true from rfl]
        clear hb
        go_wp2_with fail
        refine Calls.mono (HRR.out _ HBw4.out) ?_
        rintro e w5 ⟨rfl, hb⟩
        have HBw5 : Hid (Below w.heap.size w w5) := Below.next HBw4.out hb
        clear hb
        go_wp2_with fail
        refine (root_any _ _ xs (HX.out.later HBw5.out)).mono ?_
        rintro e w6 ⟨rfl, hb⟩
        have HBw6 : Hid (Below w.heap.size w w6) := Below.next HBw5.out hb
        rw [HRV.out]
        clear hb
        go_wp2_with fail
        refine (error_any (0) (0) _ (HL.out.later HBw6.out)).mono ?_
        rintro e w7 ⟨rfl, hb⟩
        have HBw7 : Hid (Below w.heap.size w w7) := Below.next HBw6.out hb
        rw [show (((0 : Nat) : Int) == (0)) = true from rfl]
        clear hb
        go_wp2_with (go_at_call 4; refine (in_yes _ _ _ _ HIN.out).mono ?_; rintro e w' ⟨rfl, rfl⟩)
        refine Calls.mono (HRW.out _ HBw7.out) ?_
        rintro e w8 ⟨v8, rfl, hs8, hb⟩
        have HBw8 : Hid (Below w.heap.size w w8) := Below.next HBw7.out hb
        have HS8 : Hid (SidesIs w8 v8 (wayI xs i)) := hs8
        clear hb hs8
        go_wp2_with fail
        refine (way_any _ _ xs i (HX.out.later HBw8.out)).mono ?_
        rintro e w9 ⟨v9, rfl, hown, hb⟩
        have HBw9 : Hid (Below w.heap.size w w9) := Below.next HBw8.out hb
        have HS8' : Hid (SidesIs w9 v8 (wayI xs i)) := HS8.out.later hb
        have HS9 : Hid (SidesIs w9 v9 (wayI xs i)) := wayI_own hown
        rw [HWE.out]
        clear hb hown
        go_wp2_with fail
        refine (error_any (0) (0) _ (HL.out.later HBw9.out)).mono ?_
        rintro e w10 ⟨rfl, hb⟩
        have HBw10 : Hid (Below w.heap.size w w10) := Below.next HBw9.out hb
        have HSB : Hid (Below w9.heap.size w9 w10) := hb
        rw [show (((0 : Nat) : Int) == (0)) = true from rfl]
        clear hb
        go_wp2_with fail
        refine (sides_any _ v9 v8 _ _ (HS9.out.later HSB.out) (HS8'.out.later HSB.out)).mono ?_
        rintro e w11 ⟨rfl, q, rfl⟩
        rw [show sdB (wayI xs i) (wayI xs i) = true from decide_eq_true rfl]
        go_wp2
        go_ret
        exact ⟨rfl, Below.next HBw10.out (below_dn _ _ q)⟩
    · have HU : Hid (upV x l = .tuple #[.int .i64 0, errV 1]) := by show upV x l = _; unfold upV; rw [hu1]; rfl
      clear hu1
      by_cases hlt : k < m
      · have hlt' : (k : Int) < (m : Int) := by omega
        go_wp2_with fail
        refine (up_any _ _ _ _ (HS.out.later HBw1.out)).mono ?_
        rintro e w2 ⟨rfl, hb⟩
        have HBw2 : Hid (Below w.heap.size w w2) := Below.next HBw1.out hb
        rw [HU.out]
        clear hb
        go_wp2_with fail
        refine (error_any (1) (1) _ (HL.out.later HBw2.out)).mono ?_
        rintro e w3 ⟨rfl, hb⟩
        have HBw3 : Hid (Below w.heap.size w w3) := Below.next HBw2.out hb
        rw [show (((1 : Nat) : Int) == (1)) = true from rfl]
        clear hb
        go_wp2_with fail
        refine (rvalues_zero _ _ xs (HX.out.later HBw3.out).is HC0.out).mono ?_
        rintro e w' ⟨rfl, rfl⟩
        go_wp2_with fail
        refine (check_any _ _ xs (HX.out.later HBw3.out).is).mono ?_
        rintro e w' ⟨rfl, rfl⟩
        rw [HC0.out]
        go_wp2_with fail
        refine (error_any (0) (0) _ (HL.out.later HBw3.out)).mono ?_
        rintro e w4 ⟨rfl, hb⟩
        have HBw4 : Hid (Below w.heap.size w w4) := Below.next HBw3.out hb
        rw [show (((0 : Nat) : Int) == (0)) = true from rfl]
        clear hb
        go_wp2_with fail
        refine Calls.mono (HRR.out _ HBw4.out) ?_
        rintro e w5 ⟨rfl, hb⟩
        have HBw5 : Hid (Below w.heap.size w w5) := Below.next HBw4.out hb
        clear hb
        go_wp2_with fail
        refine (root_any _ _ xs (HX.out.later HBw5.out)).mono ?_
        rintro e w6 ⟨rfl, hb⟩
        have HBw6 : Hid (Below w.heap.size w w6) := Below.next HBw5.out hb
        rw [HRV.out]
        clear hb
        go_wp2_with fail
        refine (error_any (0) (0) _ (HL.out.later HBw6.out)).mono ?_
        rintro e w7 ⟨rfl, hb⟩
        have HBw7 : Hid (Below w.heap.size w w7) := Below.next HBw6.out hb
        rw [show (((0 : Nat) : Int) == (0)) = true from rfl]
        clear hb
        go_wp2_with (go_at_call 4; refine (in_yes _ _ _ _ HIN.out).mono ?_; rintro e w' ⟨rfl, rfl⟩)
        refine Calls.mono (HRW.out _ HBw7.out) ?_
        rintro e w8 ⟨v8, rfl, hs8, hb⟩
        have HBw8 : Hid (Below w.heap.size w w8) := Below.next HBw7.out hb
        have HS8 : Hid (SidesIs w8 v8 (wayI xs i)) := hs8
        clear hb hs8
        go_wp2_with fail
        refine (way_any _ _ xs i (HX.out.later HBw8.out)).mono ?_
        rintro e w9 ⟨v9, rfl, hown, hb⟩
        have HBw9 : Hid (Below w.heap.size w w9) := Below.next HBw8.out hb
        have HS8' : Hid (SidesIs w9 v8 (wayI xs i)) := HS8.out.later hb
        have HS9 : Hid (SidesIs w9 v9 (wayI xs i)) := wayI_own hown
        rw [HWE.out]
        clear hb hown
        go_wp2_with fail
        refine (error_any (0) (0) _ (HL.out.later HBw9.out)).mono ?_
        rintro e w10 ⟨rfl, hb⟩
        have HBw10 : Hid (Below w.heap.size w w10) := Below.next HBw9.out hb
        have HSB : Hid (Below w9.heap.size w9 w10) := hb
        rw [show (((0 : Nat) : Int) == (0)) = true from rfl]
        clear hb
        go_wp2_with fail
        refine (sides_any _ v9 v8 _ _ (HS9.out.later HSB.out) (HS8'.out.later HSB.out)).mono ?_
        rintro e w11 ⟨rfl, q, rfl⟩
        rw [show sdB (wayI xs i) (wayI xs i) = true from decide_eq_true rfl]
        go_wp2
        go_ret
        exact ⟨rfl, Below.next HBw10.out (below_dn _ _ q)⟩
      · have hlt' : ¬ (k : Int) < (m : Int) := by omega
        go_wp2_with fail
        refine (up_any _ _ _ _ (HS.out.later HBw1.out)).mono ?_
        rintro e w2 ⟨rfl, hb⟩
        have HBw2 : Hid (Below w.heap.size w w2) := Below.next HBw1.out hb
        rw [HU.out]
        clear hb
        go_wp2_with fail
        refine (error_any (1) (1) _ (HL.out.later HBw2.out)).mono ?_
        rintro e w3 ⟨rfl, hb⟩
        have HBw3 : Hid (Below w.heap.size w w3) := Below.next HBw2.out hb
        rw [show (((1 : Nat) : Int) == (1)) = true from rfl]
        clear hb
        go_wp2_with fail
        refine (rvalues_zero _ _ xs (HX.out.later HBw3.out).is HC0.out).mono ?_
        rintro e w' ⟨rfl, rfl⟩
        go_wp2_with fail
        refine (check_any _ _ xs (HX.out.later HBw3.out).is).mono ?_
        rintro e w' ⟨rfl, rfl⟩
        rw [HC0.out]
        go_wp2_with fail
        refine (error_any (0) (0) _ (HL.out.later HBw3.out)).mono ?_
        rintro e w4 ⟨rfl, hb⟩
        have HBw4 : Hid (Below w.heap.size w w4) := Below.next HBw3.out hb
        rw [show (((0 : Nat) : Int) == (0)) = true from rfl]
        clear hb
        go_wp2_with fail
        refine Calls.mono (HRR.out _ HBw4.out) ?_
        rintro e w5 ⟨rfl, hb⟩
        have HBw5 : Hid (Below w.heap.size w w5) := Below.next HBw4.out hb
        clear hb
        go_wp2_with fail
        refine (root_any _ _ xs (HX.out.later HBw5.out)).mono ?_
        rintro e w6 ⟨rfl, hb⟩
        have HBw6 : Hid (Below w.heap.size w w6) := Below.next HBw5.out hb
        rw [HRV.out]
        clear hb
        go_wp2_with fail
        refine (error_any (0) (0) _ (HL.out.later HBw6.out)).mono ?_
        rintro e w7 ⟨rfl, hb⟩
        have HBw7 : Hid (Below w.heap.size w w7) := Below.next HBw6.out hb
        rw [show (((0 : Nat) : Int) == (0)) = true from rfl]
        clear hb
        go_wp2_with (go_at_call 4; refine (in_yes _ _ _ _ HIN.out).mono ?_; rintro e w' ⟨rfl, rfl⟩)
        refine Calls.mono (HRW.out _ HBw7.out) ?_
        rintro e w8 ⟨v8, rfl, hs8, hb⟩
        have HBw8 : Hid (Below w.heap.size w w8) := Below.next HBw7.out hb
        have HS8 : Hid (SidesIs w8 v8 (wayI xs i)) := hs8
        clear hb hs8
        go_wp2_with fail
        refine (way_any _ _ xs i (HX.out.later HBw8.out)).mono ?_
        rintro e w9 ⟨v9, rfl, hown, hb⟩
        have HBw9 : Hid (Below w.heap.size w w9) := Below.next HBw8.out hb
        have HS8' : Hid (SidesIs w9 v8 (wayI xs i)) := HS8.out.later hb
        have HS9 : Hid (SidesIs w9 v9 (wayI xs i)) := wayI_own hown
        rw [HWE.out]
        clear hb hown
        go_wp2_with fail
        refine (error_any (0) (0) _ (HL.out.later HBw9.out)).mono ?_
        rintro e w10 ⟨rfl, hb⟩
        have HBw10 : Hid (Below w.heap.size w w10) := Below.next HBw9.out hb
        have HSB : Hid (Below w9.heap.size w9 w10) := hb
        rw [show (((0 : Nat) : Int) == (0)) = true from rfl]
        clear hb
        go_wp2_with fail
        refine (sides_any _ v9 v8 _ _ (HS9.out.later HSB.out) (HS8'.out.later HSB.out)).mono ?_
        rintro e w11 ⟨rfl, q, rfl⟩
        rw [show sdB (wayI xs i) (wayI xs i) = true from decide_eq_true rfl]
        go_wp2
        go_ret
        exact ⟨rfl, Below.next HBw10.out (below_dn _ _ q)⟩

set_option maxHeartbeats 8000000 in
set_option maxRecDepth 100000 in
theorem msays_A4_B2 (w : World) (v : Value) (xs : List Int) (i x : Int) (sv : Value) (l : List (Bool × Int)) (hx : SliceC w v xs) (hs : SidesIs w sv l) (hL : Laid w) (hvb : vB x = true) (h16 : l.length ≤ 16) (hc : chkE xs = 0) (hi : ¬ (0 ≤ i ∧ i < (xs.length : Int))) :
    Calls Tryd.prog 3 #[v, .int .i64 i, .int .i64 x, sv] w fun e w' => e = .returned (.bool true) ∧ Below w.heap.size w w' := by
  have HX : Hid (SliceC w v xs) := hx
  have HS : Hid (SidesIs w sv l) := hs
  have HL : Hid (Laid w) := hL
  have HBw : Hid (Below w.heap.size w w) := Below.refl _ _
  have HC0 : Hid (chkE xs = 0) := hc
  obtain ⟨g1, g16, gv⟩ := chkE_zero hc
  have HRV : Hid (rootV xs = .tuple #[.int .i64 (rootL xs), errV 0]) := by show rootV xs = _; unfold rootV; rw [if_pos hc, hc]
  obtain ⟨a, c, hv, hcc, hsl⟩ := hx
  have HRR : Hid (∀ w', Below w.heap.size w w' → Calls Tryd.prog 12 #[.slice a xs.length c] w' fun e w'' => e = .returned (.int .i64 (rootL xs)) ∧ Below w'.heap.size w' w'') := fun w' hb =>
    (rroot_any 16 xs w' a xs.length c g1 g16 g16 hcc gv (by rw [← hv]; exact hsl.later hb)).mono fun e w'' ⟨he, q, hq⟩ => ⟨he, by rw [hq]; exact below_dn _ _ q⟩
  have hwe : wayE xs i = 1 := by unfold wayE; rw [if_pos hc, if_neg hi]
  have HWE : Hid (wayE xs i = 1) := hwe
  have HWI : Hid (wayI xs i = []) := if_neg (by rw [hwe]; decide)
  have HIN : Hid (¬ ((0 : Int) ≤ i ∧ i ≤ (xs.length : Int) - 1)) := fun h => hi ⟨h.1, by omega⟩
  generalize rootL xs = r at HRV HRR
  obtain ⟨sa, sc, sb, so, hsv, sm, ha, hbb, hcell⟩ := hs.where
  obtain ⟨m, hm⟩ : ∃ m, m = l.length := ⟨_, rfl⟩
  have HM : Hid (m = l.length) := hm
  rw [← hm] at hsv h16 sm ha hbb hcell
  have HCE : Hid (∀ i, i < m → w.cell? ⟨sb, so + i * 2, none⟩ = some (.bool (sAt l i).1) ∧ w.cell? ⟨sb, so + i * 2 + 1, none⟩ = some (.int .i64 (sAt l i).2)) := hcell
  have HSL : Hid (0 < m → sb < w.heap.size) := hbb
  have HV : Hid (vB x = true) := hvb
  have HVX : Hid (((0 : Int) ≤ x ∧ x ≤ 1000)) := (isV_iff _).1 hvb
  obtain ⟨n, hn⟩ : ∃ n, n = xs.length := ⟨_, rfl⟩
  rw [← hn] at hv HIN HRR
  have hn63 : n ≤ maxLen := by obtain ⟨_, _, _, h, _⟩ := hsl; rw [hn]; exact h
  unfold maxLen at hn63 sm
  subst hv hsv
  clear hs hL hc hcc hsl hvb hcell hbb hm hn hwe hi g1 g16 gv
  go_enter Tryd.func3, Tryd.ntmps3
  go_wp2_with fail
  refine (in_yes _ _ _ _ HVX.out).mono ?_
  rintro e w' ⟨rfl, rfl⟩
  go_wp2_with fail
  refine (rleaf_any _ _ HVX.out).mono ?_
  rintro e w' ⟨rfl, rfl⟩
  go_wp2_with fail
  refine (leaf_okE _ _ HV.out).mono ?_
  rintro e w' ⟨rfl, rfl⟩
  go_wp2_with fail
  refine (error_any (0) (0) _ (HL.out.later HBw.out)).mono ?_
  rintro e w1 ⟨rfl, hb⟩
  have HBw1 : Hid (Below w.heap.size w w1) := Below.next HBw.out hb
  rw [show (((0 : Nat) : Int) == (0)) = true from rfl]
  clear hb
  have h16' : ¬ 16 < m := by omega
  go_wp2_with fail
  refine (rleaf_any _ _ HVX.out).mono ?_
  rintro e w' ⟨rfl, rfl⟩
  go_wp2_with fail
  go_loop [9, 10, 14] (fun e t i => ∃ k : Nat, k ≤ m ∧ i = .int .i64 k ∧ ∃ y : Int, t = .int .i64 y ∧ ((e = .int .i64 0 ∧ y = goUp (lf x) (l.take k) ∧ ∀ j, j < k → 0 ≤ (sAt l j).2 ∧ (sAt l j).2 ≤ 9972) ∨ (e = .int .i64 1 ∧ upE x l = 1))) (fun _ _ i => m - (intOf i).toNat)
  case atStart => exact ⟨0, Nat.zero_le _, rfl, _, rfl, .inl ⟨rfl, rfl, fun j hj => absurd hj (Nat.not_lt_zero _)⟩⟩
  case round =>
    obtain ⟨k, hk, rfl, y, rfl, hrel⟩ := hrel
    rcases hrel with ⟨rfl, hy, hall⟩ | ⟨rfl, hu1⟩
    · have HY : Hid (y = goUp (lf x) (l.take k)) := hy
      have HA : Hid (∀ j, j < k → 0 ≤ (sAt l j).2 ∧ (sAt l j).2 ≤ 9972) := hall
      have hyr : 0 ≤ y ∧ y ≤ 9972 := by rw [hy]; exact goUp_in l k
      clear hy hall
      by_cases hlt : k < m
      · have hlt' : (k : Int) < (m : Int) := by omega
        have hc1 : w1.cell? ⟨sb, so + k * 2, none⟩ = some (.bool (sAt l k).1) := by rw [HBw1.out.cell (p := ⟨sb, so + k * 2, none⟩) (HSL.out (by omega))]; exact (HCE.out k hlt).1
        have hc2 : w1.cell? ⟨sb, so + k * 2 + 1, none⟩ = some (.int .i64 (sAt l k).2) := by rw [HBw1.out.cell (p := ⟨sb, so + k * 2 + 1, none⟩) (HSL.out (by omega))]; exact (HCE.out k hlt).2
        have haa := ha (by omega)
        subst haa
        have HT : Hid _ := goUp_take (lf x) (l := l) (k := k) (by rw [← HM.out]; exact hlt)
        rw [← HY.out] at HT
        by_cases hz : 0 ≤ (sAt l k).2 ∧ (sAt l k).2 ≤ 9972
        · have HZ : Hid (0 ≤ (sAt l k).2 ∧ (sAt l k).2 ≤ 9972) := hz
          have HA' : Hid (∀ j, j < k + 1 → 0 ≤ (sAt l j).2 ∧ (sAt l j).2 ≤ 9972) := fun j hj => by
            by_cases e : j = k
            · rw [e]; exact hz
            · exact HA.out j (by omega)
          obtain ⟨⟨y', z⟩, hyz⟩ : ∃ y, y = sAt l k := ⟨_, rfl⟩
          rw [← hyz] at hc1 hc2 HZ HT
          clear hyz hz HA
          simp only at hc1 hc2
          replace HZ : Hid (0 ≤ z ∧ z ≤ 9972) := HZ
          cases y' with
          | true =>
            have HT' : Hid (goUp (lf x) (l.take (k + 1)) = jn z y) := by show goUp (lf x) (l.take (k + 1)) = jn z y; have := HT.out; simpa [oneUp] using this
            clear HT
            go_wp2_with (first | (go_at_call 4; refine (in_yes _ _ _ _ HZ.out).mono ?_; rintro e w' ⟨rfl, rfl⟩) | (go_at_call 8; refine (rjoin_any _ _ _ HZ.out hyr).mono ?_; rintro e w' ⟨rfl, rfl⟩))
            go_round
            case rel => exact ⟨k + 1, by omega, by go_num, _, rfl, .inl ⟨rfl, HT'.out.symm, HA'.out⟩⟩
            case measure => simp [intOf]; omega
          | false =>
            have HT' : Hid (goUp (lf x) (l.take (k + 1)) = jn y z) := by show goUp (lf x) (l.take (k + 1)) = jn y z; have := HT.out; simpa [oneUp] using this
            clear HT
            go_wp2_with (first | (go_at_call 4; refine (in_yes _ _ _ _ HZ.out).mono ?_; rintro e w' ⟨rfl, rfl⟩) | (go_at_call 8; refine (rjoin_any _ _ _ hyr HZ.out).mono ?_; rintro e w' ⟨rfl, rfl⟩))
            go_round
            case rel => exact ⟨k + 1, by omega, by go_num, _, rfl, .inl ⟨rfl, HT'.out.symm, HA'.out⟩⟩
            case measure => simp [intOf]; omega
        · have HZ : Hid (¬ (0 ≤ (sAt l k).2 ∧ (sAt l k).2 ≤ 9972)) := hz
          have HUE : Hid (upE x l = 1) := upE_s (k := k) (by rw [← HM.out]; exact h16) HV.out (by rw [← HM.out]; exact hlt) hz
          obtain ⟨⟨y', z⟩, hyz⟩ : ∃ y, y = sAt l k := ⟨_, rfl⟩
          rw [← hyz] at hc1 hc2 HZ
          clear hyz hz HA HT
          simp only at hc1 hc2
          replace HZ : Hid (¬ (0 ≤ z ∧ z ≤ 9972)) := HZ
          go_wp2_with (go_at_call 4; refine (in_no _ _ _ _ HZ.out).mono ?_; rintro e w' ⟨rfl, rfl⟩)
          go_round
          case rel => exact ⟨k + 1, by omega, by go_num, _, rfl, .inr ⟨rfl, HUE.out⟩⟩
          case measure => simp [intOf]; omega
      · have hkn : k = m := by omega
        subst hkn
        have HU : Hid (upV x l = .tuple #[.int .i64 y, errV 0]) := by
          show upV x l = _
          have h0 : upE x l = 0 := upE_ok (by rw [← HM.out]; exact h16) HV.out (by rw [← HM.out]; exact HA.out)
          unfold upV; rw [h0, if_pos rfl, HY.out, HM.out, List.take_length]
        clear HA HY
        go_wp2_with fail
        refine (up_any _ _ _ _ (HS.out.later HBw1.out)).mono ?_
        rintro e w2 ⟨rfl, hb⟩
        have HBw2 : Hid (Below w.heap.size w w2) := Below.next HBw1.out hb
        rw [HU.out]
        clear hb
        go_wp2_with fail
        refine (error_any (0) (0) _ (HL.out.later HBw2.out)).mono ?_
        rintro e w3 ⟨rfl, hb⟩
        have HBw3 : Hid (Below w.heap.size w w3) := Below.next HBw2.out hb
        rw [show (((0 : Nat) : Int) == (0)) = true from rfl]
        clear hb
        go_wp2_with fail
        refine (rvalues_zero _ _ xs (HX.out.later HBw3.out).is HC0.out).mono ?_
        rintro e w' ⟨rfl, rfl⟩
        go_wp2_with fail
        refine (check_any _ _ xs (HX.out.later HBw3.out).is).mono ?_
        rintro e w' ⟨rfl, rfl⟩
        rw [HC0.out]
        go_wp2_with fail
        refine (error_any (0) (0) _ (HL.out.later HBw3.out)).mono ?_
        rintro e w4 ⟨rfl, hb⟩
        have HBw4 : Hid (Below w.heap.size w w4) := Below.next HBw3.out hb
        rw [show (((0 : Nat) : Int) == (0)) = true from rfl]
        clear hb
        go_wp2_with fail
        refine Calls.mono (HRR.out _ HBw4.out) ?_
        rintro e w5 ⟨rfl, hb⟩
        have HBw5 : Hid (Below w.heap.size w w5) := Below.next HBw4.out hb
        clear hb
        go_wp2_with fail
        refine (root_any _ _ xs (HX.out.later HBw5.out)).mono ?_
        rintro e w6 ⟨rfl, hb⟩
        have HBw6 : Hid (Below w.heap.size w w6) := Below.next HBw5.out hb
        rw [HRV.out]
        clear hb
        go_wp2_with fail
        refine (error_any (0) (0) _ (HL.out.later HBw6.out)).mono ?_
        rintro e w7 ⟨rfl, hb⟩
        have HBw7 : Hid (Below w.heap.size w w7) := Below.next HBw6.out hb
        rw [show (((0 : Nat) : Int) == (0)) = true from rfl]
        clear hb
        go_wp2_with (go_at_call 4; refine (in_no _ _ _ _ HIN.out).mono ?_; rintro e w' ⟨rfl, rfl⟩)
        refine (way_any _ _ xs i (HX.out.later HBw7.out)).mono ?_
        rintro e w9 ⟨v9, rfl, hown, hb⟩
        have HBw9 : Hid (Below w.heap.size w w9) := Below.next HBw7.out hb
        have HS9 : Hid (SidesIs w9 v9 (wayI xs i)) := wayI_own hown
        rw [HWE.out]
        clear hb hown
        go_wp2_with fail
        refine (error_any (1) (1) _ (HL.out.later HBw9.out)).mono ?_
        rintro e w10 ⟨rfl, hb⟩
        have HBw10 : Hid (Below w.heap.size w w10) := Below.next HBw9.out hb
        have HSB : Hid (Below w9.heap.size w9 w10) := hb
        rw [show (((1 : Nat) : Int) == (1)) = true from rfl]
        clear hb
        go_wp2_with fail
        refine (sides_any _ v9 _ _ [] (HS9.out.later HSB.out) (sides_nil _)).mono ?_
        rintro e w11 ⟨rfl, q, rfl⟩
        rw [HWI.out, show sdB [] [] = true from rfl]
        go_wp2
        go_ret
        exact ⟨rfl, Below.next HBw10.out (below_dn _ _ q)⟩
    · have HU : Hid (upV x l = .tuple #[.int .i64 0, errV 1]) := by show upV x l = _; unfold upV; rw [hu1]; rfl
      clear hu1
      by_cases hlt : k < m
      · have hlt' : (k : Int) < (m : Int) := by omega
        go_wp2_with fail
        refine (up_any _ _ _ _ (HS.out.later HBw1.out)).mono ?_
        rintro e w2 ⟨rfl, hb⟩
        have HBw2 : Hid (Below w.heap.size w w2) := Below.next HBw1.out hb
        rw [HU.out]
        clear hb
        go_wp2_with fail
        refine (error_any (1) (1) _ (HL.out.later HBw2.out)).mono ?_
        rintro e w3 ⟨rfl, hb⟩
        have HBw3 : Hid (Below w.heap.size w w3) := Below.next HBw2.out hb
        rw [show (((1 : Nat) : Int) == (1)) = true from rfl]
        clear hb
        go_wp2_with fail
        refine (rvalues_zero _ _ xs (HX.out.later HBw3.out).is HC0.out).mono ?_
        rintro e w' ⟨rfl, rfl⟩
        go_wp2_with fail
        refine (check_any _ _ xs (HX.out.later HBw3.out).is).mono ?_
        rintro e w' ⟨rfl, rfl⟩
        rw [HC0.out]
        go_wp2_with fail
        refine (error_any (0) (0) _ (HL.out.later HBw3.out)).mono ?_
        rintro e w4 ⟨rfl, hb⟩
        have HBw4 : Hid (Below w.heap.size w w4) := Below.next HBw3.out hb
        rw [show (((0 : Nat) : Int) == (0)) = true from rfl]
        clear hb
        go_wp2_with fail
        refine Calls.mono (HRR.out _ HBw4.out) ?_
        rintro e w5 ⟨rfl, hb⟩
        have HBw5 : Hid (Below w.heap.size w w5) := Below.next HBw4.out hb
        clear hb
        go_wp2_with fail
        refine (root_any _ _ xs (HX.out.later HBw5.out)).mono ?_
        rintro e w6 ⟨rfl, hb⟩
        have HBw6 : Hid (Below w.heap.size w w6) := Below.next HBw5.out hb
        rw [HRV.out]
        clear hb
        go_wp2_with fail
        refine (error_any (0) (0) _ (HL.out.later HBw6.out)).mono ?_
        rintro e w7 ⟨rfl, hb⟩
        have HBw7 : Hid (Below w.heap.size w w7) := Below.next HBw6.out hb
        rw [show (((0 : Nat) : Int) == (0)) = true from rfl]
        clear hb
        go_wp2_with (go_at_call 4; refine (in_no _ _ _ _ HIN.out).mono ?_; rintro e w' ⟨rfl, rfl⟩)
        refine (way_any _ _ xs i (HX.out.later HBw7.out)).mono ?_
        rintro e w9 ⟨v9, rfl, hown, hb⟩
        have HBw9 : Hid (Below w.heap.size w w9) := Below.next HBw7.out hb
        have HS9 : Hid (SidesIs w9 v9 (wayI xs i)) := wayI_own hown
        rw [HWE.out]
        clear hb hown
        go_wp2_with fail
        refine (error_any (1) (1) _ (HL.out.later HBw9.out)).mono ?_
        rintro e w10 ⟨rfl, hb⟩
        have HBw10 : Hid (Below w.heap.size w w10) := Below.next HBw9.out hb
        have HSB : Hid (Below w9.heap.size w9 w10) := hb
        rw [show (((1 : Nat) : Int) == (1)) = true from rfl]
        clear hb
        go_wp2_with fail
        refine (sides_any _ v9 _ _ [] (HS9.out.later HSB.out) (sides_nil _)).mono ?_
        rintro e w11 ⟨rfl, q, rfl⟩
        rw [HWI.out, show sdB [] [] = true from rfl]
        go_wp2
        go_ret
        exact ⟨rfl, Below.next HBw10.out (below_dn _ _ q)⟩
      · have hlt' : ¬ (k : Int) < (m : Int) := by omega
        go_wp2_with fail
        refine (up_any _ _ _ _ (HS.out.later HBw1.out)).mono ?_
        rintro e w2 ⟨rfl, hb⟩
        have HBw2 : Hid (Below w.heap.size w w2) := Below.next HBw1.out hb
        rw [HU.out]
        clear hb
        go_wp2_with fail
        refine (error_any (1) (1) _ (HL.out.later HBw2.out)).mono ?_
        rintro e w3 ⟨rfl, hb⟩
        have HBw3 : Hid (Below w.heap.size w w3) := Below.next HBw2.out hb
        rw [show (((1 : Nat) : Int) == (1)) = true from rfl]
        clear hb
        go_wp2_with fail
        refine (rvalues_zero _ _ xs (HX.out.later HBw3.out).is HC0.out).mono ?_
        rintro e w' ⟨rfl, rfl⟩
        go_wp2_with fail
        refine (check_any _ _ xs (HX.out.later HBw3.out).is).mono ?_
        rintro e w' ⟨rfl, rfl⟩
        rw [HC0.out]
        go_wp2_with fail
        refine (error_any (0) (0) _ (HL.out.later HBw3.out)).mono ?_
        rintro e w4 ⟨rfl, hb⟩
        have HBw4 : Hid (Below w.heap.size w w4) := Below.next HBw3.out hb
        rw [show (((0 : Nat) : Int) == (0)) = true from rfl]
        clear hb
        go_wp2_with fail
        refine Calls.mono (HRR.out _ HBw4.out) ?_
        rintro e w5 ⟨rfl, hb⟩
        have HBw5 : Hid (Below w.heap.size w w5) := Below.next HBw4.out hb
        clear hb
        go_wp2_with fail
        refine (root_any _ _ xs (HX.out.later HBw5.out)).mono ?_
        rintro e w6 ⟨rfl, hb⟩
        have HBw6 : Hid (Below w.heap.size w w6) := Below.next HBw5.out hb
        rw [HRV.out]
        clear hb
        go_wp2_with fail
        refine (error_any (0) (0) _ (HL.out.later HBw6.out)).mono ?_
        rintro e w7 ⟨rfl, hb⟩
        have HBw7 : Hid (Below w.heap.size w w7) := Below.next HBw6.out hb
        rw [show (((0 : Nat) : Int) == (0)) = true from rfl]
        clear hb
        go_wp2_with (go_at_call 4; refine (in_no _ _ _ _ HIN.out).mono ?_; rintro e w' ⟨rfl, rfl⟩)
        refine (way_any _ _ xs i (HX.out.later HBw7.out)).mono ?_
        rintro e w9 ⟨v9, rfl, hown, hb⟩
        have HBw9 : Hid (Below w.heap.size w w9) := Below.next HBw7.out hb
        have HS9 : Hid (SidesIs w9 v9 (wayI xs i)) := wayI_own hown
        rw [HWE.out]
        clear hb hown
        go_wp2_with fail
        refine (error_any (1) (1) _ (HL.out.later HBw9.out)).mono ?_
        rintro e w10 ⟨rfl, hb⟩
        have HBw10 : Hid (Below w.heap.size w w10) := Below.next HBw9.out hb
        have HSB : Hid (Below w9.heap.size w9 w10) := hb
        rw [show (((1 : Nat) : Int) == (1)) = true from rfl]
        clear hb
        go_wp2_with fail
        refine (sides_any _ v9 _ _ [] (HS9.out.later HSB.out) (sides_nil _)).mono ?_
        rintro e w11 ⟨rfl, q, rfl⟩
        rw [HWI.out, show sdB [] [] = true from rfl]
        go_wp2
        go_ret
        exact ⟨rfl, Below.next HBw10.out (below_dn _ _ q)⟩

set_option maxHeartbeats 8000000 in
set_option maxRecDepth 100000 in
theorem msays_A4_B3 (w : World) (v : Value) (xs : List Int) (i x : Int) (sv : Value) (l : List (Bool × Int)) (hx : SliceC w v xs) (hs : SidesIs w sv l) (hL : Laid w) (hvb : vB x = true) (h16 : l.length ≤ 16) (hc : chkE xs ≠ 0) :
    Calls Tryd.prog 3 #[v, .int .i64 i, .int .i64 x, sv] w fun e w' => e = .returned (.bool true) ∧ Below w.heap.size w w' := by
  have HX : Hid (SliceC w v xs) := hx
  have HS : Hid (SidesIs w sv l) := hs
  have HL : Hid (Laid w) := hL
  have HBw : Hid (Below w.heap.size w w) := Below.refl _ _
  have HRV : Hid (rootV xs = .tuple #[.int .i64 0, errV (chkE xs)]) := by show rootV xs = _; unfold rootV; rw [if_neg hc]
  have hwe : wayE xs i = chkE xs := if_neg hc
  have HWI : Hid (wayI xs i = []) := if_neg (by rw [hwe]; exact hc)
  have HWE : Hid (wayE xs i = chkE xs) := hwe
  have hez : ((chkE xs : Int) == 0) = false := by simp; omega
  have hez' : ((chkE xs : Int) != 0) = true := by simp; omega
  obtain ⟨a, c, hv, hcc, hsl⟩ := hx
  obtain ⟨sa, sc, sb, so, hsv, sm, ha, hbb, hcell⟩ := hs.where
  obtain ⟨m, hm⟩ : ∃ m, m = l.length := ⟨_, rfl⟩
  have HM : Hid (m = l.length) := hm
  rw [← hm] at hsv h16 sm ha hbb hcell
  have HCE : Hid (∀ i, i < m → w.cell? ⟨sb, so + i * 2, none⟩ = some (.bool (sAt l i).1) ∧ w.cell? ⟨sb, so + i * 2 + 1, none⟩ = some (.int .i64 (sAt l i).2)) := hcell
  have HSL : Hid (0 < m → sb < w.heap.size) := hbb
  have HV : Hid (vB x = true) := hvb
  have HVX : Hid (((0 : Int) ≤ x ∧ x ≤ 1000)) := (isV_iff _).1 hvb
  obtain ⟨n, hn⟩ : ∃ n, n = xs.length := ⟨_, rfl⟩
  rw [← hn] at hv
  have hn63 : n ≤ maxLen := by obtain ⟨_, _, _, h, _⟩ := hsl; rw [hn]; exact h
  unfold maxLen at hn63 sm
  subst hv hsv
  clear hs hL hc hcc hsl hvb hcell hbb hm hn hwe
  go_enter Tryd.func3, Tryd.ntmps3
  go_wp2_with fail
  refine (in_yes _ _ _ _ HVX.out).mono ?_
  rintro e w' ⟨rfl, rfl⟩
  go_wp2_with fail
  refine (rleaf_any _ _ HVX.out).mono ?_
  rintro e w' ⟨rfl, rfl⟩
  go_wp2_with fail
  refine (leaf_okE _ _ HV.out).mono ?_
  rintro e w' ⟨rfl, rfl⟩
  go_wp2_with fail
  refine (error_any (0) (0) _ (HL.out.later HBw.out)).mono ?_
  rintro e w1 ⟨rfl, hb⟩
  have HBw1 : Hid (Below w.heap.size w w1) := Below.next HBw.out hb
  rw [show (((0 : Nat) : Int) == (0)) = true from rfl]
  clear hb
  have h16' : ¬ 16 < m := by omega
  go_wp2_with fail
  refine (rleaf_any _ _ HVX.out).mono ?_
  rintro e w' ⟨rfl, rfl⟩
  go_wp2_with fail
  go_loop [9, 10, 14] (fun e t i => ∃ k : Nat, k ≤ m ∧ i = .int .i64 k ∧ ∃ y : Int, t = .int .i64 y ∧ ((e = .int .i64 0 ∧ y = goUp (lf x) (l.take k) ∧ ∀ j, j < k → 0 ≤ (sAt l j).2 ∧ (sAt l j).2 ≤ 9972) ∨ (e = .int .i64 1 ∧ upE x l = 1))) (fun _ _ i => m - (intOf i).toNat)
  case atStart => exact ⟨0, Nat.zero_le _, rfl, _, rfl, .inl ⟨rfl, rfl, fun j hj => absurd hj (Nat.not_lt_zero _)⟩⟩
  case round =>
    obtain ⟨k, hk, rfl, y, rfl, hrel⟩ := hrel
    rcases hrel with ⟨rfl, hy, hall⟩ | ⟨rfl, hu1⟩
    · have HY : Hid (y = goUp (lf x) (l.take k)) := hy
      have HA : Hid (∀ j, j < k → 0 ≤ (sAt l j).2 ∧ (sAt l j).2 ≤ 9972) := hall
      have hyr : 0 ≤ y ∧ y ≤ 9972 := by rw [hy]; exact goUp_in l k
      clear hy hall
      by_cases hlt : k < m
      · have hlt' : (k : Int) < (m : Int) := by omega
        have hc1 : w1.cell? ⟨sb, so + k * 2, none⟩ = some (.bool (sAt l k).1) := by rw [HBw1.out.cell (p := ⟨sb, so + k * 2, none⟩) (HSL.out (by omega))]; exact (HCE.out k hlt).1
        have hc2 : w1.cell? ⟨sb, so + k * 2 + 1, none⟩ = some (.int .i64 (sAt l k).2) := by rw [HBw1.out.cell (p := ⟨sb, so + k * 2 + 1, none⟩) (HSL.out (by omega))]; exact (HCE.out k hlt).2
        have haa := ha (by omega)
        subst haa
        have HT : Hid _ := goUp_take (lf x) (l := l) (k := k) (by rw [← HM.out]; exact hlt)
        rw [← HY.out] at HT
        by_cases hz : 0 ≤ (sAt l k).2 ∧ (sAt l k).2 ≤ 9972
        · have HZ : Hid (0 ≤ (sAt l k).2 ∧ (sAt l k).2 ≤ 9972) := hz
          have HA' : Hid (∀ j, j < k + 1 → 0 ≤ (sAt l j).2 ∧ (sAt l j).2 ≤ 9972) := fun j hj => by
            by_cases e : j = k
            · rw [e]; exact hz
            · exact HA.out j (by omega)
          obtain ⟨⟨y', z⟩, hyz⟩ : ∃ y, y = sAt l k := ⟨_, rfl⟩
          rw [← hyz] at hc1 hc2 HZ HT
          clear hyz hz HA
          simp only at hc1 hc2
          replace HZ : Hid (0 ≤ z ∧ z ≤ 9972) := HZ
          cases y' with
          | true =>
            have HT' : Hid (goUp (lf x) (l.take (k + 1)) = jn z y) := by show goUp (lf x) (l.take (k + 1)) = jn z y; have := HT.out; simpa [oneUp] using this
            clear HT
            go_wp2_with (first | (go_at_call 4; refine (in_yes _ _ _ _ HZ.out).mono ?_; rintro e w' ⟨rfl, rfl⟩) | (go_at_call 8; refine (rjoin_any _ _ _ HZ.out hyr).mono ?_; rintro e w' ⟨rfl, rfl⟩))
            go_round
            case rel => exact ⟨k + 1, by omega, by go_num, _, rfl, .inl ⟨rfl, HT'.out.symm, HA'.out⟩⟩
            case measure => simp [intOf]; omega
          | false =>
            have HT' : Hid (goUp (lf x) (l.take (k + 1)) = jn y z) := by show goUp (lf x) (l.take (k + 1)) = jn y z; have := HT.out; simpa [oneUp] using this
            clear HT
            go_wp2_with (first | (go_at_call 4; refine (in_yes _ _ _ _ HZ.out).mono ?_; rintro e w' ⟨rfl, rfl⟩) | (go_at_call 8; refine (rjoin_any _ _ _ hyr HZ.out).mono ?_; rintro e w' ⟨rfl, rfl⟩))
            go_round
            case rel => exact ⟨k + 1, by omega, by go_num, _, rfl, .inl ⟨rfl, HT'.out.symm, HA'.out⟩⟩
            case measure => simp [intOf]; omega
        · have HZ : Hid (¬ (0 ≤ (sAt l k).2 ∧ (sAt l k).2 ≤ 9972)) := hz
          have HUE : Hid (upE x l = 1) := upE_s (k := k) (by rw [← HM.out]; exact h16) HV.out (by rw [← HM.out]; exact hlt) hz
          obtain ⟨⟨y', z⟩, hyz⟩ : ∃ y, y = sAt l k := ⟨_, rfl⟩
          rw [← hyz] at hc1 hc2 HZ
          clear hyz hz HA HT
          simp only at hc1 hc2
          replace HZ : Hid (¬ (0 ≤ z ∧ z ≤ 9972)) := HZ
          go_wp2_with (go_at_call 4; refine (in_no _ _ _ _ HZ.out).mono ?_; rintro e w' ⟨rfl, rfl⟩)
          go_round
          case rel => exact ⟨k + 1, by omega, by go_num, _, rfl, .inr ⟨rfl, HUE.out⟩⟩
          case measure => simp [intOf]; omega
      · have hkn : k = m := by omega
        subst hkn
        have HU : Hid (upV x l = .tuple #[.int .i64 y, errV 0]) := by
          show upV x l = _
          have h0 : upE x l = 0 := upE_ok (by rw [← HM.out]; exact h16) HV.out (by rw [← HM.out]; exact HA.out)
          unfold upV; rw [h0, if_pos rfl, HY.out, HM.out, List.take_length]
        clear HA HY
        go_wp2_with fail
        refine (up_any _ _ _ _ (HS.out.later HBw1.out)).mono ?_
        rintro e w2 ⟨rfl, hb⟩
        have HBw2 : Hid (Below w.heap.size w w2) := Below.next HBw1.out hb
        rw [HU.out]
        clear hb
        go_wp2_with fail
        refine (error_any (0) (0) _ (HL.out.later HBw2.out)).mono ?_
        rintro e w3 ⟨rfl, hb⟩
        have HBw3 : Hid (Below w.heap.size w w3) := Below.next HBw2.out hb
        rw [show (((0 : Nat) : Int) == (0)) = true from rfl]
        clear hb
        go_wp2_with fail
        refine (rvalues_any _ _ xs (HX.out.later HBw3.out).is).mono ?_
        rintro e w' ⟨rfl, rfl⟩
        go_wp2_with fail
        refine (check_any _ _ xs (HX.out.later HBw3.out).is).mono ?_
        rintro e w' ⟨rfl, rfl⟩
        go_wp2_with fail
        refine (error_any (chkE xs) ((chkE xs : Int)) _ (HL.out.later HBw3.out)).mono ?_
        rintro e w4 ⟨rfl, hb⟩
        have HBw4 : Hid (Below w.heap.size w w4) := Below.next HBw3.out hb
        rw [show (((chkE xs : Nat) : Int) == ((chkE xs : Int))) = true from beq_self_eq_true _]
        clear hb
        go_wp2_with fail
        refine (root_any _ _ xs (HX.out.later HBw4.out)).mono ?_
        rintro e w6 ⟨rfl, hb⟩
        have HBw6 : Hid (Below w.heap.size w w6) := Below.next HBw4.out hb
        rw [HRV.out]
        clear hb
        go_wp2_with fail
        refine (error_any (chkE xs) ((chkE xs : Int)) _ (HL.out.later HBw6.out)).mono ?_
        rintro e w7 ⟨rfl, hb⟩
        have HBw7 : Hid (Below w.heap.size w w7) := Below.next HBw6.out hb
        rw [show (((chkE xs : Nat) : Int) == ((chkE xs : Int))) = true from beq_self_eq_true _]
        clear hb
        go_wp2_with fail
        refine (way_any _ _ xs i (HX.out.later HBw7.out)).mono ?_
        rintro e w9 ⟨v9, rfl, hown, hb⟩
        have HBw9 : Hid (Below w.heap.size w w9) := Below.next HBw7.out hb
        have HS9 : Hid (SidesIs w9 v9 (wayI xs i)) := wayI_own hown
        rw [HWE.out]
        clear hb hown
        go_wp2_with fail
        refine (error_any (chkE xs) ((chkE xs : Int)) _ (HL.out.later HBw9.out)).mono ?_
        rintro e w10 ⟨rfl, hb⟩
        have HBw10 : Hid (Below w.heap.size w w10) := Below.next HBw9.out hb
        have HSB : Hid (Below w9.heap.size w9 w10) := hb
        rw [show (((chkE xs : Nat) : Int) == ((chkE xs : Int))) = true from beq_self_eq_true _]
        clear hb
        go_wp2_with fail
        refine (sides_any _ v9 _ _ [] (HS9.out.later HSB.out) (sides_nil _)).mono ?_
        rintro e w11 ⟨rfl, q, rfl⟩
        rw [HWI.out, show sdB [] [] = true from rfl]
        go_wp2
        go_ret
        exact ⟨rfl, Below.next HBw10.out (below_dn _ _ q)⟩
    · have HU : Hid (upV x l = .tuple #[.int .i64 0, errV 1]) := by show upV x l = _; unfold upV; rw [hu1]; rfl
      clear hu1
      by_cases hlt : k < m
      · have hlt' : (k : Int) < (m : Int) := by omega
        go_wp2_with fail
        refine (up_any _ _ _ _ (HS.out.later HBw1.out)).mono ?_
        rintro e w2 ⟨rfl, hb⟩
        have HBw2 : Hid (Below w.heap.size w w2) := Below.next HBw1.out hb
        rw [HU.out]
        clear hb
        go_wp2_with fail
        refine (error_any (1) (1) _ (HL.out.later HBw2.out)).mono ?_
        rintro e w3 ⟨rfl, hb⟩
        have HBw3 : Hid (Below w.heap.size w w3) := Below.next HBw2.out hb
        rw [show (((1 : Nat) : Int) == (1)) = true from rfl]
        clear hb
        go_wp2_with fail
        refine (rvalues_any _ _ xs (HX.out.later HBw3.out).is).mono ?_
        rintro e w' ⟨rfl, rfl⟩
        go_wp2_with fail
        refine (check_any _ _ xs (HX.out.later HBw3.out).is).mono ?_
        rintro e w' ⟨rfl, rfl⟩
        go_wp2_with fail
        refine (error_any (chkE xs) ((chkE xs : Int)) _ (HL.out.later HBw3.out)).mono ?_
        rintro e w4 ⟨rfl, hb⟩
        have HBw4 : Hid (Below w.heap.size w w4) := Below.next HBw3.out hb
        rw [show (((chkE xs : Nat) : Int) == ((chkE xs : Int))) = true from beq_self_eq_true _]
        clear hb
        go_wp2_with fail
        refine (root_any _ _ xs (HX.out.later HBw4.out)).mono ?_
        rintro e w6 ⟨rfl, hb⟩
        have HBw6 : Hid (Below w.heap.size w w6) := Below.next HBw4.out hb
        rw [HRV.out]
        clear hb
        go_wp2_with fail
        refine (error_any (chkE xs) ((chkE xs : Int)) _ (HL.out.later HBw6.out)).mono ?_
        rintro e w7 ⟨rfl, hb⟩
        have HBw7 : Hid (Below w.heap.size w w7) := Below.next HBw6.out hb
        rw [show (((chkE xs : Nat) : Int) == ((chkE xs : Int))) = true from beq_self_eq_true _]
        clear hb
        go_wp2_with fail
        refine (way_any _ _ xs i (HX.out.later HBw7.out)).mono ?_
        rintro e w9 ⟨v9, rfl, hown, hb⟩
        have HBw9 : Hid (Below w.heap.size w w9) := Below.next HBw7.out hb
        have HS9 : Hid (SidesIs w9 v9 (wayI xs i)) := wayI_own hown
        rw [HWE.out]
        clear hb hown
        go_wp2_with fail
        refine (error_any (chkE xs) ((chkE xs : Int)) _ (HL.out.later HBw9.out)).mono ?_
        rintro e w10 ⟨rfl, hb⟩
        have HBw10 : Hid (Below w.heap.size w w10) := Below.next HBw9.out hb
        have HSB : Hid (Below w9.heap.size w9 w10) := hb
        rw [show (((chkE xs : Nat) : Int) == ((chkE xs : Int))) = true from beq_self_eq_true _]
        clear hb
        go_wp2_with fail
        refine (sides_any _ v9 _ _ [] (HS9.out.later HSB.out) (sides_nil _)).mono ?_
        rintro e w11 ⟨rfl, q, rfl⟩
        rw [HWI.out, show sdB [] [] = true from rfl]
        go_wp2
        go_ret
        exact ⟨rfl, Below.next HBw10.out (below_dn _ _ q)⟩
      · have hlt' : ¬ (k : Int) < (m : Int) := by omega
        go_wp2_with fail
        refine (up_any _ _ _ _ (HS.out.later HBw1.out)).mono ?_
        rintro e w2 ⟨rfl, hb⟩
        have HBw2 : Hid (Below w.heap.size w w2) := Below.next HBw1.out hb
        rw [HU.out]
        clear hb
        go_wp2_with fail
        refine (error_any (1) (1) _ (HL.out.later HBw2.out)).mono ?_
        rintro e w3 ⟨rfl, hb⟩
        have HBw3 : Hid (Below w.heap.size w w3) := Below.next HBw2.out hb
        rw [show (((1 : Nat) : Int) == (1)) = true from rfl]
        clear hb
        go_wp2_with fail
        refine (rvalues_any _ _ xs (HX.out.later HBw3.out).is).mono ?_
        rintro e w' ⟨rfl, rfl⟩
        go_wp2_with fail
        refine (check_any _ _ xs (HX.out.later HBw3.out).is).mono ?_
        rintro e w' ⟨rfl, rfl⟩
        go_wp2_with fail
        refine (error_any (chkE xs) ((chkE xs : Int)) _ (HL.out.later HBw3.out)).mono ?_
        rintro e w4 ⟨rfl, hb⟩
        have HBw4 : Hid (Below w.heap.size w w4) := Below.next HBw3.out hb
        rw [show (((chkE xs : Nat) : Int) == ((chkE xs : Int))) = true from beq_self_eq_true _]
        clear hb
        go_wp2_with fail
        refine (root_any _ _ xs (HX.out.later HBw4.out)).mono ?_
        rintro e w6 ⟨rfl, hb⟩
        have HBw6 : Hid (Below w.heap.size w w6) := Below.next HBw4.out hb
        rw [HRV.out]
        clear hb
        go_wp2_with fail
        refine (error_any (chkE xs) ((chkE xs : Int)) _ (HL.out.later HBw6.out)).mono ?_
        rintro e w7 ⟨rfl, hb⟩
        have HBw7 : Hid (Below w.heap.size w w7) := Below.next HBw6.out hb
        rw [show (((chkE xs : Nat) : Int) == ((chkE xs : Int))) = true from beq_self_eq_true _]
        clear hb
        go_wp2_with fail
        refine (way_any _ _ xs i (HX.out.later HBw7.out)).mono ?_
        rintro e w9 ⟨v9, rfl, hown, hb⟩
        have HBw9 : Hid (Below w.heap.size w w9) := Below.next HBw7.out hb
        have HS9 : Hid (SidesIs w9 v9 (wayI xs i)) := wayI_own hown
        rw [HWE.out]
        clear hb hown
        go_wp2_with fail
        refine (error_any (chkE xs) ((chkE xs : Int)) _ (HL.out.later HBw9.out)).mono ?_
        rintro e w10 ⟨rfl, hb⟩
        have HBw10 : Hid (Below w.heap.size w w10) := Below.next HBw9.out hb
        have HSB : Hid (Below w9.heap.size w9 w10) := hb
        rw [show (((chkE xs : Nat) : Int) == ((chkE xs : Int))) = true from beq_self_eq_true _]
        clear hb
        go_wp2_with fail
        refine (sides_any _ v9 _ _ [] (HS9.out.later HSB.out) (sides_nil _)).mono ?_
        rintro e w11 ⟨rfl, q, rfl⟩
        rw [HWI.out, show sdB [] [] = true from rfl]
        go_wp2
        go_ret
        exact ⟨rfl, Below.next HBw10.out (below_dn _ _ q)⟩

theorem merkleSays_any (w : World) (v : Value) (xs : List Int) (i x : Int) (sv : Value) (l : List (Bool × Int)) (hx : SliceC w v xs) (hs : SidesIs w sv l) (hL : Laid w) :
    Calls Tryd.prog 3 #[v, .int .i64 i, .int .i64 x, sv] w fun e w' => e = .returned (.bool true) ∧ Below w.heap.size w w' := by
  by_cases hc : chkE xs = 0
  · by_cases hi : 0 ≤ i ∧ i < (xs.length : Int)
    · by_cases h16 : 16 < l.length
      · cases hvb : vB x with
        | true => exact msays_A1_B1 w v xs i x sv l hx hs hL hvb h16 hc hi
        | false => exact msays_A2_B1 w v xs i x sv l hx hs hL hvb h16 hc hi
      · cases hvb : vB x with
        | true => exact msays_A4_B1 w v xs i x sv l hx hs hL hvb (by omega) hc hi
        | false => exact msays_A3_B1 w v xs i x sv l hx hs hL hvb (by omega) hc hi
    · by_cases h16 : 16 < l.length
      · cases hvb : vB x with
        | true => exact msays_A1_B2 w v xs i x sv l hx hs hL hvb h16 hc hi
        | false => exact msays_A2_B2 w v xs i x sv l hx hs hL hvb h16 hc hi
      · cases hvb : vB x with
        | true => exact msays_A4_B2 w v xs i x sv l hx hs hL hvb (by omega) hc hi
        | false => exact msays_A3_B2 w v xs i x sv l hx hs hL hvb (by omega) hc hi
  · by_cases h16 : 16 < l.length
    · cases hvb : vB x with
      | true => exact msays_A1_B3 w v xs i x sv l hx hs hL hvb h16 hc
      | false => exact msays_A2_B3 w v xs i x sv l hx hs hL hvb h16 hc
    · cases hvb : vB x with
      | true => exact msays_A4_B3 w v xs i x sv l hx hs hL hvb (by omega) hc
      | false => exact msays_A3_B3 w v xs i x sv l hx hs hL hvb (by omega) hc

end Go.Proofs.YtfokhdoeehdegaaDoor
