/- This text proves that platterholdlaw1.HeadOnce returns true for any number, either way and any list of numbers, and lets all old memory be; the only condition is that the slice lies there. -/
import Derived.Test.YtckdknkgadhmjaaK5
import Derived.Test.YtckdknkgadhmjaaK7
namespace Go.Proofs.Ytckdknkgadhmjaa
open Go.RowKit Go.Deep

set_option maxHeartbeats 4000000 in
set_option maxRecDepth 100000 in
theorem headOnce_no (w : World) (s : Int) (up : Bool) (v : Value) (xs : List Int) (hx : SliceIs w v xs) (he : hdE s xs ≠ 0) :
    Calls Try.prog 4 #[.int .i64 s, .bool up, v] w fun e w' => e = .returned (.bool true) ∧ Below w.heap.size w w' := by
  have HE : Hid (errV (hdE s xs) = .iface 40 (.int .i64 (hdE s xs : Int))) := errV_pos he
  have HX : Hid (SliceIs w v xs) := hx
  clear hx he
  go_enter Try.func4, Try.ntmps4
  go_wp2_with fail
  refine (hfact_any _).mono ?_
  rintro e w1 ⟨rfl, hb1⟩
  have HB1 : Hid (Below w.heap.size w w1) := hb1
  clear hb1
  go_wp2_with fail
  refine (firstH_any _ _ _ xs (HX.out.later HB1.out)).mono ?_
  rintro e w2 ⟨v2, rfl, _, hb2⟩
  rw [HE.out]
  have HB2 : Hid (Below w.heap.size w w2) := Below.next HB1.out hb2
  clear hb2
  go_wp2_with fail
  refine (nearH_any _ _ _ xs (HX.out.later HB2.out)).mono ?_
  rintro e w3 ⟨v3, rfl, _, hb3⟩
  rw [HE.out]
  have HB3 : Hid (Below w.heap.size w w3) := Below.next HB2.out hb3
  clear hb3
  go_wp2_with fail
  refine (sweepH_any _ _ _ _ xs (HX.out.later HB3.out)).mono ?_
  rintro e w4 ⟨v4, rfl, _, hb4⟩
  rw [HE.out]
  have HB4 : Hid (Below w.heap.size w w4) := Below.next HB3.out hb4
  clear hb4
  go_wp2
  go_ret
  exact ⟨rfl, HB4.out⟩

theorem eqB_self (xs : List Int) : eqB xs xs = true := by unfold eqB; simp

set_option maxHeartbeats 8000000 in
set_option maxRecDepth 100000 in
theorem headOnce_ok (w : World) (s : Int) (up : Bool) (v : Value) (xs : List Int) (hx : SliceIs w v xs) (he : hdE s xs = 0) :
    Calls Try.prog 4 #[.int .i64 s, .bool up, v] w fun e w' => e = .returned (.bool true) ∧ Below w.heap.size w w' := by
  have HE : Hid (hdE s xs = 0) := he
  have HX : Hid (SliceIs w v xs) := hx
  have h20 := (hdE_zero he).1
  have H : ∀ S : Int → Int → Int → Bool, ∃ L, hdL S s xs = L ∧ rise L = rise xs ∧ L.length ≤ 1000 := fun S => by
    have hp := ord_perm S xs.length s xs rfl
    exact ⟨_, hdL_ok he, rise_same hp, by rw [hp.length_eq]; omega⟩
  obtain ⟨La, ha1, ha2, ha3⟩ := H ltF
  obtain ⟨Lb, hb1, hb2, hb3⟩ := H ltN
  obtain ⟨Lc, hc1, hc2, hc3⟩ := H (fun _ => ltS s up)
  have HA1 : Hid _ := ha1
  have HA2 : Hid _ := ha2
  have HA3 : Hid _ := ha3
  have HBb1 : Hid _ := hb1
  have HBb2 : Hid _ := hb2
  have HBb3 : Hid _ := hb3
  have HC1 : Hid _ := hc1
  have HC2 : Hid _ := hc2
  have HC3 : Hid _ := hc3
  have HN : Hid (xs.length ≤ 1000) := show xs.length ≤ 1000 by omega
  have HR : Hid ((rise xs).length ≤ maxLen) := by show (rise xs).length ≤ maxLen; rw [(rise_perm xs).length_eq]; unfold maxLen; omega
  clear hx he ha1 ha2 ha3 hb1 hb2 hb3 hc1 hc2 hc3 H h20
  go_enter Try.func4, Try.ntmps4
  go_wp2_with fail
  refine (hfact_any _).mono ?_
  rintro e w1 ⟨rfl, hb1⟩
  have HB1 : Hid (Below w.heap.size w w1) := hb1
  clear hb1
  go_wp2_with fail
  refine (firstH_any _ _ _ xs (HX.out.later HB1.out)).mono ?_
  rintro e w2 ⟨v2, rfl, ho2, hb2⟩
  rw [HE.out, HA1.out, errV_zero]
  rw [HA1.out] at ho2
  have HS2 : Hid (SliceIs w2 v2 La) := slice_own ho2 (by have := HA3.out; unfold maxLen; omega)
  have HB2 : Hid (Below w.heap.size w w2) := Below.next HB1.out hb2
  clear hb2 ho2
  go_wp2_with fail
  refine (nearH_any _ _ _ xs (HX.out.later HB2.out)).mono ?_
  rintro e w3 ⟨v3, rfl, ho3, hb3⟩
  rw [HE.out, HBb1.out, errV_zero]
  rw [HBb1.out] at ho3
  have HS3 : Hid (SliceIs w3 v3 Lb) := slice_own ho3 (by have := HBb3.out; unfold maxLen; omega)
  have HS2 : Hid (SliceIs w3 v2 La) := HS2.out.later hb3
  have HB3 : Hid (Below w.heap.size w w3) := Below.next HB2.out hb3
  clear hb3 ho3
  go_wp2_with fail
  refine (sweepH_any _ _ _ _ xs (HX.out.later HB3.out)).mono ?_
  rintro e w4 ⟨v4, rfl, ho4, hb4⟩
  rw [HE.out, HC1.out, errV_zero]
  rw [HC1.out] at ho4
  have HS4 : Hid (SliceIs w4 v4 Lc) := slice_own ho4 (by have := HC3.out; unfold maxLen; omega)
  have HS3 : Hid (SliceIs w4 v3 Lb) := HS3.out.later hb4
  have HS2 : Hid (SliceIs w4 v2 La) := HS2.out.later hb4
  have HB4 : Hid (Below w.heap.size w w4) := Below.next HB3.out hb4
  clear hb4 ho4
  go_wp2_with fail
  refine (rising_any _ _ xs (HX.out.later HB4.out) HN.out).mono ?_
  rintro e w5 ⟨v5, rfl, ho5, hb5⟩
  have HS5 : Hid (SliceIs w5 v5 (rise xs)) := slice_own ho5 HR.out
  have HS4 : Hid (SliceIs w5 v4 Lc) := HS4.out.later hb5
  have HS3 : Hid (SliceIs w5 v3 Lb) := HS3.out.later hb5
  have HS2 : Hid (SliceIs w5 v2 La) := HS2.out.later hb5
  have HB5 : Hid (Below w.heap.size w w5) := Below.next HB4.out hb5
  clear hb5 ho5
  go_wp2_with fail
  refine (rising_any _ _ La HS2.out HA3.out).mono ?_
  rintro e w6 ⟨v6, rfl, ho6, hb6⟩
  rw [HA2.out] at ho6
  have HS6 : Hid (SliceIs w6 v6 (rise xs)) := slice_own ho6 HR.out
  have HS5 : Hid (SliceIs w6 v5 (rise xs)) := HS5.out.later hb6
  have HS4 : Hid (SliceIs w6 v4 Lc) := HS4.out.later hb6
  have HS3 : Hid (SliceIs w6 v3 Lb) := HS3.out.later hb6
  have HB6 : Hid (Below w.heap.size w w6) := Below.next HB5.out hb6
  clear hb6 ho6
  go_wp2_with fail
  refine (ints_any _ _ _ _ _ HS6.out HS5.out).mono ?_
  rintro e w7 ⟨rfl, q, hq⟩
  rw [eqB_self]
  have hb7 : Below w6.heap.size w6 w7 := by rw [hq]; exact below_drew _ _ _
  have HS5 : Hid (SliceIs w7 v5 (rise xs)) := HS5.out.later hb7
  have HS4 : Hid (SliceIs w7 v4 Lc) := HS4.out.later hb7
  have HS3 : Hid (SliceIs w7 v3 Lb) := HS3.out.later hb7
  have HB7 : Hid (Below w.heap.size w w7) := Below.next HB6.out hb7
  clear hb7 hq
  go_wp2_with fail
  refine (rising_any _ _ Lb HS3.out HBb3.out).mono ?_
  rintro e w8 ⟨v8, rfl, ho8, hb8⟩
  rw [HBb2.out] at ho8
  have HS8 : Hid (SliceIs w8 v8 (rise xs)) := slice_own ho8 HR.out
  have HS5 : Hid (SliceIs w8 v5 (rise xs)) := HS5.out.later hb8
  have HS4 : Hid (SliceIs w8 v4 Lc) := HS4.out.later hb8
  have HB8 : Hid (Below w.heap.size w w8) := Below.next HB7.out hb8
  clear hb8 ho8
  go_wp2_with fail
  refine (ints_any _ _ _ _ _ HS8.out HS5.out).mono ?_
  rintro e w9 ⟨rfl, q, hq⟩
  rw [eqB_self]
  have hb9 : Below w8.heap.size w8 w9 := by rw [hq]; exact below_drew _ _ _
  have HS5 : Hid (SliceIs w9 v5 (rise xs)) := HS5.out.later hb9
  have HS4 : Hid (SliceIs w9 v4 Lc) := HS4.out.later hb9
  have HB9 : Hid (Below w.heap.size w w9) := Below.next HB8.out hb9
  clear hb9 hq
  go_wp2_with fail
  refine (rising_any _ _ Lc HS4.out HC3.out).mono ?_
  rintro e w10 ⟨v10, rfl, ho10, hb10⟩
  rw [HC2.out] at ho10
  have HS10 : Hid (SliceIs w10 v10 (rise xs)) := slice_own ho10 HR.out
  have HS5 : Hid (SliceIs w10 v5 (rise xs)) := HS5.out.later hb10
  have HB10 : Hid (Below w.heap.size w w10) := Below.next HB9.out hb10
  clear hb10 ho10
  go_wp2_with fail
  refine (ints_any _ _ _ _ _ HS10.out HS5.out).mono ?_
  rintro e w11 ⟨rfl, q, rfl⟩
  rw [eqB_self]
  go_wp2
  go_ret
  exact ⟨rfl, Below.next HB10.out (below_drew _ _ _)⟩

theorem headOnce_any (w : World) (s : Int) (up : Bool) (v : Value) (xs : List Int) (hx : SliceIs w v xs) :
    Calls Try.prog 4 #[.int .i64 s, .bool up, v] w fun e w' => e = .returned (.bool true) ∧ Below w.heap.size w w' := by
  by_cases h : hdE s xs = 0
  · exact headOnce_ok w s up v xs hx h
  · exact headOnce_no w s up v xs hx h

end Go.Proofs.Ytckdknkgadhmjaa
