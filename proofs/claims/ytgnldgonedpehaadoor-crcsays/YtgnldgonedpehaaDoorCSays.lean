/- This text proves that platterholdlaw1.CrcSays returns true for any list, and lets all old memory be; the conditions: the slice lies there, and the library's variable errors.errorType holds what the program's own text lays. -/
import Derived.Test.YtgnldgonedpehaaDoorCx
import Derived.Test.YtgnldgonedpehaaDoorRb
namespace Go.Proofs.YtgnldgonedpehaaDoor
open Go.RowKit Go.Deep

theorem bytesE_64 (xs : List Int) : bytesE 64 xs = bytE xs := by
  unfold bytesE bytE
  rw [allB_byte]
  by_cases h : 64 < xs.length
  · rw [if_pos (by omega), if_pos h]
  · rw [if_neg (by omega), if_neg h]

theorem goodV_1 {xs : List Int} (he : goodE xs = 0) (hc : crcL xs = 0) : (Value.tuple #[.bool (decide (goodE xs = 0) && decide (crcL xs = 0)), errV (goodE xs)]) = .tuple #[.bool true, errV 0] := by
  rw [he, decide_eq_true hc]; rfl
theorem goodV_2 {xs : List Int} (he : goodE xs = 0) (hc : crcL xs ≠ 0) : (Value.tuple #[.bool (decide (goodE xs = 0) && decide (crcL xs = 0)), errV (goodE xs)]) = .tuple #[.bool false, errV 0] := by
  rw [he, decide_eq_false hc]; rfl
theorem goodV_3 {xs : List Int} {e : Nat} (he : goodE xs = e) (h0 : e ≠ 0) : (Value.tuple #[.bool (decide (goodE xs = 0) && decide (crcL xs = 0)), errV (goodE xs)]) = .tuple #[.bool false, errV e] := by
  rw [he, decide_eq_false h0]; rfl
theorem sumV_at {xs : List Int} {e : Nat} (he : bytE xs = e) (h0 : e ≠ 0) : sumV xs = .tuple #[.int .i64 0, errV e] := by
  unfold sumV; rw [he, if_neg h0]
theorem sumV_of {xs : List Int} (he : bytE xs = 0) : sumV xs = .tuple #[.int .i64 (crcL xs : Int), errV 0] := by
  unfold sumV; rw [he, if_pos rfl]

set_option maxHeartbeats 4000000 in
theorem csays_err (w : World) (v : Value) (xs : List Int) (hx : SliceIs w v xs) (he : bytE xs ≠ 0) (hL : Laid w) :
    Calls Tryd.prog 3 #[v] w fun e w' => e = .returned (.bool true) ∧ Below w.heap.size w w' := by
  have HX : Hid (SliceIs w v xs) := hx
  have HL : Hid (Laid w) := hL
  obtain ⟨aa, ca, hv, hm, _⟩ := id hx
  have hn0 : xs.length ≠ 0 := fun e => he (by obtain rfl := List.length_eq_zero_iff.1 e; rfl)
  have HBE : Hid (bytesE 64 xs = bytE xs) := bytesE_64 xs
  have HGE : Hid (goodE xs = bytE xs) := by show goodE xs = bytE xs; unfold goodE; rw [if_neg hn0]
  have hn : ((xs.length : Int) == 0) = false := beq_eq_false_iff_ne.2 (by omega)
  have hez : ((bytE xs : Int) == 0) = false := by simp; omega
  have hee : ((bytE xs : Int) == (bytE xs : Int)) = true := by simp
  have HS : Hid (sumV xs = _) := sumV_at rfl he
  have HG : Hid (_ = _) := goodV_3 HGE.out he
  subst hv
  clear hx he hn0 hL hm
  go_enter Tryd.func3, Tryd.ntmps3
  go_wp2_with fail
  refine (bytes_any w _ xs 64 HX.out).mono ?_
  rintro e w2 ⟨rfl, rfl⟩
  rw [HBE.out]
  go_wp2_with fail
  refine (sum_any w _ xs HX.out).mono ?_
  rintro e w2 ⟨rfl, rfl⟩
  rw [HS.out]
  go_wp2_with fail
  refine (error_any (bytE xs) (bytE xs : Int) _ HL.out).mono ?_
  rintro e w3 ⟨rfl, hb3⟩
  have HB3 : Hid (Below w.heap.size w w3) := hb3
  rw [hee]
  clear hb3
  go_wp2_with fail
  refine (good_any w3 _ xs (HX.out.later HB3.out)).mono ?_
  rintro e w2 ⟨rfl, rfl⟩
  rw [HG.out]
  go_wp2_with fail
  refine (error_any (bytE xs) (bytE xs : Int) _ (HL.out.later HB3.out)).mono ?_
  rintro e w4 ⟨rfl, hb4⟩
  have HB4 : Hid (Below w.heap.size w w4) := Below.next HB3.out hb4
  rw [hee]
  clear hb4
  go_wp2
  go_ret
  exact ⟨rfl, HB4.out⟩

set_option maxHeartbeats 4000000 in
theorem csays_none (w : World) (v : Value) (hx : SliceIs w v []) (hL : Laid w) :
    Calls Tryd.prog 3 #[v] w fun e w' => e = .returned (.bool true) ∧ Below w.heap.size w w' := by
  have HX : Hid (SliceIs w v []) := hx
  have HL : Hid (Laid w) := hL
  obtain ⟨aa, ca, hv, hm, _⟩ := id hx
  have HBE : Hid (bytesE 64 [] = 0) := bytesE_64 []
  have HS : Hid (sumV [] = .tuple #[.int .i64 0, errV 0]) := sumV_of rfl
  have HG : Hid (_ = _) := goodV_3 (xs := []) (e := 5) rfl (by decide)
  have HC : Hid (crcL [] = 0) := rfl
  have hv' : v = .slice aa 0 ca := hv
  subst hv'
  clear hx hL hm hv
  go_enter Tryd.func3, Tryd.ntmps3
  go_wp2_with fail
  refine (bytes_any w _ [] 64 HX.out).mono ?_
  rintro e w2 ⟨rfl, rfl⟩
  rw [HBE.out]
  go_wp2_with fail
  refine (rcrc_ok w _ [] HX.out rfl).mono ?_
  rintro e w2 ⟨rfl, hb2⟩
  rw [HC.out]
  have HB2 : Hid (Below w.heap.size w w2) := hb2
  clear hb2
  go_wp2_with fail
  refine (sum_any w2 _ [] (HX.out.later HB2.out)).mono ?_
  rintro e w3 ⟨rfl, rfl⟩
  rw [HS.out]
  go_wp2_with fail
  refine (error_any 0 0 _ (HL.out.later HB2.out)).mono ?_
  rintro e w3 ⟨rfl, hb3⟩
  have HB3 : Hid (Below w.heap.size w w3) := Below.next HB2.out hb3
  clear hb3
  go_wp2_with fail
  refine (good_any w3 _ [] (HX.out.later HB3.out)).mono ?_
  rintro e w4 ⟨rfl, rfl⟩
  rw [HG.out]
  go_wp2_with fail
  refine (error_any 5 5 _ (HL.out.later HB3.out)).mono ?_
  rintro e w4 ⟨rfl, hb4⟩
  have HB4 : Hid (Below w.heap.size w w4) := Below.next HB3.out hb4
  clear hb4
  go_wp2
  go_ret
  exact ⟨rfl, HB4.out⟩

set_option maxHeartbeats 4000000 in
theorem csays_ok (w : World) (v : Value) (xs : List Int) (hx : SliceIs w v xs) (he : bytE xs = 0) (hn0 : xs.length ≠ 0) (hL : Laid w) :
    Calls Tryd.prog 3 #[v] w fun e w' => e = .returned (.bool true) ∧ Below w.heap.size w w' := by
  have HX : Hid (SliceIs w v xs) := hx
  have HL : Hid (Laid w) := hL
  obtain ⟨aa, ca, hv, hm, _⟩ := id hx
  have HBE : Hid (bytesE 64 xs = 0) := by show bytesE 64 xs = 0; rw [bytesE_64, he]
  have HZ : Hid (bytE xs = 0) := he
  have hge : goodE xs = 0 := by unfold goodE; rw [if_neg hn0]; exact he
  have hn : ((xs.length : Int) == 0) = false := beq_eq_false_iff_ne.2 (by omega)
  have hee : ((crcL xs : Int) == (crcL xs : Int)) = true := by simp
  have HS : Hid (sumV xs = _) := sumV_of he
  have HEE : Hid (((0 : Nat) : Int) == 0) := rfl
  subst hv
  clear hx he hn0 hL hm
  by_cases hc : crcL xs = 0
  · have HG : Hid (_ = _) := goodV_1 hge hc
    have hcz : ((crcL xs : Int) == 0) = true := by simp; omega
    clear hc hge
    go_enter Tryd.func3, Tryd.ntmps3
    go_wp2_with fail
    refine (bytes_any w _ xs 64 HX.out).mono ?_
    rintro e w2 ⟨rfl, rfl⟩
    rw [HBE.out]
    go_wp2_with fail
    refine (rcrc_ok w _ xs HX.out HZ.out).mono ?_
    rintro e w2 ⟨rfl, hb2⟩
    have HB2 : Hid (Below w.heap.size w w2) := hb2
    clear hb2
    go_wp2_with fail
    refine (sum_any w2 _ xs (HX.out.later HB2.out)).mono ?_
    rintro e w3 ⟨rfl, rfl⟩
    rw [HS.out]
    go_wp2_with fail
    refine (error_any 0 0 _ (HL.out.later HB2.out)).mono ?_
    rintro e w3 ⟨rfl, hb3⟩
    have HB3 : Hid (Below w.heap.size w w3) := Below.next HB2.out hb3
    clear hb3
    go_wp2_with fail
    refine (good_any w3 _ xs (HX.out.later HB3.out)).mono ?_
    rintro e w4 ⟨rfl, rfl⟩
    rw [HG.out]
    go_wp2_with fail
    refine (error_any 0 0 _ (HL.out.later HB3.out)).mono ?_
    rintro e w4 ⟨rfl, hb4⟩
    have HB4 : Hid (Below w.heap.size w w4) := Below.next HB3.out hb4
    clear hb4
    go_wp2
    go_ret
    exact ⟨rfl, HB4.out⟩
  · have HG : Hid (_ = _) := goodV_2 hge hc
    have hcz : ((crcL xs : Int) == 0) = false := by simp; omega
    clear hc hge
    go_enter Tryd.func3, Tryd.ntmps3
    go_wp2_with fail
    refine (bytes_any w _ xs 64 HX.out).mono ?_
    rintro e w2 ⟨rfl, rfl⟩
    rw [HBE.out]
    go_wp2_with fail
    refine (rcrc_ok w _ xs HX.out HZ.out).mono ?_
    rintro e w2 ⟨rfl, hb2⟩
    have HB2 : Hid (Below w.heap.size w w2) := hb2
    clear hb2
    go_wp2_with fail
    refine (sum_any w2 _ xs (HX.out.later HB2.out)).mono ?_
    rintro e w3 ⟨rfl, rfl⟩
    rw [HS.out]
    go_wp2_with fail
    refine (error_any 0 0 _ (HL.out.later HB2.out)).mono ?_
    rintro e w3 ⟨rfl, hb3⟩
    have HB3 : Hid (Below w.heap.size w w3) := Below.next HB2.out hb3
    clear hb3
    go_wp2_with fail
    refine (good_any w3 _ xs (HX.out.later HB3.out)).mono ?_
    rintro e w4 ⟨rfl, rfl⟩
    rw [HG.out]
    go_wp2_with fail
    refine (error_any 0 0 _ (HL.out.later HB3.out)).mono ?_
    rintro e w4 ⟨rfl, hb4⟩
    have HB4 : Hid (Below w.heap.size w w4) := Below.next HB3.out hb4
    clear hb4
    go_wp2
    go_ret
    exact ⟨rfl, HB4.out⟩

theorem crcSays_any (w : World) (v : Value) (xs : List Int) (hx : SliceIs w v xs) (hL : Laid w) :
    Calls Tryd.prog 3 #[v] w fun e w' => e = .returned (.bool true) ∧ Below w.heap.size w w' := by
  by_cases he : bytE xs = 0
  · by_cases h0 : xs.length = 0
    · obtain rfl := List.length_eq_zero_iff.1 h0
      exact csays_none w v hx hL
    · exact csays_ok w v xs hx he h0 hL
  · exact csays_err w v xs hx he hL

end Go.Proofs.YtgnldgonedpehaaDoor
