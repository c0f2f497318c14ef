/- This text proves that platterholdlaw1.CrcGood returns true for any list and any number, and lets all old memory be; the conditions: the slice lies there, and the library's variable errors.errorType holds what the program's own text lays. -/
import Derived.Test.YtgnldgonedpehaaDoorCf
import Derived.Test.YtgnldgonedpehaaDoorIn
import Derived.Test.YtgnldgonedpehaaDoorAk
namespace Go.Proofs.YtgnldgonedpehaaDoor
open Go.RowKit Go.Deep

theorem snoc_len (xs : List Int) (x : Int) : (xs ++ [x]).length = xs.length + 1 := by simp
theorem goodE_full {xs : List Int} (h : 64 < xs.length) : goodE xs = 4 := by
  unfold goodE
  rw [if_neg (by omega)]
  exact bytE_full h
theorem goodE_ok {xs : List Int} (h0 : 0 < xs.length) (h : xs.length ≤ 64) (hb : ∀ i, i < xs.length → isByte (nth xs i)) : goodE xs = 0 := by
  unfold goodE
  rw [if_neg (by omega)]
  exact bytE_ok h hb
theorem goodE_no {xs : List Int} {x : Int} (h : xs.length + 1 ≤ 64) (hx : ¬ isByte x) : goodE (xs ++ [x]) = 1 := by
  unfold goodE
  rw [if_neg (by rw [snoc_len]; omega)]
  exact bytE_range (k := xs.length) (by rw [snoc_len]; exact h) (by rw [snoc_len]; omega) (by rw [nth_snoc_at]; exact hx)
theorem goodV_yes {xs : List Int} (he : goodE xs = 0) (hc : crcL xs = 0) : (Value.tuple #[.bool (decide (goodE xs = 0) && decide (crcL xs = 0)), errV (goodE xs)]) = .tuple #[.bool true, .nilIface] := by
  rw [he, decide_eq_true hc]; rfl
theorem goodV_no {xs : List Int} (he : goodE xs = 0) (hc : crcL xs ≠ 0) : (Value.tuple #[.bool (decide (goodE xs = 0) && decide (crcL xs = 0)), errV (goodE xs)]) = .tuple #[.bool false, .nilIface] := by
  rw [he, decide_eq_false hc]; rfl
theorem goodV_err {xs : List Int} {e : Nat} (he : goodE xs = e) (h0 : e ≠ 0) : (Value.tuple #[.bool (decide (goodE xs = 0) && decide (crcL xs = 0)), errV (goodE xs)]) = .tuple #[.bool false, errV e] := by
  rw [he, decide_eq_false h0]; rfl
theorem snoc_own_crc (xs : List Int) : crcL (xs ++ [((crcL xs : Nat) : Int)]) = 0 := by
  rw [crcL_snoc, Int.toNat_natCast]
  exact tky_diag _ (crcL_lt xs)
theorem snoc_crc {xs : List Int} {b : Nat} (hb : b < 256) : crcL (xs ++ [(b : Int)]) = 0 ↔ crcL xs = b := by
  rw [crcL_snoc, Int.toNat_natCast]
  exact tky_zero (crcL_lt xs) hb

set_option maxHeartbeats 4000000 in
theorem cgood_err (w : World) (v : Value) (xs : List Int) (b : Int) (hx : SliceIs w v xs) (he : bytE xs ≠ 0) :
    Calls Tryd.prog 4 #[v, .int .i64 b] w fun e w' => e = .returned (.bool true) ∧ Below w.heap.size w w' := by
  have HX : Hid (SliceIs w v xs) := hx
  have HE : Hid (sumV xs = _) := sumV_no he
  clear hx he
  go_enter Tryd.func4, Tryd.ntmps4
  go_wp2_with fail
  refine (cfact_any w).mono ?_
  rintro e w1 ⟨rfl, hb1⟩
  have HB1 : Hid (Below w.heap.size w w1) := hb1
  clear hb1
  go_wp2_with fail
  refine (sum_any w1 v xs (HX.out.later HB1.out)).mono ?_
  rintro e w2 ⟨rfl, rfl⟩
  rw [HE.out]
  go_wp2
  go_ret
  exact ⟨rfl, HB1.out⟩

set_option maxHeartbeats 8000000 in
theorem cgood_ok (w : World) (v : Value) (xs : List Int) (b : Int) (hx : SliceIs w v xs) (he : bytE xs = 0) (hL : Laid w) :
    Calls Tryd.prog 4 #[v, .int .i64 b] w fun e w' => e = .returned (.bool true) ∧ Below w.heap.size w w' := by
  obtain ⟨hle, hby⟩ := bytE_zero he
  have HX : Hid (SliceIs w v xs) := hx
  have HBY : Hid (∀ i, i < xs.length → isByte (nth xs i)) := hby
  have HLA : Hid (Laid w) := hL
  obtain ⟨aa, ca, hv, _⟩ := id hx
  have HE : Hid (sumV xs = _) := sumV_ok he
  obtain ⟨n, hn⟩ : ∃ n, n = xs.length := ⟨_, rfl⟩
  have HN : Hid (n = xs.length) := hn
  rw [← hn] at hv hle
  subst hv
  clear hx he hby hn hL
  have hcl := crcL_lt xs
  go_enter Tryd.func4, Tryd.ntmps4
  go_wp2_with fail
  refine (cfact_any w).mono ?_
  rintro e w1 ⟨rfl, hb1⟩
  have HB1 : Hid (Below w.heap.size w w1) := hb1
  clear hb1
  go_wp2_with fail
  refine (sum_any w1 _ xs (HX.out.later HB1.out)).mono ?_
  rintro e w2 ⟨rfl, rfl⟩
  rw [HE.out]
  have HX1 : Hid (SliceIs w1 (.slice aa n ca) xs) := HX.out.later HB1.out
  go_wp2_with (at_builtin; refine wpList_append_ints rfl (.tmp 24) (.tmp 25) rfl w1.heap.size (.slice none 0 0) 0 [] rfl (World.ownsRow_nil _ _ _ _) (.slice aa n ca) xs rfl HX1.out ?q1 ?q2 ?q3)
  case q1 => rw [← HN.out]; omega
  case q2 => exact Nat.le_refl _
  case q3 =>
  intro v2 w2 hown2 hb2
  rw [← HN.out] at hown2
  have HO2 : Hid (w2.ownsRow w1.heap.size 3 1 v2 n (cellsOf xs)) := hown2
  have HB2 : Hid (Below w1.heap.size w1 w2) := hb2
  have HL2 : Hid (SliceIs (w2.alloc (.cells #[.int .i64 (crcL xs : Int)] 3)) (.slice (some ⟨w2.heap.size, 0, none⟩) 1 1) [(crcL xs : Int)]) := ints_lit w2 [(crcL xs : Int)] (by simp [maxLen]) 1
  clear hown2 hb2
  go_wp2_with (at_builtin; refine wpList_append_keep rfl (.tmp 28) (.tmp 30) rfl w1.heap.size v2 n xs rfl (HO2.out.alloc _) (.slice (some ⟨w2.heap.size, 0, none⟩) 1 1) (crcL xs : Int) rfl HL2.out ?q1 ?q2 ?q3)
  case q1 => omega
  case q2 => exact Nat.le_trans HB2.out.size (by simp)
  case q3 =>
  intro v3 w3 hown3 hkeep hb3
  have HB3 : Hid (Below w1.heap.size w1 w3) := (HB2.out.alloc HB2.out.size _).trans hb3
  have HS3 : Hid (SliceIs w3 v3 (xs ++ [(crcL xs : Int)])) := slice_own hown3 (by unfold maxLen; omega)
  have HK3 : Hid (w3.ownsRow w1.heap.size 3 1 v2 n (cellsOf xs)) := hkeep
  have HL3 : Hid (Laid w3) := (HLA.out.later HB1.out).later HB3.out
  clear hown3 hkeep hb3
  by_cases h64 : n = 64
  · have hn64 : ((n : Int) == 64) = true := by simp; omega
    have HV : Hid (_ = _) := goodV_err (goodE_full (xs := xs ++ [(crcL xs : Int)]) (by rw [snoc_len, ← HN.out]; omega)) (by decide)
    clear h64
    go_wp2_with fail
    refine (good_any w3 v3 _ HS3.out).mono ?_
    rintro e w4 ⟨rfl, rfl⟩
    rw [HV.out]
    go_wp2_with fail
    refine (error_any 4 4 _ HL3.out).mono ?_
    rintro e w4 ⟨rfl, hb4⟩
    have HB4 : Hid (Below w.heap.size w w4) := Below.next (Below.next HB1.out HB3.out) hb4
    clear hb4
    go_wp2
    go_ret
    exact ⟨rfl, HB4.out⟩
  · have hn64 : ((n : Int) == 64) = false := by simp; omega
    have h63 : n ≤ 63 := by omega
    have HV : Hid (_ = _) := goodV_yes (goodE_ok (xs := xs ++ [(crcL xs : Int)]) (by rw [snoc_len]; omega) (by rw [snoc_len, ← HN.out]; omega) (snoc_byte HBY.out (isByte_of_nat hcl))) (snoc_own_crc xs)
    clear h64
    go_wp2_with fail
    refine (good_any w3 v3 _ HS3.out).mono ?_
    rintro e w4 ⟨rfl, rfl⟩
    rw [HV.out]
    have HL4 : Hid (SliceIs (w3.alloc (.cells #[.int .i64 b] 3)) (.slice (some ⟨w3.heap.size, 0, none⟩) 1 1) [b]) := ints_lit w3 [b] (by simp [maxLen]) 1
    go_wp2_with (at_builtin; refine wpList_append_keep rfl (.tmp 47) (.tmp 49) rfl w1.heap.size v2 n xs rfl (HK3.out.alloc _) (.slice (some ⟨w3.heap.size, 0, none⟩) 1 1) b rfl HL4.out ?q1 ?q2 ?q3)
    case q1 => omega
    case q2 => exact Nat.le_trans HB3.out.size (by simp)
    case q3 =>
    intro v5 w5 hown5 _ hb5
    have HB5 : Hid (Below w.heap.size w w5) := Below.next HB1.out ((HB3.out.alloc HB3.out.size _).trans hb5)
    have HS5 : Hid (SliceIs w5 v5 (xs ++ [b])) := slice_own hown5 (by unfold maxLen; omega)
    clear hown5 hb5
    by_cases hbb : 0 ≤ b ∧ b ≤ 255
    · obtain ⟨m, rfl⟩ : ∃ m : Nat, b = m := ⟨b.toNat, by omega⟩
      have hm : m < 256 := by omega
      have HGE : Hid (goodE (xs ++ [(m : Int)]) = 0) := goodE_ok (by rw [snoc_len]; omega) (by rw [snoc_len, ← HN.out]; omega) (snoc_byte HBY.out (isByte_of_nat hm))
      by_cases hmc : crcL xs = m
      · have HV2 : Hid (_ = _) := goodV_yes HGE.out ((snoc_crc hm).2 hmc)
        have hbe : ((m : Int) == (crcL xs : Int)) = true := by simp; omega
        clear hmc hbb
        go_wp2_with fail
        refine (good_any w5 v5 _ HS5.out).mono ?_
        rintro e w6 ⟨rfl, rfl⟩
        rw [HV2.out]
        go_wp2
        go_ret
        exact ⟨rfl, HB5.out⟩
      · have HV2 : Hid (_ = _) := goodV_no HGE.out (fun e => hmc ((snoc_crc hm).1 e))
        have hbe : ((m : Int) == (crcL xs : Int)) = false := by simp; omega
        clear hmc hbb
        go_wp2_with fail
        refine (good_any w5 v5 _ HS5.out).mono ?_
        rintro e w6 ⟨rfl, rfl⟩
        rw [HV2.out]
        go_wp2
        go_ret
        exact ⟨rfl, HB5.out⟩
    · have HV2 : Hid (_ = _) := goodV_err (goodE_no (xs := xs) (x := b) (by rw [← HN.out]; omega) hbb) (by decide)
      have HE1 : Hid (errV 1 = .iface 45 (.int .i64 1)) := rfl
      have HBB : Hid (¬ (0 ≤ b ∧ b ≤ 255)) := hbb
      clear hbb
      go_wp2_with fail
      refine (good_any w5 v5 _ HS5.out).mono ?_
      rintro e w6 ⟨rfl, rfl⟩
      rw [HV2.out, HE1.out]
      go_wp2_with fail
      refine (in_no b 0 255 _ HBB.out).mono ?_
      rintro e w6 ⟨rfl, rfl⟩
      go_wp2
      go_ret
      exact ⟨rfl, HB5.out⟩

theorem crcGood_any (w : World) (v : Value) (xs : List Int) (b : Int) (hx : SliceIs w v xs) (hL : Laid w) :
    Calls Tryd.prog 4 #[v, .int .i64 b] w fun e w' => e = .returned (.bool true) ∧ Below w.heap.size w w' := by
  by_cases he : bytE xs = 0
  · exact cgood_ok w v xs b hx he hL
  · exact cgood_err w v xs b hx he

end Go.Proofs.YtgnldgonedpehaaDoor
