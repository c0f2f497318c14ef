/- This text proves what crc.takeBit, takeByte, check, Sum and Good answer: the sum of bytes, whether it is 0, and the first error that the document names; the world is as it was; the only condition is that the slice lies there. -/
import Derived.Test.YtgnldgonedpehaaDoorChecked
import Derived.Test.YtgnldgonedpehaaDoorCm
import Derived.Test.YtgnldgonedpehaaDoorHm
import Derived.Test.YtgnldgonedpehaaDoorWh
import Derived.Test.YtgnldgonedpehaaDoorAs
import Derived.Deep.QuietTactic
import Derived.BigQuiet
namespace Go.Proofs.YtgnldgonedpehaaDoor
open Go.RowKit Go.Deep

set_option maxHeartbeats 1000000 in
theorem takeBit_any (s : Nat) (b : Bool) (w : World) (hs : s < 256) :
    Calls Tryd.prog 28 #[.int .i64 (s : Int), .bool b] w fun e w' => e = .returned (.int .i64 (tkb s b : Int)) ∧ w = w' := by
  have HR : Hid _ := tkb_reckoned s hs b
  have hx : 2 * s ^^^ (if b = true then 256 else 0) < 2 ^ 9 := Nat.xor_lt_two_pow (by omega) (by cases b <;> decide)
  cases b with
  | true =>
    have h1 : bits .xor .i64 ((s : Int) * 2) 256 = ((2 * s ^^^ 256 : Nat) : Int) := by
      have := xor_nat (p := 2 * s) (q := 256) (by omega) (by omega)
      rw [← this]; congr 1; omega
    simp only [if_true] at hx
    by_cases hz : (2 * s ^^^ 256) &&& 256 = 0
    · have h2 : bits .and .i64 ((2 * s ^^^ 256 : Nat) : Int) 256 = 0 := by
        have := and_nat (p := 2 * s ^^^ 256) (q := 256) (by omega) (by omega)
        rw [hz] at this; exact this
      have HF : Hid (2 * s ^^^ 256 = tkb s true) := by show 2 * s ^^^ 256 = tkb s true; have := HR.out; simp only [if_true] at this; rw [if_pos hz] at this; exact this
      generalize 2 * s ^^^ 256 = x at h1 h2 HF hx
      clear hz HR
      go_enter Tryd.func28, Tryd.ntmps28
      go_wp2
      go_ret
      exact ⟨by rw [HF.out]; rfl, rfl⟩
    · have h2 : ¬ bits .and .i64 ((2 * s ^^^ 256 : Nat) : Int) 256 = 0 := by
        have := and_nat (p := 2 * s ^^^ 256) (q := 256) (by omega) (by omega)
        show ¬ bits .and .i64 ((2 * s ^^^ 256 : Nat) : Int) ((256 : Nat) : Int) = 0
        rw [this]; omega
      have h3 : bits .xor .i64 ((2 * s ^^^ 256 : Nat) : Int) 263 = ((2 * s ^^^ 256 ^^^ 263 : Nat) : Int) := xor_nat (p := 2 * s ^^^ 256) (q := 263) (by omega) (by omega)
      have HF : Hid (2 * s ^^^ 256 ^^^ 263 = tkb s true) := by show 2 * s ^^^ 256 ^^^ 263 = tkb s true; have := HR.out; simp only [if_true] at this; rw [if_neg hz] at this; exact this
      generalize 2 * s ^^^ 256 ^^^ 263 = y at h3 HF
      generalize 2 * s ^^^ 256 = x at h1 h2 h3 hx
      clear hz HR
      go_enter Tryd.func28, Tryd.ntmps28
      go_wp2
      go_ret
      exact ⟨by rw [HF.out]; rfl, rfl⟩
  | false =>
    by_cases hz : (2 * s) &&& 256 = 0
    · have h2 : bits .and .i64 ((s : Int) * 2) 256 = 0 := by
        have := and_nat (p := 2 * s) (q := 256) (by omega) (by omega)
        rw [hz] at this
        rw [show (s : Int) * 2 = ((2 * s : Nat) : Int) by omega]; exact this
      have HF : Hid (2 * s = tkb s false) := by show 2 * s = tkb s false; have := HR.out; simp only [Bool.false_eq_true, if_false, Nat.xor_zero] at this; rw [if_pos hz] at this; exact this
      clear hz HR hx
      go_enter Tryd.func28, Tryd.ntmps28
      go_wp2
      go_ret
      exact ⟨by rw [← HF.out, show (s : Int) * 2 = ((2 * s : Nat) : Int) by omega]; rfl, rfl⟩
    · have h2 : ¬ bits .and .i64 ((s : Int) * 2) 256 = 0 := by
        have := and_nat (p := 2 * s) (q := 256) (by omega) (by omega)
        rw [show (s : Int) * 2 = ((2 * s : Nat) : Int) by omega]
        show ¬ bits .and .i64 ((2 * s : Nat) : Int) ((256 : Nat) : Int) = 0
        rw [this]; omega
      have h3 : bits .xor .i64 ((s : Int) * 2) 263 = ((2 * s ^^^ 263 : Nat) : Int) := by
        have := xor_nat (p := 2 * s) (q := 263) (by omega) (by omega)
        rw [← this]; congr 1; omega
      have HF : Hid (2 * s ^^^ 263 = tkb s false) := by show 2 * s ^^^ 263 = tkb s false; have := HR.out; simp only [Bool.false_eq_true, if_false, Nat.xor_zero] at this; rw [if_neg hz] at this; exact this
      generalize 2 * s ^^^ 263 = y at h3 HF
      clear hz HR hx
      go_enter Tryd.func28, Tryd.ntmps28
      go_wp2
      go_ret
      exact ⟨by rw [HF.out]; rfl, rfl⟩

set_option maxHeartbeats 2000000 in
theorem takeByte_any (s b : Nat) (w : World) (hs : s < 256) (hb : b < 256) :
    Calls Tryd.prog 21 #[.int .i64 (s : Int), .int .i64 (b : Int)] w fun e w' => e = .returned (.int .i64 (tky s b : Int)) ∧ w = w' := by
  go_enter Tryd.func21, Tryd.ntmps21
  go_wp2
  go_loop [0, 5] (fun o i => ∃ k : Nat, k ≤ 8 ∧ i = .int .i64 ((128 / 2 ^ k : Nat) : Int) ∧ o = .int .i64 (tkTo s b k : Int)) (fun _ i => (intOf i).toNat)
  case atStart => exact ⟨0, by omega, rfl, rfl⟩
  case round =>
    obtain ⟨k, hk, rfl, rfl⟩ := hrel
    have HM : Hid (((128 / 2 ^ k : Nat) : Int) / 2 = ((128 / 2 ^ (k + 1) : Nat) : Int)) := by show ((128 / 2 ^ k : Nat) : Int) / 2 = ((128 / 2 ^ (k + 1) : Nat) : Int); rw [Nat.pow_succ, ← Nat.div_div_eq_div_mul]; omega
    by_cases hlt : k < 8
    · have ho := tkTo_lt hs b k
      have hp1 : 0 < 128 / 2 ^ k := Nat.div_pos (show 2 ^ k ≤ 2 ^ 7 from Nat.pow_le_pow_right (by decide) (by omega)) (Nat.pow_pos (by decide))
      have hp2 : 128 / 2 ^ k ≤ 128 := Nat.div_le_self _ _
      have HS : Hid (tkb (tkTo s b k) (b.testBit (7 - k)) = tkTo s b (k + 1)) := rfl
      have HW := worth_bit k hlt b hb
      obtain ⟨p, hp⟩ : ∃ p, p = 128 / 2 ^ k := ⟨_, rfl⟩
      rw [← hp] at hp1 hp2 HW HM ⊢
      have HB : Hid ((bits .and .i64 (b : Int) (p : Int) != 0) = b.testBit (7 - k)) := by
        show (bits .and .i64 (b : Int) (p : Int) != 0) = b.testBit (7 - k)
        rw [and_nat (by omega) (by omega)]
        cases ht : b.testBit (7 - k) with
        | true => rw [ht] at HW; simp at HW ⊢; omega
        | false => rw [ht] at HW; simp at HW ⊢; omega
      clear hp HW
      go_wp2_with fail
      rw [HB.out]
      refine (takeBit_any (tkTo s b k) (b.testBit (7 - k)) _ ho).mono ?_
      rintro e w' ⟨rfl, rfl⟩
      rw [HS.out]
      go_wp2
      rw [HM.out]
      refine ⟨⟨k + 1, by omega, rfl, rfl⟩, ?_⟩
      rw [← HM.out]
      simp only [intOf]
      omega
    · obtain rfl : k = 8 := by omega
      clear HM
      go_wp2
      go_ret
      exact ⟨rfl, rfl⟩

set_option maxHeartbeats 1000000 in
theorem check_any (w : World) (v : Value) (xs : List Int) (hx : SliceIs w v xs) :
    Calls Tryd.prog 20 #[v] w fun e w' => e = .returned (errV (bytE xs)) ∧ w = w' := by
  obtain ⟨a, c, b, o, rfl, hl, ha, hc⟩ := hx.where
  obtain ⟨n, hxn⟩ : ∃ n, n = xs.length := ⟨_, rfl⟩
  have HX : Hid (n = xs.length) := hxn
  rw [← hxn] at hl ha hc ⊢
  have HC : Hid (∀ i, i < n → w.cell? ⟨b, o + i, none⟩ = some (.int .i64 (nth xs i))) := hc
  unfold maxLen at hl
  clear hc hxn hx
  by_cases h64 : 64 < n
  · have HE : Hid (bytE xs = 4) := bytE_full (by rw [← HX.out]; exact h64)
    go_enter Tryd.func20, Tryd.ntmps20
    go_wp2
    go_ret
    exact ⟨by rw [HE.out]; rfl, rfl⟩
  · have h64' : n ≤ 64 := by omega
    go_enter Tryd.func20, Tryd.ntmps20
    go_wp2
    go_loop [11] (fun i => ∃ k : Nat, k ≤ n ∧ i = .int .i64 k ∧ ∀ j, j < k → isByte (nth xs j)) (fun i => n - (intOf i).toNat)
    case atStart => exact ⟨0, Nat.zero_le _, rfl, fun j hj => absurd hj (Nat.not_lt_zero _)⟩
    case round =>
      obtain ⟨k, hk, rfl, hall⟩ := hrel
      have HA : Hid (∀ j, j < k → isByte (nth xs j)) := hall
      clear hall
      by_cases hlt : k < n
      · have hck := HC.out k hlt
        have haa := ha (by omega)
        subst haa
        by_cases h1 : nth xs k < 0
        · go_wp2
          go_ret
          exact ⟨by rw [bytE_range (k := k) (by rw [← HX.out]; exact h64') (by rw [← HX.out]; exact hlt) (fun hb => by have := hb.1; omega)]; rfl, rfl⟩
        · by_cases h2 : 255 < nth xs k
          · go_wp2
            go_ret
            exact ⟨by rw [bytE_range (k := k) (by rw [← HX.out]; exact h64') (by rw [← HX.out]; exact hlt) (fun hb => by have := hb.2; omega)]; rfl, rfl⟩
          · go_wp2
            go_round
            case rel =>
              refine ⟨k + 1, by omega, by go_num, fun j hj => ?_⟩
              by_cases e : j = k
              · subst e; exact ⟨by omega, by omega⟩
              · exact HA.out j (by omega)
            case measure => simp [intOf]; omega
      · have hkn : k = n := by omega
        subst hkn
        have HE : Hid (bytE xs = 0) := bytE_ok (by rw [← HX.out]; exact h64') (by rw [← HX.out]; exact HA.out)
        go_wp2
        go_ret
        exact ⟨by rw [HE.out]; rfl, rfl⟩

set_option maxHeartbeats 1000000 in
theorem sum_no (w : World) (v : Value) (xs : List Int) (hx : SliceIs w v xs) (he : bytE xs ≠ 0) :
    Calls Tryd.prog 8 #[v] w fun e w' => e = .returned (.tuple #[.int .i64 0, .iface 45 (.int .i64 (bytE xs : Int))]) ∧ w = w' := by
  have HE : Hid (errV (bytE xs) = .iface 45 (.int .i64 (bytE xs : Int))) := errV_pos he
  go_enter Tryd.func8, Tryd.ntmps8
  go_wp2_with fail
  refine (check_any w v xs hx).mono ?_
  rintro e w' ⟨rfl, rfl⟩
  rw [HE.out]
  go_wp2
  go_ret2
  exact ⟨rfl, rfl⟩

set_option maxHeartbeats 2000000 in
theorem sum_ok (w : World) (v : Value) (xs : List Int) (hx : SliceIs w v xs) (he : bytE xs = 0) :
    Calls Tryd.prog 8 #[v] w fun e w' => e = .returned (.tuple #[.int .i64 (crcL xs : Int), .nilIface]) ∧ w = w' := by
  obtain ⟨h64, hb⟩ := bytE_zero he
  have HE : Hid (errV (bytE xs) = .nilIface) := by show errV (bytE xs) = .nilIface; rw [he]; rfl
  have HX : Hid (SliceIs w v xs) := hx
  obtain ⟨a, c, b, o, hv, hl, ha, hc⟩ := hx.where
  have HC : Hid (∀ i, i < xs.length → w.cell? ⟨b, o + i, none⟩ = some (.int .i64 (fnL xs i : Int))) := fun i hi => by rw [hc i hi, fnL_int hb hi]
  have HF : Hid (∀ i, fnL xs i < 256) := fnL_byte hb
  obtain ⟨n, hxn⟩ : ∃ n, n = xs.length := ⟨_, rfl⟩
  have HR : Hid (crcL xs = crcN (fnL xs) n) := by show crcL xs = crcN (fnL xs) n; rw [hxn]; rfl
  rw [← hxn] at hv ha HC h64
  subst hv
  clear hc hxn hx hb he hl
  go_enter Tryd.func8, Tryd.ntmps8
  go_wp2_with fail
  refine (check_any w _ xs HX.out).mono ?_
  rintro e w' ⟨rfl, rfl⟩
  rw [HE.out]
  go_wp2
  go_loop [5, 15] (fun s i => ∃ k : Nat, k ≤ n ∧ i = .int .i64 k ∧ s = .int .i64 (crcN (fnL xs) k : Int)) (fun _ i => n - (intOf i).toNat)
  case atStart => exact ⟨0, Nat.zero_le _, rfl, rfl⟩
  case round =>
    obtain ⟨k, hk, rfl, rfl⟩ := hrel
    by_cases hlt : k < n
    · have hck := HC.out k hlt
      have haa := ha (by omega)
      subst haa
      have HS : Hid (tky (crcN (fnL xs) k) (fnL xs k) = crcN (fnL xs) (k + 1)) := rfl
      go_wp2_with fail
      refine (takeByte_any (crcN (fnL xs) k) (fnL xs k) _ (crcN_lt _ _) (HF.out k)).mono ?_
      rintro e w' ⟨rfl, rfl⟩
      rw [HS.out]
      go_wp2
      go_round
      case rel => exact ⟨k + 1, by omega, by go_num, rfl⟩
      case measure => simp [intOf]; omega
    · have hkn : k = n := by omega
      subst hkn
      go_wp2
      go_ret2
      exact ⟨by rw [HR.out]; rfl, rfl⟩

/-- What crc.Sum answers. -/
def sumV (xs : List Int) : Value := .tuple #[.int .i64 (if bytE xs = 0 then (crcL xs : Int) else 0), errV (bytE xs)]
theorem sumV_ok {xs : List Int} (h : bytE xs = 0) : sumV xs = .tuple #[.int .i64 (crcL xs : Int), .nilIface] := by unfold sumV; rw [if_pos h, h]; rfl
theorem sumV_no {xs : List Int} (h : bytE xs ≠ 0) : sumV xs = .tuple #[.int .i64 0, .iface 45 (.int .i64 (bytE xs : Int))] := by unfold sumV; rw [if_neg h, errV_pos h]

theorem sum_any (w : World) (v : Value) (xs : List Int) (hx : SliceIs w v xs) :
    Calls Tryd.prog 8 #[v] w fun e w' => e = .returned (sumV xs) ∧ w = w' := by
  by_cases h : bytE xs = 0
  · rw [sumV_ok h]; exact sum_ok w v xs hx h
  · rw [sumV_no h]; exact sum_no w v xs hx h

/-- What is wrong with bytes that should be good. -/
def goodE (xs : List Int) : Nat := if xs.length = 0 then 5 else bytE xs

set_option maxHeartbeats 1000000 in
theorem good_any (w : World) (v : Value) (xs : List Int) (hx : SliceIs w v xs) :
    Calls Tryd.prog 10 #[v] w fun e w' => e = .returned (.tuple #[.bool (decide (goodE xs = 0) && decide (crcL xs = 0)), errV (goodE xs)]) ∧ w = w' := by
  have HX : Hid (SliceIs w v xs) := hx
  obtain ⟨a, c, hv, hl, _⟩ := id hx
  obtain ⟨n, hxn⟩ : ∃ n, n = xs.length := ⟨_, rfl⟩
  have HN : Hid (n = xs.length) := hxn
  rw [← hxn] at hv hl
  unfold maxLen at hl
  subst hv
  clear hxn hx
  by_cases h0 : n = 0
  · have HE : Hid (goodE xs = 5) := by show goodE xs = 5; unfold goodE; rw [if_pos (by rw [← HN.out]; exact h0)]
    subst h0
    go_enter Tryd.func10, Tryd.ntmps10
    go_wp2
    go_ret2
    exact ⟨by rw [HE.out]; rfl, rfl⟩
  · have HE : Hid (goodE xs = bytE xs) := by show goodE xs = bytE xs; unfold goodE; rw [if_neg (by rw [← HN.out]; exact h0)]
    have hn : ((n : Int) == 0) = false := by simp; omega
    by_cases he : bytE xs = 0
    · have HZ : Hid (bytE xs = 0) := he
      have HS : Hid (sumV xs = _) := sumV_ok he
      have HB : Hid ((((crcL xs : Nat) : Int) == 0) = (decide (goodE xs = 0) && decide (crcL xs = 0))) := by
        show (((crcL xs : Nat) : Int) == 0) = (decide (goodE xs = 0) && decide (crcL xs = 0))
        rw [HE.out, he, Bool.eq_iff_iff]
        simp
      clear he
      go_enter Tryd.func10, Tryd.ntmps10
      go_wp2_with fail
      refine (sum_any w _ xs HX.out).mono ?_
      rintro e w' ⟨rfl, rfl⟩
      rw [HS.out]
      go_wp2
      go_ret2
      exact ⟨by rw [← HB.out, HE.out, HZ.out]; rfl, rfl⟩
    · have HS : Hid (sumV xs = _) := sumV_no he
      have HB : Hid (errV (bytE xs) = _) := errV_pos he
      have HG : Hid ((decide (bytE xs = 0) && decide (crcL xs = 0)) = false) := by show (decide (bytE xs = 0) && decide (crcL xs = 0)) = false; simp [he]
      clear he
      go_enter Tryd.func10, Tryd.ntmps10
      go_wp2_with fail
      refine (sum_any w _ xs HX.out).mono ?_
      rintro e w' ⟨rfl, rfl⟩
      rw [HS.out]
      go_wp2
      go_ret2
      exact ⟨by rw [HE.out, HG.out, HB.out]; rfl, rfl⟩

end Go.Proofs.YtgnldgonedpehaaDoor
