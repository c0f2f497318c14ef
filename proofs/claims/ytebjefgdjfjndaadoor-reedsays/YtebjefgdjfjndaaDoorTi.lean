/- This text proves what galois.reduce, galois.times and galois.power return: what is left of a product below 2^15, the product of two bytes, and a byte's power; the world is as it was. -/
import Derived.Test.YtebjefgdjfjndaaDoorLen
import Derived.Test.YtebjefgdjfjndaaDoorRed
import Derived.Test.YtebjefgdjfjndaaDoorXor
import Derived.Outline
import Derived.WalkSpells
import Derived.WalkLawsBesides
import Derived.Deep.QuietTactic
import Derived.BigQuiet
namespace Go.Proofs.YtebjefgdjfjndaaDoor
open Go.RowKit Go.Deep

theorem xor_nat {p q : Nat} (hp : p < 2 ^ 62) (hq : q < 2 ^ 62) : bits .xor .i64 (p : Int) (q : Int) = ((p ^^^ q : Nat) : Int) := by
  have hx : p ^^^ q < 2 ^ 62 := Nat.xor_lt_two_pow hp hq
  unfold bits
  simp only []
  have e64 : IntKind.i64.bits = 64 := rfl
  rw [BitVec.toNat_xor, e64, ofInt_u64 p (by omega), ofInt_u64 q (by omega), IntKind.wrap_i64]
  omega

theorem len_285 : Lib.bitLen 285 = 9 := by decide +kernel
theorem len_255 : Lib.bitLen 255 = 8 := by decide +kernel

set_option maxHeartbeats 4000000 in
theorem reduce_any (p0 : Nat) (w : World) (h0 : p0 < 2 ^ 15) :
    Calls Tryd.prog 49 #[.int .i64 (p0 : Int)] w fun e w' => e = .returned (.int .i64 (rd 16 p0 : Int)) ∧ w = w' := by
  go_enter Tryd.func49, Tryd.ntmps49
  go_wp2
  go_loop [0] (fun v => ∃ p : Nat, v = .int .i64 p ∧ p < 2 ^ 15 ∧ rd 16 p = rd 16 p0) (fun v => (intOf v).toNat)
  case atStart => exact ⟨p0, rfl, h0, rfl⟩
  case round =>
    obtain ⟨p, rfl, hp, hr⟩ := hrel
    have HR : Hid (rd 16 p = rd 16 p0) := hr
    clear hr
    by_cases hb : 255 < p
    · obtain ⟨s, hs, hl, h1, h2⟩ := len_top hb hp
      have HL : Hid (Lib.bitLen p = s + 9) := hl
      have H1 : Hid (2 ^ (s + 8) ≤ p) := h1
      have H2 : Hid (p < 2 ^ (s + 9)) := h2
      clear hl h1 h2
      go_wp2_with fail
      refine (len_small _ _ (by omega) (by omega)).mono ?_
      rintro e w' ⟨rfl, rfl⟩
      go_wp2_with fail
      refine (len_small _ _ (by omega) (by omega)).mono ?_
      rintro e w' ⟨rfl, rfl⟩
      have e1 : (Lib.bitLen p : Int) = (s : Int) + 9 := by rw [HL.out]; rfl
      have e2 : (Lib.bitLen (285 : Int).toNat : Int) = 9 := by rw [show (285 : Int).toNat = 285 from rfl, len_285]; rfl
      rw [e1, e2]
      clear e1 e2
      go_wp2
      have hs7 : 2 ^ s ≤ 2 ^ 6 := Nat.pow_le_pow_right (by decide) (by omega)
      have e : wrap64 (285 * 2 ^ s) = ((285 <<< s : Nat) : Int) := by
        rw [Nat.shiftLeft_eq]
        have : (285 * 2 ^ s : Int) = ((285 * 2 ^ s : Nat) : Int) := by simp
        rw [this]
        unfold wrap64
        omega
      have hsh : 285 <<< s < 2 ^ 62 := by rw [Nat.shiftLeft_eq]; omega
      obtain ⟨s1, s2⟩ := rd_step H1.out H2.out hs
      have hlt : p ^^^ (285 <<< s) < p := Nat.lt_of_lt_of_le s1 H1.out
      rw [e, xor_nat (by omega) hsh]
      refine ⟨⟨_, rfl, by omega, by rw [s2, HR.out]⟩, ?_⟩
      simp only [intOf]
      omega
    · have e : rd 16 p = p := rd_byte (n := 8) (by omega)
      have HE : Hid ((p : Int) = (rd 16 p0 : Int)) := by show (p : Int) = (rd 16 p0 : Int); rw [← HR.out, e]
      clear e
      go_wp2
      go_ret
      exact ⟨by rw [HE.out]; rfl, rfl⟩

theorem and_one (n : Nat) (h : n < 2 ^ 62) : bits .and .i64 (n : Int) 1 = ((n % 2 : Nat) : Int) := by
  unfold bits
  simp only []
  have e64 : IntKind.i64.bits = 64 := rfl
  have o : BitVec.ofInt 64 1 = 1#64 := rfl
  rw [BitVec.toNat_and, e64, ofInt_u64 n (by omega), o, IntKind.wrap_i64]
  have : n &&& (1#64).toNat = n % 2 := by show n &&& 1 = n % 2; exact Nat.and_one_is_mod n
  rw [this]
  omega

set_option maxHeartbeats 4000000 in
theorem times_any (a b : Nat) (w : World) (ha : a < 256) (hb : b < 256) :
    Calls Tryd.prog 43 #[.int .i64 (a : Int), .int .i64 (b : Int)] w fun e w' => e = .returned (.int .i64 (gm a b : Int)) ∧ w = w' := by
  go_enter Tryd.func43, Tryd.ntmps43
  go_wp2_with fail
  refine (len_small _ _ (by omega) (by omega)).mono ?_
  rintro e w' ⟨rfl, rfl⟩
  rw [show (Lib.bitLen (255 : Int).toNat : Int) = 8 by rw [show (255 : Int).toNat = 255 from rfl, len_255]; rfl]
  go_wp2
  go_loop [5, 8] (fun p i => ∃ k : Nat, k ≤ 8 ∧ i = .int .i64 k ∧ p = .int .i64 (clN k a b : Int)) (fun _ i => 8 - (intOf i).toNat)
  case atStart => exact ⟨0, by omega, rfl, rfl⟩
  case round =>
    obtain ⟨k, hk, rfl, rfl⟩ := hrel
    by_cases hlt : k < 8
    · have HS : Hid (clN (k + 1) a b = clN k a b ^^^ (if b.testBit k then a <<< k else 0)) := clN_succ k a b
      have hc : clN k a b < 2 ^ 15 := clN_lt ha (by omega)
      have HK : Hid (clN (k + 1) a b < 2 ^ 15) := clN_lt ha (by omega)
      have hq : b / 2 ^ k < 256 := Nat.lt_of_le_of_lt (Nat.div_le_self _ _) hb
      have hd : ((b : Int) / 2 ^ k) = ((b / 2 ^ k : Nat) : Int) := by simp
      cases ht : b.testBit k with
      | true =>
        have HT : Hid (b.testBit k = true) := ht
        have hm : b / 2 ^ k % 2 = 1 := by rw [Nat.testBit_eq_decide_div_mod_eq] at ht; simpa using ht
        have h1 : bits .and .i64 ((b : Int) / 2 ^ k) 1 = 1 := by rw [hd, and_one _ (by omega), hm]; rfl
        clear hd ht hm
        go_wp2
        have hk7 : 2 ^ k ≤ 2 ^ 7 := Nat.pow_le_pow_right (by decide) (by omega)
        have hm : a * 2 ^ k ≤ 255 * 2 ^ 7 := Nat.mul_le_mul (by omega) hk7
        have e : wrap64 ((a : Int) * 2 ^ k) = ((a <<< k : Nat) : Int) := by
          rw [Nat.shiftLeft_eq]
          have : ((a : Int) * 2 ^ k) = ((a * 2 ^ k : Nat) : Int) := by simp
          rw [this]
          unfold wrap64
          omega
        have hsh : a <<< k < 2 ^ 62 := by rw [Nat.shiftLeft_eq]; omega
        have hs := HS.out
        rw [HT.out, if_pos rfl] at hs
        rw [e, xor_nat (by omega) hsh, ← hs]
        refine ⟨⟨k + 1, by omega, rfl, rfl⟩, ?_⟩
        simp only [intOf]
        omega
      | false =>
        have HT : Hid (b.testBit k = false) := ht
        have hm : b / 2 ^ k % 2 = 0 := by rw [Nat.testBit_eq_decide_div_mod_eq] at ht; simp at ht; omega
        have h1 : bits .and .i64 ((b : Int) / 2 ^ k) 1 = 0 := by rw [hd, and_one _ (by omega), hm]; rfl
        clear hd ht hm
        go_wp2
        have hs := HS.out
        rw [HT.out, if_neg (by simp), Nat.xor_zero] at hs
        rw [← hs]
        refine ⟨⟨k + 1, by omega, rfl, rfl⟩, ?_⟩
        simp only [intOf]
        omega
    · have hk8 : k = 8 := by omega
      subst hk8
      have hc : clN 8 a b < 2 ^ 15 := clN_lt ha (by omega)
      go_wp2_with fail
      refine (reduce_any _ _ hc).mono ?_
      rintro e w' ⟨rfl, rfl⟩
      rw [rd_cl b 8 ha (by omega)]
      go_wp2
      go_ret
      exact ⟨rfl, rfl⟩

/-- One step of a power by squares. -/
theorem pow_odd {r a m : Nat} (hr : r < 256) (ha : a < 256) (hm : m % 2 = 1) : gm (gm r a) (gpow (gm a a) (m / 2)) = gm r (gpow a m) := by
  rw [gm_assoc hr ha (gpow_byte (gm_byte ha ha)), gpow_sq ha, gm_comm ha (gpow_byte ha), ← gpow_succ]
  congr 2
  omega
theorem pow_even {r a m : Nat} (ha : a < 256) (hm : m % 2 = 0) : gm r (gpow (gm a a) (m / 2)) = gm r (gpow a m) := by
  rw [gpow_sq ha]
  congr 2
  omega

set_option maxHeartbeats 4000000 in
theorem power_any (a n : Nat) (w : World) (ha : a < 256) (hn : n ≤ 1000) :
    Calls Tryd.prog 44 #[.int .i64 (a : Int), .int .i64 (n : Int)] w fun e w' => e = .returned (.int .i64 (gpow a n : Int)) ∧ w = w' := by
  go_enter Tryd.func44, Tryd.ntmps44
  go_wp2
  go_loop [0, 1, 5] (fun x y z => ∃ b m r : Nat, x = .int .i64 b ∧ y = .int .i64 m ∧ z = .int .i64 r ∧ b < 256 ∧ m ≤ 1000 ∧ r < 256 ∧ gm r (gpow b m) = gpow a n) (fun _ y _ => (intOf y).toNat)
  case atStart => exact ⟨a, n, 1, rfl, rfl, rfl, ha, hn, by omega, one_gm (gpow_byte ha)⟩
  case round =>
    obtain ⟨b, m, r, rfl, rfl, rfl, hb, hm, hr, he⟩ := hrel
    have HE : Hid (gm r (gpow b m) = gpow a n) := he
    have HDv : Hid ((m : Int) / 2 = ((m / 2 : Nat) : Int)) := by show (m : Int) / 2 = ((m / 2 : Nat) : Int); simp
    clear he
    by_cases h0 : 0 < m
    · by_cases ho : m % 2 = 1
      · have h1 : bits .and .i64 (m : Int) 1 = 1 := by rw [and_one _ (by omega), ho]; rfl
        have HO : Hid (m % 2 = 1) := ho
        clear ho
        go_wp2_with fail
        refine (times_any r b _ hr hb).mono ?_
        rintro e w' ⟨rfl, rfl⟩
        go_wp2_with fail
        refine (times_any b b _ hb hb).mono ?_
        rintro e w' ⟨rfl, rfl⟩
        go_wp2
        rw [HDv.out]
        refine ⟨⟨_, _, _, rfl, rfl, rfl, gm_byte hb hb, by omega, gm_byte hr hb, ?_⟩, ?_⟩
        · rw [pow_odd hr hb HO.out, HE.out]
        · simp only [intOf]
          omega
      · have h1 : bits .and .i64 (m : Int) 1 = 0 := by rw [and_one _ (by omega)]; omega
        have HO : Hid (m % 2 = 0) := by show m % 2 = 0; omega
        clear ho
        go_wp2_with fail
        refine (times_any b b _ hb hb).mono ?_
        rintro e w' ⟨rfl, rfl⟩
        go_wp2
        rw [HDv.out]
        refine ⟨⟨_, _, _, rfl, rfl, rfl, gm_byte hb hb, by omega, hr, ?_⟩, ?_⟩
        · rw [pow_even hb HO.out, HE.out]
        · simp only [intOf]
          omega
    · have hm0 : m = 0 := by omega
      subst hm0
      have e : r = gpow a n := by rw [← HE.out, gpow_zero, gm_one hr]
      have HF : Hid (r = gpow a n) := e
      clear e
      go_wp2
      go_ret
      exact ⟨by rw [HF.out]; rfl, rfl⟩

end Go.Proofs.YtebjefgdjfjndaaDoor
