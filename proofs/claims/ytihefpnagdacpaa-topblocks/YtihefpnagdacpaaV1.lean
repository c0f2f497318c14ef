/- This text proves what math/bits.OnesCount32, bitmap.New, isCount, blocksFrom and Has return; but for the new map of New the world is as it was; the conditions: the numbers are words of 32 bits, and the map lies there. -/
import Derived.Test.YtihefpnagdacpaaChecked
import Derived.Test.YtihefpnagdacpaaV0
import Derived.Test.YtihefpnagdacpaaLo
import Derived.Lib.Strings
import Derived.Lib.Slices
import Derived.Lib.Small
import Derived.Lib.Walk
import Derived.Lib.BitFns
import Derived.Deep.QuietTactic
import Derived.BigQuiet
namespace Go.Proofs.Ytihefpnagdacpaa
open Go.RowKit Go.Deep

theorem new_any (w : World) :
    Calls Try.prog 15 #[] w fun e w' => e = .returned (.pointer (some ⟨w.heap.size, 0, none⟩)) ∧ w' = w.alloc (.cells #[.int .u32 0] 56) := by
  go_enter Try.func15, Try.ntmps15
  go_wp2
  go_ret
  exact ⟨rfl, rfl⟩

theorem isCount_any (n : Int) (w : World) :
    Calls Try.prog 26 #[.int .i64 n] w fun e w' => e = .returned (.bool (decide (1 ≤ n ∧ n ≤ 32))) ∧ w = w' := by
  by_cases h1 : 1 ≤ n
  · by_cases h2 : n ≤ 32
    · have e : decide (1 ≤ n ∧ n ≤ 32) = true := by simp [h1, h2]
      rw [e]
      go_enter Try.func26, Try.ntmps26
      go_wp2
      go_ret
      exact ⟨rfl, rfl⟩
    · have e : decide (1 ≤ n ∧ n ≤ 32) = false := by simp [h2]
      rw [e]
      go_enter Try.func26, Try.ntmps26
      go_wp2
      go_ret
      exact ⟨rfl, rfl⟩
  · have e : decide (1 ≤ n ∧ n ≤ 32) = false := by simp [h1]
    rw [e]
    go_enter Try.func26, Try.ntmps26
    go_wp2
    go_ret
    exact ⟨rfl, rfl⟩

theorem ones_shr : ∀ n, n < 33 → 4294967295 / 2 ^ (32 - n) = 2 ^ n - 1 := by decide +kernel

theorem msk_int {a n : Nat} (h : a + n ≤ 32) : (4294967295 : Int) / 2 ^ (32 - n) * 2 ^ a % 4294967296 = ((msk a n : Nat) : Int) := by
  have h1 : (4294967295 : Int) / 2 ^ (32 - n) = ((2 ^ n - 1 : Nat) : Int) := by
    rw [← ones_shr n (by omega)]; simp
  have h2 : ((2 : Int) ^ a) = ((2 ^ a : Nat) : Int) := by simp
  have h3 := msk_lt h
  rw [h1, h2, ← Int.natCast_mul]
  show ((msk a n : Nat) : Int) % 4294967296 = _
  omega

set_option maxHeartbeats 1000000 in
theorem blocks_any (a n : Nat) (w : World) (h1 : 1 ≤ n) (h : a + n ≤ 32) :
    Calls Try.prog 27 #[.int .i64 (a : Int), .int .i64 (n : Int)] w fun e w' => e = .returned (.int .u32 (msk a n : Int)) ∧ w = w' := by
  have HE : Hid _ := msk_int h
  go_enter Try.func27, Try.ntmps27
  go_wp2
  go_ret
  refine ⟨?_, rfl⟩
  rw [← HE.out]
  rfl

theorem shr_bit {m i : Nat} (hm : m < 2 ^ 32) : bits .and .u32 ((m : Int) / 2 ^ i) 1 = (((m.testBit i).toNat : Nat) : Int) := by
  have h1 : ((m : Int) / 2 ^ i) = ((m / 2 ^ i : Nat) : Int) := by simp
  have h2 : m / 2 ^ i < 2 ^ 32 := Nat.lt_of_le_of_lt (Nat.div_le_self _ _) hm
  have := and32 (p := m / 2 ^ i) (q := 1) h2 (by decide)
  rw [h1]
  rw [Nat.and_one_is_mod, ← Nat.toNat_testBit] at this
  exact this

theorem bit_one (b : Bool) : (((b.toNat : Nat) : Int) == 1) = b := by cases b <;> rfl

set_option maxHeartbeats 1000000 in
theorem has_in (g m i : Nat) (w : World) (hm : m < 2 ^ 32) (hi : i < 32) (hc : w.cell? ⟨g, 0, none⟩ = some (.int .u32 (m : Int))) :
    Calls Try.prog 17 #[.pointer (some ⟨g, 0, none⟩), .int .i64 (i : Int)] w fun e w' => e = .returned (.bool (m.testBit i)) ∧ w = w' := by
  have HE : Hid _ := shr_bit (i := i) hm
  go_enter Try.func17, Try.ntmps17
  go_wp2
  go_ret
  refine ⟨?_, rfl⟩
  rw [HE.out, bit_one]
  rfl

set_option maxHeartbeats 1000000 in
theorem has_out (p : Value) (i : Int) (w : World) (hi : i < 0 ∨ 32 ≤ i) :
    Calls Try.prog 17 #[p, .int .i64 i] w fun e w' => e = .returned (.bool false) ∧ w = w' := by
  rcases hi with hi | hi
  · have h0 : ¬ 0 ≤ i := by omega
    go_enter Try.func17, Try.ntmps17
    go_wp2
    go_ret
    exact ⟨rfl, rfl⟩
  · have h0 : 0 ≤ i := by omega
    have h1 : ¬ i < 32 := by omega
    go_enter Try.func17, Try.ntmps17
    go_wp2
    go_ret
    exact ⟨rfl, rfl⟩

theorem pop_fin : ∀ n : Fin 256, Lib.pop8 (n.val : Int) = ((cnt n.val 8 : Nat) : Int) := by decide +kernel
theorem pop_all {n : Nat} (h : n < 256) : Lib.pop8 (n : Int) = ((cnt n 8 : Nat) : Int) := pop_fin ⟨n, h⟩

theorem cnt_four (m : Nat) : cnt m 32 = cnt (m % 256) 8 + cnt (m / 256 % 256) 8 + cnt (m / 65536 % 256) 8 + cnt (m / 16777216 % 256) 8 := by
  have e1 := cnt_split m 8 24
  have e2 := cnt_split (m / 2 ^ 8) 8 16
  have e3 := cnt_split (m / 2 ^ 8 / 2 ^ 8) 8 8
  rw [Nat.div_div_eq_div_mul] at e2 e3
  rw [Nat.div_div_eq_div_mul] at e3
  have f1 := cnt_mod m 8 8 (Nat.le_refl _)
  have f2 := cnt_mod (m / 256) 8 8 (Nat.le_refl _)
  have f3 := cnt_mod (m / 65536) 8 8 (Nat.le_refl _)
  have f4 := cnt_mod (m / 16777216) 8 8 (Nat.le_refl _)
  simp only [Nat.reducePow, Nat.reduceMul, Nat.reduceAdd] at e1 e2 e3 f1 f2 f3 f4
  omega

theorem low8 {p : Nat} (h : p < 2 ^ 32) : bits .and .u32 (p : Int) 255 = ((p % 256 : Nat) : Int) := by
  have := and32 (p := p) (q := 255) h (by decide)
  rw [show p &&& 255 = p % 256 from Nat.and_two_pow_sub_one_eq_mod p 8] at this
  exact this

set_option maxHeartbeats 4000000 in
set_option maxRecDepth 100000 in
theorem ones_any (m : Nat) (w : World) (hm : m < 2 ^ 32) :
    Calls Try.prog 28 #[.int .u32 (m : Int)] w fun e w' => e = .returned (.int .i64 (cnt m 32 : Int)) ∧ ∃ q, w' = w.drewN q := by
  have h1 : bits .and .u32 ((m : Int) / 65536) 255 = ((m / 65536 % 256 : Nat) : Int) := low8 (p := m / 65536) (by omega)
  have h2 : bits .and .u32 ((m : Int) / 256) 255 = ((m / 256 % 256 : Nat) : Int) := low8 (p := m / 256) (by omega)
  have h3 : bits .and .u32 (m : Int) 255 = ((m % 256 : Nat) : Int) := low8 hm
  have k0 : (0 : Int) ≤ (m : Int) / 16777216 := by omega
  have k0' : (m : Int) / 16777216 ≤ 255 := by omega
  have HC : Hid _ := cnt_four m
  have HP : Hid _ := pop_all (n := m / 16777216) (by omega)
  obtain ⟨p1, hp1⟩ : ∃ p, p = m / 65536 % 256 := ⟨_, rfl⟩
  obtain ⟨p2, hp2⟩ : ∃ p, p = m / 256 % 256 := ⟨_, rfl⟩
  obtain ⟨p3, hp3⟩ : ∃ p, p = m % 256 := ⟨_, rfl⟩
  rw [← hp1] at h1
  rw [← hp2] at h2
  rw [← hp3] at h3
  have k1 : (0 : Int) ≤ (p1 : Int) := by omega
  have k1' : (p1 : Int) ≤ 255 := by omega
  have k2 : (0 : Int) ≤ (p2 : Int) := by omega
  have k2' : (p2 : Int) ≤ 255 := by omega
  have k3 : (0 : Int) ≤ (p3 : Int) := by omega
  have k3' : (p3 : Int) ≤ 255 := by omega
  have HC2 : Hid (cnt m 32 = cnt p3 8 + cnt p2 8 + cnt p1 8 + cnt (m / 16777216) 8) := by
    show cnt m 32 = cnt p3 8 + cnt p2 8 + cnt p1 8 + cnt (m / 16777216) 8
    rw [hp1, hp2, hp3, HC.out, Nat.mod_eq_of_lt (show m / 16777216 < 256 by omega)]
  clear hp1 hp2 hp3 HC
  go_enter Try.func28, Try.ntmps28
  go_wp2_with fail
  simp only [List.append, Lib.fold_pop8tab]
  go_quiet (fail)
  go_wp2
  go_ret
  have HP1 := pop_all (n := p1) (by omega)
  have HP2 := pop_all (n := p2) (by omega)
  have HP3 := pop_all (n := p3) (by omega)
  have HP0 : Lib.pop8 ((m : Int) / 16777216) = ((cnt (m / 16777216) 8 : Nat) : Int) := HP.out
  have b0 := cnt_le (m / 16777216) 8
  have b1 := cnt_le p1 8
  have b2 := cnt_le p2 8
  have b3 := cnt_le p3 8
  refine ⟨congrArg Ending.returned (congrArg (Value.int IntKind.i64) ?_), nq, rfl⟩
  rw [HP0, HP1, HP2, HP3, HC2.out]
  omega

end Go.Proofs.Ytihefpnagdacpaa
