/- This text proves plain facts on long division of a row of bits: what is left with eight noughts behind is the sum that takes bits in at its top; it speaks of no program; no condition. -/
import Derived.Test.YtgnldgonedpehaaDoorCm
namespace Go.Proofs.YtgnldgonedpehaaDoor
open Go.RowKit

/-- Doubled eight times. -/
def cd8 (x : Nat) : Nat := cdb (cdb (cdb (cdb (cdb (cdb (cdb (cdb x)))))))
theorem cd8_xor (a b : Nat) : cd8 (a ^^^ b) = cd8 a ^^^ cd8 b := by simp only [cd8, cdb_xor]
theorem cd8_cdb (a : Nat) : cd8 (cdb a) = cdb (cd8 a) := rfl

theorem tkb_cd8 (l : Nat) (b : Bool) : tkb (cd8 l) b = cd8 (cdb l ^^^ b.toNat) := by
  unfold tkb
  rw [cdb_xor, cd8_xor, cd8_cdb]
  congr 1
  cases b <;> decide +kernel

/-- The bit at a place of a row of bytes, the highest one first. -/
def bitN (f : Nat → Nat) (j : Nat) : Nat := f (j / 8) / 2 ^ (7 - j % 8) % 2

theorem bitN_lt (f : Nat → Nat) (j : Nat) : bitN f j < 2 := Nat.mod_lt _ (by decide)

theorem bitN_at (f : Nat → Nat) {k : Nat} (i : Nat) (hk : k < 8) : bitN f (8 * i + k) = f i / (128 / 2 ^ k) % 2 := by
  unfold bitN
  rw [show (8 * i + k) / 8 = i by omega, show (8 * i + k) % 8 = k by omega]
  congr 2
  have h : ∀ k, k < 8 → 2 ^ (7 - k) = 128 / 2 ^ k := by decide
  exact h k hk

/-- What is left of the first bits. -/
def leftN (f : Nat → Nat) : Nat → Nat
  | 0 => 0
  | j + 1 => cdb (leftN f j) ^^^ bitN f j

theorem leftN_lt (f : Nat → Nat) : ∀ j, leftN f j < 256
  | 0 => by simp [leftN]
  | j + 1 => by
    rw [leftN]
    exact Nat.xor_lt_two_pow (n := 8) (cdb_lt _ (leftN_lt f j)) (by have := bitN_lt f j; omega)

/-- What the document reckons for one bit. -/
theorem left_reckoned : ∀ l, l < 256 → ∀ b, b < 2 → (if l * 2 + b > 255 then (l * 2 + b) ^^^ 263 else l * 2 + b) = cdb l ^^^ b := by decide +kernel

theorem bit_nat (f : Nat → Nat) {k : Nat} (i : Nat) (hk : k < 8) : bitN f (8 * i + k) = ((f i).testBit (7 - k)).toNat := by
  unfold bitN
  rw [show (8 * i + k) / 8 = i by omega, show (8 * i + k) % 8 = k by omega, Nat.toNat_testBit]

theorem left_byte (f : Nat → Nat) (i : Nat) : ∀ k, k ≤ 8 → tkTo (cd8 (leftN f (8 * i))) (f i) k = cd8 (leftN f (8 * i + k))
  | 0, _ => rfl
  | k + 1, h => by
    rw [tkTo, left_byte f i k (by omega), tkb_cd8, ← bit_nat f i (by omega)]
    rfl

theorem crcN_left (f : Nat → Nat) : ∀ n, crcN f n = cd8 (leftN f (8 * n))
  | 0 => by
    show 0 = cd8 0
    decide +kernel
  | n + 1 => by
    rw [crcN, crcN_left f n]
    exact left_byte f n 8 (by omega)

theorem leftN_noughts {f : Nat → Nat} {n : Nat} (h : f n = 0) : leftN f (8 * n + 8) = crcN f n := by
  have hb : ∀ k, k < 8 → bitN f (8 * n + k) = 0 := fun k hk => by rw [bitN_at f n hk, h, Nat.zero_div, Nat.zero_mod]
  have hs : ∀ k, k < 8 → leftN f (8 * n + k + 1) = cdb (leftN f (8 * n + k)) := fun k hk => by rw [leftN, hb k hk, Nat.xor_zero]
  rw [crcN_left]
  rw [show 8 * n + 8 = 8 * n + 7 + 1 from rfl, hs 7 (by omega), show 8 * n + 7 = 8 * n + 6 + 1 from rfl, hs 6 (by omega), show 8 * n + 6 = 8 * n + 5 + 1 from rfl, hs 5 (by omega), show 8 * n + 5 = 8 * n + 4 + 1 from rfl, hs 4 (by omega), show 8 * n + 4 = 8 * n + 3 + 1 from rfl, hs 3 (by omega), show 8 * n + 3 = 8 * n + 2 + 1 from rfl, hs 2 (by omega), show 8 * n + 2 = 8 * n + 1 + 1 from rfl, hs 1 (by omega)]
  have h0 := hs 0 (by omega)
  rw [Nat.add_zero] at h0
  rw [h0]
  rfl

theorem bit_nought {xs : List Int} {k : Nat} (hk : k < 8) : bitN (fnL xs) (8 * xs.length + k) = 0 := by
  have : fnL xs xs.length = 0 := by unfold fnL nth; simp
  rw [bitN_at _ _ hk, this, Nat.zero_div, Nat.zero_mod]

theorem left_crc (xs : List Int) : leftN (fnL xs) (8 * xs.length + 8) = crcL xs := leftN_noughts (by unfold fnL nth; simp)

theorem wrap_nat (z : Nat) (h : z < 2 ^ 62) : wrap64 (z : Int) = (z : Int) := by
  unfold wrap64
  omega
theorem bit_eq {b p : Nat} (hb : b < 256) : (wrap64 ((b : Int) / (p : Int))).tmod 2 = ((b / p % 2 : Nat) : Int) := by
  have h : b / p ≤ b := Nat.div_le_self _ _
  rw [show (b : Int) / (p : Int) = ((b / p : Nat) : Int) by simp]
  generalize b / p = z at h
  rw [wrap_nat _ (by omega), Int.tmod_eq_emod_of_nonneg (by omega)]
  rfl

end Go.Proofs.YtgnldgonedpehaaDoor
