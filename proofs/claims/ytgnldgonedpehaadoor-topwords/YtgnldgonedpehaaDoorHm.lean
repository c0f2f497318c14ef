/- This text proves plain facts on words of seven bits: how numbers are written, read, and checked; it speaks of no program; no condition. -/
import Derived.WalkKit
import Derived.Outline
import Derived.WalkSpells
import Derived.WalkLawsBesides
namespace Go.Proofs.YtgnldgonedpehaaDoor
open Go.RowKit

/-- A word's bit at a place from 1 on. -/
def bitA (w p : Nat) : Nat := w / 2 ^ (p - 1) % 2
/-- A word with its bit at a place turned. -/
def turnA (w p : Nat) : Nat := w ^^^ 2 ^ (p - 1)
/-- The sum of the powers whose checks are odd, of the first places. -/
def oddTo (w : Nat) : Nat → Nat
  | 0 => 0
  | k + 1 => if bitA w (k + 1) = 1 then oddTo w k ^^^ (k + 1) else oddTo w k
def oddA (w : Nat) : Nat := oddTo w 7
/-- Where a number's bits stand. -/
def plc : Nat → Nat
  | 0 => 3
  | 1 => 5
  | 2 => 6
  | _ => 7
def sprTo (n : Nat) : Nat → Nat
  | 0 => 0
  | k + 1 => if n / 2 ^ k % 2 = 1 then turnA (sprTo n k) (plc k) else sprTo n k
def sprA (n : Nat) : Nat := sprTo n 4
def gatTo (w : Nat) : Nat → Nat
  | 0 => 0
  | k + 1 => gatTo w k ||| bitA w (plc k) * 2 ^ k
def gatA (w : Nat) : Nat := gatTo w 4
def wrTo (n : Nat) : Nat → Nat
  | 0 => sprA n
  | k + 1 => if oddA (sprA n) &&& 2 ^ k = 0 then wrTo n k else turnA (wrTo n k) (2 ^ k)
/-- The word of a number. -/
def wrA (n : Nat) : Nat := wrTo n 3
/-- A word with the bit turned that the checks tell. -/
def fixA (w : Nat) : Nat := if oddA w = 0 then w else turnA w (oddA w)
/-- The number of a word. -/
def rdA (w : Nat) : Nat := gatA (fixA w)

theorem bitA_lt (w p : Nat) : bitA w p < 2 := Nat.mod_lt _ (by decide)

theorem turnA_lt {w p : Nat} (hw : w < 128) (h7 : p ≤ 7) : turnA w p < 128 := by
  unfold turnA
  have : 2 ^ (p - 1) < 2 ^ 7 := Nat.pow_lt_pow_right (by decide) (by omega)
  exact Nat.xor_lt_two_pow (n := 7) hw this

theorem oddTo_lt (w : Nat) : ∀ k, k ≤ 7 → oddTo w k < 8
  | 0, _ => by simp [oddTo]
  | k + 1, h => by
    have ih := oddTo_lt w k (by omega)
    unfold oddTo
    split
    · exact Nat.xor_lt_two_pow (n := 3) ih (by omega)
    · exact ih

theorem oddA_lt (w : Nat) : oddA w < 8 := oddTo_lt w 7 (by omega)

theorem plc_le (k : Nat) : plc k ≤ 7 := by unfold plc; split <;> omega
theorem plc_pos (k : Nat) : 1 ≤ plc k := by unfold plc; split <;> omega

theorem sprTo_lt (n : Nat) : ∀ k, sprTo n k < 128
  | 0 => by simp [sprTo]
  | k + 1 => by
    have ih := sprTo_lt n k
    unfold sprTo
    split
    · exact turnA_lt ih (plc_le k)
    · exact ih

theorem sprA_lt (n : Nat) : sprA n < 128 := sprTo_lt n 4

theorem gatTo_lt (w : Nat) : ∀ k, k ≤ 4 → gatTo w k < 16
  | 0, _ => by simp [gatTo]
  | k + 1, h => by
    have ih := gatTo_lt w k (by omega)
    unfold gatTo
    refine Nat.or_lt_two_pow (n := 4) ih ?_
    have h1 := bitA_lt w (plc k)
    have h2 : 2 ^ k ≤ 2 ^ 3 := Nat.pow_le_pow_right (by decide) (by omega)
    have h3 : bitA w (plc k) * 2 ^ k ≤ 1 * 2 ^ 3 := Nat.mul_le_mul (by omega) h2
    omega

theorem gatA_lt (w : Nat) : gatA w < 16 := gatTo_lt w 4 (by omega)

theorem wrTo_lt (n : Nat) : ∀ k, k ≤ 3 → wrTo n k < 128
  | 0, _ => sprA_lt n
  | k + 1, h => by
    have ih := wrTo_lt n k (by omega)
    unfold wrTo
    split
    · exact ih
    · refine turnA_lt ih ?_
      have : 2 ^ k ≤ 2 ^ 2 := Nat.pow_le_pow_right (by decide) (by omega)
      omega

theorem wrA_lt (n : Nat) : wrA n < 128 := wrTo_lt n 3 (by omega)

theorem fixA_lt {w : Nat} (h : w < 128) : fixA w < 128 := by
  unfold fixA
  split
  · exact h
  · exact turnA_lt h (by have := oddA_lt w; omega)

theorem xor_nat {p q : Nat} (hp : p < 2 ^ 62) (hq : q < 2 ^ 62) : bits .xor .i64 (p : Int) (q : Int) = ((p ^^^ q : Nat) : Int) := by
  have hx : p ^^^ q < 2 ^ 62 := Nat.xor_lt_two_pow hp hq
  unfold bits
  simp only []
  have e64 : IntKind.i64.bits = 64 := rfl
  rw [BitVec.toNat_xor, e64, ofInt_u64 p (by omega), ofInt_u64 q (by omega), IntKind.wrap_i64]
  omega

theorem or_nat {p q : Nat} (hp : p < 2 ^ 62) (hq : q < 2 ^ 62) : bits .or .i64 (p : Int) (q : Int) = ((p ||| q : Nat) : Int) := by
  have hx : p ||| q < 2 ^ 62 := Nat.or_lt_two_pow hp hq
  unfold bits
  simp only []
  have e64 : IntKind.i64.bits = 64 := rfl
  rw [BitVec.toNat_or, e64, ofInt_u64 p (by omega), ofInt_u64 q (by omega), IntKind.wrap_i64]
  omega

theorem and_nat {p q : Nat} (hp : p < 2 ^ 62) (hq : q < 2 ^ 62) : bits .and .i64 (p : Int) (q : Int) = ((p &&& q : Nat) : Int) := by
  have hx : p &&& q < 2 ^ 62 := Nat.and_lt_two_pow p hq
  unfold bits
  simp only []
  have e64 : IntKind.i64.bits = 64 := rfl
  rw [BitVec.toNat_and, e64, ofInt_u64 p (by omega), ofInt_u64 q (by omega), IntKind.wrap_i64]
  omega

theorem and_one (n : Nat) (h : n < 2 ^ 62) : bits .and .i64 (n : Int) 1 = ((n % 2 : Nat) : Int) := by
  have := and_nat (p := n) (q := 1) h (by decide)
  rw [Nat.and_one_is_mod] at this
  exact this

end Go.Proofs.YtgnldgonedpehaaDoor
