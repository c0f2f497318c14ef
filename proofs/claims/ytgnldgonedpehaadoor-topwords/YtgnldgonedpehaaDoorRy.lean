/- This text proves what platterholdref1.Xor returns: exclusive or of two numbers below 1024; the world is as it was. -/
import Derived.Test.YtgnldgonedpehaaDoorChecked
import Derived.Test.YtgnldgonedpehaaDoorHm
import Derived.Deep.QuietTactic
import Derived.BigQuiet
namespace Go.Proofs.YtgnldgonedpehaaDoor
open Go.RowKit

theorem xor_low (a b : Nat) : (a ^^^ b) % 2 = (a + b) % 2 := by
  have h := Nat.testBit_xor a b 0
  simp only [Nat.testBit_zero] at h
  rw [Nat.add_mod]
  have ha : a % 2 < 2 := Nat.mod_lt _ (by decide)
  have hb : b % 2 < 2 := Nat.mod_lt _ (by decide)
  have hx : (a ^^^ b) % 2 < 2 := Nat.mod_lt _ (by decide)
  generalize (a ^^^ b) % 2 = x at *
  generalize a % 2 = y at *
  generalize b % 2 = z at *
  rcases (show y = 0 ∨ y = 1 by omega) with rfl | rfl <;> rcases (show z = 0 ∨ z = 1 by omega) with rfl | rfl <;> rcases (show x = 0 ∨ x = 1 by omega) with rfl | rfl <;> simp at h ⊢

theorem xor_halves (x y : Nat) : x ^^^ y = 2 * ((x / 2) ^^^ (y / 2)) + (x + y) % 2 := by
  have h1 : (x ^^^ y) / 2 = (x / 2) ^^^ (y / 2) := Nat.xor_div_two
  have h2 : (x ^^^ y) % 2 = (x + y) % 2 := xor_low x y
  omega

set_option maxHeartbeats 4000000 in
theorem rxor_any (a b : Nat) (w : World) (ha : a < 1024) (hb : b < 1024) :
    Calls Tryd.prog 15 #[.int .i64 (a : Int), .int .i64 (b : Int)] w fun e w' => e = .returned (.int .i64 ((a ^^^ b : Nat) : Int)) ∧ w = w' := by
  go_enter Tryd.func15, Tryd.ntmps15
  go_wp2
  go_loop [0, 1, 5, 6] (fun r s t u => ∃ x y z p : Nat, r = .int .i64 x ∧ s = .int .i64 y ∧ t = .int .i64 z ∧ u = .int .i64 p ∧
      ∃ k, k ≤ 10 ∧ p = 2 ^ k ∧ x < 2 ^ (10 - k) ∧ y < 2 ^ (10 - k) ∧ z + p * (x ^^^ y) = a ^^^ b) (fun r s _ _ => (intOf r).toNat + (intOf s).toNat)
  case atStart => exact ⟨a, b, 0, 1, rfl, rfl, rfl, rfl, 0, by omega, rfl, ha, hb, by omega⟩
  case round =>
    obtain ⟨x, y, z, p, rfl, rfl, rfl, rfl, k, hk, hp, hx, hy, he⟩ := hrel
    have hab : a ^^^ b < 2 ^ 10 := Nat.xor_lt_two_pow ha hb
    have hz : z < 1024 := by omega
    have hp' : p ≤ 1024 := by rw [hp]; exact Nat.pow_le_pow_right (n := 2) (j := 10) (by decide) hk
    have HE : Hid (z + p * (x ^^^ y) = a ^^^ b) := he
    have HP : Hid (p = 2 ^ k) := hp
    have HX : Hid (x < 2 ^ (10 - k)) := hx
    have HY : Hid (y < 2 ^ (10 - k)) := hy
    have hx' : x < 1024 := Nat.lt_of_lt_of_le hx (Nat.pow_le_pow_right (n := 2) (j := 10) (by decide) (by omega))
    have hy' : y < 1024 := Nat.lt_of_lt_of_le hy (Nat.pow_le_pow_right (n := 2) (j := 10) (by decide) (by omega))
    clear he hp hx hy hab
    by_cases h0 : x = 0 ∧ y = 0
    · obtain ⟨rfl, rfl⟩ := h0
      have HF : Hid (z = a ^^^ b) := by show z = a ^^^ b; have := HE.out; rw [Nat.xor_self] at this; omega
      go_wp2
      go_ret
      exact ⟨by rw [HF.out]; rfl, rfl⟩
    · have hk9 : k < 10 := by
        refine Nat.lt_of_le_of_ne hk fun e => h0 ?_
        have h1 := HX.out; have h2 := HY.out
        rw [e] at h1 h2
        exact ⟨by omega, by omega⟩
      have HN : Hid (∀ z', z' = z + p * ((x + y) % 2) → (∃ x' y' z'' p' : Nat, Value.int .i64 ((x : Int) / 2) = .int .i64 x' ∧ Value.int .i64 ((y : Int) / 2) = .int .i64 y' ∧ Value.int .i64 (z' : Int) = .int .i64 z'' ∧ Value.int .i64 ((p : Int) * 2) = .int .i64 p' ∧
          ∃ k, k ≤ 10 ∧ p' = 2 ^ k ∧ x' < 2 ^ (10 - k) ∧ y' < 2 ^ (10 - k) ∧ z'' + p' * (x' ^^^ y') = a ^^^ b)) := by
        show ∀ z', z' = z + p * ((x + y) % 2) → (∃ x' y' z'' p' : Nat, Value.int .i64 ((x : Int) / 2) = .int .i64 x' ∧ Value.int .i64 ((y : Int) / 2) = .int .i64 y' ∧ Value.int .i64 (z' : Int) = .int .i64 z'' ∧ Value.int .i64 ((p : Int) * 2) = .int .i64 p' ∧
          ∃ k, k ≤ 10 ∧ p' = 2 ^ k ∧ x' < 2 ^ (10 - k) ∧ y' < 2 ^ (10 - k) ∧ z'' + p' * (x' ^^^ y') = a ^^^ b)
        intro z' hz'
        refine ⟨x / 2, y / 2, z', p * 2, by simp, by simp, rfl, by simp, k + 1, hk9, by rw [HP.out, Nat.pow_succ], ?_, ?_, ?_⟩
        · have := HX.out
          rw [show 10 - k = 10 - (k + 1) + 1 by omega, Nat.pow_succ] at this
          omega
        · have := HY.out
          rw [show 10 - k = 10 - (k + 1) + 1 by omega, Nat.pow_succ] at this
          omega
        · rw [← HE.out, xor_halves x y, hz', Nat.mul_add, ← Nat.mul_assoc]
          omega
      have HM : Hid ((intOf (Value.int IntKind.i64 ((x : Int) / 2))).toNat + (intOf (Value.int IntKind.i64 ((y : Int) / 2))).toNat < (intOf (Value.int IntKind.i64 (x : Int))).toNat + (intOf (Value.int IntKind.i64 (y : Int))).toNat) := by
        show (intOf (Value.int IntKind.i64 ((x : Int) / 2))).toNat + (intOf (Value.int IntKind.i64 ((y : Int) / 2))).toNat < (intOf (Value.int IntKind.i64 (x : Int))).toNat + (intOf (Value.int IntKind.i64 (y : Int))).toNat
        simp only [intOf]
        omega
      by_cases hne : x % 2 = y % 2
      · have h3 := HN.out z (by rw [show (x + y) % 2 = 0 by omega]; rfl)
        have H3 := show Hid _ from h3
        clear h3
        by_cases h1 : 0 < x
        · go_wp2
          exact ⟨H3.out, HM.out⟩
        · have h2 : 0 < y := by omega
          go_wp2
          exact ⟨H3.out, HM.out⟩
      · have h3 := HN.out (z + p) (by rw [show (x + y) % 2 = 1 by omega, Nat.mul_one])
        have H3 := show Hid _ from h3
        clear h3
        by_cases h1 : 0 < x
        · go_wp2
          exact ⟨H3.out, HM.out⟩
        · have h2 : 0 < y := by omega
          go_wp2
          exact ⟨H3.out, HM.out⟩

end Go.Proofs.YtgnldgonedpehaaDoor
