/- This text proves what mode.isWithin, isMode, bitsFor and New answer, of any numbers (bitsFor: of a mode); the world is as it was; no condition. -/
import Derived.Test.YtigoacnbbichoaaDoorChecked
import Derived.Test.YtigoacnbbichoaaDoorD0
import Derived.Test.YtigoacnbbichoaaDoorAs
namespace Go.Proofs.YtigoacnbbichoaaDoor
open Go.RowKit

set_option maxHeartbeats 1000000 in
theorem within_any (n most : Int) (w : World) :
    Calls Tryd.prog 29 #[.int .i64 n, .int .i64 most] w fun e w' => e = .returned (.bool (decide (0 ≤ n ∧ n ≤ most))) ∧ w = w' := by
  by_cases h1 : 0 ≤ n
  · by_cases h2 : n ≤ most
    · have e : decide (0 ≤ n ∧ n ≤ most) = true := by simp [h1, h2]
      rw [e]
      go_enter Tryd.func29, Tryd.ntmps29
      go_wp2
      go_ret
      exact ⟨rfl, rfl⟩
    · have e : decide (0 ≤ n ∧ n ≤ most) = false := by simp [h2]
      rw [e]
      go_enter Tryd.func29, Tryd.ntmps29
      go_wp2
      go_ret
      exact ⟨rfl, rfl⟩
  · have e : decide (0 ≤ n ∧ n ≤ most) = false := by simp [h1]
    rw [e]
    go_enter Tryd.func29, Tryd.ntmps29
    go_wp2
    go_ret
    exact ⟨rfl, rfl⟩

set_option maxHeartbeats 1000000 in
theorem isMode_any (n : Int) (w : World) :
    Calls Tryd.prog 27 #[.int .i64 n] w fun e w' => e = .returned (.bool (okM n)) ∧ w = w' := by
  have HW : Hid (∀ w, Calls Tryd.prog 29 #[.int .i64 n, .int .i64 511] w fun e w' => e = .returned (.bool (okM n)) ∧ w = w') := fun w => within_any n 511 w
  generalize okM n = b at HW ⊢
  go_enter Tryd.func27, Tryd.ntmps27
  go_wp2_with fail
  refine (HW.out _).mono ?_
  rintro e w' ⟨rfl, rfl⟩
  go_wp2
  go_ret
  exact ⟨rfl, rfl⟩

set_option maxHeartbeats 1000000 in
theorem bitsFor_any (m : Nat) (o s : Bool) (w : World) (hm : m < 512) :
    Calls Tryd.prog 30 #[.int .i64 (m : Int), .bool o, .bool s] w fun e w' => e = .returned (.int .i64 ((bf m o s : Nat) : Int)) ∧ w = w' := by
  have h7 := and_seven m (by omega)
  have h8 : bits .and .i64 ((m : Int) / 8) 7 = ((m / 8 % 8 : Nat) : Int) := and_seven (m / 8) (by omega)
  cases o
  · cases s
    · go_enter Tryd.func30, Tryd.ntmps30
      go_wp2
      go_ret
      exact ⟨rfl, rfl⟩
    · go_enter Tryd.func30, Tryd.ntmps30
      go_wp2
      go_ret
      exact ⟨rfl, rfl⟩
  · go_enter Tryd.func30, Tryd.ntmps30
    go_wp2
    go_ret
    exact ⟨rfl, rfl⟩

set_option maxHeartbeats 1000000 in
theorem new_any (a b : Int) (w : World) :
    Calls Tryd.prog 19 #[.int .i64 a, .int .i64 b] w fun e w' => e = .returned (.tuple #[.int .i64 (newN a b : Int), errV (newE a b)]) ∧ w = w' := by
  have HA : Hid (∀ w, Calls Tryd.prog 27 #[.int .i64 a] w fun e w' => e = .returned (.bool (okM a)) ∧ w = w') := fun w => isMode_any a w
  have HB : Hid (∀ w, Calls Tryd.prog 27 #[.int .i64 b] w fun e w' => e = .returned (.bool (okM b)) ∧ w = w') := fun w => isMode_any b w
  cases ha : okM a
  · have e1 : newE a b = 1 := by simp [newE, ha]
    have e2 : newN a b = 0 := by simp [newN, e1]
    rw [e1, e2]
    rw [ha] at HA
    clear ha e1 e2
    go_enter Tryd.func19, Tryd.ntmps19
    go_wp2_with fail
    refine (HA.out _).mono ?_
    rintro e w' ⟨rfl, rfl⟩
    go_wp2
    go_ret2
    exact ⟨rfl, rfl⟩
  · cases hb : okM b
    · have e1 : newE a b = 1 := by simp [newE, hb]
      have e2 : newN a b = 0 := by simp [newN, e1]
      rw [e1, e2]
      rw [ha] at HA
      rw [hb] at HB
      clear ha hb e1 e2
      go_enter Tryd.func19, Tryd.ntmps19
      go_wp2_with fail
      refine (HA.out _).mono ?_
      rintro e w' ⟨rfl, rfl⟩
      go_wp2_with fail
      refine (HB.out _).mono ?_
      rintro e w' ⟨rfl, rfl⟩
      go_wp2
      go_ret2
      exact ⟨rfl, rfl⟩
    · have e1 : newE a b = 0 := by simp [newE, ha, hb]
      have e2 : newN a b = an a.toNat b.toNat := by simp [newN, e1]
      rw [e1, e2]
      rw [ha] at HA
      rw [hb] at HB
      simp only [okM, decide_eq_true_iff] at ha hb
      have hx : bits .andNot .i64 a b = ((an a.toNat b.toNat : Nat) : Int) := by
        have := andNot_nat (p := a.toNat) (q := b.toNat) (by omega) (by omega)
        rwa [Int.toNat_of_nonneg ha.1, Int.toNat_of_nonneg hb.1] at this
      clear e1 e2
      generalize an a.toNat b.toNat = N at hx ⊢
      go_enter Tryd.func19, Tryd.ntmps19
      go_wp2_with fail
      refine (HA.out _).mono ?_
      rintro e w' ⟨rfl, rfl⟩
      go_wp2_with fail
      refine (HB.out _).mono ?_
      rintro e w' ⟨rfl, rfl⟩
      go_wp2
      go_ret2
      exact ⟨rfl, rfl⟩

end Go.Proofs.YtigoacnbbichoaaDoor
