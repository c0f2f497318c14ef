/- This text proves that platterholdlaw1.HammingApart returns true for any two numbers, and lets all old memory be; the condition: the program's table of places holds 3, 5, 6, 7. -/
import Derived.Test.YtpkchjdlleeccaaDoorHr
import Derived.Test.YtpkchjdlleeccaaDoorRy
import Derived.Test.YtpkchjdlleeccaaDoorIn
import Derived.Test.YtpkchjdlleeccaaDoorPc
import Derived.Below
namespace Go.Proofs.YtpkchjdlleeccaaDoor
open Go.RowKit

theorem apart_fact : ∀ a, a < 16 → ∀ b, b < 16 → wrA (a ^^^ b) = wrA a ^^^ wrA b ∧ (a = b → pcF 7 (wrA a ^^^ wrA b) = 0) ∧ (a ≠ b → 3 ≤ pcF 7 (wrA a ^^^ wrA b)) := by decide +kernel

set_option maxHeartbeats 4000000 in
theorem apart_yes (W : World) (a b : Nat) (ha : a < 16) (hb : b < 16) (hT : Tab W) :
    Calls Tryd.prog 6 #[.int .i64 (a : Int), .int .i64 (b : Int)] W fun e W' => e = .returned (.bool true) ∧ Below W.heap.size W W' := by
  have HT : Hid (Tab W) := hT
  clear hT
  obtain ⟨f1, f2, f3⟩ := apart_fact a ha b hb
  have F1 : Hid (wrA (a ^^^ b) = wrA a ^^^ wrA b) := f1
  have F2 : Hid (a = b → pcF 7 (wrA a ^^^ wrA b) = 0) := f2
  have F3 : Hid (a ≠ b → 3 ≤ pcF 7 (wrA a ^^^ wrA b)) := f3
  clear f1 f2 f3
  have hwa := wrA_lt a
  have hwb := wrA_lt b
  have hx : wrA a ^^^ wrA b < 2 ^ 7 := Nat.xor_lt_two_pow hwa hwb
  have hab : a ^^^ b < 16 := Nat.xor_lt_two_pow (n := 4) ha hb
  have IA : Hid (0 ≤ ((wrA a : Nat) : Int) ∧ ((wrA a : Nat) : Int) ≤ 127) := ⟨by omega, by omega⟩
  have IB : Hid (0 ≤ ((wrA b : Nat) : Int) ∧ ((wrA b : Nat) : Int) ≤ 127) := ⟨by omega, by omega⟩
  have XA : Hid (∀ W, Calls Tryd.prog 14 #[.int .i64 ((wrA a : Nat) : Int), .int .i64 ((wrA b : Nat) : Int)] W fun e W' => e = .returned (.int .i64 ((wrA a ^^^ wrA b : Nat) : Int)) ∧ W = W') := fun W => rxor_any _ _ W (by omega) (by omega)
  have XB : Hid (∀ W, Calls Tryd.prog 14 #[.int .i64 (a : Int), .int .i64 (b : Int)] W fun e W' => e = .returned (.int .i64 ((a ^^^ b : Nat) : Int)) ∧ W = W') := fun W => rxor_any _ _ W (by omega) (by omega)
  have WR : Hid (∀ W, Tab W → Calls Tryd.prog 9 #[.int .i64 ((a ^^^ b : Nat) : Int)] W fun e W' => e = .returned (.tuple #[.int .i64 ((wrA a ^^^ wrA b : Nat) : Int), .nilIface]) ∧ W = W') := fun W h => by
    have := write_ok (a ^^^ b) W hab h
    rwa [F1.out] at this
  clear F1
  generalize wrA a ^^^ wrA b = d at hx F2 F3 XA WR
  generalize a ^^^ b = c at hab XB WR
  go_enter Tryd.func6, Tryd.ntmps6
  go_wp2_with fail
  refine (hfact_any W HT.out).mono ?_
  rintro e w' ⟨rfl, rfl⟩
  go_wp2_with fail
  refine (write_ok a _ ha HT.out).mono ?_
  rintro e w' ⟨rfl, rfl⟩
  go_wp2_with fail
  refine (write_ok b _ hb HT.out).mono ?_
  rintro e w' ⟨rfl, rfl⟩
  go_wp2_with fail
  refine (in_yes _ _ _ _ IA.out).mono ?_
  rintro e w' ⟨rfl, rfl⟩
  go_wp2_with fail
  refine (in_yes _ _ _ _ IB.out).mono ?_
  rintro e w' ⟨rfl, rfl⟩
  go_wp2_with fail
  refine (XA.out _).mono ?_
  rintro e w' ⟨rfl, rfl⟩
  go_wp2
  go_loop [10, 11] (fun r s => ∃ z x : Nat, r = .int .i64 z ∧ s = .int .i64 x ∧ ∃ k, k ≤ 7 ∧ x < 2 ^ k ∧ z ≤ 7 - k ∧ z + pcF k x = pcF 7 (d)) (fun _ s => (intOf s).toNat)
  case atStart => exact ⟨0, d, rfl, rfl, 7, by omega, hx, by omega, by omega⟩
  case round =>
    obtain ⟨z, x, rfl, rfl, k, hk, hxk, hz, he⟩ := hrel
    by_cases h0 : 0 < x
    · obtain ⟨k', rfl, hx2, hpc⟩ := pc_step h0 hxk
      have hxs : x < 128 := Nat.lt_of_lt_of_le hxk (Nat.pow_le_pow_right (n := 2) (j := 7) (by decide) (by omega))
      have HN : Hid (∃ z' x' : Nat, Value.int .i64 ((z : Int) + (x : Int) % 2) = .int .i64 z' ∧ Value.int .i64 ((x : Int) / 2) = .int .i64 x' ∧ ∃ k, k ≤ 7 ∧ x' < 2 ^ k ∧ z' ≤ 7 - k ∧ z' + pcF k x' = pcF 7 (d)) :=
        ⟨z + x % 2, x / 2, by simp, by simp, k', by omega, hx2, by omega, by omega⟩
      clear hxk hpc hx2 he
      go_wp2
      refine ⟨HN.out, ?_⟩
      simp only [intOf]
      omega
    · obtain rfl : x = 0 := by omega
      have hzz : z = pcF 7 (d) := by rw [pc_zero] at he; omega
      have HZ : Hid (z = pcF 7 (d)) := hzz
      clear hzz he hxk
      by_cases hab2 : a = b
      · have hz0 : z = 0 := by rw [HZ.out]; exact F2.out hab2
        have hi : ((a : Int) == (b : Int)) = true := beq_iff_eq.2 (by omega)
        subst hz0
        clear hab2
        go_wp2_with fail
        refine (XB.out _).mono ?_
        rintro e w' ⟨rfl, rfl⟩
        go_wp2_with fail
        refine (WR.out _ HT.out).mono ?_
        rintro e w' ⟨rfl, rfl⟩
        go_wp2_with fail
        refine (XA.out _).mono ?_
        rintro e w' ⟨rfl, rfl⟩
        go_wp2
        go_ret
        exact ⟨rfl, Below.refl _ _⟩
      · have hz3 : 3 ≤ z := by rw [HZ.out]; exact F3.out hab2
        have hi : ¬ ((a : Int) = (b : Int)) := by omega
        go_wp2_with fail
        refine (XB.out _).mono ?_
        rintro e w' ⟨rfl, rfl⟩
        go_wp2_with fail
        refine (WR.out _ HT.out).mono ?_
        rintro e w' ⟨rfl, rfl⟩
        go_wp2_with fail
        refine (XA.out _).mono ?_
        rintro e w' ⟨rfl, rfl⟩
        go_wp2
        go_ret
        rw [show ((a : Int) != (b : Int)) = true from bne_iff_ne.2 hi, decide_eq_true (show (3 : Int) ≤ (z : Int) by omega)]
        exact ⟨rfl, Below.refl _ _⟩

set_option maxHeartbeats 4000000 in
theorem apart_any (W : World) (a b : Int) (hT : Tab W) :
    Calls Tryd.prog 6 #[.int .i64 a, .int .i64 b] W fun e W' => e = .returned (.bool true) ∧ Below W.heap.size W W' := by
  by_cases ha : 0 ≤ a ∧ a ≤ 15
  · by_cases hb : 0 ≤ b ∧ b ≤ 15
    · obtain ⟨x, rfl⟩ : ∃ m : Nat, a = m := ⟨a.toNat, by omega⟩
      obtain ⟨y, rfl⟩ : ∃ m : Nat, b = m := ⟨b.toNat, by omega⟩
      exact apart_yes W x y (by omega) (by omega) hT
    · have HT : Hid (Tab W) := hT
      have HA : Hid (0 ≤ a ∧ a ≤ 15) := ha
      have HB : Hid (¬ (0 ≤ b ∧ b ≤ 15)) := hb
      obtain ⟨x, rfl⟩ : ∃ m : Nat, a = m := ⟨a.toNat, by omega⟩
      have hx : x < 16 := by omega
      clear hT ha hb
      go_enter Tryd.func6, Tryd.ntmps6
      go_wp2_with fail
      refine (hfact_any W HT.out).mono ?_
      rintro e w' ⟨rfl, rfl⟩
      go_wp2_with fail
      refine (write_ok x _ hx HT.out).mono ?_
      rintro e w' ⟨rfl, rfl⟩
      go_wp2_with fail
      refine (write_no b _ HB.out).mono ?_
      rintro e w' ⟨rfl, rfl⟩
      go_wp2_with fail
      refine (in_yes _ _ _ _ HA.out).mono ?_
      rintro e w' ⟨rfl, rfl⟩
      go_wp2_with fail
      refine (in_no _ _ _ _ HB.out).mono ?_
      rintro e w' ⟨rfl, rfl⟩
      go_wp2
      go_ret
      exact ⟨rfl, Below.refl _ _⟩
  · have HT : Hid (Tab W) := hT
    have HA : Hid (¬ (0 ≤ a ∧ a ≤ 15)) := ha
    clear hT ha
    by_cases hb : 0 ≤ b ∧ b ≤ 15
    · obtain ⟨y, rfl⟩ : ∃ m : Nat, b = m := ⟨b.toNat, by omega⟩
      have hy : y < 16 := by omega
      clear hb
      go_enter Tryd.func6, Tryd.ntmps6
      go_wp2_with fail
      refine (hfact_any W HT.out).mono ?_
      rintro e w' ⟨rfl, rfl⟩
      go_wp2_with fail
      refine (write_no a _ HA.out).mono ?_
      rintro e w' ⟨rfl, rfl⟩
      go_wp2_with fail
      refine (write_ok y _ hy HT.out).mono ?_
      rintro e w' ⟨rfl, rfl⟩
      go_wp2_with fail
      refine (in_no _ _ _ _ HA.out).mono ?_
      rintro e w' ⟨rfl, rfl⟩
      go_wp2
      go_ret
      exact ⟨rfl, Below.refl _ _⟩
    · have HB : Hid (¬ (0 ≤ b ∧ b ≤ 15)) := hb
      clear hb
      go_enter Tryd.func6, Tryd.ntmps6
      go_wp2_with fail
      refine (hfact_any W HT.out).mono ?_
      rintro e w' ⟨rfl, rfl⟩
      go_wp2_with fail
      refine (write_no a _ HA.out).mono ?_
      rintro e w' ⟨rfl, rfl⟩
      go_wp2_with fail
      refine (write_no b _ HB.out).mono ?_
      rintro e w' ⟨rfl, rfl⟩
      go_wp2_with fail
      refine (in_no _ _ _ _ HA.out).mono ?_
      rintro e w' ⟨rfl, rfl⟩
      go_wp2
      go_ret
      exact ⟨rfl, Below.refl _ _⟩

end Go.Proofs.YtpkchjdlleeccaaDoor
