/- This text proves that platterholdlaw1.HammingFix returns true for any two numbers, and lets all old memory be; the condition: the program's table of places holds 3, 5, 6, 7. -/
import Derived.Test.YtpkchjdlleeccaaDoorHr
import Derived.Test.YtpkchjdlleeccaaDoorRy
import Derived.Test.YtpkchjdlleeccaaDoorIn
import Derived.Below
namespace Go.Proofs.YtpkchjdlleeccaaDoor
open Go.RowKit

set_option maxHeartbeats 1000000 in
theorem power_any (n : Nat) (W : World) (hn : n ≤ 7) :
    Calls Tryd.prog 15 #[.int .i64 (n : Int)] W fun e W' => e = .returned (.int .i64 ((2 ^ n : Nat) : Int)) ∧ W = W' := by
  go_enter Tryd.func15, Tryd.ntmps15
  go_wp2
  go_loop [3, 4] (fun x i => ∃ k : Nat, k ≤ n ∧ x = .int .i64 ((2 ^ k : Nat) : Int) ∧ i = .int .i64 (k : Int)) (fun _ i => n - (intOf i).toNat)
  case atStart => exact ⟨0, by omega, rfl, rfl⟩
  case round =>
    obtain ⟨k, hk, rfl, rfl⟩ := hrel
    have hp6 : 2 ^ k ≤ 2 ^ 7 := Nat.pow_le_pow_right (by decide) (by omega)
    have HM : Hid (((2 ^ k : Nat) : Int) * 2 = ((2 ^ (k + 1) : Nat) : Int)) := by show ((2 ^ k : Nat) : Int) * 2 = ((2 ^ (k + 1) : Nat) : Int); rw [Nat.pow_succ]; omega
    obtain ⟨p, hp⟩ : ∃ p, p = 2 ^ k := ⟨_, rfl⟩
    have HP : Hid (p = 2 ^ k) := hp
    rw [← hp] at hp6 HM ⊢
    clear hp
    by_cases hlt : k < n
    · go_wp2
      rw [HM.out]
      refine ⟨⟨k + 1, by omega, rfl, rfl⟩, ?_⟩
      simp only [intOf]
      omega
    · obtain rfl : k = n := by omega
      go_wp2
      go_ret
      exact ⟨by rw [HP.out]; rfl, rfl⟩

theorem fix_fact : ∀ n, n < 16 → oddA (wrA n) = 0 ∧ rdA (wrA n) = n ∧ ∀ p, p < 7 → oddA (wrA n ^^^ 2 ^ p) = p + 1 ∧ rdA (wrA n ^^^ 2 ^ p) = n := by decide +kernel

set_option maxHeartbeats 4000000 in
theorem fix_any (W : World) (n place : Int) (hT : Tab W) :
    Calls Tryd.prog 4 #[.int .i64 n, .int .i64 place] W fun e W' => e = .returned (.bool true) ∧ Below W.heap.size W W' := by
  have HT : Hid (Tab W) := hT
  clear hT
  by_cases hn : 0 ≤ n ∧ n ≤ 15
  · obtain ⟨m, rfl⟩ : ∃ m : Nat, n = m := ⟨n.toNat, by omega⟩
    have hm : m < 16 := by omega
    have hw := wrA_lt m
    obtain ⟨f1, f2, f3⟩ := fix_fact m hm
    have HI : Hid (0 ≤ ((wrA m : Nat) : Int) ∧ ((wrA m : Nat) : Int) ≤ 127) := ⟨by omega, by omega⟩
    have F1 : Hid (oddA (wrA m) = 0) := f1
    have F2 : Hid (rdA (wrA m) = m) := f2
    have F3 : Hid (∀ p, p < 7 → oddA (wrA m ^^^ 2 ^ p) = p + 1 ∧ rdA (wrA m ^^^ 2 ^ p) = m) := f3
    clear f1 f2 f3 hn
    by_cases hp : 0 ≤ place ∧ place ≤ 7
    · have HP : Hid (0 ≤ place ∧ place ≤ 7) := hp
      obtain ⟨p, rfl⟩ : ∃ p : Nat, place = p := ⟨place.toNat, by omega⟩
      by_cases h0 : p = 0
      · subst h0
        clear hp
        go_enter Tryd.func4, Tryd.ntmps4
        go_wp2_with fail
        refine (hfact_any W HT.out).mono ?_
        rintro e w' ⟨rfl, rfl⟩
        go_wp2_with fail
        refine (write_ok m _ hm HT.out).mono ?_
        rintro e w' ⟨rfl, rfl⟩
        go_wp2_with fail
        refine (in_yes _ _ _ _ HP.out).mono ?_
        rintro e w' ⟨rfl, rfl⟩
        go_wp2_with fail
        refine (in_yes _ _ _ _ HI.out).mono ?_
        rintro e w' ⟨rfl, rfl⟩
        go_wp2_with fail
        refine (read_ok _ _ hw HT.out).mono ?_
        rintro e w' ⟨rfl, rfl⟩
        rw [F1.out, F2.out]
        go_wp2
        go_ret
        exact ⟨rfl, Below.refl _ _⟩
      · obtain ⟨q, rfl⟩ : ∃ q, p = q + 1 := ⟨p - 1, by omega⟩
        have hq : q < 7 := by omega
        have hx : wrA m ^^^ 2 ^ q < 128 := Nat.xor_lt_two_pow (n := 7) hw (Nat.pow_lt_pow_right (by decide) hq)
        have hq6 : 2 ^ q ≤ 2 ^ 6 := Nat.pow_le_pow_right (by decide) (by omega)
        have F4 := show Hid _ from (F3.out q hq).1
        have F5 := show Hid _ from (F3.out q hq).2
        clear hp h0
        go_enter Tryd.func4, Tryd.ntmps4
        go_wp2_with fail
        refine (hfact_any W HT.out).mono ?_
        rintro e w' ⟨rfl, rfl⟩
        go_wp2_with fail
        refine (write_ok m _ hm HT.out).mono ?_
        rintro e w' ⟨rfl, rfl⟩
        go_wp2_with fail
        refine (in_yes _ _ _ _ HP.out).mono ?_
        rintro e w' ⟨rfl, rfl⟩
        go_wp2_with fail
        refine (in_yes _ _ _ _ HI.out).mono ?_
        rintro e w' ⟨rfl, rfl⟩
        go_wp2_with fail
        refine (power_any q _ (by omega)).mono ?_
        rintro e w' ⟨rfl, rfl⟩
        go_wp2_with fail
        refine (rxor_any _ _ _ (by omega) (Nat.lt_of_le_of_lt hq6 (by decide))).mono ?_
        rintro e w' ⟨rfl, rfl⟩
        go_wp2_with fail
        refine (read_ok _ _ hx HT.out).mono ?_
        rintro e w' ⟨rfl, rfl⟩
        rw [F4.out, F5.out]
        go_wp2
        go_ret
        exact ⟨rfl, Below.refl _ _⟩
    · have HP : Hid (¬ (0 ≤ place ∧ place ≤ 7)) := hp
      clear hp
      go_enter Tryd.func4, Tryd.ntmps4
      go_wp2_with fail
      refine (hfact_any W HT.out).mono ?_
      rintro e w' ⟨rfl, rfl⟩
      go_wp2_with fail
      refine (write_ok m _ hm HT.out).mono ?_
      rintro e w' ⟨rfl, rfl⟩
      go_wp2_with fail
      refine (in_no _ _ _ _ HP.out).mono ?_
      rintro e w' ⟨rfl, rfl⟩
      go_wp2_with fail
      refine (in_yes _ _ _ _ HI.out).mono ?_
      rintro e w' ⟨rfl, rfl⟩
      go_wp2
      go_ret
      exact ⟨rfl, Below.refl _ _⟩
  · have HN : Hid (¬ (0 ≤ n ∧ n ≤ 15)) := hn
    clear hn
    go_enter Tryd.func4, Tryd.ntmps4
    go_wp2_with fail
    refine (hfact_any W HT.out).mono ?_
    rintro e w' ⟨rfl, rfl⟩
    go_wp2_with fail
    refine (write_no n _ HN.out).mono ?_
    rintro e w' ⟨rfl, rfl⟩
    go_wp2_with fail
    refine (in_no _ _ _ _ HN.out).mono ?_
    rintro e w' ⟨rfl, rfl⟩
    go_wp2
    go_ret
    exact ⟨rfl, Below.refl _ _⟩

end Go.Proofs.YtpkchjdlleeccaaDoor
