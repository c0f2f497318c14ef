/- This text proves what the document's Word and Found return, of numbers of four bits and words of seven: what Write and Read have; and plain facts over all words; the world is as it was. -/
import Derived.Test.YtpkchjdlleeccaaDoorHd
import Derived.Test.YtpkchjdlleeccaaDoorRy
namespace Go.Proofs.YtpkchjdlleeccaaDoor
open Go.RowKit

theorem word_fact : ∀ n, n < 16 → ∀ k, k < 128 → (rightA k && (heldA k == n)) = (k == wrA n) := by decide +kernel
theorem found_fact : ∀ w, w < 128 → (rightA w = (oddA w == 0)) ∧ (oddA w = 0 → heldA w = rdA w) ∧ (oddA w ≠ 0 → heldA (turnA w (oddA w)) = rdA w) := by decide +kernel
theorem turn_fact : ∀ w, w < 128 → ∀ p, p < 7 → oddA w ≠ 0 → rightA (turnA w (p + 1)) = (p + 1 == oddA w) := by decide +kernel

set_option maxRecDepth 100000 in
set_option maxHeartbeats 4000000 in
theorem word_any (n : Nat) (W : World) (hn : n < 16) :
    Calls Tryd.prog 8 #[.int .i64 (n : Int)] W fun e W' => e = .returned (.int .i64 (wrA n : Int)) ∧ W = W' := by
  have hw := wrA_lt n
  go_enter Tryd.func8, Tryd.ntmps8
  go_wp2
  go_loop [3] (fun i => ∃ k : Nat, k ≤ wrA n ∧ i = .int .i64 (k : Int)) (fun i => 128 - (intOf i).toNat)
  case atStart => exact ⟨0, by omega, rfl⟩
  case round =>
    obtain ⟨k, hk, rfl⟩ := hrel
    have hk8 : k < 128 := by omega
    have HF := show Hid ((rightA k && (heldA k == n)) = (k == wrA n)) from word_fact n hn k hk8
    cases hr : rightA k with
    | false =>
      have hne : k < wrA n := by
        have := HF.out
        rw [hr, Bool.false_and] at this
        have : k ≠ wrA n := by simpa using this.symm
        omega
      clear HF
      go_wp2_with fail
      refine (right_any k _ hk8).mono ?_
      rintro e w' ⟨rfl, rfl⟩
      rw [hr]
      go_wp2
      refine ⟨⟨k + 1, by omega, rfl⟩, ?_⟩
      simp only [intOf]
      omega
    | true =>
      by_cases hh : heldA k = n
      · have he : k = wrA n := by
          have := HF.out
          rw [hr, Bool.true_and, show (heldA k == n) = true by simpa using hh] at this
          simpa using this.symm
        have HE : Hid (k = wrA n) := he
        have HH : Hid (heldA k = n) := hh
        clear HF he hh hk
        go_wp2_with fail
        refine (right_any k _ hk8).mono ?_
        rintro e w' ⟨rfl, rfl⟩
        rw [hr]
        go_wp2_with fail
        refine (held_any k _ hk8).mono ?_
        rintro e w' ⟨rfl, rfl⟩
        rw [HH.out]
        go_wp2
        go_ret
        exact ⟨by rw [← HE.out]; rfl, rfl⟩
      · have hne : k < wrA n := by
          have := HF.out
          rw [hr, Bool.true_and, show (heldA k == n) = false by simpa using hh] at this
          have : k ≠ wrA n := by simpa using this.symm
          omega
        have hi : ¬ ((heldA k : Int) = (n : Int)) := by omega
        clear HF hh
        go_wp2_with fail
        refine (right_any k _ hk8).mono ?_
        rintro e w' ⟨rfl, rfl⟩
        rw [hr]
        go_wp2_with fail
        refine (held_any k _ hk8).mono ?_
        rintro e w' ⟨rfl, rfl⟩
        go_wp2
        refine ⟨⟨k + 1, by omega, rfl⟩, ?_⟩
        simp only [intOf]
        omega

set_option maxHeartbeats 4000000 in
theorem found_any (w : Nat) (W : World) (hw : w < 128) :
    Calls Tryd.prog 11 #[.int .i64 (w : Int)] W fun e W' => e = .returned (.tuple #[.int .i64 (rdA w : Int), .int .i64 (oddA w : Int)]) ∧ W = W' := by
  obtain ⟨f1, f2, f3⟩ := found_fact w hw
  have hO := oddA_lt w
  by_cases hz : oddA w = 0
  · have H2 : Hid (heldA w = rdA w) := f2 hz
    have H1 : Hid (rightA w = true) := by show rightA w = true; rw [f1, hz]; rfl
    clear f1 f2 f3
    go_enter Tryd.func11, Tryd.ntmps11
    go_wp2_with fail
    refine (right_any w _ hw).mono ?_
    rintro e w' ⟨rfl, rfl⟩
    rw [H1.out]
    go_wp2_with fail
    refine (held_any w _ hw).mono ?_
    rintro e w' ⟨rfl, rfl⟩
    rw [H2.out]
    go_wp2
    go_ret2
    exact ⟨by rw [hz]; rfl, rfl⟩
  · have H3 : Hid (heldA (turnA w (oddA w)) = rdA w) := f3 hz
    have H1 : Hid (rightA w = false) := by show rightA w = false; rw [f1]; simpa using hz
    have HT : Hid (∀ p, p < 7 → rightA (turnA w (p + 1)) = (p + 1 == oddA w)) := fun p hp => turn_fact w hw p hp hz
    clear f1 f2 f3
    go_enter Tryd.func11, Tryd.ntmps11
    go_wp2_with fail
    refine (right_any w _ hw).mono ?_
    rintro e w' ⟨rfl, rfl⟩
    rw [H1.out]
    go_wp2
    go_loop [4, 5] (fun x i => ∃ k : Nat, k < oddA w ∧ x = .int .i64 ((2 ^ k : Nat) : Int) ∧ i = .int .i64 ((k : Int) + 1)) (fun _ i => 8 - (intOf i).toNat)
    case atStart => exact ⟨0, by omega, rfl, rfl⟩
    case round =>
      obtain ⟨k, hk, rfl, rfl⟩ := hrel
      have hk7 : k < 7 := by omega
      have HX := show Hid (turnA w (k + 1) = w ^^^ 2 ^ k) from rfl
      have hp6 : 2 ^ k ≤ 2 ^ 6 := Nat.pow_le_pow_right (by decide) (by omega)
      have HM : Hid (((2 ^ k : Nat) : Int) * 2 = ((2 ^ (k + 1) : Nat) : Int)) := by show ((2 ^ k : Nat) : Int) * 2 = ((2 ^ (k + 1) : Nat) : Int); rw [Nat.pow_succ]; omega
      have ht : turnA w (k + 1) < 128 := turnA_lt hw (by omega)
      have HR := show Hid (rightA (turnA w (k + 1)) = (k + 1 == oddA w)) from HT.out k hk7
      obtain ⟨p, hp⟩ : ∃ p, p = 2 ^ k := ⟨_, rfl⟩
      rw [← hp] at hp6 HX HM ⊢
      clear hp
      by_cases he : k + 1 = oddA w
      · have HA : Hid (rightA (turnA w (k + 1)) = true) := by show rightA (turnA w (k + 1)) = true; rw [HR.out]; simpa using he
        have HE : Hid (k + 1 = oddA w) := he
        clear he HR
        go_wp2_with fail
        refine (rxor_any w p _ (by omega) (by omega)).mono ?_
        rintro e w' ⟨rfl, rfl⟩
        rw [← HX.out]
        go_wp2_with fail
        refine (right_any _ _ ht).mono ?_
        rintro e w' ⟨rfl, rfl⟩
        rw [HA.out]
        go_wp2_with fail
        refine (held_any _ _ ht).mono ?_
        rintro e w' ⟨rfl, rfl⟩
        go_wp2
        go_ret2
        refine ⟨?_, rfl⟩
        have e3 := H3.out
        rw [← HE.out] at e3
        rw [← e3, ← HE.out]
        rfl
      · have HA : Hid (rightA (turnA w (k + 1)) = false) := by show rightA (turnA w (k + 1)) = false; rw [HR.out]; simpa using he
        clear HR
        go_wp2_with fail
        refine (rxor_any w p _ (by omega) (by omega)).mono ?_
        rintro e w' ⟨rfl, rfl⟩
        rw [← HX.out]
        go_wp2_with fail
        refine (right_any _ _ ht).mono ?_
        rintro e w' ⟨rfl, rfl⟩
        rw [HA.out]
        go_wp2
        rw [HM.out]
        refine ⟨⟨k + 1, by omega, rfl, rfl⟩, ?_⟩
        simp only [intOf]
        omega

end Go.Proofs.YtpkchjdlleeccaaDoor
