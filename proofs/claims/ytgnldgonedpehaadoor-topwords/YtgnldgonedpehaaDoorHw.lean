/- This text proves what hamming.bitAt, turn and oddChecks return, of words of seven bits; the world is as it was. -/
import Derived.Test.YtgnldgonedpehaaDoorChecked
import Derived.Test.YtgnldgonedpehaaDoorHm
namespace Go.Proofs.YtgnldgonedpehaaDoor
open Go.RowKit

set_option maxHeartbeats 1000000 in
theorem bitAt_any (w p : Nat) (W : World) (hw : w < 128) (h1 : 1 ≤ p) (h7 : p ≤ 7) :
    Calls Tryd.prog 30 #[.int .i64 (w : Int), .int .i64 (p : Int)] W fun e W' => e = .returned (.int .i64 (bitA w p : Int)) ∧ W = W' := by
  obtain ⟨q, rfl⟩ : ∃ q, p = q + 1 := ⟨p - 1, by omega⟩
  go_enter Tryd.func30, Tryd.ntmps30
  go_wp2
  go_ret
  have e : bits .and .i64 ((w : Int) / 2 ^ q) 1 = ((bitA w (q + 1) : Nat) : Int) := by
    have hd : ((w : Int) / 2 ^ q) = ((w / 2 ^ q : Nat) : Int) := by simp
    rw [hd, and_one _ (by have : w / 2 ^ q ≤ w := Nat.div_le_self _ _; omega)]
    rfl
  rw [e]
  exact ⟨rfl, rfl⟩

set_option maxHeartbeats 1000000 in
theorem turn_any (w p : Nat) (W : World) (hw : w < 128) (h1 : 1 ≤ p) (h7 : p ≤ 7) :
    Calls Tryd.prog 25 #[.int .i64 (w : Int), .int .i64 (p : Int)] W fun e W' => e = .returned (.int .i64 (turnA w p : Int)) ∧ W = W' := by
  obtain ⟨q, rfl⟩ : ∃ q, p = q + 1 := ⟨p - 1, by omega⟩
  go_enter Tryd.func25, Tryd.ntmps25
  go_wp2
  go_ret
  have e : bits .xor .i64 (w : Int) (wrap64 (2 ^ q)) = ((turnA w (q + 1) : Nat) : Int) := by
    have h2 : 2 ^ q ≤ 2 ^ 6 := Nat.pow_le_pow_right (by decide) (by omega)
    have hc : ((2 : Int) ^ q) = ((2 ^ q : Nat) : Int) := by simp
    have hd : wrap64 ((2 : Int) ^ q) = ((2 ^ q : Nat) : Int) := by
      rw [hc]
      generalize 2 ^ q = x at h2
      unfold wrap64
      omega
    rw [hd]
    exact xor_nat (by omega) (by omega)
  rw [e]
  exact ⟨rfl, rfl⟩

set_option maxHeartbeats 4000000 in
theorem odd_any (w : Nat) (W : World) (hw : w < 128) :
    Calls Tryd.prog 24 #[.int .i64 (w : Int)] W fun e W' => e = .returned (.int .i64 (oddA w : Int)) ∧ W = W' := by
  go_enter Tryd.func24, Tryd.ntmps24
  go_wp2
  go_loop [3, 4] (fun o i => ∃ k : Nat, k ≤ 7 ∧ i = .int .i64 ((k : Int) + 1) ∧ o = .int .i64 (oddTo w k : Int)) (fun _ i => 8 - (intOf i).toNat)
  case atStart => exact ⟨0, by omega, rfl, rfl⟩
  case round =>
    obtain ⟨k, hk, rfl, rfl⟩ := hrel
    by_cases hlt : k < 7
    · have ho := oddTo_lt w k (by omega)
      by_cases hb : bitA w (k + 1) = 1
      · have HS : Hid (oddTo w (k + 1) = oddTo w k ^^^ (k + 1)) := by show oddTo w (k + 1) = oddTo w k ^^^ (k + 1); simp [oddTo, hb]
        have HX : Hid (bits .xor .i64 (oddTo w k : Int) ((k : Int) + 1) = ((oddTo w (k + 1) : Nat) : Int)) := by
          show bits .xor .i64 (oddTo w k : Int) ((k : Int) + 1) = ((oddTo w (k + 1) : Nat) : Int)
          rw [HS.out]
          exact xor_nat (p := oddTo w k) (q := k + 1) (by omega) (by omega)
        have HB : Hid (((bitA w (k + 1) : Nat) : Int) = 1) := by show ((bitA w (k + 1) : Nat) : Int) = 1; rw [hb]; rfl
        clear hb
        go_wp2_with fail
        refine (bitAt_any w (k + 1) _ hw (by omega) (by omega)).mono ?_
        rintro e w' ⟨rfl, rfl⟩
        rw [HB.out]
        go_wp2
        rw [HX.out]
        refine ⟨⟨k + 1, by omega, rfl, rfl⟩, ?_⟩
        simp only [intOf]
        omega
      · have HS : Hid (oddTo w (k + 1) = oddTo w k) := by show oddTo w (k + 1) = oddTo w k; simp [oddTo, hb]
        have HB : Hid (((bitA w (k + 1) : Nat) : Int) = 0) := by show ((bitA w (k + 1) : Nat) : Int) = 0; have := bitA_lt w (k + 1); omega
        clear hb
        go_wp2_with fail
        refine (bitAt_any w (k + 1) _ hw (by omega) (by omega)).mono ?_
        rintro e w' ⟨rfl, rfl⟩
        rw [HB.out]
        go_wp2
        rw [← HS.out]
        refine ⟨⟨k + 1, by omega, rfl, rfl⟩, ?_⟩
        simp only [intOf]
        omega
    · obtain rfl : k = 7 := by omega
      go_wp2
      go_ret
      exact ⟨rfl, rfl⟩

end Go.Proofs.YtgnldgonedpehaaDoor
