/- This text proves that platterholdlaw1.HammingPerfect returns true for any number, and lets all old memory be; the conditions: the program's table of places holds 3, 5, 6, 7, and the library's variable errors.errorType holds what the program's own text lays. -/
import Derived.Test.YtpkchjdlleeccaaDoorHr
import Derived.Test.YtpkchjdlleeccaaDoorRy
import Derived.Test.YtpkchjdlleeccaaDoorIn
import Derived.Test.YtpkchjdlleeccaaDoorPc
import Derived.Test.YtpkchjdlleeccaaDoorAs
import Derived.Below
namespace Go.Proofs.YtpkchjdlleeccaaDoor
open Go.RowKit

/-- How many of the first words that are written are no more than one bit from a word. -/
def cntA (w : Nat) : Nat → Nat
  | 0 => 0
  | k + 1 => cntA w k + (if pcF 7 (wrA k ^^^ w) ≤ 1 then 1 else 0)

theorem perf_fact : ∀ w, w < 128 → cntA w 16 = 1 := by decide +kernel

theorem cntA_le (w : Nat) : ∀ k, cntA w k ≤ k
  | 0 => by simp [cntA]
  | k + 1 => by
    have := cntA_le w k
    unfold cntA
    split <;> omega

set_option maxHeartbeats 8000000 in
theorem perf_yes (W : World) (w : Nat) (hw : w < 128) (hT : Tab W) :
    Calls Tryd.prog 5 #[.int .i64 (w : Int)] W fun e W' => e = .returned (.bool true) ∧ Below W.heap.size W W' := by
  have HT : Hid (Tab W) := hT
  have HI : Hid (0 ≤ (w : Int) ∧ (w : Int) ≤ 127) := ⟨by omega, by omega⟩
  clear hT
  go_enter Tryd.func5, Tryd.ntmps5
  go_wp2_with fail
  refine (hfact_any W HT.out).mono ?_
  rintro e w' ⟨rfl, rfl⟩
  go_wp2_with fail
  refine (in_yes _ _ _ _ HI.out).mono ?_
  rintro e w' ⟨rfl, rfl⟩
  go_wp2
  go_loop [7, 8] (fun r s => ∃ k : Nat, k ≤ 16 ∧ r = .int .i64 (cntA w k : Int) ∧ s = .int .i64 (k : Int)) (fun _ s => 16 - (intOf s).toNat)
  case atStart => exact ⟨0, by omega, rfl, rfl⟩
  case round =>
    obtain ⟨n, hn, rfl, rfl⟩ := hrel
    by_cases hlt : n < 16
    · have hwn := wrA_lt n
      have hc := cntA_le w n
      have HN : Hid (0 ≤ ((wrA n : Nat) : Int) ∧ ((wrA n : Nat) : Int) ≤ 127) := ⟨by omega, by omega⟩
      have hx : wrA n ^^^ w < 2 ^ 7 := Nat.xor_lt_two_pow hwn hw
      have HC : Hid (cntA w (n + 1) = cntA w n + (if pcF 7 (wrA n ^^^ w) ≤ 1 then 1 else 0)) := rfl
      have XA : Hid (∀ W, Calls Tryd.prog 14 #[.int .i64 ((wrA n : Nat) : Int), .int .i64 (w : Int)] W fun e W' => e = .returned (.int .i64 ((wrA n ^^^ w : Nat) : Int)) ∧ W = W') := fun W => rxor_any _ _ W (by omega) (by omega)
      generalize wrA n ^^^ w = d at hx HC XA
      go_wp2_with fail
      refine (write_ok n _ hlt HT.out).mono ?_
      rintro e w' ⟨rfl, rfl⟩
      go_wp2_with fail
      refine (in_yes _ _ _ _ HN.out).mono ?_
      rintro e w' ⟨rfl, rfl⟩
      go_wp2_with fail
      refine (XA.out _).mono ?_
      rintro e w' ⟨rfl, rfl⟩
      go_wp2
      go_loop [11, 12] (fun r s => ∃ z x : Nat, r = .int .i64 z ∧ s = .int .i64 x ∧ ∃ k, k ≤ 7 ∧ x < 2 ^ k ∧ z ≤ 7 - k ∧ z + pcF k x = pcF 7 d) (fun _ s => (intOf s).toNat)
      case atStart => exact ⟨0, d, rfl, rfl, 7, by omega, hx, by omega, by omega⟩
      case round =>
        obtain ⟨z, x, rfl, rfl, k, hk, hxk, hz, he⟩ := hrel
        by_cases h0 : 0 < x
        · obtain ⟨k', rfl, hx2, hpc⟩ := pc_step h0 hxk
          have hxs : x < 128 := Nat.lt_of_lt_of_le hxk (Nat.pow_le_pow_right (n := 2) (j := 7) (by decide) (by omega))
          have HN : Hid (∃ z' x' : Nat, Value.int .i64 ((z : Int) + (x : Int) % 2) = .int .i64 z' ∧ Value.int .i64 ((x : Int) / 2) = .int .i64 x' ∧ ∃ k, k ≤ 7 ∧ x' < 2 ^ k ∧ z' ≤ 7 - k ∧ z' + pcF k x' = pcF 7 d) :=
            ⟨z + x % 2, x / 2, by simp, by simp, k', by omega, hx2, by omega, by omega⟩
          clear hxk hpc hx2 he
          go_wp2
          refine ⟨HN.out, ?_⟩
          simp only [intOf]
          omega
        · obtain rfl : x = 0 := by omega
          have hzz : z = pcF 7 d := by rw [pc_zero] at he; omega
          have HZ : Hid (z = pcF 7 d) := hzz
          clear hzz he hxk
          by_cases h1 : z ≤ 1
          · have HS : Hid ((cntA w n : Int) + 1 = ((cntA w (n + 1) : Nat) : Int)) := by
              show (cntA w n : Int) + 1 = ((cntA w (n + 1) : Nat) : Int)
              rw [HC.out, ← HZ.out, if_pos h1]
              omega
            go_wp2
            rw [HS.out]
            refine ⟨⟨n + 1, by omega, rfl, rfl⟩, ?_⟩
            simp only [intOf]
            omega
          · have HS : Hid (cntA w n = cntA w (n + 1)) := by
              show cntA w n = cntA w (n + 1)
              rw [HC.out, ← HZ.out, if_neg h1]
              omega
            go_wp2
            rw [HS.out]
            refine ⟨⟨n + 1, by omega, rfl, rfl⟩, ?_⟩
            simp only [intOf]
            omega
    · obtain rfl : n = 16 := by omega
      rw [perf_fact w hw]
      go_wp2
      go_ret
      exact ⟨rfl, Below.refl _ _⟩

set_option maxHeartbeats 4000000 in
theorem perf_any (W : World) (n : Int) (hT : Tab W) (hL : Laid W) :
    Calls Tryd.prog 5 #[.int .i64 n] W fun e W' => e = .returned (.bool true) ∧ Below W.heap.size W W' := by
  by_cases h : 0 ≤ n ∧ n ≤ 127
  · obtain ⟨w, rfl⟩ : ∃ m : Nat, n = m := ⟨n.toNat, by omega⟩
    exact perf_yes W w (by omega) hT
  · have HN : Hid (¬ (0 ≤ n ∧ n ≤ 127)) := h
    have HT : Hid (Tab W) := hT
    have HL : Hid (Laid W) := hL
    clear h hT hL
    go_enter Tryd.func5, Tryd.ntmps5
    go_wp2_with fail
    refine (hfact_any W HT.out).mono ?_
    rintro e w' ⟨rfl, rfl⟩
    go_wp2_with fail
    refine (in_no _ _ _ _ HN.out).mono ?_
    rintro e w' ⟨rfl, rfl⟩
    go_wp2_with fail
    refine (read_no n _ HN.out).mono ?_
    rintro e w' ⟨rfl, rfl⟩
    go_wp2_with fail
    refine (error_any 1 1 _ HL.out).mono ?_
    rintro e w' ⟨rfl, hb⟩
    have HB := show Hid _ from hb
    clear hb
    go_wp2
    go_ret
    exact ⟨rfl, HB.out⟩

end Go.Proofs.YtpkchjdlleeccaaDoor
