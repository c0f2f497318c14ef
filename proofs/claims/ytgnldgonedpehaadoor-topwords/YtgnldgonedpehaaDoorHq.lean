/- This text proves what hamming.Write and hamming.Read return, for every number; the condition: the table of places holds 3, 5, 6, 7; the world is as it was. -/
import Derived.Test.YtgnldgonedpehaaDoorHs
namespace Go.Proofs.YtgnldgonedpehaaDoor
open Go.RowKit

set_option maxHeartbeats 1000000 in
theorem write_no (n : Int) (W : World) (h : ¬ (0 ≤ n ∧ n ≤ 15)) :
    Calls Tryd.prog 13 #[.int .i64 n] W fun e W' => e = .returned (.tuple #[.int .i64 0, .iface 45 (.int .i64 1)]) ∧ W = W' := by
  by_cases h1 : n < 0
  · go_enter Tryd.func13, Tryd.ntmps13
    go_wp2
    go_ret2
    exact ⟨rfl, rfl⟩
  · have h2 : 15 < n := by omega
    go_enter Tryd.func13, Tryd.ntmps13
    go_wp2
    go_ret2
    exact ⟨rfl, rfl⟩

set_option maxHeartbeats 1000000 in
theorem read_no (n : Int) (W : World) (h : ¬ (0 ≤ n ∧ n ≤ 127)) :
    Calls Tryd.prog 16 #[.int .i64 n] W fun e W' => e = .returned (.tuple #[.int .i64 0, .int .i64 0, .iface 45 (.int .i64 1)]) ∧ W = W' := by
  by_cases h1 : n < 0
  · go_enter Tryd.func16, Tryd.ntmps16
    go_wp2
    go_ret3
    exact ⟨rfl, rfl⟩
  · have h2 : 127 < n := by omega
    go_enter Tryd.func16, Tryd.ntmps16
    go_wp2
    go_ret3
    exact ⟨rfl, rfl⟩

set_option maxHeartbeats 4000000 in
theorem write_ok (n : Nat) (W : World) (hn : n < 16) (hT : Tab W) :
    Calls Tryd.prog 13 #[.int .i64 (n : Int)] W fun e W' => e = .returned (.tuple #[.int .i64 (wrA n : Int), .nilIface]) ∧ W = W' := by
  have HT : Hid (Tab W) := hT
  clear hT
  go_enter Tryd.func13, Tryd.ntmps13
  go_wp2_with fail
  refine (spread_any n _ hn HT.out).mono ?_
  rintro e w' ⟨rfl, rfl⟩
  go_wp2_with fail
  refine (odd_any (sprA n) _ (sprA_lt n)).mono ?_
  rintro e w' ⟨rfl, rfl⟩
  go_wp2
  have hO := oddA_lt (sprA n)
  go_loop [4, 6] (fun o i => ∃ k : Nat, k ≤ 3 ∧ i = .int .i64 ((2 ^ k : Nat) : Int) ∧ o = .int .i64 (wrTo n k : Int)) (fun _ i => 16 - (intOf i).toNat)
  case atStart => exact ⟨0, by omega, rfl, rfl⟩
  case round =>
    obtain ⟨k, hk, rfl, rfl⟩ := hrel
    have HM : Hid (((2 ^ k : Nat) : Int) * 2 = ((2 ^ (k + 1) : Nat) : Int)) := by show ((2 ^ k : Nat) : Int) * 2 = ((2 ^ (k + 1) : Nat) : Int); rw [Nat.pow_succ]; omega
    by_cases hlt : k < 3
    · have ho := wrTo_lt n k (by omega)
      have hp4 : 2 ^ k ≤ 2 ^ 2 := Nat.pow_le_pow_right (by decide) (by omega)
      have hp1 : 1 ≤ 2 ^ k := Nat.pow_pos (by decide)
      have HA : Hid (bits .and .i64 ((oddA (sprA n) : Nat) : Int) ((2 ^ k : Nat) : Int) = ((oddA (sprA n) &&& 2 ^ k : Nat) : Int)) := and_nat (by omega) (by omega)
      have HS : Hid (wrTo n (k + 1) = if oddA (sprA n) &&& 2 ^ k = 0 then wrTo n k else turnA (wrTo n k) (2 ^ k)) := rfl
      obtain ⟨p, hp⟩ : ∃ p, p = 2 ^ k := ⟨_, rfl⟩
      rw [← hp] at hp4 hp1 HA HS HM ⊢
      clear hp
      generalize oddA (sprA n) = O at hO HA HS
      by_cases hz : O &&& p = 0
      · have hb : bits .and .i64 (O : Int) (p : Int) = 0 := by rw [HA.out, hz]; rfl
        have HW : Hid (wrTo n k = wrTo n (k + 1)) := by show wrTo n k = wrTo n (k + 1); rw [HS.out, if_pos hz]
        clear hz
        go_wp2
        rw [HM.out, HW.out]
        refine ⟨⟨k + 1, by omega, rfl, rfl⟩, ?_⟩
        rw [← HM.out]
        simp only [intOf]
        omega
      · have hb : ¬ bits .and .i64 (O : Int) (p : Int) = 0 := by rw [HA.out]; omega
        have HW : Hid (turnA (wrTo n k) p = wrTo n (k + 1)) := by show turnA (wrTo n k) p = wrTo n (k + 1); rw [HS.out, if_neg hz]
        clear hz
        go_wp2_with fail
        refine (turn_any (wrTo n k) p _ ho hp1 (by omega)).mono ?_
        rintro e w' ⟨rfl, rfl⟩
        go_wp2
        rw [HM.out, HW.out]
        refine ⟨⟨k + 1, by omega, rfl, rfl⟩, ?_⟩
        rw [← HM.out]
        simp only [intOf]
        omega
    · obtain rfl : k = 3 := by omega
      go_wp2
      go_ret2
      exact ⟨rfl, rfl⟩

set_option maxHeartbeats 4000000 in
theorem read_ok (w : Nat) (W : World) (hw : w < 128) (hT : Tab W) :
    Calls Tryd.prog 16 #[.int .i64 (w : Int)] W fun e W' => e = .returned (.tuple #[.int .i64 (rdA w : Int), .int .i64 (oddA w : Int), .nilIface]) ∧ W = W' := by
  have HT : Hid (Tab W) := hT
  have hO := oddA_lt w
  clear hT
  by_cases hz : oddA w = 0
  · have HF : Hid (fixA w = w) := by show fixA w = w; simp [fixA, hz]
    go_enter Tryd.func16, Tryd.ntmps16
    go_wp2_with fail
    refine (odd_any w _ hw).mono ?_
    rintro e w' ⟨rfl, rfl⟩
    rw [hz]
    go_wp2_with fail
    refine (gather_any w _ hw HT.out).mono ?_
    rintro e w' ⟨rfl, rfl⟩
    go_wp2
    go_ret3
    exact ⟨by unfold rdA; rw [HF.out, hz]; rfl, rfl⟩
  · have HF : Hid (turnA w (oddA w) = fixA w) := by show turnA w (oddA w) = fixA w; simp [fixA, hz]
    have hb : ((oddA w : Nat) : Int) ≠ 0 := by omega
    have h1 : 1 ≤ oddA w := by omega
    go_enter Tryd.func16, Tryd.ntmps16
    go_wp2_with fail
    refine (odd_any w _ hw).mono ?_
    rintro e w' ⟨rfl, rfl⟩
    go_wp2_with fail
    refine (turn_any w (oddA w) _ hw h1 (by omega)).mono ?_
    rintro e w' ⟨rfl, rfl⟩
    rw [HF.out]
    go_wp2_with fail
    refine (gather_any (fixA w) _ (fixA_lt hw) HT.out).mono ?_
    rintro e w' ⟨rfl, rfl⟩
    go_wp2
    go_ret3
    exact ⟨rfl, rfl⟩

end Go.Proofs.YtgnldgonedpehaaDoor
