/- This text proves what hamming.spread and gather return, of numbers of four bits and words of seven; the condition: the table of places holds 3, 5, 6, 7; the world is as it was. -/
import Derived.Test.YtgnldgonedpehaaDoorHw
namespace Go.Proofs.YtgnldgonedpehaaDoor
open Go.RowKit

/-- The program's table of places holds 3, 5, 6, 7. -/
def Tab (w : World) : Prop := w.cell? ⟨0, 0, none⟩ = some (.int .i64 3) ∧ w.cell? ⟨0, 1, none⟩ = some (.int .i64 5) ∧ w.cell? ⟨0, 2, none⟩ = some (.int .i64 6) ∧ w.cell? ⟨0, 3, none⟩ = some (.int .i64 7)

theorem Tab.later {w w' : World} (h : Tab w) (hb : Below w.heap.size w w') : Tab w' := by
  obtain ⟨h0, h1, h2, h3⟩ := h
  have hl : 0 < w.heap.size := World.block_lt_of_cell? w ⟨0, 0, none⟩ h0
  refine ⟨?_, ?_, ?_, ?_⟩
  · rw [hb.cell (p := ⟨0, 0, none⟩) hl]; exact h0
  · rw [hb.cell (p := ⟨0, 1, none⟩) hl]; exact h1
  · rw [hb.cell (p := ⟨0, 2, none⟩) hl]; exact h2
  · rw [hb.cell (p := ⟨0, 3, none⟩) hl]; exact h3

/-- The table's entry at a place. -/
theorem plc_at (k : Nat) (W : World) (h : k < 4) :
    (Instr.index 51 (Value.agg #[.int .i64 3, .int .i64 5, .int .i64 6, .int .i64 7]) (.int .i64 (k : Int))).run Tryd.prog W = .ok (.int .i64 (plc k : Int)) W := by
  rcases (show k = 0 ∨ k = 1 ∨ k = 2 ∨ k = 3 by omega) with rfl | rfl | rfl | rfl <;> kernel_rfl

set_option maxHeartbeats 4000000 in
theorem spread_any (n : Nat) (W : World) (hn : n < 16) (hT : Tab W) :
    Calls Tryd.prog 23 #[.int .i64 (n : Int)] W fun e W' => e = .returned (.int .i64 (sprA n : Int)) ∧ W = W' := by
  obtain ⟨t0, t1, t2, t3⟩ := hT
  go_enter Tryd.func23, Tryd.ntmps23
  go_wp2
  go_loop [3, 7] (fun o i => ∃ k : Nat, k ≤ 4 ∧ i = .int .i64 (k : Int) ∧ o = .int .i64 (sprTo n k : Int)) (fun _ i => 4 - (intOf i).toNat)
  case atStart => exact ⟨0, by omega, rfl, rfl⟩
  case round =>
    obtain ⟨k, hk, rfl, rfl⟩ := hrel
    by_cases hlt : k < 4
    · have ho := sprTo_lt n k
      have hp := plc_le k
      have hp1 := plc_pos k
      have hd : ((n : Int) / 2 ^ k) = ((n / 2 ^ k : Nat) : Int) := by simp
      have hq : n / 2 ^ k ≤ n := Nat.div_le_self _ _
      by_cases hb : n / 2 ^ k % 2 = 1
      · have HS : Hid (sprTo n (k + 1) = turnA (sprTo n k) (plc k)) := by show sprTo n (k + 1) = turnA (sprTo n k) (plc k); simp [sprTo, hb]
        have h1 : bits .and .i64 ((n : Int) / 2 ^ k) 1 = 1 := by rw [hd, and_one _ (by omega), hb]; rfl
        clear hb hd hq
        have hx := plc_at k W hlt
        go_wp2_with fail
        refine (turn_any (sprTo n k) (plc k) _ ho hp1 hp).mono ?_
        rintro e w' ⟨rfl, rfl⟩
        go_wp2
        rw [← HS.out]
        refine ⟨⟨k + 1, by omega, rfl, rfl⟩, ?_⟩
        simp only [intOf]
        omega
      · have HS : Hid (sprTo n (k + 1) = sprTo n k) := by show sprTo n (k + 1) = sprTo n k; simp [sprTo, hb]
        have h1 : bits .and .i64 ((n : Int) / 2 ^ k) 1 = 0 := by rw [hd, and_one _ (by omega)]; omega
        clear hb hd hq
        have hx := plc_at k W hlt
        go_wp2
        rw [← HS.out]
        refine ⟨⟨k + 1, by omega, rfl, rfl⟩, ?_⟩
        simp only [intOf]
        omega
    · obtain rfl : k = 4 := by omega
      go_wp2
      go_ret
      exact ⟨rfl, rfl⟩

set_option maxHeartbeats 4000000 in
theorem gather_any (w : Nat) (W : World) (hw : w < 128) (hT : Tab W) :
    Calls Tryd.prog 26 #[.int .i64 (w : Int)] W fun e W' => e = .returned (.int .i64 (gatA w : Int)) ∧ W = W' := by
  obtain ⟨t0, t1, t2, t3⟩ := hT
  go_enter Tryd.func26, Tryd.ntmps26
  go_wp2
  go_loop [3, 7] (fun o i => ∃ k : Nat, k ≤ 4 ∧ i = .int .i64 (k : Int) ∧ o = .int .i64 (gatTo w k : Int)) (fun _ i => 4 - (intOf i).toNat)
  case atStart => exact ⟨0, by omega, rfl, rfl⟩
  case round =>
    obtain ⟨k, hk, rfl, rfl⟩ := hrel
    by_cases hlt : k < 4
    · have ho := gatTo_lt w k (by omega)
      have hp := plc_le k
      have hp1 := plc_pos k
      have hx := plc_at k W hlt
      go_wp2_with fail
      refine (bitAt_any w (plc k) _ hw hp1 hp).mono ?_
      rintro e w' ⟨rfl, rfl⟩
      go_wp2
      have h1 := bitA_lt w (plc k)
      have h2 : 2 ^ k ≤ 2 ^ 3 := Nat.pow_le_pow_right (by decide) (by omega)
      have h3 : bitA w (plc k) * 2 ^ k ≤ 1 * 2 ^ 3 := Nat.mul_le_mul (by omega) h2
      have e : wrap64 ((bitA w (plc k) : Int) * 2 ^ k) = ((bitA w (plc k) * 2 ^ k : Nat) : Int) := by
        have : ((bitA w (plc k) : Int) * 2 ^ k) = ((bitA w (plc k) * 2 ^ k : Nat) : Int) := by simp
        rw [this]
        generalize bitA w (plc k) * 2 ^ k = x at h3
        unfold wrap64
        omega
      rw [e, or_nat (by omega) (by omega)]
      refine ⟨⟨k + 1, by omega, rfl, rfl⟩, ?_⟩
      simp only [intOf]
      omega
    · obtain rfl : k = 4 := by omega
      go_wp2
      go_ret
      exact ⟨rfl, rfl⟩

end Go.Proofs.YtgnldgonedpehaaDoor
