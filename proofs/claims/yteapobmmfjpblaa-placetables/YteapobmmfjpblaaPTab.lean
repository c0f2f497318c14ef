/- This text proves that the law PlaceTables returns true for every number: a block more needs two tables more at most, and no fewer, and each table that a way goes by is there; no condition. -/
import Derived.Test.YteapobmmfjpblaaP4
import Derived.Deep.RegionWith
namespace Go.Proofs.Yteapobmmfjpblaa
open Go.RowKit Go.Deep

/-- What one block more needs. -/
theorem tab_one {b : Int} (h : 1 ≤ b ∧ b ≤ 4) : tbN b = 0 ∧ tbN (b - 1) = 0 := ⟨tbN_none (by omega), tbN_none (by omega)⟩
theorem tab_two {b : Int} (h : 5 ≤ b ∧ b ≤ 8) : (0 ≤ tbN b - tbN (b - 1) ∧ tbN b - tbN (b - 1) ≤ 2) ∧ (0 ≤ tbN b ∧ tbN b ≤ 10) ∧ (0 ≤ tbN (b - 1) ∧ tbN (b - 1) ≤ 10) ∧ decide (tbN (b - 1) < tbN b) = (b - 1 - 4 == 0) := by
  rw [tbN_one (i := b) (by omega)]
  by_cases h1 : b = 5
  · subst h1
    rw [tbN_none (by omega)]
    decide
  · rw [tbN_one (by omega)]
    refine ⟨by omega, by omega, by omega, ?_⟩
    rw [show (b - 1 - 4 == 0) = false by simp; omega]
    decide
theorem tab_three {b : Int} (h : 9 ≤ b ∧ b ≤ 24) : (0 ≤ tbN b - tbN (b - 1) ∧ tbN b - tbN (b - 1) ≤ 2) ∧ (0 ≤ tbN b ∧ tbN b ≤ 10) ∧ (0 ≤ tbN (b - 1) ∧ tbN (b - 1) ≤ 10) ∧ decide (tbN (b - 1) < tbN b) = ((b - 1 - 8) % 4 == 0) := by
  rw [tbN_more (i := b) (by omega)]
  by_cases h1 : b = 9
  · subst h1
    rw [tbN_one (by omega)]
    decide
  · rw [tbN_more (by omega)]
    refine ⟨by omega, by omega, by omega, ?_⟩
    by_cases h2 : (b - 1 - 8) % 4 = 0
    · rw [show ((b - 1 - 8) % 4 == 0) = true by simp; omega]
      exact decide_eq_true (by omega)
    · rw [show ((b - 1 - 8) % 4 == 0) = false by simp; omega]
      exact decide_eq_false (by omega)

theorem eq_bools {x y : Bool} (h : x = y) : (x == y) = true := by simp [h]

set_option maxHeartbeats 1000000 in
set_option maxRecDepth 100000 in
theorem placeTables_any (w : World) (b : Int) :
    Calls Try.prog 4 #[.int .i64 b] w fun e w' => e = .returned (.bool true) ∧ Below w.heap.size w w' := by
  have HT : Hid _ := fun (w1 : World) => tables_any b w1
  by_cases h : 0 ≤ b ∧ b ≤ 24
  · rw [tbE_yes h, errV_zero] at HT
    obtain ⟨g1, g2⟩ := h
    by_cases h0 : b = 0
    · subst h0
      rw [show tbN 0 = 0 from rfl] at HT
      go_enter Try.func4, Try.ntmps4
      go_wp2_with (first
        | (go_at_call 5; refine (placeFact_any _).mono ?_; rintro e w1 ⟨rfl, hb1⟩)
        | (go_at_call 10; refine (HT.out _).mono ?_; rintro e w2 ⟨rfl, rfl⟩))
      go_ret
      exact ⟨rfl, hb1⟩
    · have b0 : (b == 0) = false := by simp [h0]
      have HM : Hid _ := fun (w1 : World) => tables_any (b - 1) w1
      have HO : Hid _ := fun (w1 : World) => of_any (b - 1) w1
      rw [tbE_yes (by omega), errV_zero] at HM
      rw [ofE_yes (by omega), errV_zero] at HO
      by_cases h1 : b ≤ 4
      · rw [(tab_one ⟨by omega, h1⟩).1] at HT
        rw [(tab_one ⟨by omega, h1⟩).2] at HM
        rw [ofL_one ⟨by omega, by omega⟩] at HO
        generalize hi : b - 1 = i at HM HO
        clear h0
        go_enter Try.func4, Try.ntmps4
        go_wp2_with (first
          | (go_at_call 5; refine (placeFact_any _).mono ?_; rintro e w1 ⟨rfl, hb1⟩)
          | (go_at_call_of 10 i; refine (HM.out _).mono ?_; rintro e w2 ⟨rfl, rfl⟩)
          | (go_at_call_of 10 b; refine (HT.out _).mono ?_; rintro e w2 ⟨rfl, rfl⟩)
          | (go_at_call_of 6 i; refine (HO.out _).mono ?_; rintro e w3 ⟨v3, rfl, hr3, hb3⟩; obtain ⟨a3, c3, rfl, _, _⟩ := hr3; simp only [List.length_cons, List.length_nil, Nat.zero_add]))
        go_ret
        exact ⟨rfl, Below.next hb1 hb3⟩
      · by_cases h2 : b ≤ 8
        · have T3 := tab_two (b := b) ⟨by omega, by omega⟩
          obtain ⟨⟨t1, t2⟩, ⟨t3, t4⟩, ⟨t5, t6⟩, t7⟩ := T3
          rw [ofL_two ⟨by omega, by omega⟩] at HO
          generalize hi : b - 1 = i at HM HO t1 t2 t5 t6 t7
          have t7' := eq_bools t7
          clear h0 h1 t7
          generalize tbN b = n at HT t1 t2 t3 t4 t7'
          generalize tbN i = m at HM t1 t2 t5 t6 t7'
          generalize i - 4 = z at HO t7'
          go_enter Try.func4, Try.ntmps4
          go_wp2_with (first
            | (go_at_call 5; refine (placeFact_any _).mono ?_; rintro e w1 ⟨rfl, hb1⟩)
            | (go_at_call_of 10 i; refine (HM.out _).mono ?_; rintro e w2 ⟨rfl, rfl⟩)
            | (go_at_call_of 10 b; refine (HT.out _).mono ?_; rintro e w2 ⟨rfl, rfl⟩)
            | (go_at_call_of 6 i; refine (HO.out _).mono ?_; rintro e w3 ⟨v3, rfl, hr3, hb3⟩; obtain ⟨b3, o3, c3, rfl, _, _, hcell, _⟩ := hr3.first; have hc3 := hcell 1 (by simp); clear hcell hr3; rw [nth_1] at hc3; simp only [List.length_cons, List.length_nil, Nat.zero_add]))
          go_ret
          exact ⟨rfl, Below.next hb1 hb3⟩
        · have T3 := tab_three (b := b) ⟨by omega, by omega⟩
          obtain ⟨⟨t1, t2⟩, ⟨t3, t4⟩, ⟨t5, t6⟩, t7⟩ := T3
          rw [ofL_three ⟨by omega, by omega⟩] at HO
          generalize hi : b - 1 = i at HM HO t1 t2 t5 t6 t7
          have t7' := eq_bools t7
          clear h0 h1 t7
          generalize tbN b = n at HT t1 t2 t3 t4 t7'
          generalize tbN i = m at HM t1 t2 t5 t6 t7'
          generalize (i - 8) % 4 = z at HO t7'
          generalize (i - 8) / 4 = y at HO
          go_enter Try.func4, Try.ntmps4
          go_wp2_with (first
            | (go_at_call 5; refine (placeFact_any _).mono ?_; rintro e w1 ⟨rfl, hb1⟩)
            | (go_at_call_of 10 i; refine (HM.out _).mono ?_; rintro e w2 ⟨rfl, rfl⟩)
            | (go_at_call_of 10 b; refine (HT.out _).mono ?_; rintro e w2 ⟨rfl, rfl⟩)
            | (go_at_call_of 6 i; refine (HO.out _).mono ?_; rintro e w3 ⟨v3, rfl, hr3, hb3⟩; obtain ⟨b3, o3, c3, rfl, _, _, hcell, _⟩ := hr3.first; have hc3 := hcell 2 (by simp); clear hcell hr3; rw [nth_2] at hc3; simp only [List.length_cons, List.length_nil, Nat.zero_add]))
          go_ret
          exact ⟨rfl, Below.next hb1 hb3⟩
  · rw [tbE_no h, errV_pos (by decide)] at HT
    have HI : Hid _ := fun (w1 : World) => in_no b 0 24 w1 h
    clear h
    generalize tbN b = n at HT
    go_enter Try.func4, Try.ntmps4
    go_wp2_with (first
      | (go_at_call 5; refine (placeFact_any _).mono ?_; rintro e w1 ⟨rfl, hb1⟩)
      | (go_at_call_of 10 b; refine (HT.out _).mono ?_; rintro e w2 ⟨rfl, rfl⟩)
      | (go_at_call 8; refine (HI.out _).mono ?_; rintro e w2 ⟨rfl, rfl⟩))
    go_ret
    exact ⟨rfl, hb1⟩

end Go.Proofs.Yteapobmmfjpblaa
