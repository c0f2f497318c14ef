/- This text proves that platterholdlaw1.GaloisInverse returns true for any two numbers, and writes into nothing that was there; the only condition is that errors.errorType holds what the program lays. -/
import Derived.Test.YtdfapbiilhbokaaDoorGl
import Derived.Test.YtdfapbiilhbokaaDoorAs
namespace Go.Proofs.YtdfapbiilhbokaaDoor
open Go.RowKit Go.Deep

theorem error_one (w : World) (hL : Laid w) : Calls Tryd.prog 8 #[.iface 36 (.int .i64 1), .int .i64 1] w fun e w' => e = .returned (.bool true) ∧ Below w.heap.size w w' := error_any 1 1 w hL
theorem error_five (w : World) (hL : Laid w) : Calls Tryd.prog 8 #[.iface 36 (.int .i64 5), .int .i64 5] w fun e w' => e = .returned (.bool true) ∧ Below w.heap.size w w' := error_any 5 5 w hL

theorem byte_of {n : Nat} (h : n < 256) : (0 : Int) ≤ (n : Int) ∧ (n : Int) ≤ 255 := isByte_of_nat h

set_option maxHeartbeats 4000000 in
set_option maxRecDepth 100000 in
theorem inverse_no (x y : Int) (w : World) (hL : Laid w) (h : ¬ (isByte x ∧ isByte y)) :
    Calls Tryd.prog 4 #[.int .i64 x, .int .i64 y] w fun e w' => e = .returned (.bool true) ∧ Below w.heap.size w w' := by
  have HL : Hid (Laid w) := hL
  have HH : Hid (¬ (isByte x ∧ isByte y)) := h
  clear h hL
  by_cases hx : isByte x
  · obtain ⟨a, rfl, ha⟩ := isByte_nat hx
    clear hx
    go_enter Tryd.func4, Tryd.ntmps4
    go_wp2_with fail
    refine (gfact_any _).mono ?_
    rintro e w' ⟨rfl, rfl⟩
    go_wp2_with fail
    refine (div_no _ y _ HH.out).mono ?_
    rintro e w' ⟨rfl, rfl⟩
    go_wp2_with fail
    refine (in_yes _ _ _ _ (byte_of ha)).mono ?_
    rintro e w' ⟨rfl, rfl⟩
    go_wp2_with fail
    refine (in_no _ _ _ _ (fun k => HH.out ⟨isByte_of_nat ha, k⟩)).mono ?_
    rintro e w' ⟨rfl, rfl⟩
    go_wp2_with fail
    refine (error_one _ HL.out).mono ?_
    rintro e w' ⟨rfl, hb⟩
    go_wp2
    go_ret
    exact ⟨rfl, hb⟩
  · go_enter Tryd.func4, Tryd.ntmps4
    go_wp2_with fail
    refine (gfact_any _).mono ?_
    rintro e w' ⟨rfl, rfl⟩
    go_wp2_with fail
    refine (div_no x y _ HH.out).mono ?_
    rintro e w' ⟨rfl, rfl⟩
    go_wp2_with fail
    refine (in_no _ _ _ _ hx).mono ?_
    rintro e w' ⟨rfl, rfl⟩
    go_wp2_with fail
    refine (error_one _ HL.out).mono ?_
    rintro e w' ⟨rfl, hb⟩
    go_wp2
    go_ret
    exact ⟨rfl, hb⟩

set_option maxHeartbeats 4000000 in
set_option maxRecDepth 100000 in
theorem inverse_zero (a : Nat) (w : World) (hL : Laid w) (ha : a < 256) :
    Calls Tryd.prog 4 #[.int .i64 (a : Int), .int .i64 0] w fun e w' => e = .returned (.bool true) ∧ Below w.heap.size w w' := by
  have HL : Hid (Laid w) := hL
  clear hL
  go_enter Tryd.func4, Tryd.ntmps4
  go_wp2_with fail
  refine (gfact_any _).mono ?_
  rintro e w' ⟨rfl, rfl⟩
  go_wp2_with fail
  refine (div_none a _ ha).mono ?_
  rintro e w' ⟨rfl, rfl⟩
  go_wp2_with fail
  refine (in_yes _ _ _ _ (byte_of ha)).mono ?_
  rintro e w' ⟨rfl, rfl⟩
  go_wp2_with fail
  refine (in_yes _ _ _ _ (by omega)).mono ?_
  rintro e w' ⟨rfl, rfl⟩
  go_wp2_with fail
  refine (error_five _ HL.out).mono ?_
  rintro e w' ⟨rfl, hb⟩
  go_wp2
  go_ret
  exact ⟨rfl, hb⟩

theorem prod_null {a b : Nat} (ha : a < 256) (hb : b < 256) (h0 : b ≠ 0) : (gm a b = 0) = (a = 0) := by
  rw [eq_iff_iff]
  constructor
  · intro h
    rcases gm_null ha hb h with h | h
    · exact h
    · exact absurd h h0
  · rintro rfl
    exact zero_gm b

set_option maxHeartbeats 4000000 in
set_option maxRecDepth 100000 in
theorem inverse_ok (a b : Nat) (w : World) (ha : a < 256) (hb : b < 256) (h0 : b ≠ 0) :
    Calls Tryd.prog 4 #[.int .i64 (a : Int), .int .i64 (b : Int)] w fun e w' => e = .returned (.bool true) ∧ Below w.heap.size w w' := by
  have hn : ¬ (b : Int) = 0 := by omega
  go_enter Tryd.func4, Tryd.ntmps4
  go_wp2_with fail
  refine (gfact_any _).mono ?_
  rintro e w' ⟨rfl, rfl⟩
  go_wp2_with fail
  refine (div_ok a b _ ha hb h0).mono ?_
  rintro e w' ⟨rfl, rfl⟩
  go_wp2_with fail
  refine (in_yes _ _ _ _ (byte_of ha)).mono ?_
  rintro e w' ⟨rfl, rfl⟩
  go_wp2_with fail
  refine (in_yes _ _ _ _ (byte_of hb)).mono ?_
  rintro e w' ⟨rfl, rfl⟩
  go_wp2_with fail
  refine (lmul_ok _ b _ (gm_byte ha (gpow_byte hb)) hb).mono ?_
  rintro e w' ⟨rfl, rfl⟩
  rw [gdiv_back ha hb h0]
  go_wp2_with fail
  refine (lmul_ok a b _ ha hb).mono ?_
  rintro e w' ⟨rfl, rfl⟩
  have hp := prod_null ha hb h0
  by_cases hz : a = 0
  · subst hz
    rw [zero_gm]
    clear hp
    go_wp2
    go_ret
    exact ⟨rfl, Below.refl _ _⟩
  · have h1 : ¬ (a : Int) = 0 := by omega
    have h2 : ¬ (gm a b : Int) = 0 := by rw [← hp] at hz; omega
    have h3 : ((gm a b : Int) == 0) = false := by simpa using h2
    have h4 : ((a : Int) == 0) = false := by simpa using h1
    clear hp hz
    go_wp2
    go_ret
    exact ⟨rfl, Below.refl _ _⟩

theorem inverse_any (x y : Int) (w : World) (hL : Laid w) :
    Calls Tryd.prog 4 #[.int .i64 x, .int .i64 y] w fun e w' => e = .returned (.bool true) ∧ Below w.heap.size w w' := by
  by_cases h : isByte x ∧ isByte y
  · obtain ⟨a, rfl, ha⟩ := isByte_nat h.1
    obtain ⟨b, rfl, hb⟩ := isByte_nat h.2
    by_cases h0 : b = 0
    · subst h0; exact inverse_zero a w hL ha
    · exact inverse_ok a b w ha hb h0
  · exact inverse_no x y w hL h

end Go.Proofs.YtdfapbiilhbokaaDoor
