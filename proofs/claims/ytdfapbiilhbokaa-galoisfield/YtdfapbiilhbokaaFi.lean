/- This text proves that platterholdlaw1.GaloisField returns true for any three numbers; the world is as it was; no condition. -/
import Derived.Test.YtdfapbiilhbokaaGl
namespace Go.Proofs.Ytdfapbiilhbokaa
open Go.RowKit Go.Deep

theorem byte_of {n : Nat} (h : n < 256) : (0 : Int) ≤ (n : Int) ∧ (n : Int) ≤ 255 := isByte_of_nat h
theorem gm_small {a b : Nat} (ha : a < 256) (hb : b < 256) : gm a b < 1024 := Nat.lt_trans (gm_byte ha hb) (by decide)

set_option maxHeartbeats 8000000 in
set_option maxRecDepth 100000 in
theorem field_ok (a b c : Nat) (w : World) (ha : a < 256) (hb : b < 256) (hc : c < 256) :
    Calls Try.prog 3 #[.int .i64 (a : Int), .int .i64 (b : Int), .int .i64 (c : Int)] w fun e w' => e = .returned (.bool true) ∧ w = w' := by
  go_enter Try.func3, Try.ntmps3
  go_wp2_with fail
  refine (gfact_any _).mono ?_
  rintro e w' ⟨rfl, rfl⟩
  go_wp2_with fail
  refine (in_yes _ _ _ _ (byte_of ha)).mono ?_
  rintro e w' ⟨rfl, rfl⟩
  go_wp2_with fail
  refine (in_yes _ _ _ _ (byte_of hb)).mono ?_
  rintro e w' ⟨rfl, rfl⟩
  go_wp2_with fail
  refine (in_yes _ _ _ _ (byte_of hc)).mono ?_
  rintro e w' ⟨rfl, rfl⟩
  go_wp2_with fail
  refine (lmul_ok a b _ ha hb).mono ?_
  rintro e w' ⟨rfl, rfl⟩
  go_wp2_with fail
  refine (lmul_ok _ c _ (gm_byte ha hb) hc).mono ?_
  rintro e w' ⟨rfl, rfl⟩
  go_wp2_with fail
  refine (lmul_ok b c _ hb hc).mono ?_
  rintro e w' ⟨rfl, rfl⟩
  go_wp2_with fail
  refine (lmul_ok a _ _ ha (gm_byte hb hc)).mono ?_
  rintro e w' ⟨rfl, rfl⟩
  rw [← gm_assoc ha hb hc]
  go_wp2_with fail
  refine (rxor_any b c _ (by omega) (by omega)).mono ?_
  rintro e w' ⟨rfl, rfl⟩
  go_wp2_with fail
  refine (lmul_ok a _ _ ha (Nat.xor_lt_two_pow (n := 8) hb hc)).mono ?_
  rintro e w' ⟨rfl, rfl⟩
  rw [gm_right]
  go_wp2_with fail
  refine (lmul_ok a b _ ha hb).mono ?_
  rintro e w' ⟨rfl, rfl⟩
  go_wp2_with fail
  refine (lmul_ok b a _ hb ha).mono ?_
  rintro e w' ⟨rfl, rfl⟩
  rw [gm_comm hb ha]
  go_wp2_with fail
  refine (lmul_ok a b _ ha hb).mono ?_
  rintro e w' ⟨rfl, rfl⟩
  go_wp2_with fail
  refine (lmul_ok a c _ ha hc).mono ?_
  rintro e w' ⟨rfl, rfl⟩
  go_wp2_with fail
  refine (rxor_any _ _ _ (gm_small ha hb) (gm_small ha hc)).mono ?_
  rintro e w' ⟨rfl, rfl⟩
  go_wp2_with fail
  refine (lmul_ok a 1 _ ha (by omega)).mono ?_
  rintro e w' ⟨rfl, rfl⟩
  rw [gm_one ha]
  go_wp2_with fail
  refine (lmul_ok a 0 _ ha (by omega)).mono ?_
  rintro e w' ⟨rfl, rfl⟩
  rw [gm_zero]
  go_wp2
  go_ret
  exact ⟨rfl, rfl⟩

set_option maxHeartbeats 4000000 in
set_option maxRecDepth 100000 in
theorem field_a (x y z : Int) (w : World) (h : ¬ isByte x) :
    Calls Try.prog 3 #[.int .i64 x, .int .i64 y, .int .i64 z] w fun e w' => e = .returned (.bool true) ∧ w = w' := by
  go_enter Try.func3, Try.ntmps3
  go_wp2_with fail
  refine (gfact_any _).mono ?_
  rintro e w' ⟨rfl, rfl⟩
  go_wp2_with fail
  refine (in_no _ _ _ _ h).mono ?_
  rintro e w' ⟨rfl, rfl⟩
  go_wp2_with fail
  refine (lmul_no x y _ (fun k => h k.1)).mono ?_
  rintro e w' ⟨rfl, rfl⟩
  go_wp2
  go_ret
  exact ⟨rfl, rfl⟩

set_option maxHeartbeats 4000000 in
set_option maxRecDepth 100000 in
theorem field_b (a : Nat) (y z : Int) (w : World) (ha : a < 256) (h : ¬ isByte y) :
    Calls Try.prog 3 #[.int .i64 (a : Int), .int .i64 y, .int .i64 z] w fun e w' => e = .returned (.bool true) ∧ w = w' := by
  go_enter Try.func3, Try.ntmps3
  go_wp2_with fail
  refine (gfact_any _).mono ?_
  rintro e w' ⟨rfl, rfl⟩
  go_wp2_with fail
  refine (in_yes _ _ _ _ (byte_of ha)).mono ?_
  rintro e w' ⟨rfl, rfl⟩
  go_wp2_with fail
  refine (in_no _ _ _ _ h).mono ?_
  rintro e w' ⟨rfl, rfl⟩
  go_wp2_with fail
  refine (lmul_no _ y _ (fun k => h k.2)).mono ?_
  rintro e w' ⟨rfl, rfl⟩
  go_wp2
  go_ret
  exact ⟨rfl, rfl⟩

set_option maxHeartbeats 4000000 in
set_option maxRecDepth 100000 in
theorem field_c (a b : Nat) (z : Int) (w : World) (ha : a < 256) (hb : b < 256) (h : ¬ isByte z) :
    Calls Try.prog 3 #[.int .i64 (a : Int), .int .i64 (b : Int), .int .i64 z] w fun e w' => e = .returned (.bool true) ∧ w = w' := by
  have hm : ¬ (gm a b : Int) = -1 := by omega
  go_enter Try.func3, Try.ntmps3
  go_wp2_with fail
  refine (gfact_any _).mono ?_
  rintro e w' ⟨rfl, rfl⟩
  go_wp2_with fail
  refine (in_yes _ _ _ _ (byte_of ha)).mono ?_
  rintro e w' ⟨rfl, rfl⟩
  go_wp2_with fail
  refine (in_yes _ _ _ _ (byte_of hb)).mono ?_
  rintro e w' ⟨rfl, rfl⟩
  go_wp2_with fail
  refine (in_no _ _ _ _ h).mono ?_
  rintro e w' ⟨rfl, rfl⟩
  go_wp2_with fail
  refine (lmul_ok a b _ ha hb).mono ?_
  rintro e w' ⟨rfl, rfl⟩
  go_wp2_with fail
  refine (lmul_no _ z _ (fun k => h k.2)).mono ?_
  rintro e w' ⟨rfl, rfl⟩
  go_wp2
  go_ret
  exact ⟨rfl, rfl⟩

theorem field_any (x y z : Int) (w : World) :
    Calls Try.prog 3 #[.int .i64 x, .int .i64 y, .int .i64 z] w fun e w' => e = .returned (.bool true) ∧ w = w' := by
  by_cases hx : isByte x
  · obtain ⟨a, rfl, ha⟩ := isByte_nat hx
    by_cases hy : isByte y
    · obtain ⟨b, rfl, hb⟩ := isByte_nat hy
      by_cases hz : isByte z
      · obtain ⟨c, rfl, hc⟩ := isByte_nat hz
        exact field_ok a b c w ha hb hc
      · exact field_c a b z w ha hb hz
    · exact field_b a y z w ha hy
  · exact field_a x y z w hx

end Go.Proofs.Ytdfapbiilhbokaa
