/- This text proves that platterholdlaw1.GaloisFermat returns true for any three numbers; the world is as it was; no condition. -/
import Derived.Test.YtdfapbiilhbokaaGl
namespace Go.Proofs.Ytdfapbiilhbokaa
open Go.RowKit Go.Deep

set_option maxHeartbeats 4000000 in
set_option maxRecDepth 100000 in
theorem fermat_no (x n m : Int) (w : World) (h : ¬ isByte x) :
    Calls Try.prog 4 #[.int .i64 x, .int .i64 n, .int .i64 m] w fun e w' => e = .returned (.bool true) ∧ w = w' := by
  go_enter Try.func4, Try.ntmps4
  go_wp2_with fail
  refine (gfact_any _).mono ?_
  rintro e w' ⟨rfl, rfl⟩
  go_wp2_with fail
  refine (pow_no x 255 _ (fun k => h k.1)).mono ?_
  rintro e w' ⟨rfl, rfl⟩
  go_wp2_with fail
  refine (in_no _ _ _ _ h).mono ?_
  rintro e w' ⟨rfl, rfl⟩
  go_wp2
  go_ret
  exact ⟨rfl, rfl⟩

/-- What the 255th power is. -/
theorem fermat_cases (a : Nat) (ha : a < 256) : (a ≠ 0 ∧ gpow a 255 = 1) ∨ (a = 0 ∧ gpow a 255 = 0) := by
  by_cases h : a = 0
  · subst h; exact .inr ⟨rfl, gpow_null 254⟩
  · exact .inl ⟨h, fermat ha h⟩

set_option maxHeartbeats 4000000 in
set_option maxRecDepth 100000 in
theorem fermat_out (a : Nat) (n m : Int) (w : World) (ha : a < 256) (h : ¬ ((0 ≤ n ∧ n ≤ 500) ∧ (0 ≤ m ∧ m ≤ 500))) :
    Calls Try.prog 4 #[.int .i64 (a : Int), .int .i64 n, .int .i64 m] w fun e w' => e = .returned (.bool true) ∧ w = w' := by
  have HH : Hid (¬ ((0 ≤ n ∧ n ≤ 500) ∧ (0 ≤ m ∧ m ≤ 500))) := h
  clear h
  go_enter Try.func4, Try.ntmps4
  go_wp2_with fail
  refine (gfact_any _).mono ?_
  rintro e w' ⟨rfl, rfl⟩
  go_wp2_with fail
  refine (pow_ok a 255 _ ha (by omega)).mono ?_
  rintro e w' ⟨rfl, rfl⟩
  rcases fermat_cases a ha with ⟨h0, h1⟩ | ⟨h0, h1⟩
  · rw [h1]
    have h0' : ¬ (a : Int) = 0 := by omega
    by_cases hn : 0 ≤ n ∧ n ≤ 500
    · go_wp2_with fail
      refine (in_yes _ _ _ _ hn).mono ?_
      rintro e w' ⟨rfl, rfl⟩
      go_wp2_with fail
      refine (in_no _ _ _ _ (fun k => HH.out ⟨hn, k⟩)).mono ?_
      rintro e w' ⟨rfl, rfl⟩
      go_wp2
      go_ret
      exact ⟨rfl, rfl⟩
    · go_wp2_with fail
      refine (in_no _ _ _ _ hn).mono ?_
      rintro e w' ⟨rfl, rfl⟩
      go_wp2
      go_ret
      exact ⟨rfl, rfl⟩
  · rw [h1]
    subst h0
    by_cases hn : 0 ≤ n ∧ n ≤ 500
    · go_wp2_with fail
      refine (in_yes _ _ _ _ hn).mono ?_
      rintro e w' ⟨rfl, rfl⟩
      go_wp2_with fail
      refine (in_no _ _ _ _ (fun k => HH.out ⟨hn, k⟩)).mono ?_
      rintro e w' ⟨rfl, rfl⟩
      go_wp2
      go_ret
      exact ⟨rfl, rfl⟩
    · go_wp2_with fail
      refine (in_no _ _ _ _ hn).mono ?_
      rintro e w' ⟨rfl, rfl⟩
      go_wp2
      go_ret
      exact ⟨rfl, rfl⟩

set_option maxHeartbeats 4000000 in
set_option maxRecDepth 100000 in
theorem fermat_ok (a n m : Nat) (w : World) (ha : a < 256) (hn : n ≤ 500) (hm : m ≤ 500) :
    Calls Try.prog 4 #[.int .i64 (a : Int), .int .i64 (n : Int), .int .i64 (m : Int)] w fun e w' => e = .returned (.bool true) ∧ w = w' := by
  have HN : Hid ((0 : Int) ≤ (n : Int) ∧ (n : Int) ≤ 500) := ⟨by omega, by omega⟩
  have HM : Hid ((0 : Int) ≤ (m : Int) ∧ (m : Int) ≤ 500) := ⟨by omega, by omega⟩
  go_enter Try.func4, Try.ntmps4
  go_wp2_with fail
  refine (gfact_any _).mono ?_
  rintro e w' ⟨rfl, rfl⟩
  go_wp2_with fail
  refine (pow_ok a 255 _ ha (by omega)).mono ?_
  rintro e w' ⟨rfl, rfl⟩
  rcases fermat_cases a ha with ⟨h0, h1⟩ | ⟨h0, h1⟩
  · rw [h1]
    have h0' : ¬ (a : Int) = 0 := by omega
    go_wp2_with fail
    refine (in_yes _ _ _ _ HN.out).mono ?_
    rintro e w' ⟨rfl, rfl⟩
    go_wp2_with fail
    refine (in_yes _ _ _ _ HM.out).mono ?_
    rintro e w' ⟨rfl, rfl⟩
    go_wp2_with fail
    refine (pow_ok a n _ ha (by omega)).mono ?_
    rintro e w' ⟨rfl, rfl⟩
    go_wp2_with fail
    refine (pow_ok a m _ ha (by omega)).mono ?_
    rintro e w' ⟨rfl, rfl⟩
    go_wp2_with fail
    refine (pow_ok a (n + m) _ ha (by omega)).mono ?_
    rintro e w' ⟨rfl, rfl⟩
    go_wp2_with fail
    refine (lmul_ok _ _ _ (gpow_byte ha) (gpow_byte ha)).mono ?_
    rintro e w' ⟨rfl, rfl⟩
    rw [gpow_add ha]
    go_wp2
    go_ret
    exact ⟨rfl, rfl⟩
  · rw [h1]
    subst h0
    go_wp2_with fail
    refine (in_yes _ _ _ _ HN.out).mono ?_
    rintro e w' ⟨rfl, rfl⟩
    go_wp2_with fail
    refine (in_yes _ _ _ _ HM.out).mono ?_
    rintro e w' ⟨rfl, rfl⟩
    go_wp2_with fail
    refine (pow_ok 0 n _ ha (by omega)).mono ?_
    rintro e w' ⟨rfl, rfl⟩
    go_wp2_with fail
    refine (pow_ok 0 m _ ha (by omega)).mono ?_
    rintro e w' ⟨rfl, rfl⟩
    go_wp2_with fail
    refine (pow_ok 0 (n + m) _ ha (by omega)).mono ?_
    rintro e w' ⟨rfl, rfl⟩
    go_wp2_with fail
    refine (lmul_ok _ _ _ (gpow_byte ha) (gpow_byte ha)).mono ?_
    rintro e w' ⟨rfl, rfl⟩
    rw [gpow_add ha]
    go_wp2
    go_ret
    exact ⟨rfl, rfl⟩

theorem fermat_any (x n m : Int) (w : World) :
    Calls Try.prog 4 #[.int .i64 x, .int .i64 n, .int .i64 m] w fun e w' => e = .returned (.bool true) ∧ w = w' := by
  by_cases hx : isByte x
  · obtain ⟨a, rfl, ha⟩ := isByte_nat hx
    by_cases h : (0 ≤ n ∧ n ≤ 500) ∧ (0 ≤ m ∧ m ≤ 500)
    · obtain ⟨N, rfl⟩ := Int.eq_ofNat_of_zero_le h.1.1
      obtain ⟨M, rfl⟩ := Int.eq_ofNat_of_zero_le h.2.1
      exact fermat_ok a N M w ha (by have := h.1.2; omega) (by have := h.2.2; omega)
    · exact fermat_out a n m w ha h
  · exact fermat_no x n m w hx

end Go.Proofs.Ytdfapbiilhbokaa
