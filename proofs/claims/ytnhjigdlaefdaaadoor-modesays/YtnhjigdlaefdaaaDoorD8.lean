/- This text proves what the document's digit, May and Less answer, of modes and what is wanted; the world is as it was. -/
import Derived.Test.YtnhjigdlaefdaaaDoorD7
namespace Go.Proofs.YtnhjigdlaefdaaaDoor
open Go.RowKit

set_option maxHeartbeats 1000000 in
theorem digit_any (m k : Nat) (w : World) (hm : m < 512) (hk : k ≤ 2) :
    Calls Tryd.prog 20 #[.int .i64 (m : Int), .int .i64 (k : Int)] w fun e w' => e = .returned (.int .i64 ((m / 8 ^ k % 8 : Nat) : Int)) ∧ w = w' := by
  generalize hR : m / 8 ^ k % 8 = R
  have HR : Hid (m / 8 ^ k % 8 = R) := hR
  clear hR
  go_enter Tryd.func20, Tryd.ntmps20
  go_wp2
  go_loop [0, 5] (fun x i => ∃ j : Nat, j ≤ k ∧ i = .int .i64 (j : Int) ∧ x = .int .i64 ((m / 8 ^ j : Nat) : Int)) (fun _ i => 3 - (intOf i).toNat)
  case atStart => exact ⟨0, by omega, rfl, by simp⟩
  case round =>
    obtain ⟨j, hj, rfl, rfl⟩ := hrel
    have hq : m / 8 ^ j ≤ m := Nat.div_le_self _ _
    have HM : Hid (((m / 8 ^ j : Nat) : Int) / 8 = ((m / 8 ^ (j + 1) : Nat) : Int)) := by
      show ((m / 8 ^ j : Nat) : Int) / 8 = ((m / 8 ^ (j + 1) : Nat) : Int)
      rw [Nat.pow_succ, ← Nat.div_div_eq_div_mul]
      omega
    by_cases hlt : j < k
    · generalize hy : m / 8 ^ j = y at hq HM
      clear hy
      go_wp2
      rw [HM.out]
      refine ⟨⟨j + 1, by omega, rfl, rfl⟩, ?_⟩
      simp only [intOf]
      omega
    · obtain rfl : j = k := by omega
      generalize m / 8 ^ j = y at hq HM HR
      have HC : Hid ((y : Int) % 8 = (R : Int)) := by have := HR.out; show (y : Int) % 8 = (R : Int); omega
      go_wp2
      go_ret
      exact ⟨by rw [HC.out]; rfl, rfl⟩

set_option maxHeartbeats 2000000 in
theorem rmay_any (m t : Nat) (o s wh h : Int) (w : World) (hm : m < 512) (ht : t < 8) :
    Calls Tryd.prog 7 #[.int .i64 (m : Int), .int .i64 o, .int .i64 s, .int .i64 wh, .int .i64 h, .int .i64 (t : Int)] w fun e w' => e = .returned (.bool (mayR (m : Int) o s wh h (t : Int))) ∧ w = w' := by
  have HD : Hid (∀ (k : Nat) w, k ≤ 2 → Calls Tryd.prog 20 #[.int .i64 (m : Int), .int .i64 (k : Int)] w fun e w' => e = .returned (.int .i64 ((m / 8 ^ k % 8 : Nat) : Int)) ∧ w = w') := fun k w h => digit_any m k w hm h
  have HB : Hid (∀ (b : Nat) w, b < 8 → Calls Tryd.prog 19 #[.int .i64 (t : Int), .int .i64 (b : Int)] w fun e w' => e = .returned (.bool (decide (an t b = 0))) ∧ w = w') := fun b w h => bits_any t b w ht h
  unfold mayR
  rw [Int.toNat_natCast, Int.toNat_natCast]
  by_cases h0 : wh = 0
  · rw [decide_eq_true h0, Bool.true_or]
    have hb : (wh == 0) = true := by simp [h0]
    clear h0
    go_enter Tryd.func7, Tryd.ntmps7
    go_wp2
    go_ret
    exact ⟨rfl, rfl⟩
  · rw [decide_eq_false h0, Bool.false_or]
    have hb : (wh == 0) = false := by simp [h0]
    by_cases h1 : wh = o
    · rw [decide_eq_true h1, show bf m true (decide (h = s)) = m / 8 ^ 2 % 8 by show m / 64 = m / 64 % 8; omega]
      have hb1 : (wh == o) = true := by simp [h1]
      clear h0 h1
      have HL : Hid (m / 8 ^ 2 % 8 < 8) := Nat.mod_lt _ (by decide)
      have HD0 : Hid _ := fun (w : World) => HD.out 2 w (by decide)
      generalize m / 8 ^ 2 % 8 = B at HL HD0 ⊢
      go_enter Tryd.func7, Tryd.ntmps7
      go_wp2_with fail
      refine (HD0.out _).mono ?_
      rintro e w' ⟨rfl, rfl⟩
      go_wp2_with fail
      refine (HB.out B _ HL.out).mono ?_
      rintro e w' ⟨rfl, rfl⟩
      go_wp2
      go_ret
      exact ⟨rfl, rfl⟩
    · rw [decide_eq_false h1]
      have hb1 : (wh == o) = false := by simp [h1]
      by_cases h2 : h = s
      · rw [decide_eq_true h2, show bf m false true = m / 8 ^ 1 % 8 from rfl]
        have hb2 : (h == s) = true := by simp [h2]
        clear h0 h1 h2
        have HL : Hid (m / 8 ^ 1 % 8 < 8) := Nat.mod_lt _ (by decide)
        have HD0 : Hid _ := fun (w : World) => HD.out 1 w (by decide)
        generalize m / 8 ^ 1 % 8 = B at HL HD0 ⊢
        go_enter Tryd.func7, Tryd.ntmps7
        go_wp2_with fail
        refine (HD0.out _).mono ?_
        rintro e w' ⟨rfl, rfl⟩
        go_wp2_with fail
        refine (HB.out B _ HL.out).mono ?_
        rintro e w' ⟨rfl, rfl⟩
        go_wp2
        go_ret
        exact ⟨rfl, rfl⟩
      · rw [decide_eq_false h2, show bf m false false = m / 8 ^ 0 % 8 by show m % 8 = m / 1 % 8; rw [Nat.div_one]]
        have hb2 : (h == s) = false := by simp [h2]
        clear h0 h1 h2
        have HL : Hid (m / 8 ^ 0 % 8 < 8) := Nat.mod_lt _ (by decide)
        have HD0 : Hid _ := fun (w : World) => HD.out 0 w (by decide)
        generalize m / 8 ^ 0 % 8 = B at HL HD0 ⊢
        go_enter Tryd.func7, Tryd.ntmps7
        go_wp2_with fail
        refine (HD0.out _).mono ?_
        rintro e w' ⟨rfl, rfl⟩
        go_wp2_with fail
        refine (HB.out B _ HL.out).mono ?_
        rintro e w' ⟨rfl, rfl⟩
        go_wp2
        go_ret
        exact ⟨rfl, rfl⟩

theorem lsTo_lt (a b : Nat) : ∀ k, lsTo a b k < 2 ^ k
  | 0 => by simp [lsTo]
  | k + 1 => by
    have ih := lsTo_lt a b k
    rw [Nat.pow_succ, lsTo]
    split <;> omega

set_option maxRecDepth 20000 in
set_option maxHeartbeats 2000000 in
theorem less_any (a b : Nat) (w : World) (ha : a < 512) (hb : b < 512) :
    Calls Tryd.prog 8 #[.int .i64 (a : Int), .int .i64 (b : Int)] w fun e w' => e = .returned (.int .i64 ((an a b : Nat) : Int)) ∧ w = w' := by
  rw [← lsTo_nine ha hb]
  go_enter Tryd.func8, Tryd.ntmps8
  go_wp2
  go_loop [5, 6] (fun x p => ∃ k : Nat, k ≤ 9 ∧ p = .int .i64 ((2 ^ k : Nat) : Int) ∧ x = .int .i64 ((lsTo a b k : Nat) : Int)) (fun _ p => 512 - (intOf p).toNat)
  case atStart => exact ⟨0, by omega, rfl, rfl⟩
  case round =>
    obtain ⟨k, hk, rfl, rfl⟩ := hrel
    by_cases hlt : k < 9
    · have hp : 2 ^ k ≤ 256 := Nat.pow_le_pow_right (n := 2) (i := k) (j := 8) (by decide) (by omega)
      have hp1 : 1 ≤ 2 ^ k := Nat.two_pow_pos k
      have hl := lsTo_lt a b k
      have HS : Hid (lsTo a b (k + 1) = if a / 2 ^ k % 2 = 1 ∧ b / 2 ^ k % 2 = 0 then lsTo a b k + 2 ^ k else lsTo a b k) := rfl
      have HP : Hid (2 ^ (k + 1) = 2 ^ k * 2) := Nat.pow_succ _ _
      have qa : (a : Int) / ((2 ^ k : Nat) : Int) = ((a / 2 ^ k : Nat) : Int) := by simp
      have qb : (b : Int) / ((2 ^ k : Nat) : Int) = ((b / 2 ^ k : Nat) : Int) := by simp
      have la : a / 2 ^ k ≤ a := Nat.div_le_self _ _
      have lb : b / 2 ^ k ≤ b := Nat.div_le_self _ _
      generalize lsTo a b k = X at hl HS ⊢
      generalize 2 ^ k = P at hp hp1 hl HS HP qa qb la lb ⊢
      generalize a / P = A at HS qa la
      generalize b / P = B at HS qb lb
      have hE : (((P * 2 : Nat) : Int)) = (P : Int) * 2 := by omega
      have HE : Hid ((((P * 2 : Nat) : Int)) = (P : Int) * 2) := hE
      clear hE
      by_cases ca : A % 2 = 1
      · have fa : ((A : Int) % 2 == 1) = true := by simp only [beq_iff_eq]; omega
        by_cases cb : B % 2 = 0
        · have fb : ((B : Int) % 2 == 0) = true := by simp only [beq_iff_eq]; omega
          have HY : Hid (lsTo a b (k + 1) = X + P) := by show lsTo a b (k + 1) = X + P; rw [HS.out, if_pos ⟨ca, cb⟩]
          clear ca cb HS
          go_wp2
          refine ⟨⟨k + 1, by omega, by rw [HP.out, HE.out], by rw [HY.out]; congr 1⟩, ?_⟩
          simp only [intOf]
          omega
        · have fb : ((B : Int) % 2 == 0) = false := by simp only [beq_eq_false_iff_ne, ne_eq]; omega
          have HY : Hid (lsTo a b (k + 1) = X) := by show lsTo a b (k + 1) = X; rw [HS.out, if_neg (fun h => cb h.2)]
          clear ca cb HS
          go_wp2
          refine ⟨⟨k + 1, by omega, by rw [HP.out, HE.out], by rw [HY.out]⟩, ?_⟩
          simp only [intOf]
          omega
      · have fa : ((A : Int) % 2 == 1) = false := by simp only [beq_eq_false_iff_ne, ne_eq]; omega
        have HY : Hid (lsTo a b (k + 1) = X) := by show lsTo a b (k + 1) = X; rw [HS.out, if_neg (fun h => ca h.1)]
        clear ca HS
        go_wp2
        refine ⟨⟨k + 1, by omega, by rw [HP.out, HE.out], by rw [HY.out]⟩, ?_⟩
        simp only [intOf]
        omega
    · obtain rfl : k = 9 := by omega
      go_wp2
      go_ret
      exact ⟨rfl, rfl⟩

end Go.Proofs.YtnhjigdlaefdaaaDoor
