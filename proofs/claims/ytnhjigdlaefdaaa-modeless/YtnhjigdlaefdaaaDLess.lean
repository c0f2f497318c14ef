/- This text proves what the law ModeLess answers: true, for any numbers; no memory that was there is written; no condition. -/
import Derived.Test.YtnhjigdlaefdaaaD6
import Derived.Test.YtnhjigdlaefdaaaD7
import Derived.Test.YtnhjigdlaefdaaaIn2
namespace Go.Proofs.Ytnhjigdlaefdaaa
open Go.RowKit Go.Deep

/-- What is wrong does not hang on what is wanted, if that is of three bits. -/
theorem mayE_part (m o s wh h : Int) {t p : Int} (ht : okT t = true) (hp : okT p = true) : mayE m o s wh h p = mayE m o s wh h t := by unfold mayE; rw [ht, hp]
/-- Who may do all may do a part. -/
theorem mayB_part (m o s wh h : Int) {t p : Nat} (ht : t < 8) (hp : p < 8) (hb : an p t = 0) (ha : mayB m o s wh h (t : Int) = true) : mayB m o s wh h (p : Int) = true := by
  have e := mayE_part m o s wh h (t := (t : Int)) (p := (p : Int)) (by simp [okT]; omega) (by simp [okT]; omega)
  unfold mayB at ha ⊢
  rw [e]
  by_cases h0 : mayE m o s wh h (t : Int) = 0
  · rw [if_pos h0] at ha ⊢
    have hm : okM m = true := by
      unfold mayE at h0
      cases hk : okM m
      · rw [hk] at h0; simp at h0
      · rfl
    simp only [okM, decide_eq_true_iff] at hm
    unfold mayR at ha ⊢
    rw [Bool.or_eq_true, decide_eq_true_iff, decide_eq_true_iff] at ha ⊢
    rcases ha with ha | ha
    · exact .inl ha
    · exact .inr (may_part (bf_lt (by omega) _ _) ht hp ha hb)
  · rw [if_neg h0] at ha
    cases ha

theorem okT_form {t : Int} (h : okT t = true) : ∃ T : Nat, t = T ∧ T < 8 := by
  simp only [okT, decide_eq_true_iff] at h
  exact ⟨t.toNat, by omega, by omega⟩

theorem mayE_two (m o s wh h t : Int) : mayE m o s wh h t = 0 ∨ mayE m o s wh h t = 1 := by
  unfold mayE; split
  · exact .inl rfl
  · exact .inr rfl

set_option maxHeartbeats 4000000 in
theorem modeLess_any (w : World) (m o s wh h t p : Int) :
    Calls Try.prog 5 #[.int .i64 m, .int .i64 o, .int .i64 s, .int .i64 wh, .int .i64 h, .int .i64 t, .int .i64 p] w fun e w' => e = .returned (.bool true) ∧ Below w.heap.size w w' := by
  have HF : Hid _ := fun (w : World) => fact_any w
  have HP : Hid (∀ w, Calls Try.prog 9 #[.int .i64 p, .int .i64 0, .int .i64 7] w fun e w' => e = .returned (.bool (okT p)) ∧ w = w') := fun w => in_any p 0 7 w
  have HT : Hid (∀ w, Calls Try.prog 9 #[.int .i64 t, .int .i64 0, .int .i64 7] w fun e w' => e = .returned (.bool (okT t)) ∧ w = w') := fun w => in_any t 0 7 w
  cases hp : okT p
  · rw [hp] at HP
    clear hp
    go_enter Try.func5, Try.ntmps5
    go_wp2_with fail
    refine (HF.out _).mono ?_
    rintro e w1 ⟨rfl, hb1⟩
    go_wp2_with fail
    refine (HP.out _).mono ?_
    rintro e w2 ⟨rfl, rfl⟩
    go_wp2
    go_ret
    exact ⟨rfl, hb1⟩
  · rw [hp] at HP
    cases ht : okT t
    · rw [ht] at HT
      clear hp ht
      go_enter Try.func5, Try.ntmps5
      go_wp2_with fail
      refine (HF.out _).mono ?_
      rintro e w1 ⟨rfl, hb1⟩
      go_wp2_with fail
      refine (HP.out _).mono ?_
      rintro e w2 ⟨rfl, rfl⟩
      go_wp2_with fail
      refine (HT.out _).mono ?_
      rintro e w2 ⟨rfl, rfl⟩
      go_wp2
      go_ret
      exact ⟨rfl, hb1⟩
    · rw [ht] at HT
      have hE := mayE_part m o s wh h ht hp
      obtain ⟨T, rfl, hT⟩ := okT_form ht
      obtain ⟨P, rfl, hP⟩ := okT_form hp
      have HA : Hid _ := fun (w : World) => may_any m o s wh h (T : Int) w
      have HS : Hid _ := fun (w : World) => may_any m o s wh h (P : Int) w
      have HB : Hid _ := fun (w : World) => bits_any P T w hP hT
      have hi := fun hb => mayB_part m o s wh h hT hP hb
      rw [hE] at HS
      generalize mayB m o s wh h (T : Int) = A at HA hi
      generalize mayB m o s wh h (P : Int) = S at HS hi
      clear hp ht hE
      rcases mayE_two m o s wh h (T : Int) with h0 | h0
      · rw [h0, errV_zero] at HA HS
        clear h0
        by_cases hb : an P T = 0
        · rw [decide_eq_true hb] at HB
          cases A
          · clear hi hb
            go_enter Try.func5, Try.ntmps5
            go_wp2_with fail
            refine (HF.out _).mono ?_
            rintro e w1 ⟨rfl, hb1⟩
            go_wp2_with fail
            refine (HP.out _).mono ?_
            rintro e w2 ⟨rfl, rfl⟩
            go_wp2_with fail
            refine (HT.out _).mono ?_
            rintro e w2 ⟨rfl, rfl⟩
            go_wp2_with fail
            refine (HA.out _).mono ?_
            rintro e w3 ⟨rfl, hb3⟩
            go_wp2_with fail
            refine (HS.out _).mono ?_
            rintro e w4 ⟨rfl, hb4⟩
            go_wp2_with fail
            refine (HB.out _).mono ?_
            rintro e w5 ⟨rfl, rfl⟩
            go_wp2
            go_ret
            exact ⟨rfl, Below.next hb1 (Below.next hb3 hb4)⟩
          · obtain rfl := hi hb rfl
            clear hi hb
            go_enter Try.func5, Try.ntmps5
            go_wp2_with fail
            refine (HF.out _).mono ?_
            rintro e w1 ⟨rfl, hb1⟩
            go_wp2_with fail
            refine (HP.out _).mono ?_
            rintro e w2 ⟨rfl, rfl⟩
            go_wp2_with fail
            refine (HT.out _).mono ?_
            rintro e w2 ⟨rfl, rfl⟩
            go_wp2_with fail
            refine (HA.out _).mono ?_
            rintro e w3 ⟨rfl, hb3⟩
            go_wp2_with fail
            refine (HS.out _).mono ?_
            rintro e w4 ⟨rfl, hb4⟩
            go_wp2_with fail
            refine (HB.out _).mono ?_
            rintro e w5 ⟨rfl, rfl⟩
            go_wp2
            go_ret
            exact ⟨rfl, Below.next hb1 (Below.next hb3 hb4)⟩
        · rw [decide_eq_false hb] at HB
          clear hi hb
          go_enter Try.func5, Try.ntmps5
          go_wp2_with fail
          refine (HF.out _).mono ?_
          rintro e w1 ⟨rfl, hb1⟩
          go_wp2_with fail
          refine (HP.out _).mono ?_
          rintro e w2 ⟨rfl, rfl⟩
          go_wp2_with fail
          refine (HT.out _).mono ?_
          rintro e w2 ⟨rfl, rfl⟩
          go_wp2_with fail
          refine (HA.out _).mono ?_
          rintro e w3 ⟨rfl, hb3⟩
          go_wp2_with fail
          refine (HS.out _).mono ?_
          rintro e w4 ⟨rfl, hb4⟩
          go_wp2_with fail
          refine (HB.out _).mono ?_
          rintro e w5 ⟨rfl, rfl⟩
          go_wp2
          go_ret
          exact ⟨rfl, Below.next hb1 (Below.next hb3 hb4)⟩
      · rw [h0, errV_pos (by decide)] at HA HS
        clear h0 hi HB
        go_enter Try.func5, Try.ntmps5
        go_wp2_with fail
        refine (HF.out _).mono ?_
        rintro e w1 ⟨rfl, hb1⟩
        go_wp2_with fail
        refine (HP.out _).mono ?_
        rintro e w2 ⟨rfl, rfl⟩
        go_wp2_with fail
        refine (HT.out _).mono ?_
        rintro e w2 ⟨rfl, rfl⟩
        go_wp2_with fail
        refine (HA.out _).mono ?_
        rintro e w3 ⟨rfl, hb3⟩
        go_wp2_with fail
        refine (HS.out _).mono ?_
        rintro e w4 ⟨rfl, hb4⟩
        go_wp2
        go_ret
        exact ⟨rfl, Below.next hb1 (Below.next hb3 hb4)⟩

end Go.Proofs.Ytnhjigdlaefdaaa
