/- This text proves what the law ModeMask answers: true, for any numbers; no memory that was there is written; no condition. -/
import Derived.Test.YtnhjigdlaefdaaaD6
import Derived.Test.YtnhjigdlaefdaaaIn2
namespace Go.Proofs.Ytnhjigdlaefdaaa
open Go.RowKit Go.Deep

theorem okM_form {m : Int} (h : okM m = true) : ∃ M : Nat, m = M ∧ M < 512 := by
  simp only [okM, decide_eq_true_iff] at h
  exact ⟨m.toNat, by omega, by omega⟩
theorem okM_nat {m : Nat} (h : m < 512) : okM (m : Int) = true := by simp only [okM, decide_eq_true_iff]; omega

theorem new_ok {a b : Nat} (ha : a < 512) (hb : b < 512) : newE (a : Int) (b : Int) = 0 ∧ newN (a : Int) (b : Int) = an a b := by
  have e : newE (a : Int) (b : Int) = 0 := by unfold newE; rw [okM_nat ha, okM_nat hb]; rfl
  exact ⟨e, by unfold newN; rw [if_pos e]; rfl⟩
theorem new_bad {a b : Int} (h : okM a = false ∨ okM b = false) : newE a b = 1 := by
  unfold newE
  rcases h with h | h <;> rw [h] <;> simp

theorem mayE_mask {m n : Nat} (hm : m < 512) (hn : n < 512) (o s wh h t : Int) : mayE (n : Int) o s wh h t = mayE (m : Int) o s wh h t := by
  unfold mayE; rw [okM_nat hm, okM_nat hn]
theorem okT_of {m o s wh h t : Int} (h0 : mayE m o s wh h t = 0) : okT t = true := by
  unfold mayE at h0
  cases hk : okT t
  · rw [hk] at h0; simp at h0
  · rfl
theorem mayB_mask {m k : Nat} (hm : m < 512) (hk : k < 512) (o s wh h t : Int) (ha : mayB (an m k : Nat) o s wh h t = true) : mayB (m : Int) o s wh h t = true := by
  have hn : an m k < 512 := Nat.lt_of_le_of_lt (an_le _ _) hm
  unfold mayB at ha ⊢
  rw [mayE_mask hm hn] at ha
  by_cases h0 : mayE (m : Int) o s wh h t = 0
  · rw [if_pos h0] at ha ⊢
    have ht := okT_of h0
    simp only [okT, decide_eq_true_iff] at ht
    unfold mayR at ha ⊢
    rw [Bool.or_eq_true, decide_eq_true_iff, decide_eq_true_iff] at ha ⊢
    rcases ha with ha | ha
    · exact .inl ha
    · exact .inr (may_mask hm hk (by omega) _ _ ha)
  · rw [if_neg h0] at ha
    cases ha
theorem mayB_root {m o s h t : Int} (h0 : mayE m o s 0 h t = 0) : mayB m o s 0 h t = true := by
  unfold mayB mayR; rw [if_pos h0]; rfl
theorem mayE_two' (m o s wh h t : Int) : mayE m o s wh h t = 0 ∨ mayE m o s wh h t = 1 := by
  unfold mayE; split
  · exact .inl rfl
  · exact .inr rfl

set_option maxHeartbeats 4000000 in
theorem modeMask_any (w : World) (m k o s wh h t : Int) :
    Calls Try.prog 4 #[.int .i64 m, .int .i64 k, .int .i64 o, .int .i64 s, .int .i64 wh, .int .i64 h, .int .i64 t] w fun e w' => e = .returned (.bool true) ∧ Below w.heap.size w w' := by
  have HF : Hid _ := fun (w : World) => fact_any w
  have HM : Hid (∀ w, Calls Try.prog 9 #[.int .i64 m, .int .i64 0, .int .i64 511] w fun e w' => e = .returned (.bool (okM m)) ∧ w = w') := fun w => in_any m 0 511 w
  have HK : Hid (∀ w, Calls Try.prog 9 #[.int .i64 k, .int .i64 0, .int .i64 511] w fun e w' => e = .returned (.bool (okM k)) ∧ w = w') := fun w => in_any k 0 511 w
  have HN : Hid _ := fun (w : World) => new_any m k w
  cases hm : okM m
  · rw [hm] at HM
    rw [new_bad (.inl hm), errV_pos (by decide)] at HN
    clear hm
    go_enter Try.func4, Try.ntmps4
    go_wp2_with fail
    refine (HF.out _).mono ?_
    rintro e w1 ⟨rfl, hb1⟩
    go_wp2_with fail
    refine (HN.out _).mono ?_
    rintro e w2 ⟨rfl, rfl⟩
    go_wp2_with fail
    refine (HM.out _).mono ?_
    rintro e w2 ⟨rfl, rfl⟩
    go_wp2
    go_ret
    exact ⟨rfl, hb1⟩
  · rw [hm] at HM
    cases hk : okM k
    · rw [hk] at HK
      rw [new_bad (.inr hk), errV_pos (by decide)] at HN
      clear hm hk
      go_enter Try.func4, Try.ntmps4
      go_wp2_with fail
      refine (HF.out _).mono ?_
      rintro e w1 ⟨rfl, hb1⟩
      go_wp2_with fail
      refine (HN.out _).mono ?_
      rintro e w2 ⟨rfl, rfl⟩
      go_wp2_with fail
      refine (HM.out _).mono ?_
      rintro e w2 ⟨rfl, rfl⟩
      go_wp2_with fail
      refine (HK.out _).mono ?_
      rintro e w2 ⟨rfl, rfl⟩
      go_wp2
      go_ret
      exact ⟨rfl, hb1⟩
    · obtain ⟨M, rfl, hM⟩ := okM_form hm
      obtain ⟨K, rfl, hK⟩ := okM_form hk
      have hA : an M K < 512 := Nat.lt_of_le_of_lt (an_le _ _) hM
      have hle := an_le M K
      have HA : Hid _ := fun (w : World) => new_any (an M K : Nat) (K : Int) w
      rw [(new_ok hA hK).1, (new_ok hA hK).2, an_again (by omega) (by omega), errV_zero] at HA
      rw [(new_ok hM hK).1, (new_ok hM hK).2, errV_zero] at HN
      have HW : Hid _ := fun (w : World) => may_any (M : Int) o s wh h t w
      have HI : Hid _ := fun (w : World) => may_any ((an M K : Nat) : Int) o s wh h t w
      rw [mayE_mask hM hA] at HI
      have hi := mayB_mask hM hK o s wh h t
      have hr : wh = 0 → mayE (M : Int) o s wh h t = 0 → mayB ((an M K : Nat) : Int) o s wh h t = true := by
        intro hz h0
        subst hz
        exact mayB_root (by rw [mayE_mask hM hA]; exact h0)
      clear hm hk HM HK
      generalize mayB (M : Int) o s wh h t = B at HW hi
      generalize mayB ((an M K : Nat) : Int) o s wh h t = I at HI hi hr
      generalize an M K = Q at HA HN HI hA hle
      rcases mayE_two' (M : Int) o s wh h t with h0 | h0
      · have hz := fun z => hr z h0
        rw [h0, errV_zero] at HW HI
        clear hr h0
        cases I
        · have hzb : ¬ wh = 0 := fun z => by cases hz z
          clear hz hi
          go_enter Try.func4, Try.ntmps4
          go_wp2_with fail
          refine (HF.out _).mono ?_
          rintro e w1 ⟨rfl, hb1⟩
          go_wp2_with fail
          refine (HN.out _).mono ?_
          rintro e w2 ⟨rfl, rfl⟩
          go_wp2_with fail
          refine (HA.out _).mono ?_
          rintro e w2 ⟨rfl, rfl⟩
          go_wp2_with fail
          refine (HW.out _).mono ?_
          rintro e w3 ⟨rfl, hb3⟩
          go_wp2_with fail
          refine (HI.out _).mono ?_
          rintro e w4 ⟨rfl, hb4⟩
          go_wp2
          go_ret
          exact ⟨rfl, Below.next hb1 (Below.next hb3 hb4)⟩
        · obtain rfl := hi rfl
          clear hz hi
          go_enter Try.func4, Try.ntmps4
          go_wp2_with fail
          refine (HF.out _).mono ?_
          rintro e w1 ⟨rfl, hb1⟩
          go_wp2_with fail
          refine (HN.out _).mono ?_
          rintro e w2 ⟨rfl, rfl⟩
          go_wp2_with fail
          refine (HA.out _).mono ?_
          rintro e w2 ⟨rfl, rfl⟩
          go_wp2_with fail
          refine (HW.out _).mono ?_
          rintro e w3 ⟨rfl, hb3⟩
          go_wp2_with fail
          refine (HI.out _).mono ?_
          rintro e w4 ⟨rfl, hb4⟩
          go_wp2
          · go_ret
            exact ⟨rfl, Below.next hb1 (Below.next hb3 hb4)⟩
          · go_ret
            exact ⟨rfl, Below.next hb1 (Below.next hb3 hb4)⟩
      · rw [h0, errV_pos (by decide)] at HW HI
        clear h0 hi hr
        go_enter Try.func4, Try.ntmps4
        go_wp2_with fail
        refine (HF.out _).mono ?_
        rintro e w1 ⟨rfl, hb1⟩
        go_wp2_with fail
        refine (HN.out _).mono ?_
        rintro e w2 ⟨rfl, rfl⟩
        go_wp2_with fail
        refine (HA.out _).mono ?_
        rintro e w2 ⟨rfl, rfl⟩
        go_wp2_with fail
        refine (HW.out _).mono ?_
        rintro e w3 ⟨rfl, hb3⟩
        go_wp2_with fail
        refine (HI.out _).mono ?_
        rintro e w4 ⟨rfl, hb4⟩
        go_wp2
        go_ret
        exact ⟨rfl, Below.next hb1 (Below.next hb3 hb4)⟩

end Go.Proofs.Ytnhjigdlaefdaaa
