/- This text proves what mode.May answers of any numbers; no memory that was there is written; no condition. -/
import Derived.Test.YtigoacnbbichoaaDoorD2r
namespace Go.Proofs.YtigoacnbbichoaaDoor
open Go.RowKit Go.Deep

theorem who_lit (w : World) (o s wh h : Int) : SliceIs (w.alloc (.cells #[.int .i64 o, .int .i64 s, .int .i64 wh, .int .i64 h] 3)) (.slice (some ⟨w.heap.size, 0, none⟩) 4 4) [o, s, wh, h] :=
  ints_lit w [o, s, wh, h] (by show 4 ≤ maxLen; decide) 4

theorem mayE_of (m o s wh h t : Int) : mayE m o s wh h t = if okM m && allW [o, s, wh, h] && okT t then 0 else 1 := by
  unfold mayE allW
  simp only [List.all_cons, List.all_nil, Bool.and_true, Bool.and_assoc]

set_option maxHeartbeats 4000000 in
theorem may_any (m o s wh h t : Int) (w : World) :
    Calls Tryd.prog 17 #[.int .i64 m, .int .i64 o, .int .i64 s, .int .i64 wh, .int .i64 h, .int .i64 t] w fun e w' =>
      e = .returned (.tuple #[.bool (mayB m o s wh h t), errV (mayE m o s wh h t)]) ∧ Below w.heap.size w w' := by
  have HM : Hid (∀ w, Calls Tryd.prog 27 #[.int .i64 m] w fun e w' => e = .returned (.bool (okM m)) ∧ w = w') := fun w => isMode_any m w
  have HW : Hid (∀ w v, SliceIs w v [o, s, wh, h] → Calls Tryd.prog 28 #[v] w fun e w' => e = .returned (.bool (allW [o, s, wh, h])) ∧ w = w') := fun w v hv => areWho_any w v _ hv
  have HT : Hid (∀ w, Calls Tryd.prog 29 #[.int .i64 t, .int .i64 7] w fun e w' => e = .returned (.bool (okT t)) ∧ w = w') := fun w => within_any t 7 w
  have HL : Hid (∀ w : World, SliceIs (w.alloc (.cells #[.int .i64 o, .int .i64 s, .int .i64 wh, .int .i64 h] 3)) (.slice (some ⟨w.heap.size, 0, none⟩) 4 4) [o, s, wh, h]) := fun w => who_lit w o s wh h
  have HB : Hid (∀ o : Obj, Below w.heap.size w (w.alloc o)) := fun o => below_alloc w o
  cases hm : okM m
  · have e1 : mayE m o s wh h t = 1 := by rw [mayE_of]; simp [hm]
    have e2 : mayB m o s wh h t = false := by simp [mayB, e1]
    rw [e1, e2]
    rw [hm] at HM
    clear hm e1 e2
    go_enter Tryd.func17, Tryd.ntmps17
    go_wp2_with fail
    refine (HM.out _).mono ?_
    rintro e w' ⟨rfl, rfl⟩
    go_wp2
    go_ret2
    exact ⟨rfl, Below.refl _ _⟩
  · rw [hm] at HM
    cases hw : allW [o, s, wh, h]
    · have e1 : mayE m o s wh h t = 1 := by rw [mayE_of]; simp [hw]
      have e2 : mayB m o s wh h t = false := by simp [mayB, e1]
      rw [e1, e2]
      rw [hw] at HW
      clear hm hw e1 e2
      go_enter Tryd.func17, Tryd.ntmps17
      go_wp2_with fail
      refine (HM.out _).mono ?_
      rintro e w' ⟨rfl, rfl⟩
      go_wp2_with fail
      refine (HW.out _ _ (HL.out _)).mono ?_
      rintro e w' ⟨rfl, rfl⟩
      go_wp2
      go_ret2
      exact ⟨rfl, HB.out _⟩
    · rw [hw] at HW
      cases ht : okT t
      · have e1 : mayE m o s wh h t = 1 := by rw [mayE_of]; simp [ht]
        have e2 : mayB m o s wh h t = false := by simp [mayB, e1]
        rw [e1, e2]
        rw [ht] at HT
        clear hm hw ht e1 e2
        go_enter Tryd.func17, Tryd.ntmps17
        go_wp2_with fail
        refine (HM.out _).mono ?_
        rintro e w' ⟨rfl, rfl⟩
        go_wp2_with fail
        refine (HW.out _ _ (HL.out _)).mono ?_
        rintro e w' ⟨rfl, rfl⟩
        go_wp2_with fail
        refine (HT.out _).mono ?_
        rintro e w' ⟨rfl, rfl⟩
        go_wp2
        go_ret2
        exact ⟨rfl, HB.out _⟩
      · have e1 : mayE m o s wh h t = 0 := by rw [mayE_of]; simp [hm, hw, ht]
        have e2 : mayB m o s wh h t = mayR m o s wh h t := by simp [mayB, e1]
        rw [e1, e2]
        rw [ht] at HT
        simp only [okM, okT, decide_eq_true_iff] at hm ht
        clear hw e1 e2
        obtain ⟨M, rfl⟩ : ∃ M : Nat, m = M := ⟨m.toNat, by omega⟩
        obtain ⟨T, rfl⟩ : ∃ T : Nat, t = T := ⟨t.toNat, by omega⟩
        by_cases hz : wh = 0
        · have HR : Hid (mayR (M : Int) o s wh h (T : Int) = true) := by show mayR (M : Int) o s wh h (T : Int) = true; simp [mayR, hz]
          have hzb : (wh == 0) = true := by simp [hz]
          clear hz
          generalize mayR (M : Int) o s wh h (T : Int) = R at HR ⊢
          go_enter Tryd.func17, Tryd.ntmps17
          go_wp2_with fail
          refine (HM.out _).mono ?_
          rintro e w' ⟨rfl, rfl⟩
          go_wp2_with fail
          refine (HW.out _ _ (HL.out _)).mono ?_
          rintro e w' ⟨rfl, rfl⟩
          go_wp2_with fail
          refine (HT.out _).mono ?_
          rintro e w' ⟨rfl, rfl⟩
          go_wp2
          go_ret2
          exact ⟨by rw [HR.out]; rfl, HB.out _⟩
        · have HR : Hid (mayR (M : Int) o s wh h (T : Int) = ((an T (bf M (wh == o) (h == s)) : Int) == 0)) := by
            show mayR (M : Int) o s wh h (T : Int) = ((an T (bf M (wh == o) (h == s)) : Int) == 0)
            unfold mayR
            rw [decide_eq_false hz, Bool.false_or]
            simp only [Int.toNat_natCast]
            rw [Bool.eq_iff_iff]
            simp only [decide_eq_true_iff, beq_iff_eq]
            rw [show decide (wh = o) = (wh == o) from rfl, show decide (h = s) = (h == s) from rfl]
            omega
          have HF : Hid (∀ w, Calls Tryd.prog 30 #[.int .i64 (M : Int), .bool (wh == o), .bool (h == s)] w fun e w' => e = .returned (.int .i64 ((bf M (wh == o) (h == s) : Nat) : Int)) ∧ w = w') := fun w => bitsFor_any M _ _ w (by omega)
          have hb8 := bf_lt (m := M) (by omega) (wh == o) (h == s)
          have hx := andNot_nat (p := T) (q := bf M (wh == o) (h == s)) (by omega) (by omega)
          have hzb : (wh == 0) = false := by simp [hz]
          clear hz
          generalize mayR (M : Int) o s wh h (T : Int) = R at HR ⊢
          generalize hbo : (wh == o) = bo at HR HF hb8 hx
          generalize hbs : (h == s) = bs at HR HF hb8 hx
          generalize bf M bo bs = B at HR HF hb8 hx
          generalize an T B = N at HR hx
          generalize hq : ((N : Int) == 0) = Q at HR
          go_enter Tryd.func17, Tryd.ntmps17
          go_wp2_with fail
          refine (HM.out _).mono ?_
          rintro e w' ⟨rfl, rfl⟩
          go_wp2_with fail
          refine (HW.out _ _ (HL.out _)).mono ?_
          rintro e w' ⟨rfl, rfl⟩
          go_wp2_with fail
          refine (HT.out _).mono ?_
          rintro e w' ⟨rfl, rfl⟩
          go_wp2_with fail
          refine (HF.out _).mono ?_
          rintro e w' ⟨rfl, rfl⟩
          go_wp2
          go_ret2
          exact ⟨by rw [HR.out]; rfl, HB.out _⟩

end Go.Proofs.YtigoacnbbichoaaDoor
