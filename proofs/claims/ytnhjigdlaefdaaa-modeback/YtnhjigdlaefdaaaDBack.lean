/- This text proves what the law ModeBack answers: true, for any number and any text; no memory that was there is written; no condition. -/
import Derived.Test.YtnhjigdlaefdaaaD5
import Derived.Test.YtnhjigdlaefdaaaD6
import Derived.Test.YtnhjigdlaefdaaaIn2
namespace Go.Proofs.Ytnhjigdlaefdaaa
open Go.RowKit Go.Deep

theorem text_data (s : ByteArray) : (⟨s.data.toList.toArray⟩ : ByteArray) = s := by cases s; rfl
theorem sh_ok {m : Nat} (h : m < 512) : shE (m : Int) = 0 ∧ shT (m : Int) = ⟨(lets m).toArray⟩ := by
  have e : shE (m : Int) = 0 := by unfold shE okM; rw [decide_eq_true (by omega)]; rfl
  exact ⟨e, by unfold shT; rw [if_pos e]; rfl⟩
theorem sh_bad {m : Int} (h : okM m = false) : shE m = 1 := by unfold shE; rw [h]; rfl
theorem rdM_bad {l : List UInt8} (h : rdE l ≠ 0) : rdM l = 0 := by unfold rdM; rw [if_neg h]

set_option maxHeartbeats 4000000 in
theorem modeBack_any (w : World) (m : Int) (s : ByteArray) :
    Calls Try.prog 3 #[.int .i64 m, .string s] w fun e w' => e = .returned (.bool true) ∧ Below w.heap.size w w' := by
  have HF : Hid _ := fun (w : World) => fact_any w
  have HS : Hid _ := fun (w : World) => show_any m w
  have HR : Hid _ := fun (w : World) => read_any s w
  have HI : Hid (∀ w, Calls Try.prog 9 #[.int .i64 m, .int .i64 0, .int .i64 511] w fun e w' => e = .returned (.bool (okM m)) ∧ w = w') := fun w => in_any m 0 511 w
  cases hm : okM m
  · rw [hm] at HI
    rw [sh_bad hm, errV_pos (by decide)] at HS
    generalize shT m = X at HS
    clear hm
    by_cases hr : rdE s.data.toList = 0
    · have HT : Hid _ := fun (w : World) => show_any ((rdM s.data.toList : Nat) : Int) w
      rw [(sh_ok (rdM_lt s.data.toList)).1, (sh_ok (rdM_lt s.data.toList)).2, lets_rdM hr, text_data, errV_zero] at HT
      rw [hr, errV_zero] at HR
      clear hr
      generalize rdM s.data.toList = R at HR HT
      go_enter Try.func3, Try.ntmps3
      go_wp2_with fail
      refine (HF.out _).mono ?_
      rintro e w1 ⟨rfl, hb1⟩
      go_wp2_with fail
      refine (HS.out _).mono ?_
      rintro e w2 ⟨rfl, hb2⟩
      go_wp2_with fail
      refine (HI.out _).mono ?_
      rintro e w3 ⟨rfl, rfl⟩
      go_wp2_with fail
      refine (HR.out _).mono ?_
      rintro e w4 ⟨rfl, rfl⟩
      go_wp2_with fail
      refine (HT.out _).mono ?_
      rintro e w5 ⟨rfl, hb5⟩
      go_wp2
      go_ret
      exact ⟨rfl, (Below.next hb1 (Below.next hb2 hb5))⟩
    · rw [rdM_bad hr, errV_pos hr] at HR
      generalize rdE s.data.toList = E at HR hr
      go_enter Try.func3, Try.ntmps3
      go_wp2_with fail
      refine (HF.out _).mono ?_
      rintro e w1 ⟨rfl, hb1⟩
      go_wp2_with fail
      refine (HS.out _).mono ?_
      rintro e w2 ⟨rfl, hb2⟩
      go_wp2_with fail
      refine (HI.out _).mono ?_
      rintro e w3 ⟨rfl, rfl⟩
      go_wp2_with fail
      refine (HR.out _).mono ?_
      rintro e w4 ⟨rfl, rfl⟩
      go_wp2
      go_ret
      exact ⟨rfl, (Below.next hb1 hb2)⟩
  · rw [hm] at HI
    simp only [okM, decide_eq_true_iff] at hm
    obtain ⟨M, rfl⟩ : ∃ M : Nat, m = M := ⟨m.toNat, by omega⟩
    have hM : M < 512 := by omega
    have HB : Hid _ := fun (w : World) => read_any ⟨(lets M).toArray⟩ w
    rw [show (⟨(lets M).toArray⟩ : ByteArray).data.toList = lets M from rfl, rdM_lets hM, rdE_lets, errV_zero] at HB
    rw [(sh_ok hM).1, (sh_ok hM).2, errV_zero] at HS
    generalize (⟨(lets M).toArray⟩ : ByteArray) = X at HS HB
    clear hm
    by_cases hr : rdE s.data.toList = 0
    · have HT : Hid _ := fun (w : World) => show_any ((rdM s.data.toList : Nat) : Int) w
      rw [(sh_ok (rdM_lt s.data.toList)).1, (sh_ok (rdM_lt s.data.toList)).2, lets_rdM hr, text_data, errV_zero] at HT
      rw [hr, errV_zero] at HR
      clear hr
      generalize rdM s.data.toList = R at HR HT
      go_enter Try.func3, Try.ntmps3
      go_wp2_with fail
      refine (HF.out _).mono ?_
      rintro e w1 ⟨rfl, hb1⟩
      go_wp2_with fail
      refine (HS.out _).mono ?_
      rintro e w2 ⟨rfl, hb2⟩
      go_wp2_with fail
      refine (HB.out _).mono ?_
      rintro e w3 ⟨rfl, rfl⟩
      go_wp2_with fail
      refine (HR.out _).mono ?_
      rintro e w4 ⟨rfl, rfl⟩
      go_wp2_with fail
      refine (HT.out _).mono ?_
      rintro e w5 ⟨rfl, hb5⟩
      go_wp2
      go_ret
      exact ⟨rfl, (Below.next hb1 (Below.next hb2 hb5))⟩
    · rw [rdM_bad hr, errV_pos hr] at HR
      generalize rdE s.data.toList = E at HR hr
      go_enter Try.func3, Try.ntmps3
      go_wp2_with fail
      refine (HF.out _).mono ?_
      rintro e w1 ⟨rfl, hb1⟩
      go_wp2_with fail
      refine (HS.out _).mono ?_
      rintro e w2 ⟨rfl, hb2⟩
      go_wp2_with fail
      refine (HB.out _).mono ?_
      rintro e w3 ⟨rfl, rfl⟩
      go_wp2_with fail
      refine (HR.out _).mono ?_
      rintro e w4 ⟨rfl, rfl⟩
      go_wp2
      go_ret
      exact ⟨rfl, (Below.next hb1 hb2)⟩

end Go.Proofs.Ytnhjigdlaefdaaa
