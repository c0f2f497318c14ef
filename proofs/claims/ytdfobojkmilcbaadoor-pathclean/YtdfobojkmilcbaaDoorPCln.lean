/- This text proves what the law PathClean answers: true, for any text; old memory is as it was; the conditions are that the text is not too long, and that the library's variable internal/bytealg.MaxLen holds some number. -/
import Derived.Test.YtdfobojkmilcbaaDoorQ8
namespace Go.Proofs.YtdfobojkmilcbaaDoor
open Go.RowKit Go.Deep Go.Shelf

set_option maxHeartbeats 4000000 in
theorem pathClean_any (w : World) (a : ByteArray) (ha : a.size ≤ 140737488355328) (hm : Mx w) :
    Calls Tryd.prog 4 #[.string a] w fun e w' => e = .returned (.bool true) ∧ Below w.heap.size w w' := by
  have HF : Hid _ := fun (_ : Nat) => fact_any w hm
  have HA : Hid _ := fun (w : World) (hm : Mx w) => clean_any w a (by unfold maxLen; omega) hm
  have HP : Hid _ := fun (w : World) (hm : Mx w) => parts_any w a (by unfold maxLen; omega) hm
  have HM : Hid (Mx w) := hm
  clear hm
  by_cases h : pE a.data.toList = 0
  · obtain ⟨c1, c2, c3⟩ := clean_again h
    rw [h, cln_some h, errV_zero] at HA
    rw [h, nms_pN h, errV_zero] at HP
    have hle : (bs (shw (pN a.data.toList))).size ≤ a.size := by rw [size_bs, Lib.size_eq]; exact c3
    have hw : wid (pN a.data.toList) ≤ 1000000 := by
      have h60 := (pE_ok h).1
      have := shw_len (pN a.data.toList)
      split at this
      · rename_i h0; rw [h0]; simp [wid]
      · omega
    have HC : Hid _ := fun (w : World) (hm : Mx w) => clean_any w (bs (shw (pN a.data.toList))) (by unfold maxLen; omega) hm
    have HQ : Hid _ := fun (w : World) (hm : Mx w) => parts_any w (bs (shw (pN a.data.toList))) (by unfold maxLen; omega) hm
    rw [data_bs, cln_some c1, c1, c2, errV_zero] at HC
    rw [data_bs, nms_pN c1, c1, c2, errV_zero] at HQ
    have HS : Hid _ := fun (w : World) (v : Value) (hv : StrsIs w v (pN a.data.toList)) => shown_any w v _ hv hw
    have hST : ((bs (shw (pN a.data.toList))).toList == (bs (shw (pN a.data.toList))).toList) = true := by simp
    generalize bs (shw (pN a.data.toList)) = S at *
    generalize pN a.data.toList = ns at *
    clear h c1 c2 c3 hw
    go_enter Tryd.func4, Tryd.ntmps4
    go_wp2_with (first
      | (go_at_call 16; refine (HF.out 0).mono ?_; rintro e w1 ⟨rfl, hb1⟩; have HM1 : Hid (Mx w1) := HM.out.later hb1)
      | (go_at_call_of 14 a; refine (HA.out w1 HM1.out).mono ?_; rintro e w2 ⟨rfl, hb2⟩; have HM2 : Hid (Mx w2) := HM1.out.later hb2)
      | (go_at_call_of 14 S; refine (HC.out w2 HM2.out).mono ?_; rintro e w3 ⟨rfl, hb3⟩; have HM3 : Hid (Mx w3) := HM2.out.later hb3)
      | (go_at_call_of 9 a; refine (HP.out w3 HM3.out).mono ?_; rintro e w4 ⟨v4, rfl, hv4, hb4⟩; have HM4 : Hid (Mx w4) := HM3.out.later hb4)
      | (go_at_call_of 9 S; refine (HQ.out w4 HM4.out).mono ?_; rintro e w5 ⟨v5, rfl, hv5, hb5⟩)
      | (go_at_call 13; have HT := texts_any w5 v4 v5 ns ns (StrsIs.later hv4 (Nat.le_refl _) hb5) hv5; rw [eqS_self] at HT; refine HT.mono ?_; clear HT; rintro e w6 ⟨rfl, hb6⟩)
      | (go_at_call 8; refine (HS.out w6 v5 (StrsIs.later hv5 (Nat.le_refl _) hb6)).mono ?_; rintro e w7 ⟨rfl, rfl⟩))
    all_goals trace_state
    go_ret
    exact ⟨rfl, Below.next hb1 (Below.next hb2 (Below.next hb3 (Below.next hb4 (Below.next hb5 hb6))))⟩
  · rw [cln_none h, errV_pos h] at HA
    generalize pE a.data.toList = e at *
    rw [show bs [] = ⟨#[]⟩ from rfl] at HA
    go_enter Tryd.func4, Tryd.ntmps4
    go_wp2_with (first
      | (go_at_call 16; refine (HF.out 0).mono ?_; rintro e w1 ⟨rfl, hb1⟩; have HM1 : Hid (Mx w1) := HM.out.later hb1)
      | (go_at_call_of 14 a; refine (HA.out w1 HM1.out).mono ?_; rintro e w2 ⟨rfl, hb2⟩))
    go_ret
    exact ⟨rfl, Below.next hb1 hb2⟩

end Go.Proofs.YtdfobojkmilcbaaDoor
