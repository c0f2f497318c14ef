/- This text proves what the law PathJoin answers: true, for any three texts; old memory is as it was; the conditions are that the texts are not too long, and that the library's variable internal/bytealg.MaxLen holds some number. -/
import Derived.Test.YtdfobojkmilcbaaDoorQ8
namespace Go.Proofs.YtdfobojkmilcbaaDoor
open Go.RowKit Go.Deep Go.Shelf

theorem toList_bs (x : List UInt8) : (bs x).toList = x := by rw [ByteArray.toList_eq, data_bs]

set_option maxHeartbeats 4000000 in
theorem pathJoin_any (w : World) (a n b : ByteArray) (ha : a.size ≤ 140737488355328) (hn : n.size ≤ 140737488355328) (hb : b.size ≤ 140737488355328) (hm : Mx w) :
    Calls Tryd.prog 5 #[.string a, .string n, .string b] w fun e w' => e = .returned (.bool true) ∧ Below w.heap.size w w' := by
  have HF : Hid _ := fun (_ : Nat) => fact_any w hm
  have HA : Hid _ := fun (w : World) (hm : Mx w) => clean_any w a (by unfold maxLen; omega) hm
  have HM : Hid (Mx w) := hm
  clear hm
  by_cases h : pE a.data.toList = 0
  · rw [h, errV_zero] at HA
    have hs1 : (⟨#[47]⟩ ++ b : ByteArray).size ≤ 140737488355329 := by rw [size_app, size_one]; omega
    have hd1 : (⟨#[47]⟩ ++ b : ByteArray).data.toList = 47 :: b.data.toList := by rw [data_app]; rfl
    have HJ : Hid _ := fun (w : World) (hm : Mx w) => join_path w a (⟨#[47]⟩ ++ b) (by omega) (by omega) hm
    have HC : Hid _ := fun (w : World) (hm : Mx w) => clean_any w (⟨#[47]⟩ ++ b) (by unfold maxLen; omega) hm
    rw [hd1, joi_root] at HJ
    rw [hd1] at HC
    have HN : Hid _ := fun (w : World) => name_any w n (by unfold maxLen; omega)
    have hz : ((bs (cln (47 :: b.data.toList))).toList == (bs (cln (47 :: b.data.toList))).toList) = true := by simp
    obtain ⟨y, hy, HY⟩ : ∃ y, errV (pE (47 :: b.data.toList)) = y ∧ Hid (y = .nilIface ∨ ∃ k : Nat, y = .iface 39 (.int .i64 (k : Int))) := by
      refine ⟨_, rfl, ?_⟩
      by_cases h0 : pE (47 :: b.data.toList) = 0
      · exact .inl (by rw [h0]; rfl)
      · exact .inr ⟨_, errV_pos h0⟩
    rw [hy] at HJ HC
    generalize cln (47 :: b.data.toList) = z at *
    generalize hB1 : (⟨#[47]⟩ ++ b : ByteArray) = B1 at *
    by_cases h2 : isN n.data.toList = true
    · by_cases h50 : a.size ≤ 50
      · obtain ⟨t1, t2⟩ := there_back h h2 (by rw [← Lib.size_eq]; exact h50)
        have hn4 := (isN_len h2).2
        rw [← Lib.size_eq] at hn4
        have hs3 : (⟨#[47, 46, 46]⟩ : ByteArray).size = 3 := rfl
        have HK : Hid _ := fun (w : World) (hm : Mx w) => join_path w a (n ++ ⟨#[47, 46, 46]⟩) (by omega) (by rw [size_app]; omega) hm
        rw [data_app, show (⟨#[47, 46, 46]⟩ : ByteArray).data.toList = [47, 46, 46] from rfl, joi_name h2, cln_some t1, t1, t2, errV_zero] at HK
        rw [cln_some h] at HA
        rw [h2] at HN
        have hq : ((bs (shw (pN a.data.toList))).toList == (bs (shw (pN a.data.toList))).toList) = true := by simp
        generalize shw (pN a.data.toList) = s at *
        generalize hN3 : (n ++ ⟨#[47, 46, 46]⟩ : ByteArray) = N3 at *
        clear h h2 t1 t2 hd1 hs3 hy
        rcases HY.out with rfl | ⟨k, rfl⟩
        · clear HY
          go_enter Tryd.func5, Tryd.ntmps5
          go_wp2_with (first
            | (go_at_call 16; refine (HF.out 0).mono ?_; rintro e w1 ⟨rfl, hb1⟩; have HM1 : Hid (Mx w1) := HM.out.later hb1)
            | (go_at_call_of 14 a; refine (HA.out w1 HM1.out).mono ?_; rintro e w2 ⟨rfl, hb2⟩; have HM2 : Hid (Mx w2) := HM1.out.later hb2)
            | (go_at_call_of 15 B1; refine (HJ.out w2 HM2.out).mono ?_; rintro e w3 ⟨rfl, hb3⟩; have HM3 : Hid (Mx w3) := HM2.out.later hb3)
            | (go_at_call_of 14 B1; refine (HC.out w3 HM3.out).mono ?_; rintro e w4 ⟨rfl, hb4⟩; have HM4 : Hid (Mx w4) := HM3.out.later hb4))
          go_quiet (fail)
          have HM5 : Hid (Mx (w4.drewN nq)) := HM4.out.later (below_drewN _ _ _)
          go_wp2_with (first
            | (go_at_call 10; refine (HN.out _).mono ?_; rintro e w5 ⟨rfl, rfl⟩)
            | (go_at_call_of 15 N3; refine (HK.out _ HM5.out).mono ?_; rintro e w6 ⟨rfl, hb6⟩))
          go_ret
          exact ⟨rfl, Below.next (Below.next hb1 (Below.next hb2 (Below.next hb3 (Below.next hb4 (below_drewN _ _ _))))) hb6⟩
        · clear HY
          go_enter Tryd.func5, Tryd.ntmps5
          go_wp2_with (first
            | (go_at_call 16; refine (HF.out 0).mono ?_; rintro e w1 ⟨rfl, hb1⟩; have HM1 : Hid (Mx w1) := HM.out.later hb1)
            | (go_at_call_of 14 a; refine (HA.out w1 HM1.out).mono ?_; rintro e w2 ⟨rfl, hb2⟩; have HM2 : Hid (Mx w2) := HM1.out.later hb2)
            | (go_at_call_of 15 B1; refine (HJ.out w2 HM2.out).mono ?_; rintro e w3 ⟨rfl, hb3⟩; have HM3 : Hid (Mx w3) := HM2.out.later hb3)
            | (go_at_call_of 14 B1; refine (HC.out w3 HM3.out).mono ?_; rintro e w4 ⟨rfl, hb4⟩; have HM4 : Hid (Mx w4) := HM3.out.later hb4))
          go_quiet (fail)
          have HM5 : Hid (Mx (w4.drewN nq)) := HM4.out.later (below_drewN _ _ _)
          go_wp2_with (first
            | (go_at_call 10; refine (HN.out _).mono ?_; rintro e w5 ⟨rfl, rfl⟩)
            | (go_at_call_of 15 N3; refine (HK.out _ HM5.out).mono ?_; rintro e w6 ⟨rfl, hb6⟩))
          go_ret
          exact ⟨rfl, Below.next (Below.next hb1 (Below.next hb2 (Below.next hb3 (Below.next hb4 (below_drewN _ _ _))))) hb6⟩
      · rw [h2] at HN
        clear h h2 hd1 hy
        rcases HY.out with rfl | ⟨k, rfl⟩
        · clear HY
          go_enter Tryd.func5, Tryd.ntmps5
          go_wp2_with (first
            | (go_at_call 16; refine (HF.out 0).mono ?_; rintro e w1 ⟨rfl, hb1⟩; have HM1 : Hid (Mx w1) := HM.out.later hb1)
            | (go_at_call_of 14 a; refine (HA.out w1 HM1.out).mono ?_; rintro e w2 ⟨rfl, hb2⟩; have HM2 : Hid (Mx w2) := HM1.out.later hb2)
            | (go_at_call_of 15 B1; refine (HJ.out w2 HM2.out).mono ?_; rintro e w3 ⟨rfl, hb3⟩; have HM3 : Hid (Mx w3) := HM2.out.later hb3)
            | (go_at_call_of 14 B1; refine (HC.out w3 HM3.out).mono ?_; rintro e w4 ⟨rfl, hb4⟩; have HM4 : Hid (Mx w4) := HM3.out.later hb4))
          go_quiet (fail)
          have HM5 : Hid (Mx (w4.drewN nq)) := HM4.out.later (below_drewN _ _ _)
          go_wp2_with (go_at_call 10; refine (HN.out _).mono ?_; rintro e w5 ⟨rfl, rfl⟩)
          go_ret
          exact ⟨rfl, Below.next hb1 (Below.next hb2 (Below.next hb3 (Below.next hb4 (below_drewN _ _ _))))⟩
        · clear HY
          go_enter Tryd.func5, Tryd.ntmps5
          go_wp2_with (first
            | (go_at_call 16; refine (HF.out 0).mono ?_; rintro e w1 ⟨rfl, hb1⟩; have HM1 : Hid (Mx w1) := HM.out.later hb1)
            | (go_at_call_of 14 a; refine (HA.out w1 HM1.out).mono ?_; rintro e w2 ⟨rfl, hb2⟩; have HM2 : Hid (Mx w2) := HM1.out.later hb2)
            | (go_at_call_of 15 B1; refine (HJ.out w2 HM2.out).mono ?_; rintro e w3 ⟨rfl, hb3⟩; have HM3 : Hid (Mx w3) := HM2.out.later hb3)
            | (go_at_call_of 14 B1; refine (HC.out w3 HM3.out).mono ?_; rintro e w4 ⟨rfl, hb4⟩; have HM4 : Hid (Mx w4) := HM3.out.later hb4))
          go_quiet (fail)
          have HM5 : Hid (Mx (w4.drewN nq)) := HM4.out.later (below_drewN _ _ _)
          go_wp2_with (go_at_call 10; refine (HN.out _).mono ?_; rintro e w5 ⟨rfl, rfl⟩)
          go_ret
          exact ⟨rfl, Below.next hb1 (Below.next hb2 (Below.next hb3 (Below.next hb4 (below_drewN _ _ _))))⟩
    · rw [show isN n.data.toList = false by simpa using h2] at HN
      clear h h2 hd1 hy
      rcases HY.out with rfl | ⟨k, rfl⟩
      · clear HY
        go_enter Tryd.func5, Tryd.ntmps5
        go_wp2_with (first
          | (go_at_call 16; refine (HF.out 0).mono ?_; rintro e w1 ⟨rfl, hb1⟩; have HM1 : Hid (Mx w1) := HM.out.later hb1)
          | (go_at_call_of 14 a; refine (HA.out w1 HM1.out).mono ?_; rintro e w2 ⟨rfl, hb2⟩; have HM2 : Hid (Mx w2) := HM1.out.later hb2)
          | (go_at_call_of 15 B1; refine (HJ.out w2 HM2.out).mono ?_; rintro e w3 ⟨rfl, hb3⟩; have HM3 : Hid (Mx w3) := HM2.out.later hb3)
          | (go_at_call_of 14 B1; refine (HC.out w3 HM3.out).mono ?_; rintro e w4 ⟨rfl, hb4⟩; have HM4 : Hid (Mx w4) := HM3.out.later hb4))
        go_quiet (fail)
        have HM5 : Hid (Mx (w4.drewN nq)) := HM4.out.later (below_drewN _ _ _)
        go_wp2_with (go_at_call 10; refine (HN.out _).mono ?_; rintro e w5 ⟨rfl, rfl⟩)
        go_ret
        exact ⟨rfl, Below.next hb1 (Below.next hb2 (Below.next hb3 (Below.next hb4 (below_drewN _ _ _))))⟩
      · clear HY
        go_enter Tryd.func5, Tryd.ntmps5
        go_wp2_with (first
          | (go_at_call 16; refine (HF.out 0).mono ?_; rintro e w1 ⟨rfl, hb1⟩; have HM1 : Hid (Mx w1) := HM.out.later hb1)
          | (go_at_call_of 14 a; refine (HA.out w1 HM1.out).mono ?_; rintro e w2 ⟨rfl, hb2⟩; have HM2 : Hid (Mx w2) := HM1.out.later hb2)
          | (go_at_call_of 15 B1; refine (HJ.out w2 HM2.out).mono ?_; rintro e w3 ⟨rfl, hb3⟩; have HM3 : Hid (Mx w3) := HM2.out.later hb3)
          | (go_at_call_of 14 B1; refine (HC.out w3 HM3.out).mono ?_; rintro e w4 ⟨rfl, hb4⟩; have HM4 : Hid (Mx w4) := HM3.out.later hb4))
        go_quiet (fail)
        have HM5 : Hid (Mx (w4.drewN nq)) := HM4.out.later (below_drewN _ _ _)
        go_wp2_with (go_at_call 10; refine (HN.out _).mono ?_; rintro e w5 ⟨rfl, rfl⟩)
        go_ret
        exact ⟨rfl, Below.next hb1 (Below.next hb2 (Below.next hb3 (Below.next hb4 (below_drewN _ _ _))))⟩
  · rw [errV_pos h] at HA
    generalize pE a.data.toList = e at *
    go_enter Tryd.func5, Tryd.ntmps5
    go_wp2_with (first
      | (go_at_call 16; refine (HF.out 0).mono ?_; rintro e w1 ⟨rfl, hb1⟩; have HM1 : Hid (Mx w1) := HM.out.later hb1)
      | (go_at_call_of 14 a; refine (HA.out w1 HM1.out).mono ?_; rintro e w2 ⟨rfl, hb2⟩))
    go_ret
    exact ⟨rfl, Below.next hb1 hb2⟩

end Go.Proofs.YtdfobojkmilcbaaDoor
