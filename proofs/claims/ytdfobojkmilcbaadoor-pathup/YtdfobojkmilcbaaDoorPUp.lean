/- This text proves what the law PathUp answers: true, for any text; old memory is as it was; the conditions are that the text is not too long, and that the library's variable internal/bytealg.MaxLen holds some number. -/
import Derived.Test.YtdfobojkmilcbaaDoorQ8
namespace Go.Proofs.YtdfobojkmilcbaaDoor
open Go.RowKit Go.Deep Go.Shelf

set_option maxHeartbeats 4000000 in
theorem up_any (w : World) (a : ByteArray) (ha : a.size ≤ 281474976710656) (hm : Mx w) :
    Calls Tryd.prog 6 #[.string a] w fun e w' => e = .returned (.bool true) ∧ Below w.heap.size w w' := by
  have HF : Hid _ := fun (_ : Nat) => fact_any w hm
  have HP : Hid _ := fun (w : World) (hm : Mx w) => parts_any w a (by unfold maxLen; omega) hm
  have HM : Hid (Mx w) := hm
  clear hm
  by_cases h : pE a.data.toList = 0
  · rw [h, nms_pN h, errV_zero] at HP
    by_cases h57 : a.size ≤ 57
    · obtain ⟨u1, u2⟩ := up_one h (by rw [← Lib.size_eq]; exact h57)
      have HQ : Hid _ := fun (w : World) (hm : Mx w) => parts_any w (a ++ ⟨#[47, 46, 46]⟩) (by rw [size_app]; have : (⟨#[47, 46, 46]⟩ : ByteArray).size = 3 := rfl; unfold maxLen; omega) hm
      rw [data_app, show (⟨#[47, 46, 46]⟩ : ByteArray).data.toList = [47, 46, 46] from rfl, u1, nms_pN u1, u2, errV_zero] at HQ
      generalize pN a.data.toList = ns at *
      clear h u1 u2
      by_cases hn : ns = []
      · subst hn
        go_enter Tryd.func6, Tryd.ntmps6
        go_wp2_with (first
          | (go_at_call 16; refine (HF.out 0).mono ?_; rintro e w1 ⟨rfl, hb1⟩; have HM1 : Hid (Mx w1) := HM.out.later hb1)
          | (go_at_call_of 9 (Value.string a); refine (HP.out w1 HM1.out).mono ?_; rintro e w2 ⟨v2, rfl, hv2, hb2⟩; have HM2 : Hid (Mx w2) := HM1.out.later hb2; obtain ⟨a2, c2, rfl, _⟩ := id hv2; dsimp only [List.length_nil])
          | (go_at_call 9; refine (HQ.out w2 HM2.out).mono ?_; rintro e w3 ⟨v3, rfl, hv3, hb3⟩; obtain ⟨a3, c3, rfl, _⟩ := id hv3))
        go_ret
        exact ⟨rfl, Below.next hb1 (Below.next hb2 hb3)⟩
      · have hn1 : 1 ≤ ns.length := List.length_pos_iff.2 hn
        have HL : Hid (∀ (w : World) (v : Value), StrsIs w v ns → ∃ b o c, v = .slice (some ⟨b, o, none⟩) ns.length c ∧ ns.length ≤ c ∧ ns.length ≤ 9223372036854775807 ∧ StrsIs w (.slice (some ⟨b, o, none⟩) (ns.length - 1) c) ns.dropLast) := by
          intro w v hv
          obtain ⟨x, c, rfl, hc, hl, hi⟩ := id hv
          obtain ⟨b, o, rfl, _⟩ := hi hn
          exact ⟨b, o, c, rfl, hc, by unfold maxLen at hl; omega, hv.less⟩
        generalize ns.length = n at *
        clear hn
        go_enter Tryd.func6, Tryd.ntmps6
        go_wp2_with (first
          | (go_at_call 16; refine (HF.out 0).mono ?_; rintro e w1 ⟨rfl, hb1⟩; have HM1 : Hid (Mx w1) := HM.out.later hb1)
          | (go_at_call_of 9 (Value.string a); refine (HP.out w1 HM1.out).mono ?_; rintro e w2 ⟨v2, rfl, hv2, hb2⟩; have HM2 : Hid (Mx w2) := HM1.out.later hb2; obtain ⟨b2, o2, c2, rfl, hc2, hl2, hd2⟩ := HL.out w2 v2 hv2; have HD2 : Hid (StrsIs w2 (.slice (some ⟨b2, o2, none⟩) (n - 1) c2) ns.dropLast) := hd2; clear hd2)
          | (go_at_call 9; refine (HQ.out w2 HM2.out).mono ?_; rintro e w3 ⟨v3, rfl, hv3, hb3⟩)
          | (go_at_call 13; have HT := texts_any w3 _ _ _ _ hv3 (HD2.out.later (Nat.le_refl _) hb3); rw [eqS_self] at HT; refine HT.mono ?_; clear HT; rintro e w4 ⟨rfl, hb4⟩))
        go_ret
        exact ⟨rfl, Below.next hb1 (Below.next hb2 (Below.next hb3 hb4))⟩
    · go_enter Tryd.func6, Tryd.ntmps6
      go_wp2_with (first
        | (go_at_call 16; refine (HF.out 0).mono ?_; rintro e w1 ⟨rfl, hb1⟩; have HM1 : Hid (Mx w1) := HM.out.later hb1)
        | (go_at_call 9; refine (HP.out w1 HM1.out).mono ?_; rintro e w2 ⟨v2, rfl, hv2, hb2⟩))
      go_ret
      exact ⟨rfl, Below.next hb1 hb2⟩
  · rw [nms_none h, errV_pos h] at HP
    generalize pE a.data.toList = e at *
    go_enter Tryd.func6, Tryd.ntmps6
    go_wp2_with (first
      | (go_at_call 16; refine (HF.out 0).mono ?_; rintro e w1 ⟨rfl, hb1⟩; have HM1 : Hid (Mx w1) := HM.out.later hb1)
      | (go_at_call 9; refine (HP.out w1 HM1.out).mono ?_; rintro e w2 ⟨v2, rfl, hv2, hb2⟩))
    go_ret
    exact ⟨rfl, Below.next hb1 hb2⟩

end Go.Proofs.YtdfobojkmilcbaaDoor
