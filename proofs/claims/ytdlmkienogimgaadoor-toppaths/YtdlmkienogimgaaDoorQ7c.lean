/- This text proves what path.Clean answers: the path that is clean, and what is wrong; old memory is as it was; the conditions are that the text is not too long, and that the library's variable internal/bytealg.MaxLen holds some number. -/
import Derived.Test.YtdlmkienogimgaaDoorQ7s
namespace Go.Proofs.YtdlmkienogimgaaDoor
open Go.RowKit Go.Deep Go.Shelf

set_option maxHeartbeats 4000000 in
theorem clean_any (w : World) (s : ByteArray) (hs : s.size ≤ maxLen) (hm : Mx w) :
    Calls Tryd.prog 17 #[.string s] w fun e w' => e = .returned (.tuple #[.string (bs (cln s.data.toList)), errV (pE s.data.toList)]) ∧ Below w.heap.size w w' := by
  have HP : Hid _ := fun (_ : Nat) => parts_any w s hs hm
  clear hs hm
  by_cases h : pE s.data.toList = 0
  · have h8 := (pE_ok h).2.2.2
    have hw : (Lib.join (pN s.data.toList) [47]).length ≤ 1000000 := by
      have h1 := (clean_again h).2.2
      have h2 := (pE_ok h).1
      unfold shw at h1
      rw [List.length_cons] at h1
      omega
    have HJ : Hid _ := fun (w : World) (v : Value) (hv : StrsIs w v (pN s.data.toList)) => join_any w v _ hv (by omega) hw
    rw [h, nms_pN h, errV_zero] at HP
    rw [cln_some h, h, errV_zero]
    have HE : Hid ((⟨#[47]⟩ : ByteArray) ++ bs (Lib.join (pN s.data.toList) [47]) = bs (shw (pN s.data.toList))) := by rw [app_bs, data_bs]; rfl
    have hy : (bs (Lib.join (pN s.data.toList) [47])).size ≤ 1000000 := by rw [size_bs]; exact hw
    generalize shw (pN s.data.toList) = z at *
    generalize Lib.join (pN s.data.toList) [47] = y at *
    generalize pN s.data.toList = ns at *
    clear h h8 hw
    go_enter Tryd.func17, Tryd.ntmps17
    go_wp2_with (first
      | (go_at_call 35; refine (HP.out 0).mono ?_; rintro e w' ⟨v, rfl, hv, hb⟩)
      | (go_at_call 25; refine (HJ.out _ _ hv).mono ?_; rintro e w' ⟨rfl, hb'⟩))
    go_ret2
    exact ⟨by rw [← HE.out]; rfl, Below.next hb hb'⟩
  · rw [nms_none h, errV_pos h] at HP
    rw [cln_none h, errV_pos h]
    generalize pE s.data.toList = e at *
    go_enter Tryd.func17, Tryd.ntmps17
    go_wp2_with (go_at_call 35; refine (HP.out 0).mono ?_; rintro e w' ⟨v, rfl, hv, hb⟩)
    go_ret2
    exact ⟨rfl, hb⟩

end Go.Proofs.YtdlmkienogimgaaDoor
