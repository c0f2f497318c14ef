/- This text proves what path.Clean and path.Join answer: the path that is clean, and what is wrong; old memory is as it was; the conditions are that texts are not too long, and that the library's variable internal/bytealg.MaxLen holds some number. -/
import Derived.Test.YtdfobojkmilcbaaDoorQ6
namespace Go.Proofs.YtdfobojkmilcbaaDoor
open Go.RowKit Go.Deep Go.Shelf

theorem size_app (a b : ByteArray) : (a ++ b).size = a.size + b.size := by
  rw [Lib.size_eq, data_app, List.length_append, ← Lib.size_eq, ← Lib.size_eq]
theorem size_one : (⟨#[47]⟩ : ByteArray).size = 1 := rfl
theorem size_bs (l : List UInt8) : (bs l).size = l.length := by rw [Lib.size_eq, data_bs]
theorem cln_none {l : List UInt8} (h : pE l ≠ 0) : cln l = [] := by unfold cln; rw [if_neg h]
theorem cln_some {l : List UInt8} (h : pE l = 0) : cln l = shw (pN l) := by unfold cln; rw [if_pos h]
theorem nms_pN {l : List UInt8} (h : pE l = 0) : nms l = pN l := by unfold nms; rw [if_pos h]

set_option maxHeartbeats 4000000 in
theorem clean_any (w : World) (s : ByteArray) (hs : s.size ≤ maxLen) (hm : Mx w) :
    Calls Tryd.prog 14 #[.string s] w fun e w' => e = .returned (.tuple #[.string (bs (cln s.data.toList)), errV (pE s.data.toList)]) ∧ Below w.heap.size w w' := by
  have HP : Hid _ := fun (_ : Nat) => parts_any w s hs hm
  clear hs hm
  by_cases h : pE s.data.toList = 0
  · have h8 := (pE_ok h).2.2.2
    have hw : (Lib.join (pN s.data.toList) [47]).length ≤ 1000000 := by
      have h1 := (clean_again h).2.2
      have h2 := (pE_ok h).1
      unfold shw at h1
      rw [List.length_cons] at h1
      omega
    have HJ : Hid _ := fun (w : World) (v : Value) (hv : StrsIs w v (pN s.data.toList)) => join_any w v _ hv (by omega) hw
    rw [h, nms_pN h, errV_zero] at HP
    rw [cln_some h, h, errV_zero]
    have HE : Hid ((⟨#[47]⟩ : ByteArray) ++ bs (Lib.join (pN s.data.toList) [47]) = bs (shw (pN s.data.toList))) := by rw [app_bs, data_bs]; rfl
    have hy : (bs (Lib.join (pN s.data.toList) [47])).size ≤ 1000000 := by rw [size_bs]; exact hw
    generalize shw (pN s.data.toList) = z at *
    generalize Lib.join (pN s.data.toList) [47] = y at *
    generalize pN s.data.toList = ns at *
    clear h h8 hw
    go_enter Tryd.func14, Tryd.ntmps14
    go_wp2_with (first
      | (go_at_call 9; refine (HP.out 0).mono ?_; rintro e w' ⟨v, rfl, hv, hb⟩)
      | (go_at_call 23; refine (HJ.out _ _ hv).mono ?_; rintro e w' ⟨rfl, hb'⟩))
    go_ret2
    exact ⟨by rw [← HE.out]; rfl, Below.next hb hb'⟩
  · rw [nms_none h, errV_pos h] at HP
    rw [cln_none h, errV_pos h]
    generalize pE s.data.toList = e at *
    go_enter Tryd.func14, Tryd.ntmps14
    go_wp2_with (go_at_call 9; refine (HP.out 0).mono ?_; rintro e w' ⟨v, rfl, hv, hb⟩)
    go_ret2
    exact ⟨rfl, hb⟩

theorem joi_yes {a b : List UInt8} (h : [47].isPrefixOf b = true) : joi a b = b := by unfold joi; rw [if_pos h]
theorem joi_no {a b : List UInt8} (h : [47].isPrefixOf b = false) : joi a b = a ++ [47] ++ b := by unfold joi; rw [if_neg (by rw [h]; simp)]

set_option maxHeartbeats 4000000 in
theorem join_path (w : World) (a b : ByteArray) (ha : a.size ≤ 281474976710656) (hb : b.size ≤ 281474976710656) (hm : Mx w) :
    Calls Tryd.prog 15 #[.string a, .string b] w fun e w' => e = .returned (.tuple #[.string (bs (cln (joi a.data.toList b.data.toList))), errV (pE (joi a.data.toList b.data.toList))]) ∧ Below w.heap.size w w' := by
  have HH : Hid _ := fun (_ : Nat) => hasp_any w b
  cases h : [47].isPrefixOf b.data.toList with
  | true =>
    have HC : Hid _ := fun (_ : Nat) => clean_any w b (by unfold maxLen; omega) hm
    rw [h] at HH
    rw [joi_yes h]
    generalize bs (cln b.data.toList) = z at *
    generalize errV (pE b.data.toList) = y at *
    clear h ha hb hm
    go_enter Tryd.func15, Tryd.ntmps15
    go_wp2_with (first
      | (go_at_call 24; refine (HH.out 0).mono ?_; rintro e w' ⟨rfl, rfl⟩)
      | (go_at_call 14; refine (HC.out 0).mono ?_; rintro e w' ⟨rfl, hb'⟩))
    go_ret2
    exact ⟨rfl, hb'⟩
  | false =>
    have hl : (a ++ ⟨#[47]⟩ ++ b).size ≤ maxLen := by
      rw [size_app, size_app, size_one]
      unfold maxLen
      omega
    have HC : Hid _ := fun (_ : Nat) => clean_any w (a ++ ⟨#[47]⟩ ++ b) hl hm
    rw [data_app, data_app] at HC
    rw [h] at HH
    rw [joi_no h]
    rw [show (⟨#[47]⟩ : ByteArray).data.toList = [47] from rfl] at HC
    generalize bs (cln (a.data.toList ++ [47] ++ b.data.toList)) = z at *
    generalize errV (pE (a.data.toList ++ [47] ++ b.data.toList)) = y at *
    clear h hm hl
    go_enter Tryd.func15, Tryd.ntmps15
    go_wp2_with (first
      | (go_at_call 24; refine (HH.out 0).mono ?_; rintro e w' ⟨rfl, rfl⟩)
      | (go_at_call 14; refine (HC.out 0).mono ?_; rintro e w' ⟨rfl, hb'⟩))
    go_ret2
    exact ⟨rfl, hb'⟩

end Go.Proofs.YtdfobojkmilcbaaDoor
