/- This text proves that platterholdlaw2.WalHome returns true: to crash twice is to crash once, and at home all is the same, without a log; old memory is as it was; the condition is that the steps' rows lie there. -/
import Derived.Test.YtejganpamidkmaaZLst
namespace Go.Proofs.Ytejganpamidkmaa
open Go.RowKit Go.Deep Go.Maps

theorem crash_twice {M : List Rc} (h : lft M = M) : crE ⟨nV, M, M.length⟩ (M.length : Int) = 0 ∧ crD ⟨nV, M, M.length⟩ (M.length : Int) = ⟨nV, M, M.length⟩ := by
  have h1 : crE ⟨nV, M, M.length⟩ (M.length : Int) = 0 := if_pos ⟨Int.le_refl _, Int.le_refl _⟩
  refine ⟨h1, ?_⟩
  unfold crD
  rw [if_pos h1, Int.toNat_natCast]
  show (⟨nV, lft (M.take M.length), (lft (M.take M.length)).length⟩ : Dk) = _
  rw [List.take_length, h]

set_option maxHeartbeats 8000000 in
set_option maxRecDepth 100000 in
theorem walHome_any (w : World) (v : Value) (rs : List (List Int)) (hr : RowsIs w v rs) (n : Int) :
    Calls Try.prog 5 #[v, .int .i64 n] w fun e w' => e = .returned (.bool true) ∧ Below w.heap.size w w' := by
  go_enter Try.func5, Try.ntmps5
  go_wp2_with fail
  refine (fact_any w).mono ?_
  rintro e w1 ⟨rfl, hb⟩
  have HB : Hid (Below w.heap.size w w1) := hb
  go_wp2_with fail
  refine (logged_any w1 v rs (hr.later hb)).mono ?_
  rintro e w2 ⟨g, v2, s, rfl, hT⟩
  have S2 : Hid (OnD w1 w2 g v2 ⟨nV, lgd rs (min rs.length 80), s⟩) := hT
  clear hT hb hr
  generalize lgd rs (min rs.length 80) = L at S2
  go_wp2_with fail
  refine (crash_any w2 _ _ _ _ S2.out.disk n).mono ?_
  rintro e w3 ⟨rfl, v3, hst⟩
  by_cases he : crE ⟨nV, L, s⟩ n = 0
  · have hd : crD ⟨nV, L, s⟩ n = ⟨nV, lft (L.take n.toNat), (lft (L.take n.toNat)).length⟩ := if_pos he
    rw [hd] at hst
    rw [he, errV_zero]
    have HF : Hid (lft (lft (L.take n.toNat)) = lft (L.take n.toNat) ∧ opn (lft (L.take n.toNat)) = false ∧ (lft (L.take n.toNat)).length ≤ 60) := ⟨lft_lft _, opn_lft _, hst.disk.fine.len⟩
    clear hd he
    generalize lft (L.take n.toNat) = M at hst HF
    have S3 : Hid (OnD w1 w3 g v3 ⟨nV, M, M.length⟩) := S2.out.step hst
    clear hst S2
    go_wp2_with fail
    refine (values_any w3 _ _ _ _ S3.out.disk).mono ?_
    rintro e w4 ⟨rfl, hv, hb⟩
    have V4 : Hid (Seen w4 g v3 w3.heap.size (vals M nV)) := Seen.new S3.out.disk hv
    have S4 : Hid (OnD w1 w4 g v3 ⟨nV, M, M.length⟩) := S3.out.later hb
    clear hv hb
    go_wp2_with fail
    refine (log_any w4 _ _ _ _ S4.out.disk).mono ?_
    rintro e w5 ⟨rfl, hb⟩
    have V5 : Hid (Seen w5 g v3 w3.heap.size (vals M nV)) := V4.out.later hb
    have S5 : Hid (OnD w1 w5 g v3 ⟨nV, M, M.length⟩) := S4.out.later hb
    clear hb
    have HCr : Hid _ := fun (_ : Nat) => crash_any w5 _ _ _ _ S5.out.disk (M.length : Int)
    rw [(crash_twice HF.out.1).1, (crash_twice HF.out.1).2, errV_zero] at HCr
    have HHo : Hid _ := fun (w : World) (v : Value) (h : OnD w1 w g v ⟨nV, M, M.length⟩) => home_any w _ _ _ _ h.disk
    have hh : hoE (⟨nV, M, M.length⟩ : Dk).L = 0 := if_neg (by show ¬ opn M = true; rw [HF.out.2.1]; decide)
    have hh2 : hoD ⟨nV, M, M.length⟩ = ⟨vals M nV, [], 0⟩ := if_pos hh
    rw [hh, hh2, errV_zero] at HHo
    clear hh hh2
    unfold ptrD at HCr HHo
    have h60 : M.length ≤ 60 := HF.out.2.2
    rw [show (⟨nV, M, M.length⟩ : Dk).L.length = M.length from rfl, show (⟨nV, M, M.length⟩ : Dk).s = M.length from rfl]
    have HS : Hid (∀ w v, OnD w1 w g v ⟨nV, M, M.length⟩ → Calls Try.prog 11 #[.pointer (some ⟨g, 0, none⟩)] w fun e w' => e = .returned (.slice (some ⟨w.heap.size, 0, none⟩) 8 8) ∧ VlAt w' w.heap.size (vals M nV) ∧ Below w.heap.size w w') := fun w v h => values_any w _ _ _ _ h.disk
    go_wp2_with (first
      | (go_at_call 9; refine (HCr.out 0).mono ?_; rintro e w6 ⟨rfl, v6, hst⟩; have V6 : Hid (Seen w6 g v6 w3.heap.size (vals M nV)) := V5.out.step hst; have S6 : Hid (OnD w1 w6 g v6 ⟨nV, M, M.length⟩) := S5.out.step hst; clear hst)
      | (go_at_call 11; refine (HS.out w6 v6 S6.out).mono ?_; rintro e w7 ⟨rfl, hv, hb⟩; have W7 : Hid (VlAt w7 w6.heap.size (vals M nV)) := hv; have V7 : Hid (Seen w7 g v6 w3.heap.size (vals M nV)) := V6.out.later hb; have S7 : Hid (OnD w1 w7 g v6 ⟨nV, M, M.length⟩) := S6.out.later hb; clear hv hb)
      | (go_at_call 15; refine (same_any w7 _ _ _ _ W7.out V7.out.at' rfl).mono ?_; rintro e w8 ⟨rfl, hb⟩; have V8 : Hid (Seen w8 g v6 w3.heap.size (vals M nV)) := V7.out.later hb; have S8 : Hid (OnD w1 w8 g v6 ⟨nV, M, M.length⟩) := S7.out.later hb; clear hb)
      | (go_at_call 17; refine (HHo.out w8 v6 S8.out).mono ?_; rintro e w9 ⟨rfl, v9, hst⟩; have V9 : Hid (Seen w9 g v9 w3.heap.size (vals M nV)) := V8.out.step hst; have S9 : Hid (OnD w1 w9 g v9 ⟨vals M nV, [], 0⟩) := S8.out.step hst; clear hst))
    refine (log_any w9 _ _ _ _ S9.out.disk).mono ?_
    rintro e w10 ⟨rfl, hb⟩
    have V10 : Hid (Seen w10 g v9 w3.heap.size (vals M nV)) := V9.out.later hb
    have S10 : Hid (OnD w1 w10 g v9 ⟨vals M nV, [], 0⟩) := S9.out.later hb
    clear hb
    have HS2 : Hid _ := fun (_ : Nat) => values_any w10 _ _ _ _ S10.out.disk
    unfold ptrD at HS2
    have e0 : (⟨vals M nV, [], 0⟩ : Dk).L.length = 0 := rfl
    have e1 : (⟨vals M nV, [], 0⟩ : Dk).s = 0 := rfl
    rw [e0, e1]
    clear e0 e1
    go_wp2_with (first
      | (go_at_call 11; refine (HS2.out 0).mono ?_; rintro e w11 ⟨rfl, hv, hb⟩; have W11 : Hid (VlAt w11 w10.heap.size (vals M nV)) := hv; have V11 : Hid (Seen w11 g v9 w3.heap.size (vals M nV)) := V10.out.later hb; have S11 : Hid (OnD w1 w11 g v9 ⟨vals M nV, [], 0⟩) := S10.out.later hb; clear hv hb)
      | (go_at_call 15; refine (same_any w11 _ _ _ _ W11.out V11.out.at' rfl).mono ?_; rintro e w12 ⟨rfl, hb⟩; have S12 : Hid (OnD w1 w12 g v9 ⟨vals M nV, [], 0⟩) := S11.out.later hb; clear hb))
    go_ret
    exact ⟨rfl, Below.next HB.out S12.out.old⟩
  · rw [errV_pos he]
    have S3 : Hid (OnD w1 w3 g v3 _) := S2.out.step hst
    clear hst
    generalize ((crE ⟨nV, L, s⟩ n : Nat) : Int) = en
    go_wp2
    go_ret
    exact ⟨rfl, Below.next HB.out S3.out.old⟩

end Go.Proofs.Ytejganpamidkmaa
