/- This text proves what List answers: the names in a directory, rising, or what is wrong; old memory is as it was; the conditions are those of at. -/
import Derived.Test.YtdlmkienogimgaaGreatDoorT17
namespace Go.Proofs.YtdlmkienogimgaaGreatDoor
open Go.RowKit Go.Deep Go.Shelf Go.Maps

def lsE (L : List Ent) (M : Nat → Option Nat) (s : List UInt8) : Nat := if (atS L M s).1 ≠ 0 then (atS L M s).1 else if M (thing L M s) = none then 3 else 0
def lsL (L : List Ent) (M : Nat → Option Nat) (s : List UInt8) : List (List UInt8) := if lsE L M s = 0 then kids L (pN s) else []

set_option maxHeartbeats 4000000 in
set_option maxRecDepth 100000 in
theorem list_any (w : World) (base t : Nat) (L : List Ent) (M : Nat → Option Nat) (h : TreeAt w base t L M) (s : ByteArray) (hs : s.size ≤ maxLen) (hm : Mx w) :
    Calls Tryz.prog 11 #[ptr t, .string s] w fun e w' => ∃ v, e = .returned (.tuple #[v, errV (lsE L M s.data.toList)]) ∧ StrsIs w' v (lsL L M s.data.toList) ∧ Below w.heap.size w w' := by
  have HA : Hid _ := fun (_ : Nat) => at_any w base t L M h s hs hm
  rcases atS_cases h.good s.data.toList with ⟨j, h1, h2, h3⟩ | ⟨e, h0, h1⟩
  · rw [h1] at HA
    simp only [valO, errV_zero] at HA
    have hth : thing L M s.data.toList = j := by unfold thing; rw [h1]; rfl
    obtain ⟨hnj, _⟩ := h.node _ _ (look_mem h3)
    have HD : Hid _ := fun (w' : World) (hb : Below w.heap.size w w') => isDir_any w' j (M j) ((hb.block _ hnj.lt).trans hnj)
    cases hM : M j with
    | none =>
      have hE : lsE L M s.data.toList = 3 := by unfold lsE; rw [h1, hth, hM]; rfl
      have hL : lsL L M s.data.toList = [] := by unfold lsL; rw [if_neg (by rw [hE]; decide)]
      rw [hE, hL, errV_pos (by decide)]
      rw [hM] at HD
      unfold ptr at HA HD ⊢
      clear hE hL hM hnj hth h1 h2 h3 h
      go_enter Tryz.func11, Tryz.ntmps11
      go_wp2_with (first
        | (go_at_call 39; refine (HA.out 0).mono ?_; rintro e w1 ⟨rfl, hb1⟩)
        | (go_at_call 33; refine (HD.out _ hb1).mono ?_; rintro e w' ⟨rfl, rfl⟩))
      go_ret2
      exact ⟨_, rfl, strs_nil _ _ _, hb1⟩
    | some m =>
      have hE : lsE L M s.data.toList = 0 := by unfold lsE; rw [h1, hth, hM]; rfl
      have hL : lsL L M s.data.toList = kids L (pN s.data.toList) := by unfold lsL; rw [if_pos hE]
      rw [hE, hL, errV_zero]
      rw [hM] at HD
      have HR : Hid _ := fun (w' : World) (hb : Below w.heap.size w w') => rising_any w' base t L M (h.later hb) (pN s.data.toList) j (look_mem h3)
      generalize kids L (pN s.data.toList) = K at *
      unfold ptr at HA HD HR ⊢
      clear hE hL hM hnj hth h1 h2 h3 h
      go_enter Tryz.func11, Tryz.ntmps11
      go_wp2_with (first
        | (go_at_call 39; refine (HA.out 0).mono ?_; rintro e w1 ⟨rfl, hb1⟩)
        | (go_at_call 33; refine (HD.out _ hb1).mono ?_; rintro e w' ⟨rfl, rfl⟩)
        | (go_at_call 40; refine (HR.out _ hb1).mono ?_; rintro e w2 ⟨v2, rfl, hv2, hb2⟩))
      go_ret2
      exact ⟨_, rfl, strs_own hv2, hb1.trans (hb2.mono hb1.size)⟩
  · have hE : lsE L M s.data.toList = e := by unfold lsE; rw [h1, if_pos h0]
    have hL : lsL L M s.data.toList = [] := by unfold lsL; rw [if_neg (by rw [hE]; exact h0)]
    rw [h1] at HA
    simp only [valO] at HA
    rw [errV_pos h0] at HA
    rw [hE, hL, errV_pos h0]
    unfold ptr at HA ⊢
    clear hE hL h1 h0 h
    go_enter Tryz.func11, Tryz.ntmps11
    go_wp2_with (first
      | (go_at_call 39; refine (HA.out 0).mono ?_; rintro e w1 ⟨rfl, hb1⟩))
    go_ret2
    exact ⟨_, rfl, strs_nil _ _ _, hb1⟩

end Go.Proofs.YtdlmkienogimgaaGreatDoor
