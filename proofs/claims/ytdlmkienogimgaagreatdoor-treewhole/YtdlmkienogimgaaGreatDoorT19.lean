/- This text proves what Names answers: how many names a file has, 0 of a directory, or what is wrong; old memory is as it was; the conditions are those of at. -/
import Derived.Test.YtdlmkienogimgaaGreatDoorT17
namespace Go.Proofs.YtdlmkienogimgaaGreatDoor
open Go.RowKit Go.Deep Go.Shelf Go.Maps

def nmN (L : List Ent) (M : Nat → Option Nat) (s : List UInt8) : Nat := if (atS L M s).1 = 0 ∧ M (thing L M s) = none then (wka L).countP fun x => decide (x.2 = thing L M s) else 0

set_option maxRecDepth 100000 in
theorem Tryz.enter55 : ∀ args w, (callFunc 55 args).run Tryz.prog w = .ok (.enter 55 args) w := fun _ _ => by rfl

theorem isOne_any (w : World) (B j o : Nat) (mj mo : Option Nat) (hB : Boxed w B 59 (ptr o)) (hj : NodeAt w j mj) (ho : NodeAt w o mo) :
    Calls Tryz.prog 55 #[ptr j, .pointer (some ⟨B, 0, none⟩)] w fun e w' => e = .returned (.bool (decide (j = o))) ∧ w = w' := by
  have hc := hB.cell
  have he := eql_node w j o mj mo hj ho
  unfold ptr at hc ⊢
  clear hB hj ho
  generalize decide (j = o) = c at *
  go_enter Tryz.func55, Tryz.ntmps55
  go_wp2
  go_ret
  exact ⟨rfl, rfl⟩

set_option maxHeartbeats 4000000 in
set_option maxRecDepth 100000 in
theorem names_any (w : World) (base t : Nat) (L : List Ent) (M : Nat → Option Nat) (h : TreeAt w base t L M) (s : ByteArray) (hs : s.size ≤ maxLen) (hm : Mx w) :
    Calls Tryz.prog 26 #[ptr t, .string s] w fun e w' => e = .returned (.tuple #[.int .i64 (nmN L M s.data.toList), errV (atS L M s.data.toList).1]) ∧ Below w.heap.size w w' := by
  have HA : Hid _ := fun (_ : Nat) => at_any w base t L M h s hs hm
  rcases atS_cases h.good s.data.toList with ⟨j, h1, h2, h3⟩ | ⟨e, h0, h1⟩
  · rw [h1] at HA ⊢
    simp only [valO, errV_zero] at HA ⊢
    have hth : thing L M s.data.toList = j := by unfold thing; rw [h1]; rfl
    obtain ⟨hnj, _⟩ := h.node _ _ (look_mem h3)
    have HD : Hid _ := fun (w' : World) (hb : Below w.heap.size w w') => isDir_any w' j (M j) ((hb.block _ hnj.lt).trans hnj)
    cases hM : M j with
    | some m =>
      have hE : nmN L M s.data.toList = 0 := by unfold nmN; rw [hth, hM, if_neg (by simp)]
      rw [hE]
      rw [hM] at HD
      unfold ptr at HA HD ⊢
      clear hE hM hnj hth h1 h2 h3 h
      go_enter Tryz.func26, Tryz.ntmps26
      go_wp2_with (first
        | (go_at_call 39; refine (HA.out 0).mono ?_; rintro e w1 ⟨rfl, hb1⟩)
        | (go_at_call 33; refine (HD.out _ (hb1.trans ((below_alloc w1 _).mono hb1.size))).mono ?_; rintro e w' ⟨rfl, rfl⟩))
      go_ret2
      exact ⟨rfl, hb1.trans ((below_alloc w1 _).mono hb1.size)⟩
    | none =>
      have hE : nmN L M s.data.toList = (wka L).countP fun x => decide (x.2 = j) := by unfold nmN; rw [hth, h1, if_pos ⟨rfl, hM⟩]
      rw [hE]
      rw [hM] at HD
      have HC : Hid (∀ (w1 : World), Below w.heap.size w w1 → Calls Tryz.prog 54 #[ptr t, .func (.func 55) #[] #[.pointer (some ⟨w1.heap.size, 0, none⟩)]] (w1.alloc (.cells #[ptr j] 59)) fun e w' => e = .returned (.int .i64 ((wka L).countP fun x => decide (x.2 = j) : Nat)) ∧ Below (w1.alloc (.cells #[ptr j] 59)).heap.size (w1.alloc (.cells #[ptr j] 59)) w') := by
        show ∀ (w1 : World), Below w.heap.size w w1 → _
        intro w1 hb1
        have hb2 : Below w.heap.size w (w1.alloc (.cells #[ptr j] 59)) := hb1.trans ((below_alloc w1 _).mono hb1.size)
        refine count_any _ base t L M (h.later hb2) 55 #[.pointer (some ⟨w1.heap.size, 0, none⟩)] Tryz.enter55 (fun x => decide (x = j)) fun w' ho p x hx => ?_
        obtain ⟨hnx, _⟩ := (h.later hb2).node _ _ hx
        obtain ⟨hnj2, _⟩ := (h.later hb2).node _ _ (look_mem h3)
        exact isOne_any w' w1.heap.size x j _ _ ((ho _ (by simp)).trans (Boxed.new w1 _ _)) ((ho _ hnx.lt).trans hnx) ((ho _ hnj2.lt).trans hnj2)
      generalize ((wka L).countP fun x => decide (x.2 = j)) = c at *
      unfold ptr at HA HD HC ⊢
      clear hE hM hnj hth h1 h2 h3 h
      go_enter Tryz.func26, Tryz.ntmps26
      go_wp2_with (first
        | (go_at_call 39; refine (HA.out 0).mono ?_; rintro e w1 ⟨rfl, hb1⟩)
        | (go_at_call 33; refine (HD.out _ (hb1.trans ((below_alloc w1 _).mono hb1.size))).mono ?_; rintro e w' ⟨rfl, rfl⟩)
        | (go_at_call 54; refine (HC.out _ hb1).mono ?_; rintro e w2 ⟨rfl, hb2⟩))
      go_ret2
      exact ⟨rfl, hb1.trans (((below_alloc w1 _).trans (hb2.mono (by simp))).mono hb1.size)⟩
  · have hE : nmN L M s.data.toList = 0 := by unfold nmN; rw [h1, if_neg (fun h => h0 h.1)]
    rw [h1] at HA ⊢
    simp only [valO] at HA
    rw [errV_pos h0] at HA
    rw [hE, errV_pos h0]
    unfold ptr at HA ⊢
    clear hE h1 h0 h
    go_enter Tryz.func26, Tryz.ntmps26
    go_wp2_with (first
      | (go_at_call 39; refine (HA.out 0).mono ?_; rintro e w1 ⟨rfl, hb1⟩))
    go_ret2
    exact ⟨rfl, hb1.trans ((below_alloc w1 _).mono hb1.size)⟩

end Go.Proofs.YtdlmkienogimgaaGreatDoor
