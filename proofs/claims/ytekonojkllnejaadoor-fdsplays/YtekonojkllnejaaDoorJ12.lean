/- This text proves what the document's own NewFds returns: eight numbers without a file, and no files; old memory is as it was; no condition. -/
import Derived.Test.YtekonojkllnejaaDoorJ11
namespace Go.Proofs.YtekonojkllnejaaDoor
open Go.RowKit Go.Deep

theorem cells_more (k : Nat) : cellsOf (List.replicate k (-1) ++ [-1]) = cellsOf (List.replicate (k + 1) (-1)) := by
  rw [List.replicate_succ']

set_option maxHeartbeats 4000000 in
set_option maxRecDepth 100000 in
theorem newFds_any (w : World) : Calls Tryd.prog 13 #[] w fun e w' => ∃ vo, e = .returned (.agg #[vo, .slice none 0 0, .slice none 0 0]) ∧ Doc w' w.heap.size vo (.slice none 0 0) (.slice none 0 0) (List.replicate 8 (-1)) [] [] ∧ Below w.heap.size w w' := by
  obtain ⟨w1, hw1, hb1, k0, k1⟩ := boxes_new w (.slice none 0 0) (.slice none 0 0) (.slice none 0 0) (.slice none 0 0) (.slice none 0 0) (.slice none 0 0)
  have HW1 : Hid _ := hw1
  have HS : Hid (Box3 w1 w.heap.size (.slice none 0 0) (.slice none 0 0) (.slice none 0 0) ∧ Box3 w1 (w.heap.size + 1) (.slice none 0 0) (.slice none 0 0) (.slice none 0 0) ∧ Below w.heap.size w w1) := ⟨k0, k1, hb1⟩
  clear hw1 hb1 k0 k1
  go_enter Tryd.func13, Tryd.ntmps13
  go_wp2_with fail
  rw [HW1.out]
  go_loopw [2] (fun i wr => ∃ (k : Nat) (v : Value), k ≤ 8 ∧ i = .int .i64 (k : Int) ∧ Box3 wr w.heap.size (.slice none 0 0) (.slice none 0 0) (.slice none 0 0) ∧ Box3 wr (w.heap.size + 1) v (.slice none 0 0) (.slice none 0 0) ∧ Below w.heap.size w wr ∧ wr.ownsRow (w.heap.size + 2) 3 1 v k (cellsOf (List.replicate k (-1)))) (fun i _ => 8 - (intOf i).toNat)
  case atStart => exact ⟨0, .slice none 0 0, by omega, rfl, HS.out.1, HS.out.2.1, HS.out.2.2, World.ownsRow_nil _ _ _ _⟩
  case round =>
    obtain ⟨k, v, hk, rfl, hx0, hx1, hb, ho⟩ := hrel
    have HX0 : Hid (Box3 wr w.heap.size (.slice none 0 0) (.slice none 0 0) (.slice none 0 0)) := hx0
    have HX1 : Hid (Box3 wr (w.heap.size + 1) v (.slice none 0 0) (.slice none 0 0)) := hx1
    have HB : Hid (Below w.heap.size w wr) := hb
    have HO : Hid (wr.ownsRow (w.heap.size + 2) 3 1 v k (cellsOf (List.replicate k (-1)))) := ho
    obtain ⟨a, c, rfl⟩ := row_form ho
    by_cases hlt : k < 8
    · obtain ⟨y0, y1, y2, f0, f1, f2⟩ := hx1.facts
      have hz := hx1.lt
      clear hx0 hx1 hb ho
      go_wp2_with (at_builtin; refine wpList_append_ints rfl (.tmp 8) (.tmp 9) rfl (w.heap.size + 2) (.slice a k c) k (List.replicate k (-1)) rfl (own_below HO.out (below_alloc _ _)) (.slice (some ⟨wr.heap.size, 0, none⟩) 1 1) [-1] rfl (ints_lit wr [-1] (by decide) 1) ?q1 ?q2 ?q3)
      case q1 => show k + 1 ≤ 1000000; omega
      case q2 => simp; omega
      case q3 =>
        intro v' w' hown hb'
        rw [cells_more] at hown
        have HO' : Hid (w'.ownsRow (w.heap.size + 2) 3 1 v' (k + 1) (cellsOf (List.replicate (k + 1) (-1)))) := hown
        obtain ⟨a', c', rfl⟩ := row_form hown
        have hb2 : Below (w.heap.size + 2) wr w' := ((Below.refl _ _).alloc (by omega) _).trans hb'
        have hx0 : Box3 w' w.heap.size (.slice none 0 0) (.slice none 0 0) (.slice none 0 0) := HX0.out.same (hb2.block _ (by omega))
        have hx1 : Box3 w' (w.heap.size + 1) (.slice a k c) (.slice none 0 0) (.slice none 0 0) := HX1.out.same (hb2.block _ (by omega))
        have HX0' : Hid (Box3 w' w.heap.size (.slice none 0 0) (.slice none 0 0) (.slice none 0 0)) := hx0
        have HX1' : Hid (Box3 w' (w.heap.size + 1) (.slice a k c) (.slice none 0 0) (.slice none 0 0)) := hx1
        have HB' : Hid (Below w.heap.size w w') := HB.out.trans (hb2.mono (by omega))
        obtain ⟨y0, y1, y2, f0, f1, f2⟩ := hx1.facts
        clear hown hb' hb2 hx0 hx1
        go_wp2
        go_roundw
        case rel =>
          refine ⟨k + 1, _, by omega, by go_num, HX0'.out.off (p := ⟨w.heap.size + 1, 0, none⟩) (by simp) _, HX1'.out.set0 _, HB'.out.setCell (p := ⟨w.heap.size + 1, 0, none⟩) (by simp) _, own_still HO'.out fun b e => Below.heap_setCell _ _ _ _ ?_⟩
          have := (own_lt HO'.out e).1
          show b ≠ w.heap.size + 1
          omega
        case measure => simp [intOf]; omega
    · obtain rfl : k = 8 := by omega
      obtain ⟨x0, x1, x2, g0, g1, g2⟩ := hx0.facts
      obtain ⟨y0, y1, y2, f0, f1, f2⟩ := hx1.facts
      clear hx0 hx1 hb ho
      go_wp2_with fail
      refine bodyPost_ret (v := .agg #[.slice a 8 c, .slice none 0 0, .slice none 0 0]) ?_ rfl ?_
      · rw [results_cell1 rfl]
        go_simp
      · have hq := below_set3 (b := w.heap.size) HB.out (Nat.le_refl _) (.slice a 8 c) (.slice none 0 0) (.slice none 0 0)
        have hT := tch_set3 wr w.heap.size (.slice a 8 c) (.slice none 0 0) (.slice none 0 0)
        refine ⟨_, rfl, ⟨own_down (own_still HO.out fun b e => hT.block b (own_lt HO.out e).2 ?_) (by omega), World.ownsRow_nil _ _ _ _, World.ownsRow_nil _ _ _ _, (fun b e => ⟨(fun h => by cases h), (fun h => by cases h)⟩), (fun b h => by cases h), by simp⟩, hq⟩
        have := (own_lt HO.out e).1
        show ¬ b = w.heap.size
        omega

end Go.Proofs.YtekonojkllnejaaDoor
