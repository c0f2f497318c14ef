/- This text proves what End of package undo tells, and what the disk is behind it; nothing is turned but the disk's block and its notes'; the condition is that the disk lies there. -/
import Derived.Test.YthgbknfdbobmiaaW5
namespace Go.Proofs.Ythgbknfdbobmiaa
open Go.RowKit Go.Deep

theorem endu_mem {w w2 w3 : World} {base g : Nat} {v v3 : Value} {d : Ud} {t : Int} (h : UndoM w base g v d) (hb : Below w.heap.size w w2) (hs3 : Stay (fun x => v.ownBlock = some x) w2 w3)
    (ho3 : w3.ownsRow base 69 3 v3 (cut t d.L).length (ntc (cut t d.L))) (hv3 : v3.ownBlock = v.ownBlock) :
    (w3.cell? ⟨g, 8, none⟩ = some v ∧ w3.frozen? ⟨g, 8, none⟩ = false) ∧ Turn w (w3.setCell ⟨g, 8, none⟩ v3) base g v v3 (enD d t) := by
  have hm2 := h.later hb
  have hc : w3.heap[g]? = some (.cells (udC d v) 62 (0, 0)) := (hs3.block g hm2.lt h.ap).trans hm2.cells
  refine ⟨⟨(cell_in hc 8).1.trans (udC_log d v), (cell_in hc 8).2⟩, UndoM.notes hc h.low ho3 (by rw [hv3]; exact h.ap) (good_en h.good t), ?_, fun x e => .inl (by rw [← hv3]; exact e)⟩
  exact ((Stay.of hb).trans (hs3.sub fun x e => .inr e)).trans (Stay.set _ _ (.inl rfl))

set_option maxHeartbeats 4000000 in
set_option maxRecDepth 100000 in
theorem end_any (w : World) (base g : Nat) (v : Value) (d : Ud) (h : UndoM w base g v d) (t : Int) :
    Calls Try.prog 22 #[ptrU g, .int .i64 t] w fun e w' => e = .returned (errV (enE t)) ∧ ∃ v', Turn w w' base g v v' (enD d t) := by
  have HT : Hid _ := fun (w2 : World) => turn_any w2 t
  have HB1 : Hid (Below w.heap.size w (w.alloc (.cells #[.int .i64 t] 3))) := below_one _ _
  have HM : Hid (UndoM w base g v d) := h
  unfold ptrU enE
  by_cases hk : 0 ≤ t ∧ t < 20
  · rw [if_pos hk]
    have e1 : decide (0 ≤ t ∧ t < 20) = true := by simp [hk]
    rw [e1] at HT
    have hm1 := h.later HB1.out
    have HD : Hid _ := fun (_ : Nat) => delt_any (w.alloc (.cells #[.int .i64 t] 3)) base v d.L hm1.log h.good.len w.heap.size t (cell_new _ _ _ _) (fun e => by have := (h.fp (.inr e)).2; omega)
    have c8 := hm1.facts.1
    obtain ⟨a, c, hv⟩ := rown_form h.log
    have HV : Hid (v = .slice a d.L.length c) := hv
    clear h hm1 hk e1 hv
    go_enter Try.func22, Try.ntmps22
    go_wp2_with (first
      | (go_at_call 30; refine (HT.out _).mono ?_; rintro e w2 ⟨rfl, rfl⟩)
      | (go_at_call 32; refine (HD.out 0).mono ?_; rintro e w3 ⟨v3, rfl, ho3, hv3, hs3⟩; obtain ⟨⟨k8, kf⟩, hst3⟩ := endu_mem HM.out HB1.out hs3 ho3 hv3; obtain ⟨a3, c3, hv3f⟩ := rown_form ho3; obtain ⟨n3, hn3⟩ : ∃ n3, (cut t d.L).length = n3 := ⟨_, rfl⟩; rw [hn3] at hv3f; clear hn3 ho3 hs3 hv3; subst hv3f; have HS3 : Hid _ := fun (_ : Nat) => hst3; clear hst3))
    go_ret
    exact ⟨rfl, _, HS3.out 0⟩
  · rw [if_neg hk]
    have e1 : decide (0 ≤ t ∧ t < 20) = false := by simp; omega
    rw [e1] at HT
    have e2 : enD d t = d := enD_none h.good (by unfold enE; rw [if_neg hk]; decide)
    rw [e2]
    clear h hk e1 e2
    go_enter Try.func22, Try.ntmps22
    go_wp2_with (go_at_call 30; refine (HT.out _).mono ?_; rintro e w2 ⟨rfl, rfl⟩)
    go_ret
    exact ⟨rfl, v, Turn.none' HM.out HB1.out⟩

end Go.Proofs.Ythgbknfdbobmiaa
