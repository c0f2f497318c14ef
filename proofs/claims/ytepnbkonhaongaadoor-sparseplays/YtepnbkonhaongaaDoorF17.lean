/- This text says what it means that a play's file and the document's lie in memory beside each other, and what stays of it behind each step; it speaks of no call; the conditions are those that each fact names. -/
import Derived.Test.YtepnbkonhaongaaDoorF16
import Derived.Test.YtepnbkonhaongaaDoorF2
import Derived.Test.YtepnbkonhaongaaDoorF5
namespace Go.Proofs.YtepnbkonhaongaaDoor
open Go.RowKit Go.Deep Go.Maps

def Thr (g b X x : Nat) : Prop := x = g ∨ x = b ∨ x = X

/-- The program's file, and the document's, each with what it holds. -/
structure PlM (w wr : World) (g b X : Nat) (vb vk : Value) (f d : Fil) : Prop where
  on : OnF w wr g b f
  box : Box3 wr X vb (.int .i64 (d.s : Int)) vk
  doc : DocS (Thr g b X) wr vb vk d
  ap : g ≠ X ∧ b ≠ X ∧ w.heap.size ≤ X

theorem OnF.any {S : Nat → Prop} {w wr w' : World} {g b : Nat} {f : Fil} (h : OnF w wr g b f) (hs : Stay S wr w') (h1 : ¬ S g) (h2 : ¬ S b) (hS : ∀ x, S x → w.heap.size ≤ x) : OnF w w' g b f :=
  ⟨h.fil.stay hs h1 h2, h.wel, h.low, h.old.trans (hs.below hS h.old.size)⟩
theorem PlM.lt {w wr : World} {g b X : Nat} {vb vk : Value} {f d : Fil} (h : PlM w wr g b X vb vk f d) : ∀ x, Thr g b X x → x < wr.heap.size := by
  rintro x (rfl | rfl | rfl)
  · exact h.on.fil.lt.1
  · exact h.on.fil.lt.2
  · exact h.box.lt
theorem PlM.later {w wr w' : World} {g b X : Nat} {vb vk : Value} {f d : Fil} (h : PlM w wr g b X vb vk f d) (hb : Below wr.heap.size wr w') : PlM w w' g b X vb vk f d :=
  ⟨h.on.later hb, h.box.later hb, h.doc.later hb, h.ap⟩
theorem PlM.prog {w wr w' : World} {g b X : Nat} {vb vk : Value} {f f' d : Fil} (h : PlM w wr g b X vb vk f d) (hf : FilM w' g b f') (hw : Wel f') (hs : Stay (Two g b) wr w') : PlM w w' g b X vb vk f' d :=
  ⟨h.on.step hf hw hs, h.box.same (hs.block X h.box.lt (by rintro (e | e); exact h.ap.1 e.symm; exact h.ap.2.1 e.symm)), h.doc.stay (stay_sub hs (by rintro x (e | e); exact .inl e; exact .inr (.inl e))), h.ap⟩
theorem PlM.turn {w wr w2 : World} {g b X : Nat} {vb vk vb' vk' : Value} {f d d' : Fil} (h : PlM w wr g b X vb vk f d) (hd : DocS (Thr g b X) w2 vb' vk' d') (hb : Below wr.heap.size wr w2) :
    PlM w (((w2.setCell ⟨X, 0, none⟩ vb').setCell ⟨X, 1, none⟩ (.int .i64 (d'.s : Int))).setCell ⟨X, 2, none⟩ vk') g b X vb' vk' f d' := by
  have h2 := h.later hb
  have hs := stay_set3 (S := fun x => x = X) w2 (b := X) rfl vb' (.int .i64 (d'.s : Int)) vk'
  exact ⟨h2.on.any hs h.ap.1 h.ap.2.1 (by rintro x rfl; exact h.ap.2.2), h2.box.set _ _ _, hd.stay (stay_sub hs (by rintro x rfl; exact .inr (.inr rfl))), h.ap⟩
theorem PlM.new {w w1 w2 : World} {g b : Nat} {vb vk : Value} (h : OnF w w1 g b fil0) (hd : DocS (Two g b) w2 vb vk fil0) (hb : Below w1.heap.size w1 w2) :
    PlM w (w2.alloc (.cells #[vb, .int .i64 0, vk] 27)) g b w2.heap.size vb vk fil0 fil0 := by
  have h2 := h.later hb
  have h1 := h2.fil.lt
  exact ⟨h2.later (below_alloc _ _), box3_new _ _ _ _, hd.wide (Stay.of (below_alloc _ _)) (by
    rintro x (e | e | e)
    · exact .inl (.inl e)
    · exact .inl (.inr e)
    · exact .inr (by omega)), ⟨by omega, by omega, h2.old.size⟩⟩

/-- The first blocks, rising. -/
def blK (h : Nat → Bool) (j : Nat) : List Int := ((List.range j).filter h).map fun (k : Nat) => (k : Int)
theorem blK_yes {h : Nat → Bool} {j : Nat} (e : h j = true) : cellsOf (blK h j) ++ [.int .i64 (j : Int)] = cellsOf (blK h (j + 1)) := by
  simp [blK, cellsOf, List.range_succ, List.filter_append, e]
theorem blK_no {h : Nat → Bool} {j : Nat} (e : h j = false) : blK h j = blK h (j + 1) := by
  simp [blK, List.range_succ, List.filter_append, e]
theorem blK_end (f : Fil) : blK f.h 16 = blL f := rfl
theorem blK_le (h : Nat → Bool) (j : Nat) : (blK h j).length ≤ j := by
  unfold blK
  rw [List.length_map]
  exact Nat.le_trans (List.length_filter_le _ _) (by simp)

/-- A part of the document's bytes. -/
theorem byC_part {w : World} {b o c A L : Nat} {f : Fil} {a n : Nat} (hc : ∀ i, i < 64 → w.cell? ⟨b, o + i, none⟩ = some (.int .i64 (f.c i))) (hb : b < w.heap.size) (hL : (rdL f a n).length = L) (hA : A = a) (hf : a + L ≤ 64) : SliceIs w (.slice (some ⟨b, o + A, none⟩) L c) (rdL f a n) := by
  subst hA
  refine ⟨_, c, by rw [hL], by rw [hL]; unfold maxLen; omega, fun _ => ⟨b, o + A, rfl, hb, fun i hi => ?_⟩⟩
  rw [Nat.add_assoc, hc (A + i) (by omega), rdL_nth (by rw [← rdL_len]; exact hi)]

end Go.Proofs.YtepnbkonhaongaaDoor
