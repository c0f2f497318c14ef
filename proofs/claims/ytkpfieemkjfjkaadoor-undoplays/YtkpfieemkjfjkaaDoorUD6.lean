/- This text says what it means that a play's disk and the document's lie in memory beside each other, and what stays of it behind each step; it speaks of no call; the conditions are those that each fact names. -/
import Derived.Test.YtkpfieemkjfjkaaDoorUD5
namespace Go.Proofs.YtkpfieemkjfjkaaDoor
open Go.RowKit Go.Deep Go.Maps

/-- The blocks that a play turns. -/
def ThU (g : Nat) (v : Value) (X x : Nat) : Prop := Up g v x ∨ x = X
theorem InH.kp {T : Nat → Prop} {w W : World} {v v' : Value} {xs xs' : List Int} (h : InH w W v xs v' xs') (k : KP T W (fun U => SliceIs U v xs)) (hT : ∀ x, T x → x < w.heap.size) : KP T W (fun U => SliceIs U v' xs') := by
  rcases h with ⟨rfl, rfl⟩ | h
  · exact k
  · exact KP.list h (by decide) hT
theorem InP.kp {T : Nat → Prop} {w W : World} {v v' : Value} {L L' : List Nt} (h : InP w W v L v' L') (k : KP T W (fun U => PutsIs U v L)) (hT : ∀ x, T x → x < w.heap.size) : KP T W (fun U => PutsIs U v' L') := by
  rcases h with ⟨rfl, rfl⟩ | h
  · exact k
  · exact KP.puts h hT
/-- The program's disk, and the document's, each with what it holds. -/
structure PlU (w wr : World) (g : Nat) (v : Value) (X : Nat) (vb vo vw : Value) (d q : Ud) : Prop where
  on : OnU w wr g v d
  box : Box3 wr X vb vo vw
  doc : KP (ThU g v X) wr (fun W => DocIs W vb vo vw q)
  ap : ¬ Up g v X
  low : w.heap.size ≤ X
theorem PlU.lt {w wr : World} {g X : Nat} {v vb vo vw : Value} {d q : Ud} (h : PlU w wr g v X vb vo vw d q) : ∀ x, ThU g v X x → x < wr.heap.size := by
  rintro x (e | rfl)
  · exact (h.on.disk.fp e).2
  · exact h.box.lt
theorem PlU.later {w wr w' : World} {g X : Nat} {v vb vo vw : Value} {d q : Ud} (h : PlU w wr g v X vb vo vw d q) (hb : Below wr.heap.size wr w') : PlU w w' g v X vb vo vw d q :=
  ⟨h.on.later hb, h.box.later hb, h.doc.step (Stay.of hb) fun _ e => .inl e, h.ap, h.low⟩
theorem PlU.prog {w wr w' : World} {g X : Nat} {v v' vb vo vw : Value} {d d' q : Ud} (h : PlU w wr g v X vb vo vw d q) (hs : Turn wr w' w.heap.size g v v' d') : PlU w w' g v' X vb vo vw d' q := by
  have hT : ∀ x, ThU g v' X x → ThU g v X x ∨ wr.heap.size ≤ x := by
    rintro x (e | rfl)
    · rcases hs.fp x e with k | k
      · exact .inl (.inl k)
      · exact .inr k
    · exact .inl (.inr rfl)
  have hS : Stay (ThU g v X) wr w' := hs.stay.sub fun _ e => .inl e
  refine ⟨h.on.step hs, h.box.same (hs.stay.block X h.box.lt h.ap), h.doc.step hS hT, fun e => ?_, h.low⟩
  rcases hs.fp X e with k | k
  · exact h.ap k
  · have := h.box.lt; omega
theorem OnU.turn {w wr w' : World} {g X : Nat} {v : Value} {d : Ud} (h : OnU w wr g v d) (hs : Stay (fun x => x = X) wr w') (hn : ¬ Up g v X) (hl : w.heap.size ≤ X) : OnU w w' g v d :=
  ⟨h.disk.stay hs fun x hx e => hn (e ▸ hx), h.old.trans (hs.below (by rintro x rfl; exact hl) h.old.size)⟩
theorem PlU.docs {w wr w2 : World} {g X : Nat} {v vb vo vw vb' vo' vw' : Value} {d q q' : Ud} (h : PlU w wr g v X vb vo vw d q) (k : Nxt wr w2 vb vo vw vb' vo' vw' q q') :
    PlU w (((w2.setCell ⟨X, 0, none⟩ vb').setCell ⟨X, 1, none⟩ vo').setCell ⟨X, 2, none⟩ vw') g v X vb' vo' vw' d q' := by
  have h2 := h.later k.old
  have hs := stay_set3 (S := fun x => x = X) w2 (b := X) rfl vb' vo' vw'
  have hS : Stay (ThU g v X) w2 _ := hs.sub fun _ e => .inr e
  have hb := k.b.kp (T := ThU g v X) (fun W hW => (h2.doc W hW).b) h.lt
  have ho := k.o.kp (T := ThU g v X) (fun W hW => (h2.doc W hW).o) h.lt
  have hn := k.n.kp (T := ThU g v X) (fun W hW => (h2.doc W hW).n) h.lt
  have hd : KP (ThU g v X) w2 (fun W => DocIs W vb' vo' vw' q') := fun W hW => ⟨hb W hW, ho W hW, hn W hW⟩
  exact ⟨h2.on.turn hs h.ap h.low, h2.box.set _ _ _, hd.step hS fun _ e => .inl e, h.ap, h.low⟩
theorem PlU.new {w w1 w2 : World} {g : Nat} {vb vo : Value} (h : OnU w w1 g (.slice none 0 0) ud0) (hh : w2.ownsRow w1.heap.size 3 1 vb 8 (cellsOf (lst nV))) (ho : w2.ownsRow w1.heap.size 3 1 vo 8 (cellsOf (lsO []))) (hb : Below w1.heap.size w1 w2) :
    PlU w (w2.alloc (.cells #[vb, vo, .slice none 0 0] 39)) g (.slice none 0 0) w2.heap.size vb vo (.slice none 0 0) ud0 ud0 := by
  have h2 := h.later hb
  have hlt : ∀ x, Up g (.slice none 0 0) x → x < w1.heap.size := fun x e => (h.disk.fp e).2
  have k1 : KP (Up g (.slice none 0 0)) w2 (fun W => SliceIs W vb (lst nV)) := KP.list hh (by decide) hlt
  have k2 : KP (Up g (.slice none 0 0)) w2 (fun W => SliceIs W vo (lsO [])) := KP.list ho (by decide) hlt
  have k3 : KP (Up g (.slice none 0 0)) w2 (fun W => DocIs W vb vo (.slice none 0 0) ud0) := fun W hW => ⟨k1 W hW, k2 W hW, ⟨none, 0, rfl, Nat.zero_le _, .inl rfl, fun h => absurd rfl h⟩⟩
  refine ⟨h2.later (below_one _ _), box3_new _ _ _ _, k3.step (Stay.of (below_one _ _)) ?_, fun e => by have := (h2.disk.fp e).2; omega, h2.old.size⟩
  rintro x (e | rfl)
  · exact .inl e
  · exact .inr (Nat.le_refl _)

/-- Values that were told, of which one is as the other. -/
theorem same_lists (w : World) (u v : Value) (xs ys : List Int) (hu : SliceIs w u xs) (hv : SliceIs w v ys) (e : xs = ys) :
    Calls Tryd.prog 18 #[u, v] w fun e w' => e = .returned (.bool true) ∧ Below w.heap.size w w' := by
  subst e
  have H1 := ints_any w _ _ _ _ hu hv
  rw [eqB_self] at H1
  refine H1.mono ?_
  rintro e w' ⟨rfl, q, rfl⟩
  exact ⟨rfl, below_drew _ _ _⟩

end Go.Proofs.YtkpfieemkjfjkaaDoor
