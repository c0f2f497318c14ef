/- This text says what it means that a play's disk and the document's lie in memory beside each other, and what stays of it behind each step; it speaks of no call; the conditions are those that each fact names. -/
import Derived.Test.YthgbknfdbobmiaaDoorSD1
import Derived.Test.YthgbknfdbobmiaaDoorSD3
import Derived.Test.YthgbknfdbobmiaaDoorIn3
namespace Go.Proofs.YthgbknfdbobmiaaDoor
open Go.RowKit Go.Deep

theorem eqB_is (xs : List Int) : eqB xs xs = true := by simp [eqB]
/-- A disk in memory that was made behind a world, whose memory is as it was. -/
structure OnS (w wr : World) (g : Nat) (C : Nat → Int) : Prop where
  disk : ShaM wr w.heap.size g C
  old : Below w.heap.size w wr
theorem OnS.later {w wr w' : World} {g : Nat} {C : Nat → Int} (h : OnS w wr g C) (hb : Below wr.heap.size wr w') : OnS w w' g C := ⟨h.disk.later hb, h.old.trans (hb.mono h.old.size)⟩
theorem OnS.step {w wr w' : World} {g : Nat} {C D : Nat → Int} (h : OnS w wr g C) (hs : TurnS wr w' w.heap.size g D) : OnS w w' g D :=
  ⟨hs.disk, h.old.trans (hs.stay.below (fun _ hx => by subst hx; exact h.disk.low) h.old.size)⟩

/-- The blocks that a play turns. -/
def ThS (g X x : Nat) : Prop := x = g ∨ x = X
/-- The program's disk, and the document's, each with what it holds. -/
structure PlS (w wr : World) (g X : Nat) (vs vo vn : Value) (C D : Nat → Int) : Prop where
  on : OnS w wr g C
  box : Box3 wr X vs vo vn
  doc : KP (ThS g X) wr (fun W => DocS W vs vo vn D)
  ap : X ≠ g
  low : w.heap.size ≤ X
theorem PlS.lt {w wr : World} {g X : Nat} {vs vo vn : Value} {C D : Nat → Int} (h : PlS w wr g X vs vo vn C D) : ∀ x, ThS g X x → x < wr.heap.size := by
  rintro x (rfl | rfl)
  · exact h.on.disk.lt
  · exact h.box.lt
theorem PlS.later {w wr w' : World} {g X : Nat} {vs vo vn : Value} {C D : Nat → Int} (h : PlS w wr g X vs vo vn C D) (hb : Below wr.heap.size wr w') : PlS w w' g X vs vo vn C D :=
  ⟨h.on.later hb, h.box.later hb, h.doc.step (Stay.of hb) fun _ e => .inl e, h.ap, h.low⟩
theorem PlS.prog {w wr w' : World} {g X : Nat} {vs vo vn : Value} {C C' D : Nat → Int} (h : PlS w wr g X vs vo vn C D) (hs : TurnS wr w' w.heap.size g C') : PlS w w' g X vs vo vn C' D :=
  ⟨h.on.step hs, h.box.same (hs.stay.block X h.box.lt h.ap), h.doc.step (hs.stay.sub fun _ e => .inl e) fun _ e => .inl e, h.ap, h.low⟩
theorem OnS.turn {w wr w' : World} {g X : Nat} {C : Nat → Int} (h : OnS w wr g C) (hs : Stay (fun x => x = X) wr w') (hn : X ≠ g) (hl : w.heap.size ≤ X) : OnS w w' g C :=
  ⟨h.disk.stay hs fun e => hn e.symm, h.old.trans (hs.below (by rintro x rfl; exact hl) h.old.size)⟩
theorem PlS.box' {w wr w' : World} {g X : Nat} {vs vo vn vs' vo' vn' : Value} {C D D' : Nat → Int} (h : PlS w wr g X vs vo vn C D) (hs : Stay (fun x => x = X) wr w') (hb : Box3 w' X vs' vo' vn')
    (hd : KP (ThS g X) wr (fun W => DocS W vs' vo' vn' D')) : PlS w w' g X vs' vo' vn' C D' :=
  ⟨h.on.turn hs h.ap h.low, hb, hd.step (hs.sub fun _ e => .inr e) fun _ e => .inl e, h.ap, h.low⟩
/-- The document's Write. -/
theorem PlS.docs {w wr w2 : World} {g X : Nat} {vs vo vn vs' vn' : Value} {C D D' : Nat → Int} (h : PlS w wr g X vs vo vn C D) (k : NxS wr w2 vs vn vs' vn' D D') :
    PlS w (((w2.setCell ⟨X, 0, none⟩ vs').setCell ⟨X, 1, none⟩ vo).setCell ⟨X, 2, none⟩ vn') g X vs' vo vn' C D' := by
  have h2 := h.later k.old
  have k1 : KP (ThS g X) w2 (fun W => SliceIs W vs' (lsC D' 0 16)) := KP.list k.s (by decide) h.lt
  have k2 : KP (ThS g X) w2 (fun W => SliceIs W vn' (lsC D' 24 8)) := by
    rcases k.n with ⟨rfl, e⟩ | m
    · rw [e]; exact fun W hW => (h2.doc W hW).n
    · exact KP.list m (by decide) h.lt
  refine h2.box' (stay_set3 (S := fun x => x = X) w2 rfl _ _ _) (h2.box.set _ _ _) fun W hW => ⟨k1 W hW, ?_, k2 W hW⟩
  rw [k.o]
  exact (h2.doc W hW).o
/-- The document's tables are turned about. -/
theorem PlS.ends {w wr : World} {g X : Nat} {vs vo vn : Value} {C D : Nat → Int} (h : PlS w wr g X vs vo vn C D) : PlS w (wr.setCell ⟨X, 1, none⟩ vn) g X vs vn vn C (endS D) :=
  h.box' (Stay.set (S := fun x => x = X) _ _ rfl) (h.box.set1 _) fun W hW => by
    have k := h.doc W hW
    refine ⟨?_, ?_, ?_⟩
    · rw [lsC_same (C := endS D) (D := D) (z := 0) (y := 0) (fun i hi => by rw [Nat.zero_add, end_slot D i hi])]; exact k.s
    · rw [lsC_same (C := endS D) (D := D) (z := 16) (y := 24) (fun i hi => end_old D i hi)]; exact k.n
    · rw [lsC_same (C := endS D) (D := D) (z := 24) (y := 24) (fun i hi => end_now D i)]; exact k.n
theorem PlS.crashes {w wr : World} {g X : Nat} {vs vo vn : Value} {C D : Nat → Int} (h : PlS w wr g X vs vo vn C D) : PlS w (wr.setCell ⟨X, 2, none⟩ vo) g X vs vo vo C (crS D) :=
  h.box' (Stay.set (S := fun x => x = X) _ _ rfl) (h.box.set2 _) fun W hW => by
    have k := h.doc W hW
    refine ⟨?_, ?_, ?_⟩
    · rw [lsC_same (C := crS D) (D := D) (z := 0) (y := 0) (fun i hi => by rw [Nat.zero_add, cr_low D i (by omega)])]; exact k.s
    · rw [lsC_same (C := crS D) (D := D) (z := 16) (y := 16) (fun i hi => cr_low D _ (by omega))]; exact k.o
    · rw [lsC_same (C := crS D) (D := D) (z := 24) (y := 16) (fun i hi => cr_now D i hi)]; exact k.o
theorem PlS.new {w w1 w2 : World} {g : Nat} {vs vo vn : Value} (h : OnS w w1 g sh0) (hs : w2.ownsRow w1.heap.size 3 1 vs 16 (cellsOf (lsC sh0 0 16))) (ho : w2.ownsRow w1.heap.size 3 1 vo 8 (cellsOf (lsC sh0 16 8))) (hn : w2.ownsRow w1.heap.size 3 1 vn 8 (cellsOf (lsC sh0 24 8))) (hb : Below w1.heap.size w1 w2) :
    PlS w (w2.alloc (.cells #[vs, vo, vn] 27)) g w2.heap.size vs vo vn sh0 sh0 := by
  have h2 := h.later hb
  have hlt : ∀ x, x = g → x < w1.heap.size := fun x e => by subst e; exact h.disk.lt
  have k1 : KP (fun x => x = g) w2 (fun W => SliceIs W vs (lsC sh0 0 16)) := KP.list hs (by decide) hlt
  have k2 : KP (fun x => x = g) w2 (fun W => SliceIs W vo (lsC sh0 16 8)) := KP.list ho (by decide) hlt
  have k3 : KP (fun x => x = g) w2 (fun W => SliceIs W vn (lsC sh0 24 8)) := KP.list hn (by decide) hlt
  have k4 : KP (fun x => x = g) w2 (fun W => DocS W vs vo vn sh0) := fun W hW => ⟨k1 W hW, k2 W hW, k3 W hW⟩
  refine ⟨h2.later (below_one _ _), box3_new _ _ _ _, k4.step (Stay.of (below_one _ _)) ?_, fun e => by have := h2.disk.lt; omega, h2.old.size⟩
  rintro x (e | rfl)
  · exact .inl e
  · exact .inr (Nat.le_refl _)

/-- Two lists that are the same. -/
theorem same_lists (w : World) (u v : Value) (xs ys : List Int) (hu : SliceIs w u xs) (hv : SliceIs w v ys) (e : xs = ys) :
    Calls Tryd.prog 13 #[u, v] w fun e w' => e = .returned (.bool true) ∧ Below w.heap.size w w' := by
  subst e
  have H1 := ints_any w _ _ _ _ hu hv
  rw [eqB_is] at H1
  refine H1.mono ?_
  rintro e w' ⟨rfl, q, rfl⟩
  exact ⟨rfl, below_drew _ _ _⟩
theorem lsC_lsI (C : Nat → Int) (z : Nat) : lsC C z 8 = lsI fun i => C (z + i) := rfl

end Go.Proofs.YthgbknfdbobmiaaDoor
