/- This text says what it means that the document's disk lies in memory, and what a step of it leaves; and proves plain facts on what is put back, note by note; it speaks of no call; no condition. -/
import Derived.Test.YtkpfieemkjfjkaaDoorUD1
namespace Go.Proofs.YtkpfieemkjfjkaaDoor
open Go.RowKit Go.Deep Go.Maps

/-- A list of eight that a step tells: the one before, or a new one of the call's own. -/
def InH (w w' : World) (v : Value) (xs : List Int) (v' : Value) (xs' : List Int) : Prop := (v' = v ∧ xs' = xs) ∨ w'.ownsRow w.heap.size 3 1 v' 8 (cellsOf xs')
def InP (w w' : World) (v : Value) (L : List Nt) (v' : Value) (L' : List Nt) : Prop := (v' = v ∧ L' = L) ∨ w'.ownsRow w.heap.size 31 3 v' L'.length (ntc L')
theorem InH.later {w W W' : World} {v v' : Value} {xs xs' : List Int} (h : InH w W v xs v' xs') (hb : Below W.heap.size W W') : InH w W' v xs v' xs' := h.elim .inl fun k => .inr (xown_later k hb)
theorem InP.later {w W W' : World} {v v' : Value} {L L' : List Nt} (h : InP w W v L v' L') (hb : Below W.heap.size W W') : InP w W' v L v' L' := h.elim .inl fun k => .inr (xown_later k hb)
theorem InH.set {w W : World} {v v' : Value} {xs xs' : List Int} (h : InH w W v xs v' xs') {a : Addr} (ha : a.block < w.heap.size) (p : Value) : InH w (W.setCell a p) v xs v' xs' := h.elim .inl fun k => .inr (own_set1 k ha p)
theorem InP.set {w W : World} {v v' : Value} {L L' : List Nt} (h : InP w W v L v' L') {a : Addr} (ha : a.block < w.heap.size) (p : Value) : InP w (W.setCell a p) v L v' L' := h.elim .inl fun k => .inr (own_set1 k ha p)
theorem InH.down {w w1 W : World} {v v' : Value} {xs xs' : List Int} (h : InH w1 W v xs v' xs') (hs : w.heap.size ≤ w1.heap.size) : InH w W v xs v' xs' := h.elim .inl fun k => .inr (own_base k hs)
theorem InP.down {w w1 W : World} {v v' : Value} {L L' : List Nt} (h : InP w1 W v L v' L') (hs : w.heap.size ≤ w1.heap.size) : InP w W v L v' L' := h.elim .inl fun k => .inr (own_base k hs)
theorem InH.next {w W W' : World} {v v' v'' : Value} {xs xs' xs'' : List Int} (h : InH w W v xs v' xs') (k : InH W W' v' xs' v'' xs'') (hb : Below W.heap.size W W') (hs : w.heap.size ≤ W.heap.size) : InH w W' v xs v'' xs'' := by
  rcases k with ⟨rfl, rfl⟩ | k
  · exact h.later hb
  · exact .inr (own_base k hs)
theorem InP.next {w W W' : World} {v v' v'' : Value} {L L' L'' : List Nt} (h : InP w W v L v' L') (k : InP W W' v' L' v'' L'') (hb : Below W.heap.size W W') (hs : w.heap.size ≤ W.heap.size) : InP w W' v L v'' L'' := by
  rcases k with ⟨rfl, rfl⟩ | k
  · exact h.later hb
  · exact .inr (own_base k hs)
theorem InH.is {w W : World} {v v' : Value} {xs xs' : List Int} (h : InH w W v xs v' xs') (hv : SliceIs W v xs) : SliceIs W v' xs' := by
  rcases h with ⟨rfl, rfl⟩ | k
  · exact hv
  · exact slice_own k (by decide)
theorem InP.is {w W : World} {v v' : Value} {L L' : List Nt} (h : InP w W v L v' L') (hv : PutsIs W v L) : PutsIs W v' L' := by
  rcases h with ⟨rfl, rfl⟩ | k
  · exact hv
  · exact puts_own k

/-- The document's disk in memory: its blocks' values, whose they are, and its notes. -/
structure DocIs (w : World) (vb vo vw : Value) (d : Ud) : Prop where
  b : SliceIs w vb (lst d.H)
  o : SliceIs w vo (lsO d.L)
  n : PutsIs w vw d.L
theorem DocIs.later {w w' : World} {vb vo vw : Value} {d : Ud} (h : DocIs w vb vo vw d) (hb : Below w.heap.size w w') : DocIs w' vb vo vw d := ⟨h.b.later hb, h.o.later hb, h.n.later hb⟩
/-- What a step leaves of it. -/
structure Nxt (w w' : World) (vb vo vw vb' vo' vw' : Value) (d d' : Ud) : Prop where
  b : InH w w' vb (lst d.H) vb' (lst d'.H)
  o : InH w w' vo (lsO d.L) vo' (lsO d'.L)
  n : InP w w' vw d.L vw' d'.L
  old : Below w.heap.size w w'
theorem Nxt.doc {w w' : World} {vb vo vw vb' vo' vw' : Value} {d d' : Ud} (h : Nxt w w' vb vo vw vb' vo' vw' d d') (k : DocIs w vb vo vw d) : DocIs w' vb' vo' vw' d' :=
  ⟨h.b.is (k.b.later h.old), h.o.is (k.o.later h.old), h.n.is (k.n.later h.old)⟩
theorem DocIs.form {w : World} {vb vo vw : Value} {d : Ud} (h : DocIs w vb vo vw d) : ∃ ab cb ao co aw cw, vb = .slice ab 8 cb ∧ vo = .slice ao 8 co ∧ vw = .slice aw d.L.length cw := by
  obtain ⟨ab, cb, e1, _, _⟩ := h.b
  obtain ⟨ao, co, e2, _, _⟩ := h.o
  obtain ⟨aw, cw, e3, _, _⟩ := h.n
  rw [lst_len] at e1
  rw [lsO_len] at e2
  exact ⟨ab, cb, ao, co, aw, cw, e1, e2, e3⟩

/-- A box with the document's disk, while a call turns it. -/
structure Bx (w1 W : World) (P : Nat) (ub uo un vb vo vw : Value) (xb yb xo yo : List Int) (xn yn : List Nt) : Prop where
  box : Box3 W P vb vo vw
  b : InH w1 W ub xb vb yb
  o : InH w1 W uo xo vo yo
  n : InP w1 W un xn vw yn
  st : Stay (fun x => x = P) w1 W
theorem Bx.later {w1 W W' : World} {P : Nat} {ub uo un vb vo vw : Value} {xb yb xo yo : List Int} {xn yn : List Nt} (h : Bx w1 W P ub uo un vb vo vw xb yb xo yo xn yn) (hb : Below W.heap.size W W') : Bx w1 W' P ub uo un vb vo vw xb yb xo yo xn yn :=
  ⟨h.box.later hb, h.b.later hb, h.o.later hb, h.n.later hb, h.st.trans ((Stay.of hb).sub fun _ e => e)⟩
theorem Bx.new {w1 : World} {P : Nat} {ub uo un : Value} {xb xo : List Int} {xn : List Nt} (h : Box3 w1 P ub uo un) : Bx w1 w1 P ub uo un ub uo un xb xb xo xo xn xn := ⟨h, .inl ⟨rfl, rfl⟩, .inl ⟨rfl, rfl⟩, .inl ⟨rfl, rfl⟩, Stay.refl _ _⟩
theorem Bx.setB {w1 W W' : World} {P : Nat} {ub uo un vb vo vw v' : Value} {xb yb xo yo ys : List Int} {xn yn : List Nt} (h : Bx w1 W P ub uo un vb vo vw xb yb xo yo xn yn) (hP : P < w1.heap.size)
    (ho : W'.ownsRow W.heap.size 3 1 v' 8 (cellsOf ys)) (hb : Below W.heap.size W W') : Bx w1 (W'.setCell ⟨P, 0, none⟩ v') P ub uo un v' vo vw xb ys xo yo xn yn :=
  have k := h.later hb
  ⟨k.box.set0 _, InH.set (.inr (own_base ho h.st.size)) (a := ⟨P, 0, none⟩) hP _, k.o.set (a := ⟨P, 0, none⟩) hP _, k.n.set (a := ⟨P, 0, none⟩) hP _, k.st.trans (Stay.set (a := ⟨P, 0, none⟩) _ _ rfl)⟩
theorem Bx.setO {w1 W W' : World} {P : Nat} {ub uo un vb vo vw v' : Value} {xb yb xo yo ys : List Int} {xn yn : List Nt} (h : Bx w1 W P ub uo un vb vo vw xb yb xo yo xn yn) (hP : P < w1.heap.size)
    (ho : W'.ownsRow W.heap.size 3 1 v' 8 (cellsOf ys)) (hb : Below W.heap.size W W') : Bx w1 (W'.setCell ⟨P, 1, none⟩ v') P ub uo un vb v' vw xb yb xo ys xn yn :=
  have k := h.later hb
  ⟨k.box.set1 _, k.b.set (a := ⟨P, 1, none⟩) hP _, InH.set (.inr (own_base ho h.st.size)) (a := ⟨P, 1, none⟩) hP _, k.n.set (a := ⟨P, 1, none⟩) hP _, k.st.trans (Stay.set (a := ⟨P, 1, none⟩) _ _ rfl)⟩
theorem Bx.setN {w1 W W' : World} {P : Nat} {ub uo un vb vo vw v' : Value} {xb yb xo yo : List Int} {xn yn ys : List Nt} (h : Bx w1 W P ub uo un vb vo vw xb yb xo yo xn yn) (hP : P < w1.heap.size)
    (ho : W'.ownsRow W.heap.size 31 3 v' ys.length (ntc ys)) (hb : Below W.heap.size W W') : Bx w1 (W'.setCell ⟨P, 2, none⟩ v') P ub uo un vb vo v' xb yb xo yo xn ys :=
  have k := h.later hb
  ⟨k.box.set2 _, k.b.set (a := ⟨P, 2, none⟩) hP _, k.o.set (a := ⟨P, 2, none⟩) hP _, InP.set (.inr (own_base ho h.st.size)) (a := ⟨P, 2, none⟩) hP _, k.st.trans (Stay.set (a := ⟨P, 2, none⟩) _ _ rfl)⟩
theorem Bx.old {w w1 W : World} {P : Nat} {ub uo un vb vo vw : Value} {xb yb xo yo : List Int} {xn yn : List Nt} (h : Bx w1 W P ub uo un vb vo vw xb yb xo yo xn yn) (hw : Below w.heap.size w w1) (hP : w.heap.size ≤ P) : Below w.heap.size w W :=
  hw.trans (h.st.below (fun b e => by rw [e]; exact hP) hw.size)
/-- What a call leaves that tells what its box holds. -/
theorem Bx.end {w w1 W : World} {P R : Nat} {ub uo un vb vo vw : Value} {d d' : Ud} (h : Bx w1 W P ub uo un vb vo vw (lst d.H) (lst d'.H) (lsO d.L) (lsO d'.L) d.L d'.L) (hw : Below w.heap.size w w1) (hP : w.heap.size ≤ P) (hR : w.heap.size ≤ R) (hR1 : R < w1.heap.size) (p q r : Value) :
    Nxt w (((W.setCell ⟨R, 0, none⟩ p).setCell ⟨R, 1, none⟩ q).setCell ⟨R, 2, none⟩ r) ub uo un vb vo vw d d' :=
  ⟨(((h.b.set (a := ⟨R, 0, none⟩) hR1 p).set (a := ⟨R, 1, none⟩) hR1 q).set (a := ⟨R, 2, none⟩) hR1 r).down hw.size, (((h.o.set (a := ⟨R, 0, none⟩) hR1 p).set (a := ⟨R, 1, none⟩) hR1 q).set (a := ⟨R, 2, none⟩) hR1 r).down hw.size,
    (((h.n.set (a := ⟨R, 0, none⟩) hR1 p).set (a := ⟨R, 1, none⟩) hR1 q).set (a := ⟨R, 2, none⟩) hR1 r).down hw.size, below_set3 (h.old hw hP) hR p q r⟩

/-- What is put back, note by note, the last one first. -/
theorem udo_drop (p : Nt → Bool) {L : List Nt} {k : Nat} (hk : k < L.length) (H : Nat → Nat) : udo p (L.drop k) H = bk p (udo p (L.drop (k + 1)) H) (ntAt L k) := by
  rw [List.drop_eq_getElem_cons hk, ← ntAt_lt hk]
  rfl
theorem udo_end (p : Nt → Bool) (L : List Nt) (H : Nat → Nat) : udo p (L.drop L.length) H = H := by rw [List.drop_length]; rfl
/-- The notes of the others, note by note. -/
theorem cut_yes {t : Int} {L : List Nt} {k : Nat} (hk : k < L.length) (h : ((ntAt L k).t : Int) ≠ t) : cut t (L.take (k + 1)) = cut t (L.take k) ++ [ntAt L k] := by
  unfold cut
  rw [List.take_succ_eq_append_getElem hk, List.filter_append, ← ntAt_lt hk, List.filter_cons_of_pos (by rw [ofT_no.2 h]; rfl), List.filter_nil]
theorem cut_no {t : Int} {L : List Nt} {k : Nat} (hk : k < L.length) (h : ((ntAt L k).t : Int) = t) : cut t (L.take (k + 1)) = cut t (L.take k) := by
  unfold cut
  rw [List.take_succ_eq_append_getElem hk, List.filter_append, ← ntAt_lt hk, List.filter_cons_of_neg (by rw [ofT_iff.2 h]; decide), List.filter_nil, List.append_nil]
theorem cut_le (t : Int) (L : List Nt) (k : Nat) : (cut t (L.take k)).length ≤ k := Nat.le_trans (List.length_filter_le _ _) (by rw [List.length_take]; omega)
/-- Whose the blocks are, while a turn leaves, block by block. -/
def lsK (L : List Nt) (t : Int) (k : Nat) : List Int := (List.range 8).map fun i => if i < k ∧ own L i = t then -1 else own L i
theorem lsK_len (L : List Nt) (t : Int) (k : Nat) : (lsK L t k).length = 8 := by simp [lsK]
theorem lsK_zero (L : List Nt) (t : Int) : lsK L t 0 = lsO L := List.map_congr_left fun i _ => if_neg fun h => by omega
theorem lsK_all {L : List Nt} (h : Sole L) (t : Int) : lsK L t 8 = lsO (cut t L) := List.map_congr_left fun i hi => by
  have := List.mem_range.1 hi
  rw [own_cut h]
  by_cases e : own L i = t
  · rw [if_pos ⟨this, e⟩, if_pos e]
  · rw [if_neg (fun k => e k.2), if_neg e]
theorem lsK_at {L : List Nt} {t : Int} {k : Nat} (hk : k < 8) : nth (lsK L t k) k = own L k := by
  rw [nth_lt (by rw [lsK_len]; exact hk)]
  simp [lsK]
theorem lsK_yes {L : List Nt} {t : Int} {k : Nat} (h : own L k = t) : (lsK L t k).set k (-1) = lsK L t (k + 1) := by
  refine List.ext_getElem (by simp [lsK]) fun i h1 h2 => ?_
  rw [List.getElem_set]
  by_cases e : k = i
  · subst e; simp [lsK, h]
  · have e2 : (i < k + 1 ∧ own L i = t) ↔ (i < k ∧ own L i = t) := ⟨fun m => ⟨by omega, m.2⟩, fun m => ⟨by omega, m.2⟩⟩
    rw [if_neg e]; simp [lsK, e2]
theorem lsK_no {L : List Nt} {t : Int} {k : Nat} (h : own L k ≠ t) : lsK L t (k + 1) = lsK L t k := List.map_congr_left fun i _ => by
  by_cases e : i = k
  · subst e
    rw [if_neg (fun m => h m.2), if_neg (fun m => h m.2)]
  · have e2 : (i < k + 1 ∧ own L i = t) ↔ (i < k ∧ own L i = t) := ⟨fun m => ⟨by omega, m.2⟩, fun m => ⟨by omega, m.2⟩⟩
    simp only [e2]

end Go.Proofs.YtkpfieemkjfjkaaDoor
