/- This text proves what the document's own NewUndo lays: eight noughts, nobody's blocks, no notes, in new memory; old memory is as it was; no condition. -/
import Derived.Test.YtkpfieemkjfjkaaDoorUD0
import Derived.Deep.AppendLies
namespace Go.Proofs.YtkpfieemkjfjkaaDoor
open Go.RowKit Go.Deep Go.Maps

theorem Box3.set0 {w : World} {b : Nat} {x y z : Value} (h : Box3 w b x y z) (p : Value) : Box3 (w.setCell ⟨b, 0, none⟩ p) b p y z := by
  unfold Box3 at h ⊢
  simp [World.setCell, Array.getElem?_modify, h]
theorem Box3.set1 {w : World} {b : Nat} {x y z : Value} (h : Box3 w b x y z) (p : Value) : Box3 (w.setCell ⟨b, 1, none⟩ p) b x p z := by
  unfold Box3 at h ⊢
  simp [World.setCell, Array.getElem?_modify, h]
theorem Box3.set2 {w : World} {b : Nat} {x y z : Value} (h : Box3 w b x y z) (p : Value) : Box3 (w.setCell ⟨b, 2, none⟩ p) b x y p := by
  unfold Box3 at h ⊢
  simp [World.setCell, Array.getElem?_modify, h]
theorem Box3.off {w : World} {b : Nat} {x y z : Value} (h : Box3 w b x y z) {g : Nat} (hp : b ≠ g) (p q r : Value) : Box3 (((w.setCell ⟨g, 0, none⟩ p).setCell ⟨g, 1, none⟩ q).setCell ⟨g, 2, none⟩ r) b x y z :=
  h.same (by rw [Below.heap_setCell _ ⟨g, 2, none⟩ _ b hp, Below.heap_setCell _ ⟨g, 1, none⟩ _ b hp, Below.heap_setCell _ ⟨g, 0, none⟩ _ b hp])
theorem size_set3 (w : World) (g : Nat) (p q r : Value) : (((w.setCell ⟨g, 0, none⟩ p).setCell ⟨g, 1, none⟩ q).setCell ⟨g, 2, none⟩ r).heap.size = w.heap.size := by simp [World.setCell]
theorem own_set3 {w : World} {base e z n : Nat} {v : Value} {xs : List Value} (h : w.ownsRow base e z v n xs) {g : Nat} (hg : g < base) (p q r : Value) : (((w.setCell ⟨g, 0, none⟩ p).setCell ⟨g, 1, none⟩ q).setCell ⟨g, 2, none⟩ r).ownsRow base e z v n xs :=
  own_block h fun b e => by
    have := (h.lt b e).1
    rw [Below.heap_setCell _ ⟨g, 2, none⟩ _ b (by show b ≠ g; omega), Below.heap_setCell _ ⟨g, 1, none⟩ _ b (by show b ≠ g; omega), Below.heap_setCell _ ⟨g, 0, none⟩ _ b (by show b ≠ g; omega)]
theorem own_set1 {w : World} {base e z n : Nat} {v : Value} {xs : List Value} (h : w.ownsRow base e z v n xs) {a : Addr} (hg : a.block < base) (p : Value) : (w.setCell a p).ownsRow base e z v n xs :=
  own_block h fun b e => Below.heap_setCell w a p b (by have := (h.lt b e).1; omega)
theorem news_one (w : World) (u : Value) (t : TypeId) : ∀ (j : Nat) (z : Value), [u][j]? = some z → (w.alloc (.cells #[u] t)).cell? ((⟨w.heap.size, 0, none⟩ : Addr).add j) = some z := by
  intro j x hx
  rw [addr_at, cell_new]
  simpa using hx
theorem ones_one (x : Int) : ∀ u ∈ [Value.int .i64 x], u.oneCell' = true := fun u hu => by
  rw [List.mem_singleton] at hu
  subst hu
  rfl

/-- Two lists that grow beside each other, and the box that holds them. -/
structure NwSt (w1 wr : World) (P j k : Nat) (u v : Value) : Prop where
  box : Box3 wr P u v (.slice none 0 0)
  a : wr.ownsRow w1.heap.size 3 1 u j (cellsOf (List.replicate j 0))
  b : wr.ownsRow w1.heap.size 3 1 v k (cellsOf (List.replicate k (-1)))
  ap : ∀ x, u.ownBlock = some x → v.ownBlock ≠ some x
  st : Stay (fun x => x = P) w1 wr
theorem NwSt.fst {w1 wr w2 : World} {P j k g cap : Nat} {u v : Value} {o : Obj} (h : NwSt w1 wr P j k u v) (hP : P < w1.heap.size)
    (ho : w2.ownsRow w1.heap.size 3 1 (.slice (some ⟨g, 0, none⟩) (j + 1) cap) (j + 1) (cellsOf (List.replicate j 0) ++ [.int .i64 0])) (hg : (wr.alloc o).grownBy w2 u.ownBlock) (hl : u.ownBlock = some g ∨ g = wr.heap.size + 1) :
    NwSt w1 (w2.setCell ⟨P, 0, none⟩ (.slice (some ⟨g, 0, none⟩) (j + 1) cap)) P (j + 1) k (.slice (some ⟨g, 0, none⟩) (j + 1) cap) v := by
  have hs1 := h.st.size
  have hsz : (wr.alloc o).heap.size = wr.heap.size + 1 := by simp
  have hlt : wr.heap.size < (wr.alloc o).heap.size := by omega
  have hB := below_one wr o
  have keep : ∀ x, x < wr.heap.size → u.ownBlock ≠ some x → w2.heap[x]? = wr.heap[x]? := fun x hx hn => (hg.block x (by omega) fun e => hn e.symm).trans (hB.block x hx)
  have hnu : u.ownBlock ≠ some P := fun e => by have := (h.a.lt P e).1; omega
  have hnP : ∀ x, x ≠ P → ∀ y : Value, (w2.setCell ⟨P, 0, none⟩ y).heap[x]? = w2.heap[x]? := fun x hx y => Below.heap_setCell w2 ⟨P, 0, none⟩ y x hx
  refine ⟨(h.box.same (keep P (by omega) hnu)).set0 _, ?_, ?_, ?_, ?_⟩
  · rw [cellsOf_snoc, ← List.replicate_succ'] at ho
    exact own_set1 ho (a := ⟨P, 0, none⟩) hP _
  · refine own_block h.b fun x e => ?_
    have := h.b.lt x e
    rw [hnP x (by omega)]
    exact keep x this.2 fun k => h.ap x k e
  · intro x e k
    have hx : g = x := by simpa [Value.ownBlock] using e
    subst hx
    rcases hl with m | m
    · exact h.ap g m k
    · have := (h.b.lt g k).2; omega
  · refine ⟨hg.os.trans (hB.os.trans h.st.os), hg.tape.trans (hB.tape.trans h.st.tape), hg.output.trans (hB.output.trans h.st.output), ?_, fun x hx hn => ?_⟩
    · have := hg.size
      simp only [World.setCell, Array.size_modify]
      omega
    · rw [hnP x hn]
      exact (keep x (by omega) fun e => by have := (h.a.lt x e).1; omega).trans (h.st.block x hx hn)
theorem NwSt.snd {w1 wr w2 : World} {P j k g cap : Nat} {u v : Value} {o : Obj} (h : NwSt w1 wr P j k u v) (hP : P < w1.heap.size)
    (ho : w2.ownsRow w1.heap.size 3 1 (.slice (some ⟨g, 0, none⟩) (k + 1) cap) (k + 1) (cellsOf (List.replicate k (-1)) ++ [.int .i64 (-1)])) (hg : (wr.alloc o).grownBy w2 v.ownBlock) (hl : v.ownBlock = some g ∨ g = wr.heap.size + 1) :
    NwSt w1 (w2.setCell ⟨P, 1, none⟩ (.slice (some ⟨g, 0, none⟩) (k + 1) cap)) P j (k + 1) u (.slice (some ⟨g, 0, none⟩) (k + 1) cap) := by
  have hs1 := h.st.size
  have hsz : (wr.alloc o).heap.size = wr.heap.size + 1 := by simp
  have hlt : wr.heap.size < (wr.alloc o).heap.size := by omega
  have hB := below_one wr o
  have keep : ∀ x, x < wr.heap.size → v.ownBlock ≠ some x → w2.heap[x]? = wr.heap[x]? := fun x hx hn => (hg.block x (by omega) fun e => hn e.symm).trans (hB.block x hx)
  have hnu : v.ownBlock ≠ some P := fun e => by have := (h.b.lt P e).1; omega
  have hnP : ∀ x, x ≠ P → ∀ y : Value, (w2.setCell ⟨P, 1, none⟩ y).heap[x]? = w2.heap[x]? := fun x hx y => Below.heap_setCell w2 ⟨P, 1, none⟩ y x hx
  refine ⟨(h.box.same (keep P (by omega) hnu)).set1 _, ?_, ?_, ?_, ?_⟩
  · refine own_block h.a fun x e => ?_
    have := h.a.lt x e
    rw [hnP x (by omega)]
    exact keep x this.2 fun k => h.ap x e k
  · rw [cellsOf_snoc, ← List.replicate_succ'] at ho
    exact own_set1 ho (a := ⟨P, 1, none⟩) hP _
  · intro x k e
    have hx : g = x := by simpa [Value.ownBlock] using e
    subst hx
    rcases hl with m | m
    · exact h.ap g k m
    · have := (h.a.lt g k).2; omega
  · refine ⟨hg.os.trans (hB.os.trans h.st.os), hg.tape.trans (hB.tape.trans h.st.tape), hg.output.trans (hB.output.trans h.st.output), ?_, fun x hx hn => ?_⟩
    · have := hg.size
      simp only [World.setCell, Array.size_modify]
      omega
    · rw [hnP x hn]
      exact (keep x (by omega) fun e => by have := (h.b.lt x e).1; omega).trans (h.st.block x hx hn)

/-- Whose the blocks are, as a list. -/
def lsO (L : List Nt) : List Int := (List.range 8).map fun i => own L i
theorem lsO_len (L : List Nt) : (lsO L).length = 8 := by simp [lsO]
theorem lsO_nth {L : List Nt} {i : Nat} (hi : i < 8) : nth (lsO L) i = own L i := by
  rw [nth_lt (by rw [lsO_len]; exact hi)]
  simp [lsO]

/-- Two boxes at the start of a call. -/
theorem boxes2 (w : World) (x y z p q r : Value) : ∃ w1, (w.alloc (.cells #[x, y, z] 39)).alloc (.cells #[p, q, r] 39) = w1 ∧
    Below w.heap.size w w1 ∧ Box3 w1 w.heap.size x y z ∧ Box3 w1 (w.heap.size + 1) p q r ∧ w1.heap.size = w.heap.size + 2 := by
  refine ⟨_, rfl, Below.next (below_one _ _) (below_one _ _), (box3_new w x y z).later (below_one _ _), ?_, by simp⟩
  have := box3_new (w.alloc (.cells #[x, y, z] 39)) p q r
  rwa [show (w.alloc (.cells #[x, y, z] 39)).heap.size = w.heap.size + 1 by simp] at this

set_option maxHeartbeats 4000000 in
set_option maxRecDepth 100000 in
theorem r2new_any (w : World) : Calls Tryd.prog 12 #[] w fun e w' => ∃ vb vo, e = .returned (.agg #[vb, vo, .slice none 0 0]) ∧ w'.ownsRow w.heap.size 3 1 vb 8 (cellsOf (lst nV)) ∧ w'.ownsRow w.heap.size 3 1 vo 8 (cellsOf (lsO [])) ∧ Below w.heap.size w w' := by
  obtain ⟨w1, hw1, hb1, k0, k1, ksz⟩ := boxes2 w (.slice none 0 0) (.slice none 0 0) (.slice none 0 0) (.slice none 0 0) (.slice none 0 0) (.slice none 0 0)
  have HW1 : Hid _ := hw1
  have HB1 : Hid (Below w.heap.size w w1 ∧ w1.heap.size = w.heap.size + 2 ∧ Box3 w1 w.heap.size (.slice none 0 0) (.slice none 0 0) (.slice none 0 0)) := ⟨hb1, ksz, k0⟩
  have HS0 : Hid (NwSt w1 w1 (w.heap.size + 1) 0 0 (.slice none 0 0) (.slice none 0 0)) := ⟨k1, World.ownsRow_nil _ _ _ _, World.ownsRow_nil _ _ _ _, (fun x e => by cases e), Stay.refl _ _⟩
  have hP1 : w.heap.size + 1 < w1.heap.size := by omega
  clear hw1 hb1 k0 k1 ksz
  obtain ⟨ti, hti, hz0, hz1, hz2⟩ := info_parts Tryd.info3
  go_enter Tryd.func12, Tryd.ntmps12
  go_wp2
  rw [HW1.out]
  obtain ⟨P, hPP⟩ : ∃ P, P = w.heap.size + 1 := ⟨_, rfl⟩
  rw [← hPP] at HS0 hP1 ⊢
  have HPP : Hid (P = w.heap.size + 1) := hPP
  clear hPP
  go_loopw [2] (fun i wr => ∃ (k : Nat) (u v : Value), k ≤ 8 ∧ i = .int .i64 (k : Int) ∧ NwSt w1 wr P k k u v) (fun i _ => 8 - (Go.RowKit.intOf i).toNat)
  case atStart => exact ⟨0, _, _, by omega, rfl, HS0.out⟩
  case round =>
    obtain ⟨k, u, v, hk, rfl, hst⟩ := hrel
    have ST : Hid (NwSt w1 wr P k k u v) := hst
    clear hst HS0
    by_cases hk8 : k < 8
    · have hk1 : (k : Int) < 8 := by omega
      obtain ⟨u0, u1, u2, uf0, uf1, uf2⟩ := ST.out.box.facts
      have hsz := ST.out.st.size
      have hal : wr.heap.size < (wr.alloc (.cells #[.int .i64 0] 3)).heap.size := by simp
      go_wp2_with (at_builtin; refine wpList_append_lies _ (by rfl) (.tmp 8) (.tmp 9) 26 (by rfl) w1.heap.size 3 ti (.int .i64 0) 1 8 Tryd.underlying26 hti hz0 hz1 hz2 rfl (by decide) u k (cellsOf (List.replicate k 0)) (by rfl) (ST.out.a.alloc _) ⟨wr.heap.size, 0, none⟩ 1 1 [.int .i64 0] (by rfl) rfl (news_one wr _ 3) (ones_one _) (by decide) ?p1 ?p2 ?p3 _ rfl ?p4)
      case p1 => unfold maxLen; omega
      case p2 => omega
      case p3 => simp; omega
      case p4 =>
        intro g cap w2 hown hgr hlies _
        have S2 : Hid _ := fun (_ : Nat) => ST.out.fst hP1 hown hgr hlies
        have hf := (ST.out.box.same (w' := w2) ((hgr.block P (by have := hP1; simp; omega) (fun e => by have := (ST.out.a.lt P e.symm).1; omega)).trans ((below_one wr _).block P (by omega)))).facts
        obtain ⟨y0, y1, y2, yf0, yf1, yf2⟩ := hf
        clear hown hgr hlies u0 u1 u2 uf0 uf1 uf2 hal
        have HNw : Hid (∀ (j : Nat) (z : Value), [Value.int .i64 (-1)][j]? = some z → ((w2.setCell ⟨P, 0, none⟩ (.slice (some ⟨g, 0, none⟩) (k + 1) cap)).alloc (.cells #[.int .i64 (-1)] 3)).cell? ((⟨w2.heap.size, 0, none⟩ : Addr).add j) = some z) := by
          have := news_one (w2.setCell ⟨P, 0, none⟩ (.slice (some ⟨g, 0, none⟩) (k + 1) cap)) (.int .i64 (-1)) 3
          rwa [show (w2.setCell ⟨P, 0, none⟩ (.slice (some ⟨g, 0, none⟩) (k + 1) cap)).heap.size = w2.heap.size by simp [World.setCell]] at this
        go_wp2_with (at_builtin; refine wpList_append_lies _ (by rfl) (.tmp 13) (.tmp 14) 26 (by rfl) w1.heap.size 3 ti (.int .i64 0) 1 8 Tryd.underlying26 hti hz0 hz1 hz2 rfl (by decide) v k (cellsOf (List.replicate k (-1))) (by rfl) ((S2.out 0).b.alloc _) ⟨w2.heap.size, 0, none⟩ 1 1 [.int .i64 (-1)] (by rfl) rfl HNw.out (ones_one _) (by decide) ?q1 ?q2 ?q3 _ rfl ?q4)
        case q1 => unfold maxLen; omega
        case q2 => omega
        case q3 => have := (S2.out 0).st.size; simp [World.setCell] at this ⊢; omega
        case q4 =>
          intro g2 cap2 w3 hown hgr hlies _
          have S3 : Hid _ := fun (_ : Nat) => (S2.out 0).snd hP1 hown hgr (by simpa [World.setCell] using hlies)
          have hsz2 := (S2.out 0).st.size
          have hf := ((S2.out 0).box.same (w' := w3) ((hgr.block P (by rw [show ((w2.setCell ⟨P, 0, none⟩ (.slice (some ⟨g, 0, none⟩) (k + 1) cap)).alloc (.cells #[.int .i64 (-1)] 3)).heap.size = (w2.setCell ⟨P, 0, none⟩ (.slice (some ⟨g, 0, none⟩) (k + 1) cap)).heap.size + 1 by simp]; omega) (fun e => by have := ((S2.out 0).b.lt P e.symm).1; omega)).trans ((below_one _ _).block P (by omega)))).facts
          obtain ⟨z0, z1, z2, zf0, zf1, zf2⟩ := hf
          clear hown hgr hlies hsz2 y0 y1 y2 yf0 yf1 yf2
          go_wp2
          go_roundw
          case rel => exact ⟨k + 1, _, _, by omega, by go_num, S3.out 0⟩
          case measure => simp [Go.RowKit.intOf]; omega
    · obtain rfl : k = 8 := by omega
      obtain ⟨au, cu, rfl⟩ := rown_form ST.out.a
      obtain ⟨av, cv, rfl⟩ := rown_form ST.out.b
      obtain ⟨u0, u1, u2, uf0, uf1, uf2⟩ := ST.out.box.facts
      have hR := HB1.out.2.2.same (ST.out.st.block w.heap.size (by have := HB1.out.2.1; omega) (by show ¬ w.heap.size = P; have := HPP.out; omega))
      obtain ⟨r0, r1, r2, rf0, rf1, rf2⟩ := hR.facts
      have HE1 : Hid (∀ p q r, (((wr.setCell ⟨w.heap.size, 0, none⟩ p).setCell ⟨w.heap.size, 1, none⟩ q).setCell ⟨w.heap.size, 2, none⟩ r).ownsRow w.heap.size 3 1 (.slice au 8 cu) 8 (cellsOf (lst nV)) ∧ (((wr.setCell ⟨w.heap.size, 0, none⟩ p).setCell ⟨w.heap.size, 1, none⟩ q).setCell ⟨w.heap.size, 2, none⟩ r).ownsRow w.heap.size 3 1 (.slice av 8 cv) 8 (cellsOf (lsO [])) ∧ Below w.heap.size w (((wr.setCell ⟨w.heap.size, 0, none⟩ p).setCell ⟨w.heap.size, 1, none⟩ q).setCell ⟨w.heap.size, 2, none⟩ r)) := fun p q r => by
        have hw := HB1.out
        have hsz := hw.2.1
        refine ⟨own_down (own_set3 (base := w1.heap.size) ST.out.a (by omega) p q r) (by omega), own_down (own_set3 (base := w1.heap.size) ST.out.b (by omega) p q r) (by omega), below_set3 ?_ (Nat.le_refl _) p q r⟩
        exact hw.1.trans (ST.out.st.below (fun b e => by have := HPP.out; omega) hw.1.size)
      clear hR
      go_wp2
      refine bodyPost_ret (v := .agg #[.slice au 8 cu, .slice av 8 cv, .slice none 0 0]) ?_ rfl ?_
      · rw [results_cell1 rfl]
        go_simp
      · exact ⟨_, _, rfl, (HE1.out _ _ _).1, (HE1.out _ _ _).2.1, (HE1.out _ _ _).2.2⟩

end Go.Proofs.YtkpfieemkjfjkaaDoor
