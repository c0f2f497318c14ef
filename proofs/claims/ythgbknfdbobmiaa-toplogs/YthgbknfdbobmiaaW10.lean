/- This text proves what Undo of package undo tells, and what the disk is behind it: a turn's notes are put back, the last one first, and the turn ends; nothing is turned but the disk's block and its notes'; the condition is that the disk lies there. -/
import Derived.Test.YthgbknfdbobmiaaW6
import Derived.Test.YthgbknfdbobmiaaW9
namespace Go.Proofs.Ythgbknfdbobmiaa
open Go.RowKit Go.Shelf

attribute [local go_sem] Oper.semAt_some

/-- What stays whatever a loop over a function keeps for itself. -/
theorem own_cells {β : Type} (B N : Nat) (C : Array Value) (t : TypeId) : OwnFrom B (fun (_ : β) W => W.heap[N]? = some (.cells C t (0, 0))) := fun _ W W' row hs hg hr =>
  (hg.block N (Array.getElem?_eq_some_iff.1 hs).1 (fun e => by obtain ⟨_, o, ho, hc⟩ := hr N e.symm; rw [hs] at ho; cases ho; cases hc)).trans hs
theorem own_undo {β : Type} (B base g : Nat) (v : Value) (f : β → Ud) : OwnFrom B (fun s W => UndoM W base g v (f s)) := fun s W W' row hs hg hr => hs.frame fun x hx => by
  refine hg.block x (hs.fp hx).2 fun e => ?_
  obtain ⟨_, o, ho, hc⟩ := hr x e.symm
  rcases hx with rfl | hx
  · rw [hs.cells] at ho
    cases ho
    cases hc
  · rcases hs.log.2 with ⟨h0, _⟩ | ⟨b, cap, cur, h1, _, h3, _⟩
    · rw [h0] at hx; cases hx
    · rw [h1] at hx
      obtain rfl : b = x := Option.some.inj hx
      rw [h3] at ho
      cases ho
      cases hc
theorem own_stay {β : Type} {B : Nat} (S : Nat → Prop) {w : World} (hB : w.heap.size ≤ B) : OwnFrom B (fun (_ : β) W => Stay S w W) := fun _ W W' row hs hg hr =>
  ⟨hg.os.trans hs.os, hg.tape.trans hs.tape, hg.output.trans hs.output, Nat.le_trans hs.size hg.size, fun x hx hS => (hg.block x (Nat.lt_of_lt_of_le hx hs.size) (fun e => by have := (hr x e.symm).1; omega)).trans (hs.block x hx hS)⟩
theorem keeps_stay {B g : Nat} {W W' : World} (hs : Stay (fun x => x = g) W W') (hg : g < B) : KeepsFrom B W W' :=
  ⟨hs.size, fun k o hk h _ => (hs.block k (Array.getElem?_eq_some_iff.1 h).1 (by omega)).trans h⟩
theorem kpu_stay {b Bs g : Nat} {W W' : World} (hs : Stay (fun x => x = g) W W') (hb : b < W.heap.size) (hB : Bs < W.heap.size) (e1 : b ≠ g) (e2 : Bs ≠ g) : KpU b Bs W W' := ⟨hs.block b hb e1, hs.block Bs hB e2⟩
theorem turn_put {w w2 : World} {base g D : Nat} {v v' : Value} {d : Ud} {ds : List Deferred} (h : Turn w w2 base g v v' d) (hD : w.heap.size ≤ D) (hk : w2.heap[D]? = some (.deferred (some ds))) (o' : Obj) : Turn w (w2.putObj D o') base g v v' d := by
  have hg := grownBy_putObj' w2 D o'
  refine ⟨own_undo 0 base g v' (fun _ : Unit => d) () _ _ (some D) h.disk hg (fun r e => ⟨Nat.zero_le _, _, by obtain rfl := Option.some.inj e; exact hk, rfl⟩), ⟨hg.os.trans h.stay.os, hg.tape.trans h.stay.tape, hg.output.trans h.stay.output, Nat.le_trans h.stay.size hg.size, fun x hx hS => ?_⟩, h.lies⟩
  exact (hg.block x (Nat.lt_of_lt_of_le hx h.stay.size) (fun e => by have := Option.some.inj e; omega)).trans (h.stay.block x hx hS)

/-- The tables in which a round begins: the copy of a note lies there. -/
structure Copy (W : World) (n₀ N : Nat) (x : Nt) : Prop where
  cells : W.heap[N]? = some (.cells #[.int .i64 (x.t : Int), .int .i64 (x.b : Int), .int .i64 (x.w : Int)] 69 (0, 0))
  new : n₀ ≤ N
theorem Copy.at' {W : World} {n₀ N : Nat} {x : Nt} (h : Copy W n₀ N x) : W.cell? ⟨N, 0, none⟩ = some (.int .i64 (x.t : Int)) ∧ W.cell? ⟨N, 1, none⟩ = some (.int .i64 (x.b : Int)) ∧ W.cell? ⟨N, 2, none⟩ = some (.int .i64 (x.w : Int)) := ⟨(cell_in h.cells 0).1, (cell_in h.cells 1).1, (cell_in h.cells 2).1⟩

/-- Between two rounds of Undo. -/
structure UnS (w : World) (base g : Nat) (v : Value) (d : Ud) (t : Int) (pre : List ItU) (W : World) : Prop where
  disk : UndoM W base g v ⟨(itsU pre).foldl (bk (ofT t)) d.H, d.L⟩
  bd : W.heap[w.heap.size]? = some (.cells #[ptrU g] 42 (0, 0))
  bt : W.heap[w.heap.size + 1]? = some (.cells #[.int .i64 t] 3 (0, 0))
  stay : Stay (fun x => x = g) w W
  big : w.heap.size + 1 + 1 < W.heap.size
theorem uns_own (w : World) (base g : Nat) (v : Value) (d : Ud) (t : Int) (B : Nat) (hB : w.heap.size ≤ B) : OwnFrom B (UnS w base g v d t) := fun s W W' row hs hg hr =>
  ⟨own_undo B base g v (fun pre => ⟨(itsU pre).foldl (bk (ofT t)) d.H, d.L⟩) s W W' row hs.disk hg hr, own_cells B _ _ _ s W W' row hs.bd hg hr, own_cells B _ _ _ s W W' row hs.bt hg hr, own_stay _ hB s W W' row hs.stay hg hr, Nat.lt_of_lt_of_le hs.big hg.size⟩
theorem UnS.alloc {w W : World} {base g : Nat} {v : Value} {d : Ud} {t : Int} {pre : List ItU} (h : UnS w base g v d t pre W) (o : Obj) : UnS w base g v d t pre (W.alloc o) :=
  have hb := below_one W o
  ⟨h.disk.later hb, (hb.block _ (Array.getElem?_eq_some_iff.1 h.bd).1).trans h.bd, (hb.block _ (Array.getElem?_eq_some_iff.1 h.bt).1).trans h.bt, h.stay.trans (Stay.of hb), Nat.lt_of_lt_of_le h.big hb.size⟩
theorem UnS.put {w W W' : World} {base g : Nat} {v : Value} {d : Ud} {t : Int} {pre : List ItU} {x : ItU} (h : UnS w base g v d t pre W) (hg : g < w.heap.size) (hx : ofT t x.1.2 = true)
    (hm : UndoM W' base g v ⟨putV ((itsU pre).foldl (bk (ofT t)) d.H) x.1.2.b x.1.2.w, d.L⟩) (hs : Stay (fun y => y = g) W W') : UnS w base g v d t (pre ++ [x]) W' := by
  refine ⟨?_, (hs.block _ (Array.getElem?_eq_some_iff.1 h.bd).1 (by omega)).trans h.bd, (hs.block _ (Array.getElem?_eq_some_iff.1 h.bt).1 (by omega)).trans h.bt, h.stay.trans hs, Nat.lt_of_lt_of_le h.big hs.size⟩
  rw [itsU_snoc, List.foldl_append]
  show UndoM W' base g v ⟨bk (ofT t) _ x.1.2, d.L⟩
  unfold bk
  rw [if_pos hx]
  exact hm
theorem UnS.skip {w W : World} {base g : Nat} {v : Value} {d : Ud} {t : Int} {pre : List ItU} {x : ItU} (h : UnS w base g v d t pre W) (hx : ofT t x.1.2 = false) : UnS w base g v d t (pre ++ [x]) W := by
  refine ⟨?_, h.bd, h.bt, h.stay, h.big⟩
  rw [itsU_snoc, List.foldl_append]
  show UndoM W base g v ⟨bk (ofT t) _ x.1.2, d.L⟩
  unfold bk
  rw [if_neg (by rw [hx]; decide)]
  exact h.disk

/-- Where a disk's notes lie. -/
theorem UndoM.where' {w : World} {base g : Nat} {v : Value} {d : Ud} (h : UndoM w base g v d) :
    ∃ a c b, v = .slice a d.L.length c ∧ b < w.heap.size ∧ (0 < d.L.length → b ≠ g) ∧ (0 < d.L.length → a = some ⟨b, 0, none⟩) ∧ NtsAt w b d.L := by
  obtain ⟨a, c, b, rfl, _, ha, hbl, hnt⟩ := h.nts.where
  by_cases h0 : 0 < d.L.length
  · exact ⟨a, c, b, rfl, hbl h0, fun _ e => h.ap (by rw [ha h0, e]; rfl), ha, hnt⟩
  · exact ⟨a, c, g, rfl, h.lt, fun k => absurd k h0, fun k => absurd k h0, fun i hi => absurd hi (by omega)⟩

set_option maxRecDepth 100000 in
set_option maxHeartbeats 4000000 in
theorem undo_any (w : World) (base g : Nat) (v : Value) (d : Ud) (h : UndoM w base g v d) (t : Int) :
    Calls Try.prog 23 #[ptrU g, .int .i64 t] w fun e w' => e = .returned (errV (enE t)) ∧ ∃ v', Turn w w' base g v v' (unD d t) := by
  have HM : Hid (UndoM w base g v d) := h
  have hgl := h.lt
  have hsm := ntAt_small h.good.one
  have h60 := h.good.len
  obtain ⟨a, c, b, rfl, hb, hbg, ha, hnt⟩ := h.where'
  have HNt : Hid (NtsAt w b d.L) := hnt
  have c8 := h.facts.1
  obtain ⟨n, hn⟩ : ∃ n, d.L.length = n := ⟨_, rfl⟩
  have HN : Hid (d.L.length = n) := hn
  rw [hn] at hbg ha c8 h60
  have HM : Hid (UndoM w base g (.slice a n c) d) := by rw [← hn]; exact h
  have HSt : Hid (∀ w0, Below w.heap.size w w0 → w.heap.size + 1 + 1 < w0.heap.size → Boxed w0 (w.heap.size + 1 + 1) 60 (.slice a n c) → SeqStopsK Fence.wide 4 Try.prog 41 #[.pointer (some ⟨w.heap.size + 1 + 1, 0, none⟩)] ituV (KpU b (w.heap.size + 1 + 1)) (fun ys => itsU ys = d.L.reverse) (fun _ => True) n w0) := fun w0 h1 h2 h3 => by
    rw [← hn] at h3 ha ⊢
    exact backu_stops Fence.wide 4 trivial rfl (by omega) (w.heap.size + 1 + 1) b a c d.L hsm (by rw [hn]; omega) w0 h2 (by have := h1.size; omega) ha h3 (hnt.block (h1.block b hb))
  rw [hn]
  have HG : Hid (UnS w base g (.slice a n c) d t [] (((w.alloc (.cells #[ptrU g] 42)).alloc (.cells #[.int .i64 t] 3)).alloc (.cells #[.slice a n c] 60))) := by
    refine ⟨((HM.out.later (below_one _ _)).later (below_one _ _)).later (below_one _ _), ?_, ?_, ((Stay.of (below_one _ _)).trans (Stay.of (below_one _ _))).trans (Stay.of (below_one _ _)), by simp⟩
    · exact ((Boxed.new w 42 (ptrU g)).alloc _).alloc _
    · have := (Boxed.new (w.alloc (.cells #[ptrU g] 42)) 3 (.int .i64 t)).alloc (.cells #[.slice a n c] 60)
      rw [World.size_alloc] at this
      exact this
  have bS := Boxed.new ((w.alloc (.cells #[ptrU g] 42)).alloc (.cells #[.int .i64 t] 3)) 60 (.slice a n c)
  rw [World.size_alloc, World.size_alloc] at bS
  clear h hnt hn
  unfold ptrU at bS HG ⊢
  refine (callsIn_wide (n := 5)).1 ?_
  refine callsIn_of_wp_marks Try.func23 rfl trivial ?_ rfl
  simp only [Try.ntmps23, List.size_toArray, List.length_cons, List.length_nil, Nat.reduceAdd, Nat.reduceSub, Array.replicate_succ, Array.replicate_zero, List.push_toArray, List.append_toArray, List.nil_append, List.cons_append]
  gi_wp2_with (refine ⟨trivial, ?_⟩; gi_at_call 34; refine (backu_in Fence.wide _ trivial rfl _ _ _ _).mono ?_; rintro e w' ⟨rfl, rfl⟩)
  have hB0 : Below w.heap.size w (((w.alloc (.cells #[.pointer (some ⟨g, 0, none⟩)] 42)).alloc (.cells #[.int .i64 t] 3)).alloc (.cells #[.slice a n c] 60)) := (((Below.refl _ w).alloc (Nat.le_refl _) _).alloc (by simp) _).alloc (by simp; omega) _
  have hsz : (((w.alloc (.cells #[.pointer (some ⟨g, 0, none⟩)] 42)).alloc (.cells #[.int .i64 t] 3)).alloc (.cells #[.slice a n c] 60)).heap.size = w.heap.size + 1 + 1 + 1 := by simp
  generalize ((w.alloc _).alloc _).alloc _ = W0 at hB0 hsz HG bS ⊢
  refine wpIn_rangeFunc_ownH rfl (by omega) (gf := 41) (lb := #[.pointer (some ⟨w.heap.size + 1 + 1, 0, none⟩)]) rfl trivial (enters_of Try.func41 (by kernel_rfl) rfl)
    (HSt.out W0 hB0 (by omega) bS) kpu_t (kpu_b (by omega) (by omega)) (Below.refl _ _) (fun _ => rfl)
    (UnS w base g (.slice a n c) d t) (fun _ _ _ => False) (uns_own w base g _ d t _ (by omega)) (fun _ _ _ _ _ hs _ _ => hs)
    HG.out
    (fun x a' W => ∃ N, a' = { tmps := #[.pointer (some ⟨g, 0, none⟩), .int .i64 t, .pointer (some ⟨w.heap.size, 0, none⟩), .pointer (some ⟨w.heap.size + 1, 0, none⟩), .nilIface, undef, .pointer (some ⟨N, 0, none⟩), .pointer (some ⟨g, 0, none⟩), .pointer (some ⟨g, 0, none⟩), .pointer (some ⟨g, 8, none⟩), .slice a n c, .func (.func 41) #[] #[.pointer (some ⟨w.heap.size + 1 + 1, 0, none⟩)], .int .i64 x.1.1, .agg #[.int .i64 (x.1.2.t : Int), .int .i64 (x.1.2.b : Int), .int .i64 (x.1.2.w : Int)], undef, undef, undef, undef, undef, undef, undef, undef, undef, undef], defers := [] } ∧ Copy W w.heap.size N x.1.2)
    (fun x a' s A B row hs hg hr => by
      obtain ⟨N, e, hc, hn⟩ := hs
      exact ⟨N, e, own_cells W0.heap.size N _ _ s A B row hc hg hr, hn⟩) ?assign ?body ?done ?stop
  case assign =>
    intro l pre x W K hI hK
    have HK : Hid _ := hK
    have HI : Hid (UnS w base g (.slice a n c) d t pre W) := hI
    clear hI hK
    unfold ituV
    obtain ⟨⟨i, T, B, X⟩, hTB⟩ := x
    gi_wp2
    exact HK.out _ _ ((KeepsOthers.alloc _ _).from _) ⟨(below_one W _).block b (by have := HI.out.stay.size; omega), (below_one W _).block _ HI.out.big⟩ (HI.out.alloc _) ⟨_, rfl, ⟨World.alloc_heap_new W _, HI.out.stay.size⟩⟩
  case body =>
    rintro l pre x a' W hl hrec hI ⟨N, rfl, hcp⟩ hlt
    have HI : Hid (UnS w base g (.slice a n c) d t pre W) := hI
    obtain ⟨n0, n1, n2⟩ := hcp.at'
    have hb2 : b < W.heap.size := by have := hI.stay.size; omega
    have hbg2 : b ≠ g := hbg (by omega)
    have b0 : W.cell? ⟨w.heap.size, 0, none⟩ = some (ptrU g) := (cell_in hI.bd 0).1
    have b1 : W.cell? ⟨w.heap.size + 1, 0, none⟩ = some (.int .i64 t) := (cell_in hI.bt 0).1
    have HPb : Hid _ := fun (_ : Nat) => putback_any W base g _ _ hI.disk x.1.2.t x.1.2.b x.1.2.w x.2.2
    have HFin : Hid (∀ w2, ofT t x.1.2 = true → UndoM w2 base g (.slice a n c) ⟨putV ((itsU pre).foldl (bk (ofT t)) d.H) x.1.2.b x.1.2.w, d.L⟩ → Stay (fun y => y = g) W w2 → KeepsFrom W0.heap.size W w2 ∧ KpU b (w.heap.size + 1 + 1) W w2 ∧ UnS w base g (.slice a n c) d t (pre ++ [x]) w2) := fun w2 hx hm hs =>
      ⟨keeps_stay hs (by omega), kpu_stay hs hb2 HI.out.big hbg2 (by omega), HI.out.put hgl hx hm hs⟩
    have HNo : Hid (ofT t x.1.2 = false → UnS w base g (.slice a n c) d t (pre ++ [x]) W) := fun hx => HI.out.skip hx
    clear hcp hI hrec
    unfold ptrU at b0 HPb
    obtain ⟨⟨i, T, B, X⟩, hTB⟩ := x
    have n0 : W.cell? ⟨N, 0, none⟩ = some (.int .i64 (T : Int)) := n0
    have n1 : W.cell? ⟨N, 1, none⟩ = some (.int .i64 (B : Int)) := n1
    have n2 : W.cell? ⟨N, 2, none⟩ = some (.int .i64 (X : Int)) := n2
    by_cases hx : (T : Int) = t
    · have HX : Hid (ofT t ⟨T, B, X⟩ = true) := ofT_iff.2 hx
      subst hx
      gi_wp2_with (refine ⟨trivial, ?_⟩; gi_at_call 35; refine (CallsIn.inRound l (callsIn_wide.2 (HPb.out 0))).mono ?_; rintro e w2 ⟨rfl, hm2, hs2⟩; have HQ : Hid _ := HFin.out w2 HX.out hm2 hs2; clear hm2 hs2)
      exact HQ.out
    · have HX : Hid (ofT t ⟨T, B, X⟩ = false) := ofT_no.2 hx
      have hx2 : ((T : Int) == t) = false := by simp [hx]
      gi_wp2
      exact ⟨KeepsFrom.refl _ _, kpu_refl _ _ _, HNo.out HX.out⟩
  case done =>
    rintro D ys W hD hys hI hK
    have HI : Hid (UnS w base g (.slice a n c) d t ys W) := hI
    have hDu : Hid (UndoM W base g (.slice a n c) ⟨udo (ofT t) d.L d.H, d.L⟩) := by
      have := hI.disk
      rw [hys, udo_rev] at this
      exact this
    have HE : Hid _ := fun (_ : Nat) => end_any W base g _ _ hDu.out t
    have b0 : W.cell? ⟨w.heap.size, 0, none⟩ = some (ptrU g) := (cell_in hI.bd 0).1
    have b1 : W.cell? ⟨w.heap.size + 1, 0, none⟩ = some (.int .i64 t) := (cell_in hI.bt 0).1
    have HDw : Hid (D < W.heap.size ∧ w.heap.size ≤ D) := ⟨(Array.getElem?_eq_some_iff.1 hK).1, by omega⟩
    have HKd : Hid (W.heap[D]? = some (.deferred (some []))) := hK
    clear hI hys hK
    unfold ptrU at b0 HE
    gi_wp2_with (refine ⟨trivial, ?_⟩; gi_at_call 22; refine (callsIn_wide.2 (HE.out 0)).mono ?_; rintro e w2 ⟨rfl, v', hst⟩; have HS2 : Hid _ := fun (_ : Nat) => hst; clear hst)
    have hT : Turn w w2 base g (.slice a n c) v' (unD d t) := ⟨(HS2.out 0).disk, (HI.out.stay.sub fun x e => .inl e).trans (HS2.out 0).stay, fun x e => by
      rcases (HS2.out 0).lies x e with k | k
      · exact .inl k
      · exact .inr (Nat.le_trans HI.out.stay.size k)⟩
    have hK' : w2.heap[D]? = some (.deferred (some [])) := ((HS2.out 0).stay.block D HDw.out.1 (fun e => by have := (HM.out.fp e).2; have := HDw.out.2; omega)).trans HKd.out
    refine ⟨by simp, .inl ⟨_, _, rfl, run_takeDeferred hK', ?_⟩⟩
    exact ⟨_, results_tmp rfl _ _ _, rfl, v', turn_put hT HDw.out.2 hK' _⟩
  case stop =>
    rintro D c' pre W _ _ h _
    exact h.elim

end Go.Proofs.Ythgbknfdbobmiaa
