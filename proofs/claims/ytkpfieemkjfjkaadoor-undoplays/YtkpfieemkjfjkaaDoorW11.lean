/- This text proves what Crash of package undo tells, and what the disk is behind it: all notes are put back, the last one first, none is left, and it is told how many turns they were of; nothing is turned but the disk's block and what is new; the condition is that the disk lies there. -/
import Derived.Test.YtkpfieemkjfjkaaDoorW10
import Derived.Test.YtkpfieemkjfjkaaDoorW2
namespace Go.Proofs.YtkpfieemkjfjkaaDoor
open Go.RowKit Go.Shelf

attribute [local go_sem] Oper.semAt_some

theorem hasT_snoc (L : List Nt) (x : Nt) (j : Nat) : hasT (L ++ [x]) j = (hasT L j || x.t == j) := by unfold hasT; rw [List.any_append]; simp
theorem hasT_rev (L : List Nt) (j : Nat) : hasT L.reverse j = hasT L j := by unfold hasT; rw [List.any_reverse]
theorem keeps_some {S : Nat → Prop} {B : Nat} {W W' : World} (hs : Stay S W W') (hS : ∀ x, S x → x < B) : KeepsFrom B W W' :=
  ⟨hs.size, fun k o hk h _ => (hs.block k (Array.getElem?_eq_some_iff.1 h).1 (fun e => by have := hS k e; omega)).trans h⟩

/-- Between two rounds of Crash. -/
structure CrS (w : World) (base g : Nat) (v : Value) (d : Ud) (pre : List ItU) (W : World) : Prop where
  disk : UndoM W base g v ⟨(itsU pre).foldl (bk all) d.H, d.L⟩
  bd : W.heap[w.heap.size]? = some (.cells #[ptrU g] 24 (0, 0))
  set : SetN W (w.heap.size + 1) pre.length (hasT (itsU pre))
  bm : W.heap[w.heap.size + 1 + 1]? = some (.cells #[.map (some (w.heap.size + 1))] 66 (0, 0))
  stay : Stay (fun x => x = g) w W
  big : w.heap.size + 1 + 1 + 1 < W.heap.size
theorem crs_own (w : World) (base g : Nat) (v : Value) (d : Ud) (B : Nat) (hB : w.heap.size + 1 < B) : OwnFrom B (CrS w base g v d) := fun s W W' row hs hg hr =>
  ⟨own_undo B base g v (fun pre => ⟨(itsU pre).foldl (bk all) d.H, d.L⟩) s W W' row hs.disk hg hr, own_cells B _ _ _ s W W' row hs.bd hg hr, hs.set.block (hg.block _ hs.set.lt (fun e => by have := (hr _ e.symm).1; omega)), own_cells B _ _ _ s W W' row hs.bm hg hr, own_stay _ (by omega) s W W' row hs.stay hg hr, Nat.lt_of_lt_of_le hs.big hg.size⟩
theorem CrS.alloc {w W : World} {base g : Nat} {v : Value} {d : Ud} {pre : List ItU} (h : CrS w base g v d pre W) (o : Obj) : CrS w base g v d pre (W.alloc o) :=
  have hb := below_one W o
  ⟨h.disk.later hb, (hb.block _ (Array.getElem?_eq_some_iff.1 h.bd).1).trans h.bd, h.set.later hb, (hb.block _ (Array.getElem?_eq_some_iff.1 h.bm).1).trans h.bm, h.stay.trans (Stay.of hb), Nat.lt_of_lt_of_le h.big hb.size⟩
theorem CrS.put {w W W' W'' : World} {base g : Nat} {v : Value} {d : Ud} {pre : List ItU} {x : ItU} (h : CrS w base g v d pre W) (hg : g < w.heap.size)
    (hm : UndoM W' base g v ⟨putV ((itsU pre).foldl (bk all) d.H) x.1.2.b x.1.2.w, d.L⟩) (hs : Stay (fun y => y = g) W W')
    (hn : SetN W'' (w.heap.size + 1) (pre.length + 1) (fun j => hasT (itsU pre) j || x.1.2.t == j)) (hs2 : Stay (fun y => y = w.heap.size + 1) W' W'') : CrS w base g v d (pre ++ [x]) W'' := by
  have hst : Stay (fun y => y = g) w W'' := (h.stay.trans hs).next hs2 fun y e => .inr (by omega)
  have hsz : W.heap.size ≤ W'.heap.size := hs.size
  have hbg := h.big
  refine ⟨?_, ?_, ?_, ?_, hst, ?_⟩
  · rw [itsU_snoc, List.foldl_append]
    show UndoM W'' base g v ⟨putV ((itsU pre).foldl (bk all) d.H) x.1.2.b x.1.2.w, d.L⟩
    refine hm.stay hs2 fun y hy e => ?_
    have := (h.disk.fp (x := y) hy)
    rcases hy with rfl | hy
    · omega
    · rcases h.disk.log.2 with ⟨h0, _⟩ | ⟨b, cap, cur, h1, _, h3, _⟩
      · rw [h0] at hy; cases hy
      · rw [h1] at hy
        obtain rfl : b = y := Option.some.inj hy
        subst e
        obtain ⟨D, ⟨es, c, hb, _⟩, _⟩ := h.set
        rw [h3] at hb
        cases hb
  · exact (hs2.block _ (by omega) (by omega)).trans ((hs.block _ (by omega) (by omega)).trans h.bd)
  · rw [List.length_append, itsU_snoc]
    exact hn.alike fun j _ => (hasT_snoc _ _ _).symm
  · exact (hs2.block _ (by omega) (by omega)).trans ((hs.block _ (by omega) (by omega)).trans h.bm)
  · have := hs2.size
    omega

set_option maxRecDepth 100000 in
set_option maxHeartbeats 4000000 in
theorem crash_any (w : World) (base g : Nat) (v : Value) (d : Ud) (h : UndoM w base g v d) :
    Calls Tryd.prog 17 #[ptrU g] w fun e w' => e = .returned (.int .i64 (crN d.L : Int)) ∧ Turn w w' base g v (.slice none 0 0) (crD d) := by
  have HM0 : Hid (UndoM w base g v d) := h
  have hgl := h.lt
  have hsm := ntAt_small h.good.one
  have h60 := h.good.len
  obtain ⟨a, c, b, rfl, hb, hbg, ha, hnt⟩ := h.where'
  have c8 := h.facts.1
  obtain ⟨n, hn⟩ : ∃ n, d.L.length = n := ⟨_, rfl⟩
  rw [hn] at hbg ha c8 h60
  have HM : Hid (UndoM w base g (.slice a n c) d) := by rw [← hn]; exact h
  have HSt : Hid (∀ w0, Below w.heap.size w w0 → w.heap.size + 1 + 1 + 1 < w0.heap.size → Boxed w0 (w.heap.size + 1 + 1 + 1) 50 (.slice a n c) → SeqStopsK Fence.wide 4 Tryd.prog 31 #[.pointer (some ⟨w.heap.size + 1 + 1 + 1, 0, none⟩)] ituV (KpU b (w.heap.size + 1 + 1 + 1)) (fun ys => itsU ys = d.L.reverse) (fun _ => True) n w0) := fun w0 h1 h2 h3 => by
    rw [← hn] at h3 ha ⊢
    exact backu_stops Fence.wide 4 trivial rfl (by omega) (w.heap.size + 1 + 1 + 1) b a c d.L hsm (by rw [hn]; omega) w0 h2 (by have := h1.size; omega) ha h3 (hnt.block (h1.block b hb))
  rw [hn]
  have HG : Hid (CrS w base g (.slice a n c) d [] ((((w.alloc (.cells #[ptrU g] 24)).alloc (.map #[] 0)).alloc (.cells #[.map (some (w.heap.size + 1))] 66)).alloc (.cells #[.slice a n c] 50))) := by
    have k1 := below_one w (.cells #[ptrU g] 24)
    have k2 := below_one (w.alloc (.cells #[ptrU g] 24)) (.map #[] 0)
    have k3 := below_one ((w.alloc (.cells #[ptrU g] 24)).alloc (.map #[] 0)) (.cells #[.map (some (w.heap.size + 1))] 66)
    have k4 := below_one (((w.alloc (.cells #[ptrU g] 24)).alloc (.map #[] 0)).alloc (.cells #[.map (some (w.heap.size + 1))] 66)) (.cells #[.slice a n c] 50)
    refine ⟨(((HM.out.later k1).later k2).later k3).later k4, ?_, ?_, ?_, (((Stay.of k1).trans (Stay.of k2)).trans (Stay.of k3)).trans (Stay.of k4), by simp⟩
    · exact (((Boxed.new w 24 (ptrU g)).alloc _).alloc _).alloc _
    · have := ((SetN.made (w.alloc (.cells #[ptrU g] 24))).later k3).later k4
      rw [World.size_alloc] at this
      exact this
    · have := (Boxed.new ((w.alloc (.cells #[ptrU g] 24)).alloc (.map #[] 0)) 66 (.map (some (w.heap.size + 1)))).alloc (.cells #[.slice a n c] 50)
      rw [World.size_alloc, World.size_alloc] at this
      exact this
  have bS := Boxed.new (((w.alloc (.cells #[ptrU g] 24)).alloc (.map #[] 0)).alloc (.cells #[.map (some (w.heap.size + 1))] 66)) 50 (.slice a n c)
  rw [World.size_alloc, World.size_alloc, World.size_alloc] at bS
  have hmm := @run_makeMap Tryd.prog
  have c8' : (((w.alloc (.cells #[ptrU g] 24)).alloc (.map #[] 0)).alloc (.cells #[.map (some (w.heap.size + 1))] 66)).cell? ⟨g, 8, none⟩ = some (.slice a n c) := (((HM.out.later (below_one _ _)).later (below_one _ _)).later (below_one _ _)).facts.1
  clear h hnt hn
  unfold ptrU at bS HG c8' ⊢
  refine (callsIn_wide (n := 5)).1 ?_
  refine callsIn_of_wp_marks Tryd.func17 rfl trivial ?_ rfl
  simp only [Tryd.ntmps17, List.size_toArray, List.length_cons, List.length_nil, Nat.reduceAdd, Nat.reduceSub, Array.replicate_succ, Array.replicate_zero, List.push_toArray, List.append_toArray, List.nil_append, List.cons_append]
  gi_wp2_with (refine ⟨trivial, ?_⟩; gi_at_call 26; refine (backu_in Fence.wide _ trivial rfl _ _ _ _).mono ?_; rintro e w' ⟨rfl, rfl⟩)
  have hB0 : Below w.heap.size w ((((w.alloc (.cells #[.pointer (some ⟨g, 0, none⟩)] 24)).alloc (.map #[] 0)).alloc (.cells #[.map (some (w.heap.size + 1))] 66)).alloc (.cells #[.slice a n c] 50)) := ((((Below.refl _ w).alloc (Nat.le_refl _) _).alloc (by simp) _).alloc (by simp; omega) _).alloc (by simp; omega) _
  have hsz : ((((w.alloc (.cells #[.pointer (some ⟨g, 0, none⟩)] 24)).alloc (.map #[] 0)).alloc (.cells #[.map (some (w.heap.size + 1))] 66)).alloc (.cells #[.slice a n c] 50)).heap.size = w.heap.size + 1 + 1 + 1 + 1 := by simp
  clear c8'
  generalize (((w.alloc _).alloc _).alloc _).alloc _ = W0 at hB0 hsz HG bS ⊢
  refine wpIn_rangeFunc_ownH rfl (by omega) (gf := 31) (lb := #[.pointer (some ⟨w.heap.size + 1 + 1 + 1, 0, none⟩)]) rfl trivial (enters_of Tryd.func31 (by kernel_rfl) rfl)
    (HSt.out W0 hB0 (by omega) bS) kpu_t (kpu_b (by omega) (by omega)) (Below.refl _ _) (fun _ => rfl)
    (CrS w base g (.slice a n c) d) (fun _ _ _ => False) (crs_own w base g _ d _ (by omega)) (fun _ _ _ _ _ hs _ _ => hs)
    HG.out
    (fun x a' W => ∃ N, a' = { tmps := #[.pointer (some ⟨g, 0, none⟩), .pointer (some ⟨w.heap.size, 0, none⟩), .int .i64 0, .pointer (some ⟨w.heap.size + 1 + 1, 0, none⟩), undef, .pointer (some ⟨N, 0, none⟩), .map (some (w.heap.size + 1)), .pointer (some ⟨g, 0, none⟩), .pointer (some ⟨g, 0, none⟩), .pointer (some ⟨g, 8, none⟩), .slice a n c, .func (.func 31) #[] #[.pointer (some ⟨w.heap.size + 1 + 1 + 1, 0, none⟩)], .int .i64 x.1.1, .agg #[.int .i64 (x.1.2.t : Int), .int .i64 (x.1.2.b : Int), .int .i64 (x.1.2.w : Int)], undef, undef, undef, undef, undef, undef, undef, undef, undef, undef, undef, undef], defers := [] } ∧ Copy W W0.heap.size N x.1.2)
    (fun x a' s A B row hs hg hr => by
      obtain ⟨N, e, hc, hn⟩ := hs
      exact ⟨N, e, own_cells W0.heap.size N _ _ s A B row hc hg hr, hn⟩) ?assign ?body ?done ?stop
  case assign =>
    intro l pre x W K hI hK
    have HK : Hid _ := hK
    have HI : Hid (CrS w base g (.slice a n c) d pre W) := hI
    clear hI hK
    unfold ituV
    obtain ⟨⟨i, T, B, X⟩, hTB⟩ := x
    gi_wp2
    exact HK.out _ _ ((KeepsOthers.alloc _ _).from _) ⟨(below_one W _).block b (by have := HI.out.stay.size; omega), (below_one W _).block _ HI.out.big⟩ (HI.out.alloc _) ⟨_, rfl, ⟨World.alloc_heap_new W _, by have := HI.out.big; omega⟩⟩
  case body =>
    rintro l pre x a' W hl hrec hI ⟨N, rfl, hcp⟩ hlt
    have HI : Hid (CrS w base g (.slice a n c) d pre W) := hI
    obtain ⟨n0, n1, n2⟩ := hcp.at'
    have hNW : N < W.heap.size := (Array.getElem?_eq_some_iff.1 hcp.cells).1
    have hN0 := hcp.new
    have hb2 : b < W.heap.size := by have := hI.stay.size; omega
    have hbg2 : b ≠ g := hbg (by omega)
    have b0 : W.cell? ⟨w.heap.size, 0, none⟩ = some (ptrU g) := (cell_in hI.bd 0).1
    have HPb : Hid _ := fun (_ : Nat) => putback_any W base g _ _ hI.disk x.1.2.t x.1.2.b x.1.2.w x.2.2
    have HAf : Hid (∀ w2, Stay (fun y => y = g) W w2 → w2.cell? ⟨w.heap.size + 1 + 1, 0, none⟩ = some (.map (some (w.heap.size + 1))) ∧ w2.cell? ⟨N, 0, none⟩ = some (.int .i64 (x.1.2.t : Int)) ∧ SetN w2 (w.heap.size + 1) pre.length (hasT (itsU pre))) := fun w2 hs => by
      have hbg := HI.out.big
      refine ⟨?_, ?_, HI.out.set.block (hs.block _ (by omega) (by omega))⟩
      · exact (World.cell?_of_block (w := W) (a := ⟨w.heap.size + 1 + 1, 0, none⟩) (hs.block (w.heap.size + 1 + 1) (by omega) (by omega))).trans (cell_in HI.out.bm 0).1
      · exact (World.cell?_of_block (w := W) (a := ⟨N, 0, none⟩) (hs.block N hNW (by omega))).trans n0
    have HAd : Hid (∀ w2, SetN w2 (w.heap.size + 1) pre.length (hasT (itsU pre)) → Calls Tryd.prog 28 #[.map (some (w.heap.size + 1)), .int .i64 (x.1.2.t : Int)] w2 fun e w' => e = .returned (.tuple #[]) ∧ SetN w' (w.heap.size + 1) (pre.length + 1) (fun j => hasT (itsU pre) j || x.1.2.t == j) ∧ Stay (fun y => y = w.heap.size + 1) w2 w') := fun w2 hs => addN_any w2 _ _ _ hs (by omega) x.1.2.t x.2.1
    have HFin : Hid (∀ w2 w3, UndoM w2 base g (.slice a n c) ⟨putV ((itsU pre).foldl (bk all) d.H) x.1.2.b x.1.2.w, d.L⟩ → Stay (fun y => y = g) W w2 → SetN w3 (w.heap.size + 1) (pre.length + 1) (fun j => hasT (itsU pre) j || x.1.2.t == j) → Stay (fun y => y = w.heap.size + 1) w2 w3 → KeepsFrom W0.heap.size W w3 ∧ KpU b (w.heap.size + 1 + 1 + 1) W w3 ∧ CrS w base g (.slice a n c) d (pre ++ [x]) w3) := fun w2 w3 hm hs hn hs2 => by
      have hbg3 := HI.out.big
      have hsz2 := hs.size
      refine ⟨(keeps_some hs (fun y e => by omega)).trans (keeps_some hs2 (fun y e => by omega)), ⟨?_, ?_⟩, HI.out.put hgl hm hs hn hs2⟩
      · exact (hs2.block b (by omega) (by omega)).trans (hs.block b hb2 hbg2)
      · exact (hs2.block _ (by omega) (by omega)).trans (hs.block _ hbg3 (by omega))
    clear hcp hI hrec
    unfold ptrU at b0 HPb
    obtain ⟨⟨i, T, B, X⟩, hTB⟩ := x
    have n0 : W.cell? ⟨N, 0, none⟩ = some (.int .i64 (T : Int)) := n0
    have n1 : W.cell? ⟨N, 1, none⟩ = some (.int .i64 (B : Int)) := n1
    have n2 : W.cell? ⟨N, 2, none⟩ = some (.int .i64 (X : Int)) := n2
    gi_wp2_with (first
      | (refine ⟨trivial, ?_⟩; gi_at_call 27; refine (CallsIn.inRound l (callsIn_wide.2 (HPb.out 0))).mono ?_; rintro e w2 ⟨rfl, hm2, hs2⟩; obtain ⟨m0, m1, hset⟩ := HAf.out w2 hs2; have m1 : w2.cell? ⟨N, 0, none⟩ = some (.int .i64 (T : Int)) := m1; have HA2 : Hid _ := HAd.out w2 hset; have HM2 : Hid _ := And.intro hm2 hs2; clear hm2 hs2 hset)
      | (refine ⟨trivial, ?_⟩; gi_at_call 28; refine (CallsIn.inRound l (callsIn_wide.2 HA2.out)).mono ?_; rintro e w3 ⟨rfl, hn3, hs3⟩; have HQ : Hid _ := HFin.out w2 w3 HM2.out.1 HM2.out.2 hn3 hs3; clear hn3 hs3))
    exact HQ.out
  case done =>
    rintro D ys W hD hys hI hK
    have HI : Hid (CrS w base g (.slice a n c) d ys W) := hI
    have hDu : UndoM W base g (.slice a n c) ⟨udo all d.L d.H, d.L⟩ := by
      have := hI.disk
      rw [hys, udo_rev] at this
      exact this
    obtain ⟨f8, g8⟩ := hDu.facts
    have b0 : W.cell? ⟨w.heap.size, 0, none⟩ = some (ptrU g) := (cell_in hI.bd 0).1
    have HF : Hid (UndoM (W.setCell ⟨g, 8, none⟩ (.slice none 0 0)) base g (.slice none 0 0) (crD d)) := UndoM.notes (L := []) hDu.cells hDu.low (World.ownsRow_nil _ _ _ _) (fun e => by cases e) (good_cr d)
    have hsS : Stay (fun y => y = g) W (W.setCell ⟨g, 8, none⟩ (.slice none 0 0)) := Stay.set _ _ rfl
    have HS : Hid (Stay (fun y => y = g) W (W.setCell ⟨g, 8, none⟩ (.slice none 0 0))) := hsS
    have b2 : (W.setCell ⟨g, 8, none⟩ (.slice none 0 0)).cell? ⟨w.heap.size + 1 + 1, 0, none⟩ = some (.map (some (w.heap.size + 1))) := (World.cell?_of_block (w := W) (a := ⟨w.heap.size + 1 + 1, 0, none⟩) (hsS.block (w.heap.size + 1 + 1) (by have := hI.big; omega) (by omega))).trans (cell_in hI.bm 0).1
    have hset : SetN (W.setCell ⟨g, 8, none⟩ (.slice none 0 0)) (w.heap.size + 1) ys.length (hasT d.L) := (hI.set.block (hsS.block _ (by have := hI.big; omega) (by omega))).alike fun j _ => by rw [hys]; exact hasT_rev _ _
    have hlen := fun ty => hset.len ty
    have HDw : Hid (D < W.heap.size ∧ w.heap.size ≤ D) := ⟨(Array.getElem?_eq_some_iff.1 hK).1, by omega⟩
    have HKd : Hid (W.heap[D]? = some (.deferred (some []))) := hK
    clear hI hys hK hDu hsS hset
    unfold ptrU at b0
    gi_wp2
    have hT : Turn w (W.setCell ⟨g, 8, none⟩ (.slice none 0 0)) base g (.slice a n c) (.slice none 0 0) (crD d) := ⟨HF.out, (HI.out.stay.trans HS.out).sub fun x e => .inl e, fun x e => by cases e⟩
    have hK' : (W.setCell ⟨g, 8, none⟩ (.slice none 0 0)).heap[D]? = some (.deferred (some [])) := (HS.out.block D HDw.out.1 (by have := HDw.out.2; omega)).trans HKd.out
    refine ⟨by simp, .inl ⟨_, _, rfl, run_takeDeferred hK', ?_⟩⟩
    exact ⟨_, results_tmp rfl _ _ _, rfl, turn_put hT HDw.out.2 hK' _⟩
  case stop =>
    rintro D c' pre W _ _ h _
    exact h.elim

end Go.Proofs.YtkpfieemkjfjkaaDoor
