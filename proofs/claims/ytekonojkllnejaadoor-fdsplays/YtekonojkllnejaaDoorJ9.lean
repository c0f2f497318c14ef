/- This text proves what the document's own Move answers: the numbers with one place changed, the place, and what is wrong; old memory is as it was; the conditions are that the document's lists lie there, and that they are those of the program's numbers. -/
import Derived.Test.YtekonojkllnejaaDoorJ8
import Derived.Test.YtekonojkllnejaaDoorJ6
namespace Go.Proofs.YtekonojkllnejaaDoor
open Go.RowKit Go.Deep

/-- The document's lists are those of the program's numbers: each file has a place in them. -/
structure Rel (F : Nat → Option Nat) (Z : Nat → Nat × Nat) (O S A : List Int) (adr : List Nat) : Prop where
  frs : Frs F O
  len : S.length = adr.length
  nd : adr.Nodup
  num : ∀ i b, i < 8 → F i = some b → ∃ k, nth O i = ((k : Nat) : Int) ∧ adr[k]? = some b
  val : ∀ k b, adr[k]? = some b → nth S k = ((Z b).1 : Int) ∧ nth A k = ((Z b).2 : Int)

/-- The document's list of places behind Move. -/
def mvA (F : Nat → Option Nat) (Z : Nat → Nat × Nat) (O A : List Int) (fd y : Int) : List Int := if mvE F Z fd y = 0 then A.set (nth O fd.toNat).toNat (mvN F Z fd y : Int) else A
theorem mvA_bad {F : Nat → Option Nat} {Z : Nat → Nat × Nat} {O A : List Int} {fd y : Int} (h : mvE F Z fd y ≠ 0) : mvA F Z O A fd y = A := if_neg h
theorem mvA_good {F : Nat → Option Nat} {Z : Nat → Nat × Nat} {O A : List Int} {fd y : Int} (h : mvE F Z fd y = 0) : mvA F Z O A fd y = A.set (nth O fd.toNat).toNat (mvN F Z fd y : Int) := if_pos h

theorem quiet0 {P : Program} {f : FuncId} {args : Array Value} {w : World} {n : Nat} {v : Value}
    (h : Calls P f args (w.drewN n) fun e w' => e = .returned v ∧ w.drewN n = w') : Calls P f args (w.drewN n) fun e w'' => e = .returned v ∧ ∃ m, w'' = w.drewN m :=
  h.mono fun _ _ ⟨he, hm⟩ => ⟨he, n, hm.symm⟩

theorem wrap_in {x : Int} (h0 : 0 ≤ x) (h1 : x ≤ 1000) : IntKind.i64.wrap x = x := by
  unfold IntKind.wrap
  simp [IntKind.bits, IntKind.signed]
  omega

/-- Another list at the places. -/
theorem Doc.putA {w w' : World} {base g cap n : Nat} {vo vs va : Value} {O S A A' : List Int} (h : Doc w base vo vs va O S A) (hb : Below w.heap.size w w') (hbase : base ≤ w.heap.size) {w2 : World} (hn : S.length = n) (ho : w2.ownsRow w.heap.size 3 1 (.slice (some ⟨g, 0, none⟩) n cap) n (cellsOf A'))
    (hk : w'.heap[g]? = w2.heap[g]?) : Doc w' base vo vs (.slice (some ⟨g, 0, none⟩) n cap) O S A' := by
  have hg : w.heap.size ≤ g := (own_lt ho rfl).1
  have h' := h.later hb
  refine ⟨h'.o, h'.s, own_down (own_still (by rw [hn]; exact ho) fun b e => by cases e; exact hk) hbase, fun b e => ⟨(h.os b e).1, fun e2 => ?_⟩, fun b e e2 => ?_, h.len⟩
  · have hgb : g = b := Option.some.inj e2
    have := (own_lt h.o e).2
    omega
  · have hgb : g = b := Option.some.inj e2
    have := (own_lt h.s e).2
    omega

set_option maxHeartbeats 8000000 in
set_option maxRecDepth 100000 in
theorem rmove_any (w : World) (base : Nat) (vo vs va : Value) (O S A : List Int) (F : Nat → Option Nat) (Z : Nat → Nat × Nat) (adr : List Nat) (h : Doc w base vo vs va O S A) (hR : Rel F Z O S A adr) (hfit : ∀ i b, i < 8 → F i = some b → (Z b).2 ≤ (Z b).1 ∧ (Z b).1 ≤ 64) (hbase : base ≤ w.heap.size) (fd y : Int) :
    Calls Tryd.prog 19 #[.agg #[vo, vs, va], .int .i64 fd, .int .i64 y] w fun e w' => ∃ va', e = .returned (.tuple #[.agg #[vo, vs, va'], .int .i64 (mvN F Z fd y : Int), .int .i64 (mvE F Z fd y : Int)]) ∧ Doc w' base vo vs va' O S (mvA F Z O A fd y) ∧ Below w.heap.size w w' ∧ (∀ b, va'.ownBlock = some b → va.ownBlock = some b ∨ w.heap.size ≤ b) := by
  obtain ⟨g, cap, rfl, hg, hc⟩ := own_cells h.o (by decide)
  have HD0 : Hid (Doc w base (.slice (some ⟨g, 0, none⟩) 8 cap) vs va O S A) := h
  have HBa : Hid (base ≤ w.heap.size) := hbase
  have HC : Hid (∀ i, i < 8 → ∀ w', Below w.heap.size w w' → w'.cell? ⟨g, i, none⟩ = some (.int .i64 (nth O i))) := fun i hi w' hb => by rw [hb.cell (p := ⟨g, i, none⟩) hg]; exact hc i hi
  cases hf : fo F fd with
  | none =>
    obtain ⟨aS, cs, rfl⟩ := row_form h.s
    obtain ⟨aa, ca, rfl⟩ := row_form h.a
    have HD : Hid (Doc w base (.slice (some ⟨g, 0, none⟩) 8 cap) (.slice aS S.length cs) (.slice aa S.length ca) O S A) := h
    obtain ⟨n, hn⟩ : ∃ n, S.length = n := ⟨_, rfl⟩
    rw [hn] at HD ⊢
    clear HD0
    obtain ⟨w1, hw1, hb1, k0, k1⟩ := boxes_new w (.slice (some ⟨g, 0, none⟩) 8 cap) (.slice aS n cs) (.slice aa n ca) (.slice none 0 0) (.slice none 0 0) (.slice none 0 0)
    have HW1 : Hid _ := hw1
    have HB1 : Hid (Below w.heap.size w w1) := hb1
    have HX : Hid (∀ w', Below w1.heap.size w1 w' → Box3 w' w.heap.size (.slice (some ⟨g, 0, none⟩) 8 cap) (.slice aS n cs) (.slice aa n ca) ∧ Box3 w' (w.heap.size + 1) (.slice none 0 0) (.slice none 0 0) (.slice none 0 0)) := fun w' hb => ⟨k0.later hb, k1.later hb⟩
    have HWr : Hid _ := fun (w' : World) (hb : Below w.heap.size w w') => wrong_any w' base (.slice (some ⟨g, 0, none⟩) 8 cap) (.slice aS n cs) (.slice aa n ca) O F (HD.out.later hb).o hR.frs fd
    have hE := opE_none hf
    have e1 : mvE F Z fd y = opE F fd := by unfold mvE; rw [hf]
    have e2 : mvN F Z fd y = 0 := by unfold mvN; rw [hf]
    rw [mvA_bad (by rw [e1]; exact hE), e1, e2]
    generalize opE F fd = E at *
    have hE' : ¬ (E : Int) = 0 := by omega
    clear e1 e2 hf hE h hg hc hw1 hb1 k0 k1 hbase hR hfit hn
    go_enter Tryd.func19, Tryd.ntmps19
    go_wp2_with fail
    rw [HW1.out]
    refine Calls.mono (HWr.out w1 HB1.out) ?_
    rintro e w2 ⟨rfl, hb2⟩
    obtain ⟨hx0, hx1⟩ := HX.out w2 hb2
    obtain ⟨x0, x1, x2, _, _, _⟩ := hx0.facts
    obtain ⟨y0, y1, y2, f0, f1, f2⟩ := hx1.facts
    have HB2 : Hid (Below w.heap.size w w2) := HB1.out.trans (hb2.mono HB1.out.size)
    clear hx0 hx1 hb2
    go_wp2_with fail
    refine bodyPost_ret (v := .tuple #[.agg #[.slice (some ⟨g, 0, none⟩) 8 cap, .slice aS n cs, .slice aa n ca], .int .i64 0, .int .i64 E]) ?_ rfl ?_
    · rw [results_cell3 rfl]
      go_simp
    · have hq := below_set3 (b := w.heap.size + 1) HB2.out (by omega) (.slice (some ⟨g, 0, none⟩) 8 cap) (.slice aS n cs) (.slice aa n ca)
      exact ⟨_, rfl, HD.out.later hq, hq, fun b e => .inl e⟩
  | some b =>
    obtain ⟨e1, e2, e3, e4⟩ := opE_some hf
    obtain ⟨f, rfl⟩ : ∃ k : Nat, fd = (k : Int) := ⟨fd.toNat, by omega⟩
    have hf8 : f < 8 := by omega
    rw [Int.toNat_natCast] at e4
    obtain ⟨k, hk1, hk2⟩ := hR.num f b hf8 e4
    obtain ⟨⟨M, P⟩, hz⟩ : ∃ x, Z b = x := ⟨_, rfl⟩
    have hfb := hfit f b hf8 e4
    have hv := hR.val k b hk2
    have hkn : k < S.length := by rw [hR.len]; exact (List.getElem?_eq_some_iff.1 hk2).1
    rw [hz] at hfb hv
    obtain ⟨gs, cs, rfl, hgs, hcs⟩ := own_cells h.s (by omega)
    obtain ⟨ga, ca, rfl, hga, hca⟩ := own_cells h.a (by omega)
    have HD : Hid (Doc w base (.slice (some ⟨g, 0, none⟩) 8 cap) (.slice (some ⟨gs, 0, none⟩) S.length cs) (.slice (some ⟨ga, 0, none⟩) S.length ca) O S A) := h
    have HLA : Hid (A.length = S.length) := h.lenA
    have HCf : Hid (∀ w', Below w.heap.size w w' → w'.cell? ⟨g, f, none⟩ = some (.int .i64 (k : Int))) := fun w' hb => by rw [HC.out f hf8 w' hb, hk1]
    have HCs : Hid (∀ w', Below w.heap.size w w' → w'.cell? ⟨gs, k, none⟩ = some (.int .i64 (M : Int))) := fun w' hb => by rw [hb.cell (p := ⟨gs, k, none⟩) hgs, hcs k hkn, hv.1]
    have HCa : Hid (∀ w', Below w.heap.size w w' → w'.cell? ⟨ga, k, none⟩ = some (.int .i64 (P : Int))) := fun w' hb => by rw [hb.cell (p := ⟨ga, k, none⟩) hga, hca k hkn, hv.2]
    have hn100 := h.len
    obtain ⟨n, hn⟩ : ∃ n, S.length = n := ⟨_, rfl⟩
    have HN : Hid (S.length = n) := hn
    rw [hn] at HD hkn hn100 ⊢
    obtain ⟨w1, hw1, hb1, k0, k1⟩ := boxes_new w (.slice (some ⟨g, 0, none⟩) 8 cap) (.slice (some ⟨gs, 0, none⟩) n cs) (.slice (some ⟨ga, 0, none⟩) n ca) (.slice none 0 0) (.slice none 0 0) (.slice none 0 0)
    have HW1 : Hid _ := hw1
    have HB1 : Hid (Below w.heap.size w w1) := hb1
    have HX : Hid (∀ w', Below w1.heap.size w1 w' → Box3 w' w.heap.size (.slice (some ⟨g, 0, none⟩) 8 cap) (.slice (some ⟨gs, 0, none⟩) n cs) (.slice (some ⟨ga, 0, none⟩) n ca) ∧ Box3 w' (w.heap.size + 1) (.slice none 0 0) (.slice none 0 0) (.slice none 0 0)) := fun w' hb => ⟨k0.later hb, k1.later hb⟩
    have HWr : Hid _ := fun (w' : World) (hb : Below w.heap.size w w') => wrong_any w' base (.slice (some ⟨g, 0, none⟩) 8 cap) (.slice (some ⟨gs, 0, none⟩) n cs) (.slice (some ⟨ga, 0, none⟩) n ca) O F (HD.out.later hb).o hR.frs (f : Int)
    rw [e1] at HWr
    have hfi : (f : Int) < 8 := by omega
    have hf0 : (0 : Int) ≤ (f : Int) := by omega
    have hki : (k : Int) < (n : Int) := by omega
    have hk0 : (0 : Int) ≤ (k : Int) := by omega
    obtain ⟨hfb1, hfb2⟩ := hfb
    by_cases hin : -(P : Int) ≤ y ∧ y ≤ (M : Int) - (P : Int)
    · obtain ⟨q, hq⟩ : ∃ q : Nat, (P : Int) + y = (q : Int) := ⟨((P : Int) + y).toNat, by omega⟩
      have hq64 : q ≤ 64 := by omega
      obtain ⟨m1, m2, m3⟩ := mv_of hf hz hq (by omega)
      rw [mvA_good m1, m1, m2, Int.toNat_natCast, hk1, Int.toNat_natCast]
      have HI : Hid _ := fun (w : World) => rin_yes y (-(P : Int)) ((M : Int) - (P : Int)) w hin
      have HSe : Hid _ := fun (w' : World) (hb : Below w.heap.size w w') => set_own w' _ A n k (q : Int) (slice_own (HD.out.later hb).a (by rw [HN.out]; unfold maxLen; omega)) (HLA.out.trans HN.out) hkn (by omega)
      clear e1 e2 e3 e4 hf hz m1 m2 m3 h hg hc hw1 hb1 k0 k1 hbase hR hfit hn hk1 hk2 hv hgs hcs hga hca hin
      go_enter Tryd.func19, Tryd.ntmps19
      go_wp2_with fail
      rw [HW1.out]
      refine Calls.mono (HWr.out w1 HB1.out) ?_
      rintro e w2 ⟨rfl, hb2⟩
      obtain ⟨hx0, hx1⟩ := HX.out w2 hb2
      have HX0 : Hid (Box3 w2 w.heap.size (.slice (some ⟨g, 0, none⟩) 8 cap) (.slice (some ⟨gs, 0, none⟩) n cs) (.slice (some ⟨ga, 0, none⟩) n ca)) := hx0
      have HX1 : Hid (Box3 w2 (w.heap.size + 1) (.slice none 0 0) (.slice none 0 0) (.slice none 0 0)) := hx1
      obtain ⟨x0, x1, x2, _, _, _⟩ := hx0.facts
      have HB2 : Hid (Below w.heap.size w w2) := HB1.out.trans (hb2.mono HB1.out.size)
      have c1 := HCf.out w2 HB2.out
      have c2 := HCs.out w2 HB2.out
      have c3 := HCa.out w2 HB2.out
      clear hx0 hx1 hb2
      go_wp2_with fail
      go_quiet (first | (go_at_call 24; exact quiet0 (HI.out _)))
      have HB3 : Hid (Below w2.heap.size w2 (w2.drewN nq)) := below_drew _ _ _
      generalize w2.drewN nq = w3 at HB3 ⊢
      have HX03 : Hid (Box3 w3 w.heap.size (.slice (some ⟨g, 0, none⟩) 8 cap) (.slice (some ⟨gs, 0, none⟩) n cs) (.slice (some ⟨ga, 0, none⟩) n ca)) := HX0.out.later HB3.out
      have HX13 : Hid (Box3 w3 (w.heap.size + 1) (.slice none 0 0) (.slice none 0 0) (.slice none 0 0)) := HX1.out.later HB3.out
      have HB03 : Hid (Below w.heap.size w w3) := HB2.out.trans (HB3.out.mono HB2.out.size)
      clear c1 c2 c3 x0 x1 x2
      have hwq : IntKind.i64.wrap (q : Int) = (q : Int) := wrap_in (by omega) (by omega)
      have HKp : Hid (∀ w4, Below w3.heap.size w3 w4 → w4.cell? ⟨w.heap.size, 2, none⟩ = some (.slice (some ⟨ga, 0, none⟩) n ca) ∧ w4.frozen? ⟨w.heap.size, 2, none⟩ = false ∧ w4.cell? ⟨ga, k, none⟩ = some (.int .i64 (P : Int))) := fun w4 hb => by
        obtain ⟨_, _, q2, _, _, q5⟩ := (HX03.out.later hb).facts
        exact ⟨q2, q5, HCa.out w4 (HB03.out.trans (hb.mono HB03.out.size))⟩
      go_wp2_with fail
      refine wp_region_last (S := fun w' => w'.cell? ⟨w.heap.size, 2, none⟩ = some (.slice (some ⟨ga, 0, none⟩) n ca) ∧ w'.frozen? ⟨w.heap.size, 2, none⟩ = false ∧ w'.cell? ⟨ga, k, none⟩ = some (.int .i64 (P : Int))) 12 (by kernel_rfl) (by kernel_rfl) ?hs (fun hHeld => ?_)
      case hs => exact HKp.out _ (below_drew1 _ _)
      refine held_take (i := 0) (v := ?_) rfl rfl (by kernel_rfl) (by kernel_rfl) (by kernel_rfl) (fun _ _ _ h => h) (Or.inl ⟨by rfl, ?_⟩) hHeld ?_
      rotate_left
      · (intro w hSw; (try dsimp only at hSw); go_simp; try with_reducible rfl)
      simp only [Act.put, List.setIfInBounds_toArray, List.set_cons_zero, List.set_cons_succ]
      refine held_take (i := 1) (v := ?_) rfl rfl (by kernel_rfl) (by kernel_rfl) (by kernel_rfl) (fun _ _ _ h => h) (Or.inl ⟨by rfl, ?_⟩) hHeld ?_
      rotate_left
      · (intro w hSw; (try dsimp only at hSw); go_simp; try with_reducible rfl)
      simp only [Act.put, List.setIfInBounds_toArray, List.set_cons_zero, List.set_cons_succ]
      refine held_take (i := 2) (v := ?_) rfl rfl (by kernel_rfl) (by kernel_rfl) (by kernel_rfl) (fun _ _ _ h => h) (Or.inl ⟨by rfl, ?_⟩) hHeld ?_
      rotate_left
      · (intro w hSw; (try dsimp only at hSw); go_simp; try with_reducible rfl)
      simp only [Act.put, List.setIfInBounds_toArray, List.set_cons_zero, List.set_cons_succ]
      refine held_take (i := 3) (v := ?_) rfl rfl (by kernel_rfl) (by kernel_rfl) (by kernel_rfl) (fun _ _ _ h => h) (Or.inl ⟨by rfl, ?_⟩) hHeld ?_
      rotate_left
      · (intro w hSw; (try dsimp only at hSw); go_simp; try with_reducible rfl)
      simp only [Act.put, List.setIfInBounds_toArray, List.set_cons_zero, List.set_cons_succ]
      refine held_take (i := 4) (v := ?_) rfl rfl (by kernel_rfl) (by kernel_rfl) (by kernel_rfl) (fun _ _ _ h => h) (Or.inl ⟨by rfl, ?_⟩) hHeld ?_
      rotate_left
      · (intro w hSw; (try dsimp only at hSw); go_simp; try with_reducible rfl)
      simp only [Act.put, List.setIfInBounds_toArray, List.set_cons_zero, List.set_cons_succ]
      refine held_take (i := 5) (v := ?_) rfl rfl (by kernel_rfl) (by kernel_rfl) (by kernel_rfl) (fun _ _ _ h => h) (Or.inl ⟨by rfl, ?_⟩) hHeld ?_
      rotate_left
      · (intro w hSw; (try dsimp only at hSw); go_simp; try with_reducible rfl)
      simp only [Act.put, List.setIfInBounds_toArray, List.set_cons_zero, List.set_cons_succ]
      refine held_take (i := 6) (v := ?_) rfl rfl (by kernel_rfl) (by kernel_rfl) (by kernel_rfl) (fun _ _ _ h => h) (Or.inl ⟨by rfl, ?_⟩) hHeld ?_
      rotate_left
      · (intro w hSw; (try dsimp only at hSw); go_simp; try with_reducible rfl)
      simp only [Act.put, List.setIfInBounds_toArray, List.set_cons_zero, List.set_cons_succ]
      refine held_take (i := 7) (v := ?_) rfl rfl (by kernel_rfl) (by kernel_rfl) (by kernel_rfl) (fun _ _ _ h => h) (Or.inl ⟨by rfl, ?_⟩) hHeld ?_
      rotate_left
      · (intro w hSw; (try dsimp only at hSw); go_simp; try with_reducible rfl)
      simp only [Act.put, List.setIfInBounds_toArray, List.set_cons_zero, List.set_cons_succ]
      refine held_take (i := 8) (v := ?_) rfl rfl (by kernel_rfl) (by kernel_rfl) (by kernel_rfl) (fun _ _ _ h => h) (Or.inl ⟨by rfl, ?_⟩) hHeld ?_
      rotate_left
      · (intro w hSw; (try dsimp only at hSw); go_simp; try with_reducible rfl)
      simp only [Act.put, List.setIfInBounds_toArray, List.set_cons_zero, List.set_cons_succ]
      refine held_take (i := 9) (v := ?_) rfl rfl (by kernel_rfl) (by kernel_rfl) (by kernel_rfl) (fun _ _ _ h => h) (Or.inl ⟨by rfl, ?_⟩) hHeld ?_
      rotate_left
      · (intro w hSw; (try dsimp only at hSw); go_simp; try with_reducible rfl)
      simp only [Act.put, List.setIfInBounds_toArray, List.set_cons_zero, List.set_cons_succ]
      refine wpAnyH_ready (rs := [10]) (by kernel_rfl) (by simp) ?_
      refine AllReadyH.cons rfl (fun K hK => ?_) AllReadyH.nil
      go_simp
      go_at_call 18
      refine (HSe.out _ (HB03.out.trans (below_drew1 _ _))).mono ?_
      rintro e w4 ⟨g', cap', rfl, ho, hb⟩
      have HB34 : Hid (Below w3.heap.size w3 w4) := (below_drew1 _ _).trans hb
      go_simp
      refine hK.out _ _ (HKp.out w4 HB34.out) (fun hHeld => ?_)
      clear hK K
      refine held_take (i := 11) (v := ?_) rfl rfl (by kernel_rfl) (by kernel_rfl) (by kernel_rfl) (fun _ _ _ h => h) (Or.inl ⟨by rfl, ?_⟩) hHeld ?_
      rotate_left
      · (intro w hSw; (try dsimp only at hSw); go_simp; try with_reducible rfl)
      simp only [Act.put, List.setIfInBounds_toArray, List.set_cons_zero, List.set_cons_succ]
      obtain ⟨q0, q1, _⟩ := hHeld
      refine wpAnyH_done (by kernel_rfl) ?_ _
      refine last_step rfl (fun K hK => ?_)
      go_simp
      refine hK _ _ ?_
      clear hK K
      have HO4 : Hid (w4.ownsRow w3.heap.size 3 1 (.slice (some ⟨g', 0, none⟩) n cap') n (cellsOf (A.set k (q : Int)))) := ho
      have hx0 := (HX03.out.later HB34.out).set2 (.slice (some ⟨g', 0, none⟩) n cap')
      have hx1 := (HX13.out.later HB34.out).off (p := ⟨w.heap.size, 2, none⟩) (by simp) (.slice (some ⟨g', 0, none⟩) n cap')
      have HB5 : Hid (Below w.heap.size w (w4.setCell ⟨w.heap.size, 2, none⟩ (.slice (some ⟨g', 0, none⟩) n cap'))) := (HB03.out.trans (HB34.out.mono HB03.out.size)).setCell (p := ⟨w.heap.size, 2, none⟩) (Nat.le_refl _) _
      have hg' : w3.heap.size ≤ g' := (own_lt ho rfl).1
      have hz3 := HX13.out.lt
      have hgne : ¬ g' = w.heap.size + 1 := by omega
      have hgne2 : ¬ w.heap.size + 1 = g' := by omega
      have hgne0 : ¬ g' = w.heap.size := by omega
      have HH5 : Hid (∀ b, b ≠ w.heap.size → (w4.setCell ⟨w.heap.size, 2, none⟩ (.slice (some ⟨g', 0, none⟩) n cap')).heap[b]? = w4.heap[b]?) := fun b hb => Below.heap_setCell _ _ _ _ hb
      have HG' : Hid (w3.heap.size ≤ g') := hg'
      have ck : (w4.setCell ⟨w.heap.size, 2, none⟩ (.slice (some ⟨g', 0, none⟩) n cap')).cell? ⟨g', k, none⟩ = some (.int .i64 (q : Int)) := by
        rw [World.cell?_of_block (w := w4) (HH5.out g' (by omega)), ho.cellAt k (by omega), cellsOf_get (by rw [List.length_set, HLA.out, HN.out]; exact hkn)]
        have : k < A.length := by rw [HLA.out, HN.out]; exact hkn
        simp [nth, this]
      generalize w4.setCell ⟨w.heap.size, 2, none⟩ (.slice (some ⟨g', 0, none⟩) n cap') = w5 at hx0 hx1 HB5 HH5 ck ⊢
      obtain ⟨x0, x1, x2, _, _, _⟩ := hx0.facts
      obtain ⟨y0, y1, y2, f0, f1, f2⟩ := hx1.facts
      clear hx0 hx1 ho hb q0 q1
      go_wp2_with fail
      go_region_held3 (fun w' => w'.cell? ⟨w.heap.size, 0, none⟩ = some (.slice (some ⟨g, 0, none⟩) 8 cap) ∧ w'.cell? ⟨w.heap.size, 1, none⟩ = some (.slice (some ⟨gs, 0, none⟩) n cs) ∧ w'.cell? ⟨w.heap.size, 2, none⟩ = some (.slice (some ⟨g', 0, none⟩) n cap') ∧ w'.cell? ⟨g', k, none⟩ = some (.int .i64 (q : Int)))
        (first | go_keep | (go_split_ands; done))
        (fail)
      go_wp2_with fail
      refine bodyPost_ret (v := .tuple #[.agg #[.slice (some ⟨g, 0, none⟩) 8 cap, .slice (some ⟨gs, 0, none⟩) n cs, .slice (some ⟨g', 0, none⟩) n cap'], .int .i64 (q : Int), .int .i64 0]) ?_ rfl ?_
      · rw [results_cell3 rfl]
        go_simp
      · have hq := below_set3 (b := w.heap.size + 1) (HB5.out.trans (below_drew1 _ _)) (by omega) (.slice (some ⟨g, 0, none⟩) 8 cap) (.slice (some ⟨gs, 0, none⟩) n cs) (.slice (some ⟨g', 0, none⟩) n cap')
        have z3 := HB03.out.size
        exact ⟨_, rfl, HD.out.putA hq HBa.out HN.out (own_down HO4.out z3) (by
          show (((w5.setCell ⟨w.heap.size + 1, 0, none⟩ _).setCell ⟨w.heap.size + 1, 1, none⟩ _).setCell ⟨w.heap.size + 1, 2, none⟩ _).heap[g']? = w4.heap[g']?
          rw [Below.heap_setCell _ _ _ _ (by show g' ≠ w.heap.size + 1; omega), Below.heap_setCell _ _ _ _ (by show g' ≠ w.heap.size + 1; omega), Below.heap_setCell _ _ _ _ (by show g' ≠ w.heap.size + 1; omega)]
          exact HH5.out _ (by omega)), hq, fun b e => .inr (by
          have hbe : g' = b := Option.some.inj e
          have zg := HG'.out
          omega)⟩
    · have m1 : mvE F Z (f : Int) y = 1 := by
        have h1 : ¬ (-((Z b).2 : Int) ≤ y ∧ y ≤ ((Z b).1 : Int) - ((Z b).2 : Int)) := by rw [hz]; exact hin
        unfold mvE; rw [hf]; simp only; rw [if_neg h1]
      have m2 := (mv_bad (F := F) (Z := Z) (fd := (f : Int)) (y := y) (by rw [m1]; decide)).2
      rw [mvA_bad (by rw [m1]; decide), m1, m2]
      have HI : Hid _ := fun (w : World) => rin_no y (-(P : Int)) ((M : Int) - (P : Int)) w hin
      clear e1 e2 e3 e4 hf hz m1 m2 h hg hc hw1 hb1 k0 k1 hbase hR hfit hn hk1 hk2 hv hgs hcs hga hca hin
      go_enter Tryd.func19, Tryd.ntmps19
      go_wp2_with fail
      rw [HW1.out]
      refine Calls.mono (HWr.out w1 HB1.out) ?_
      rintro e w2 ⟨rfl, hb2⟩
      obtain ⟨hx0, hx1⟩ := HX.out w2 hb2
      have HX0 : Hid (Box3 w2 w.heap.size (.slice (some ⟨g, 0, none⟩) 8 cap) (.slice (some ⟨gs, 0, none⟩) n cs) (.slice (some ⟨ga, 0, none⟩) n ca)) := hx0
      have HX1 : Hid (Box3 w2 (w.heap.size + 1) (.slice none 0 0) (.slice none 0 0) (.slice none 0 0)) := hx1
      obtain ⟨x0, x1, x2, _, _, _⟩ := hx0.facts
      have HB2 : Hid (Below w.heap.size w w2) := HB1.out.trans (hb2.mono HB1.out.size)
      have c1 := HCf.out w2 HB2.out
      have c2 := HCs.out w2 HB2.out
      have c3 := HCa.out w2 HB2.out
      clear hx0 hx1 hb2
      go_wp2_with fail
      go_quiet (first | (go_at_call 24; exact quiet0 (HI.out _)))
      have HB3 : Hid (Below w2.heap.size w2 (w2.drewN nq)) := below_drew _ _ _
      generalize w2.drewN nq = w3 at HB3 ⊢
      have HB03 : Hid (Below w.heap.size w w3) := HB2.out.trans (HB3.out.mono HB2.out.size)
      clear c1 c2 c3 x0 x1 x2
      obtain ⟨x0, x1, x2, _, _, _⟩ := (HX0.out.later HB3.out).facts
      obtain ⟨y0, y1, y2, f0, f1, f2⟩ := (HX1.out.later HB3.out).facts
      go_wp2_with fail
      refine bodyPost_ret (v := .tuple #[.agg #[.slice (some ⟨g, 0, none⟩) 8 cap, .slice (some ⟨gs, 0, none⟩) n cs, .slice (some ⟨ga, 0, none⟩) n ca], .int .i64 0, .int .i64 1]) ?_ rfl ?_
      · rw [results_cell3 rfl]
        go_simp
      · have hq := below_set3 (b := w.heap.size + 1) HB03.out (by omega) (.slice (some ⟨g, 0, none⟩) 8 cap) (.slice (some ⟨gs, 0, none⟩) n cs) (.slice (some ⟨ga, 0, none⟩) n ca)
        exact ⟨_, rfl, HD.out.later hq, hq, fun b e => .inl e⟩

end Go.Proofs.YtekonojkllnejaaDoor
