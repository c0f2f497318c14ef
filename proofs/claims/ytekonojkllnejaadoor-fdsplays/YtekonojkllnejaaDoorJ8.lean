/- This text proves what the document's own Dup answers: the numbers with one more, the number, and what is wrong; old memory is aS it was; the conditions are that the document's lists lie there, and that it calls those numbers free that are. -/
import Derived.Test.YtekonojkllnejaaDoorJ7
import Derived.Test.YtekonojkllnejaaDoorHl
namespace Go.Proofs.YtekonojkllnejaaDoor
open Go.RowKit Go.Deep

/-- A box of three values. -/
def Box3 (w : World) (b : Nat) (x y z : Value) : Prop := w.heap[b]? = some (.cells #[x, y, z] 38 (0, 0))
theorem Box3.facts {w : World} {b : Nat} {x y z : Value} (h : Box3 w b x y z) : w.cell? ⟨b, 0, none⟩ = some x ∧ w.cell? ⟨b, 1, none⟩ = some y ∧ w.cell? ⟨b, 2, none⟩ = some z ∧ w.frozen? ⟨b, 0, none⟩ = false ∧ w.frozen? ⟨b, 1, none⟩ = false ∧ w.frozen? ⟨b, 2, none⟩ = false := by
  unfold Box3 at h
  refine ⟨?_, ?_, ?_, ?_, ?_, ?_⟩ <;> simp [World.cell?, World.frozen?, h]
theorem Box3.lt {w : World} {b : Nat} {x y z : Value} (h : Box3 w b x y z) : b < w.heap.size := (Array.getElem?_eq_some_iff.1 h).1
theorem Box3.same {w w' : World} {b : Nat} {x y z : Value} (h : Box3 w b x y z) (hb : w'.heap[b]? = w.heap[b]?) : Box3 w' b x y z := hb.trans h
theorem Box3.later {w w' : World} {b : Nat} {x y z : Value} (h : Box3 w b x y z) (hb : Below w.heap.size w w') : Box3 w' b x y z := (hb.block b h.lt).trans h
theorem Box3.off {w : World} {b : Nat} {x y z : Value} (h : Box3 w b x y z) {p : Addr} (hp : b ≠ p.block) (u : Value) : Box3 (w.setCell p u) b x y z := h.same (Below.heap_setCell w p u b hp)
theorem Box3.set {w : World} {b : Nat} {x y z : Value} (h : Box3 w b x y z) (p q r : Value) : Box3 (((w.setCell ⟨b, 0, none⟩ p).setCell ⟨b, 1, none⟩ q).setCell ⟨b, 2, none⟩ r) b p q r := by
  unfold Box3 at h ⊢
  simp [World.setCell, Array.getElem?_modify, h]
theorem Box3.set0 {w : World} {b : Nat} {x y z : Value} (h : Box3 w b x y z) (p : Value) : Box3 (w.setCell ⟨b, 0, none⟩ p) b p y z := by
  unfold Box3 at h ⊢
  simp [World.setCell, Array.getElem?_modify, h]
theorem Box3.set1 {w : World} {b : Nat} {x y z : Value} (h : Box3 w b x y z) (p : Value) : Box3 (w.setCell ⟨b, 1, none⟩ p) b x p z := by
  unfold Box3 at h ⊢
  simp [World.setCell, Array.getElem?_modify, h]
theorem Box3.set2 {w : World} {b : Nat} {x y z : Value} (h : Box3 w b x y z) (p : Value) : Box3 (w.setCell ⟨b, 2, none⟩ p) b x y p := by
  unfold Box3 at h ⊢
  simp [World.setCell, Array.getElem?_modify, h]
theorem box3_new (w : World) (x y z : Value) : Box3 (w.alloc (.cells #[x, y, z] 38)) w.heap.size x y z := blk_alloc_new _ _
theorem results_cell3 {fn : Func} {p q r : Tmp} {ty : TypeId} (h : fn.results = #[.cell p ty, .tmp q, .tmp r]) (tmps : Array Value) (P : Program) (w : World) :
    (results fn tmps).run P w = ((asAddr (tmps.getD p undef)).run P w).andThen fun a w₁ => ((loadVar ty a).run P w₁).andThen fun x w₂ => .ok (.tuple #[x, tmps.getD q undef, tmps.getD r undef]) w₂ := by
  simp only [results, h]
  simp [Sem.run_bind, Result.andThen]
theorem below_set3 {G b : Nat} {w w' : World} (hb : Below G w w') (hle : G ≤ b) (x y z : Value) : Below G w (((w'.setCell ⟨b, 0, none⟩ x).setCell ⟨b, 1, none⟩ y).setCell ⟨b, 2, none⟩ z) :=
  ((hb.setCell (p := ⟨b, 0, none⟩) hle x).setCell (p := ⟨b, 1, none⟩) hle y).setCell (p := ⟨b, 2, none⟩) hle z
theorem row_form {w : World} {base e z n : Nat} {v : Value} {vs : List Value} (h : w.ownsRow base e z v n vs) : ∃ a c, v = .slice a n c := by
  rcases h.2 with ⟨h0, h1⟩ | ⟨g, cap, cur, h1, _⟩
  · subst h1; exact ⟨none, 0, h0⟩
  · exact ⟨_, _, h1⟩

/-- Two boxes at the start of a call. -/
theorem boxes_new (w : World) (x y z x' y' z' : Value) : ∃ w1, (w.alloc (.cells #[x, y, z] 38)).alloc (.cells #[x', y', z'] 38) = w1 ∧ Below w.heap.size w w1 ∧ Box3 w1 w.heap.size x y z ∧ Box3 w1 (w.heap.size + 1) x' y' z' := by
  refine ⟨_, rfl, (below_alloc w _).trans ((below_alloc _ _).mono (by simp)), (box3_new w x y z).later (below_alloc _ _), ?_⟩
  have := box3_new (w.alloc (.cells #[x, y, z] 38)) x' y' z'
  simpa using this

/-- The document's list of numbers behind Dup. -/
def dpO (F : Nat → Option Nat) (O : List Int) (fd : Int) : List Int := if dpE F fd = 0 then O.set (lst F) (nth O fd.toNat) else O
theorem dpO_bad {F : Nat → Option Nat} {O : List Int} {fd : Int} (h : dpE F fd ≠ 0) : dpO F O fd = O := if_neg h
theorem dpO_good {F : Nat → Option Nat} {O : List Int} {fd : Int} (h : dpE F fd = 0) : dpO F O fd = O.set (lst F) (nth O fd.toNat) := if_pos h

/-- Another list at the numbers. -/
theorem Doc.putO {w w' : World} {base g cap : Nat} {vo vs va : Value} {O O' S A : List Int} (h : Doc w base vo vs va O S A) (hb : Below w.heap.size w w') (hbase : base ≤ w.heap.size) {w2 : World} (ho : w2.ownsRow w.heap.size 3 1 (.slice (some ⟨g, 0, none⟩) 8 cap) 8 (cellsOf O'))
    (hk : w'.heap[g]? = w2.heap[g]?) : Doc w' base (.slice (some ⟨g, 0, none⟩) 8 cap) vs va O' S A := by
  have hg : w.heap.size ≤ g := (own_lt ho rfl).1
  have h' := h.later hb
  refine ⟨own_down (own_still ho fun b e => by cases e; exact hk) hbase, h'.s, h'.a, fun b e => ?_, h.sa, h.len⟩
  obtain rfl : g = b := by cases e; rfl
  exact ⟨fun e => by have := (own_lt h.s e).2; omega, fun e => by have := (own_lt h.a e).2; omega⟩

set_option maxHeartbeats 8000000 in
set_option maxRecDepth 100000 in
theorem rdup_any (w : World) (base : Nat) (vo vs va : Value) (O S A : List Int) (F : Nat → Option Nat) (h : Doc w base vo vs va O S A) (hF : Frs F O) (hbase : base ≤ w.heap.size) (fd : Int) :
    Calls Tryd.prog 15 #[.agg #[vo, vs, va], .int .i64 fd] w fun e w' => ∃ vo', e = .returned (.tuple #[.agg #[vo', vs, va], .int .i64 (dpN F fd : Int), .int .i64 (dpE F fd : Int)]) ∧ Doc w' base vo' vs va (dpO F O fd) S A ∧ Below w.heap.size w w' ∧ (∀ b, vo'.ownBlock = some b → vo.ownBlock = some b ∨ w.heap.size ≤ b) := by
  obtain ⟨g, cap, rfl, hg, hc⟩ := own_cells h.o (by decide)
  obtain ⟨aS, cs, rfl⟩ := row_form h.s
  obtain ⟨aa, ca, rfl⟩ := row_form h.a
  have HD : Hid (Doc w base (.slice (some ⟨g, 0, none⟩) 8 cap) (.slice aS S.length cs) (.slice aa S.length ca) O S A) := h
  generalize S.length = n at *
  obtain ⟨w1, hw1, hb1, k0, k1⟩ := boxes_new w (.slice (some ⟨g, 0, none⟩) 8 cap) (.slice aS n cs) (.slice aa n ca) (.slice none 0 0) (.slice none 0 0) (.slice none 0 0)
  have HW1 : Hid _ := hw1
  have HB1 : Hid (Below w.heap.size w w1) := hb1
  have HX : Hid (∀ w', Below w1.heap.size w1 w' → Box3 w' w.heap.size (.slice (some ⟨g, 0, none⟩) 8 cap) (.slice aS n cs) (.slice aa n ca) ∧ Box3 w' (w.heap.size + 1) (.slice none 0 0) (.slice none 0 0) (.slice none 0 0)) := fun w' hb => ⟨k0.later hb, k1.later hb⟩
  have HFr : Hid (Frs F O) := hF
  have HWr : Hid _ := fun (w' : World) (hb : Below w.heap.size w w') => wrong_any w' base (.slice (some ⟨g, 0, none⟩) 8 cap) (.slice aS n cs) (.slice aa n ca) O F (HD.out.later hb).o hF fd
  have HLe : Hid _ := fun (w' : World) (hb : Below w.heap.size w w') => least_any w' base (.slice (some ⟨g, 0, none⟩) 8 cap) (.slice aS n cs) (.slice aa n ca) O F (HD.out.later hb).o hF
  have HBa : Hid (base ≤ w.heap.size) := hbase
  have HC : Hid (∀ i, i < 8 → ∀ w', Below w.heap.size w w' → w'.cell? ⟨g, i, none⟩ = some (.int .i64 (nth O i))) := fun i hi w' hb => by rw [hb.cell (p := ⟨g, i, none⟩) hg]; exact hc i hi
  clear h hg hc hw1 hb1 k0 k1 hF hbase
  cases hf : fo F fd with
  | none =>
    have hE := opE_none hf
    have e1 : dpE F fd = opE F fd := by unfold dpE; rw [hf]
    have e2 : dpN F fd = 0 := by unfold dpN; rw [hf]
    rw [dpO_bad (by rw [e1]; exact hE), e1, e2]
    generalize opE F fd = E at *
    have hE' : ¬ (E : Int) = 0 := by omega
    clear e1 e2 hf hE
    go_enter Tryd.func15, Tryd.ntmps15
    go_wp2_with fail
    rw [HW1.out]
    refine Calls.mono (HWr.out w1 HB1.out) ?_
    rintro e w2 ⟨rfl, hb2⟩
    obtain ⟨hx0, hx1⟩ := HX.out w2 hb2
    obtain ⟨x0, x1, x2, _, _, _⟩ := hx0.facts
    obtain ⟨y0, y1, y2, f0, f1, f2⟩ := hx1.facts
    have HB2 : Hid (Below w.heap.size w w2) := HB1.out.trans (hb2.mono HB1.out.size)
    clear hx0 hx1 hb2
    go_wp2_with fail
    refine bodyPost_ret (v := .tuple #[.agg #[.slice (some ⟨g, 0, none⟩) 8 cap, .slice aS n cs, .slice aa n ca], .int .i64 0, .int .i64 E]) ?_ rfl ?_
    · rw [results_cell3 rfl]
      go_simp
    · have hq := below_set3 (b := w.heap.size + 1) HB2.out (by omega) (.slice (some ⟨g, 0, none⟩) 8 cap) (.slice aS n cs) (.slice aa n ca)
      exact ⟨_, rfl, HD.out.later hq, hq, fun b e => .inl e⟩
  | some c =>
    obtain ⟨e1, e2, e3, e4⟩ := opE_some hf
    obtain ⟨k, rfl⟩ : ∃ k : Nat, fd = (k : Int) := ⟨fd.toNat, by omega⟩
    have hk : k < 8 := by omega
    have e5 : dpE F (k : Int) = giE F := by unfold dpE; rw [hf]
    have e6 : dpN F (k : Int) = giN F := by unfold dpN; rw [hf]
    rw [e1] at HWr
    by_cases hl : lst F = 8
    · have e7 : giE F = 4 := by unfold giE; rw [hl]; rfl
      have e8 : giN F = 0 := by unfold giN; rw [hl]; rfl
      rw [dpO_bad (by rw [e5, e7]; decide), e5, e6, e7, e8]
      rw [hl] at HLe
      clear e1 e2 e3 e4 e5 e6 e7 e8 hf hl
      go_enter Tryd.func15, Tryd.ntmps15
      go_wp2_with fail
      rw [HW1.out]
      refine Calls.mono (HWr.out w1 HB1.out) ?_
      rintro e w2 ⟨rfl, hb2⟩
      obtain ⟨hx0, hx1⟩ := HX.out w2 hb2
      obtain ⟨x0, x1, x2, _, _, _⟩ := hx0.facts
      have HB2 : Hid (Below w.heap.size w w2) := HB1.out.trans (hb2.mono HB1.out.size)
      go_wp2_with fail
      refine Calls.mono (HLe.out w2 HB2.out) ?_
      rintro e w3 ⟨rfl, hb3⟩
      have hx0 := hx0.later hb3
      have hx1 := hx1.later hb3
      obtain ⟨x0, x1, x2, _, _, _⟩ := hx0.facts
      obtain ⟨y0, y1, y2, f0, f1, f2⟩ := hx1.facts
      have HB3 : Hid (Below w.heap.size w w3) := HB2.out.trans (hb3.mono HB2.out.size)
      clear hx0 hx1 hb2 hb3
      go_wp2_with fail
      refine bodyPost_ret (v := .tuple #[.agg #[.slice (some ⟨g, 0, none⟩) 8 cap, .slice aS n cs, .slice aa n ca], .int .i64 0, .int .i64 4]) ?_ rfl ?_
      · rw [results_cell3 rfl]
        go_simp
      · have hq := below_set3 (b := w.heap.size + 1) HB3.out (by omega) (.slice (some ⟨g, 0, none⟩) 8 cap) (.slice aS n cs) (.slice aa n ca)
        exact ⟨_, rfl, HD.out.later hq, hq, fun b e => .inl e⟩
    · have hl8 : lst F < 8 := by have := lst_le F; omega
      have e7 : giE F = 0 := by unfold giE; rw [if_pos hl8]
      have e8 : giN F = lst F := by unfold giN; rw [if_pos hl8]
      rw [dpO_good (by rw [e5, e7]), e5, e6, e7, e8, Int.toNat_natCast]
      have HSe : Hid _ := fun (w' : World) (hb : Below w.heap.size w w') => set_own w' _ O 8 (lst F) (nth O k) (slice_own (HD.out.later hb).o (by decide)) HD.out.lenO hl8 (by decide)
      have HCk : Hid _ := HC.out k hk
      generalize lst F = L at *
      have hL8 : ¬ (L : Int) = 8 := by omega
      obtain ⟨x, hx⟩ : ∃ x, nth O k = x := ⟨_, rfl⟩
      rw [hx] at HSe HCk ⊢
      clear e1 e2 e3 e4 e5 e6 e7 e8 hf hl hx
      go_enter Tryd.func15, Tryd.ntmps15
      go_wp2_with fail
      rw [HW1.out]
      refine Calls.mono (HWr.out w1 HB1.out) ?_
      rintro e w2 ⟨rfl, hb2⟩
      obtain ⟨hx0, hx1⟩ := HX.out w2 hb2
      obtain ⟨x0, x1, x2, _, _, _⟩ := hx0.facts
      have HB2 : Hid (Below w.heap.size w w2) := HB1.out.trans (hb2.mono HB1.out.size)
      go_wp2_with fail
      refine Calls.mono (HLe.out w2 HB2.out) ?_
      rintro e w3 ⟨rfl, hb3⟩
      have hx0 := hx0.later hb3
      have hx1 := hx1.later hb3
      have HX0 : Hid (Box3 w3 w.heap.size (.slice (some ⟨g, 0, none⟩) 8 cap) (.slice aS n cs) (.slice aa n ca)) := hx0
      have HX1 : Hid (Box3 w3 (w.heap.size + 1) (.slice none 0 0) (.slice none 0 0) (.slice none 0 0)) := hx1
      obtain ⟨x0, x1, x2, f0, _, _⟩ := hx0.facts
      have HB3 : Hid (Below w.heap.size w w3) := HB2.out.trans (hb3.mono HB2.out.size)
      have hck := HCk.out w3 HB3.out
      clear hx0 hx1 hb2 hb3
      have HKp : Hid (∀ w4, Below w3.heap.size w3 w4 → w4.cell? ⟨w.heap.size, 0, none⟩ = some (.slice (some ⟨g, 0, none⟩) 8 cap) ∧ w4.frozen? ⟨w.heap.size, 0, none⟩ = false ∧ w4.cell? ⟨g, k, none⟩ = some (.int .i64 x)) := fun w4 hb => by
        obtain ⟨q0, _, _, q3, _, _⟩ := (HX0.out.later hb).facts
        exact ⟨q0, q3, HCk.out w4 (HB3.out.trans (hb.mono HB3.out.size))⟩
      have hki : (k : Int) < 8 := by omega
      have hk0 : (0 : Int) ≤ (k : Int) := by omega
      go_wp2_with fail
      refine wp_region_last (S := fun w' => w'.cell? ⟨w.heap.size, 0, none⟩ = some (.slice (some ⟨g, 0, none⟩) 8 cap) ∧ w'.frozen? ⟨w.heap.size, 0, none⟩ = false ∧ w'.cell? ⟨g, k, none⟩ = some (.int .i64 x)) 10 (by kernel_rfl) (by kernel_rfl) ?hs (fun hHeld => ?_)
      case hs => exact HKp.out _ (below_drew1 _ _)
      refine held_take (i := 0) (v := ?_) rfl rfl (by kernel_rfl) (by kernel_rfl) (by kernel_rfl) (fun _ _ _ h => h) (Or.inl ⟨by rfl, ?_⟩) hHeld ?_
      rotate_left
      · (intro w hSw; (try dsimp only at hSw); go_simp; try with_reducible rfl)
      simp only [Act.put, List.setIfInBounds_toArray, List.set_cons_zero, List.set_cons_succ]
      refine held_take (i := 1) (v := ?_) rfl rfl (by kernel_rfl) (by kernel_rfl) (by kernel_rfl) (fun _ _ _ h => h) (Or.inl ⟨by rfl, ?_⟩) hHeld ?_
      rotate_left
      · (intro w hSw; (try dsimp only at hSw); go_simp; try with_reducible rfl)
      simp only [Act.put, List.setIfInBounds_toArray, List.set_cons_zero, List.set_cons_succ]
      refine held_take (i := 2) (v := ?_) rfl rfl (by kernel_rfl) (by kernel_rfl) (by kernel_rfl) (fun _ _ _ h => h) (Or.inl ⟨by rfl, ?_⟩) hHeld ?_
      rotate_left
      · (intro w hSw; (try dsimp only at hSw); go_simp; try with_reducible rfl)
      simp only [Act.put, List.setIfInBounds_toArray, List.set_cons_zero, List.set_cons_succ]
      refine held_take (i := 3) (v := ?_) rfl rfl (by kernel_rfl) (by kernel_rfl) (by kernel_rfl) (fun _ _ _ h => h) (Or.inl ⟨by rfl, ?_⟩) hHeld ?_
      rotate_left
      · (intro w hSw; (try dsimp only at hSw); go_simp; try with_reducible rfl)
      simp only [Act.put, List.setIfInBounds_toArray, List.set_cons_zero, List.set_cons_succ]
      refine held_take (i := 4) (v := ?_) rfl rfl (by kernel_rfl) (by kernel_rfl) (by kernel_rfl) (fun _ _ _ h => h) (Or.inl ⟨by rfl, ?_⟩) hHeld ?_
      rotate_left
      · (intro w hSw; (try dsimp only at hSw); go_simp; try with_reducible rfl)
      simp only [Act.put, List.setIfInBounds_toArray, List.set_cons_zero, List.set_cons_succ]
      refine held_take (i := 5) (v := ?_) rfl rfl (by kernel_rfl) (by kernel_rfl) (by kernel_rfl) (fun _ _ _ h => h) (Or.inl ⟨by rfl, ?_⟩) hHeld ?_
      rotate_left
      · (intro w hSw; (try dsimp only at hSw); go_simp; try with_reducible rfl)
      simp only [Act.put, List.setIfInBounds_toArray, List.set_cons_zero, List.set_cons_succ]
      refine held_take (i := 6) (v := ?_) rfl rfl (by kernel_rfl) (by kernel_rfl) (by kernel_rfl) (fun _ _ _ h => h) (Or.inl ⟨by rfl, ?_⟩) hHeld ?_
      rotate_left
      · (intro w hSw; (try dsimp only at hSw); go_simp; try with_reducible rfl)
      simp only [Act.put, List.setIfInBounds_toArray, List.set_cons_zero, List.set_cons_succ]
      refine held_take (i := 7) (v := ?_) rfl rfl (by kernel_rfl) (by kernel_rfl) (by kernel_rfl) (fun _ _ _ h => h) (Or.inl ⟨by rfl, ?_⟩) hHeld ?_
      rotate_left
      · (intro w hSw; (try dsimp only at hSw); go_simp; try with_reducible rfl)
      simp only [Act.put, List.setIfInBounds_toArray, List.set_cons_zero, List.set_cons_succ]
      refine wpAnyH_ready (rs := [8]) (by kernel_rfl) (by simp) ?_
      refine AllReadyH.cons rfl (fun K hK => ?_) AllReadyH.nil
      go_simp
      go_at_call 18
      refine (HSe.out _ (HB3.out.trans (below_drew1 _ _))).mono ?_
      rintro e w4 ⟨g', cap', rfl, ho, hb⟩
      have HB34 : Hid (Below w3.heap.size w3 w4) := (below_drew1 _ _).trans hb
      go_simp
      refine hK.out _ _ (HKp.out w4 HB34.out) (fun hHeld => ?_)
      clear hK K
      refine held_take (i := 9) (v := ?_) rfl rfl (by kernel_rfl) (by kernel_rfl) (by kernel_rfl) (fun _ _ _ h => h) (Or.inl ⟨by rfl, ?_⟩) hHeld ?_
      rotate_left
      · (intro w hSw; (try dsimp only at hSw); go_simp; try with_reducible rfl)
      simp only [Act.put, List.setIfInBounds_toArray, List.set_cons_zero, List.set_cons_succ]
      obtain ⟨q0, q1, _⟩ := hHeld
      refine wpAnyH_done (by kernel_rfl) ?_ _
      refine last_step rfl (fun K hK => ?_)
      go_simp
      refine hK _ _ ?_
      clear hK K
      have HO4 : Hid (w4.ownsRow w3.heap.size 3 1 (.slice (some ⟨g', 0, none⟩) 8 cap') 8 (cellsOf (O.set L x))) := ho
      have hx0 := (HX0.out.later HB34.out).set0 (.slice (some ⟨g', 0, none⟩) 8 cap')
      have hx1 := (HX1.out.later HB34.out).off (p := ⟨w.heap.size, 0, none⟩) (by simp) (.slice (some ⟨g', 0, none⟩) 8 cap')
      have HB5 : Hid (Below w.heap.size w (w4.setCell ⟨w.heap.size, 0, none⟩ (.slice (some ⟨g', 0, none⟩) 8 cap'))) := (HB3.out.trans (HB34.out.mono HB3.out.size)).setCell (p := ⟨w.heap.size, 0, none⟩) (Nat.le_refl _) _
      have hg' := (own_lt ho rfl).1
      have HH5 : Hid (∀ b, b ≠ w.heap.size → (w4.setCell ⟨w.heap.size, 0, none⟩ (.slice (some ⟨g', 0, none⟩) 8 cap')).heap[b]? = w4.heap[b]?) := fun b hb => Below.heap_setCell _ _ _ _ hb
      have HG' : Hid (w3.heap.size ≤ g') := hg'
      generalize w4.setCell ⟨w.heap.size, 0, none⟩ (.slice (some ⟨g', 0, none⟩) 8 cap') = w5 at hx0 hx1 HB5 HH5 ⊢
      obtain ⟨x0, x1, x2, _, _, _⟩ := hx0.facts
      obtain ⟨y0, y1, y2, f0, f1, f2⟩ := hx1.facts
      clear hx0 hx1 ho hb hck hg' q0 q1
      go_wp2_with fail
      refine bodyPost_ret (v := .tuple #[.agg #[.slice (some ⟨g', 0, none⟩) 8 cap', .slice aS n cs, .slice aa n ca], .int .i64 (L : Int), .int .i64 0]) ?_ rfl ?_
      · rw [results_cell3 rfl]
        go_simp
      · have hq := below_set3 (b := w.heap.size + 1) HB5.out (by omega) (.slice (some ⟨g', 0, none⟩) 8 cap') (.slice aS n cs) (.slice aa n ca)
        have z3 := HB3.out.size
        have z4 := HX1.out.lt
        have zg := HG'.out
        exact ⟨_, rfl, HD.out.putO hq HBa.out (own_down HO4.out z3) (by
          rw [Below.heap_setCell _ _ _ _ (by show g' ≠ w.heap.size + 1; omega), Below.heap_setCell _ _ _ _ (by show g' ≠ w.heap.size + 1; omega), Below.heap_setCell _ _ _ _ (by show g' ≠ w.heap.size + 1; omega)]
          exact HH5.out _ (by omega)), hq, fun b e => .inr (by
          have hbe : g' = b := Option.some.inj e
          omega)⟩

end Go.Proofs.YtekonojkllnejaaDoor
