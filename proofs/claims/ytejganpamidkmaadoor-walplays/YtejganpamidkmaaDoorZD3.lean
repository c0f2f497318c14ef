/- This text proves what the document's own NewWal and Down of a log answer: no records in new memory, a record more, and what is wrong; old memory is as it was; the condition is that the document's records lie there. -/
import Derived.Test.YtejganpamidkmaaDoorZD2
namespace Go.Proofs.YtejganpamidkmaaDoor
open Go.RowKit Go.Deep Go.Maps

theorem own_base {w : World} {base base' e z n : Nat} {v : Value} {xs : List Value} (h : w.ownsRow base e z v n xs) (hb : base' ≤ base) : w.ownsRow base' e z v n xs := by
  refine ⟨h.1, ?_⟩
  rcases h.2 with h0 | ⟨b, cap, cur, h1, h2, h3⟩
  · exact .inl h0
  · exact .inr ⟨b, cap, cur, h1, Nat.le_trans hb h2, h3⟩
theorem made_own (w : World) (n : Nat) (xs : List Int) (hn : xs = List.replicate n 0) (hm : n ≤ maxLen) : (w.alloc (.cells (madeCells #[.int .i64 0] n) 3)).ownsRow w.heap.size 3 1 (.slice (some ⟨w.heap.size, 0, none⟩) n n) n (cellsOf xs) := by
  subst hn
  refine ⟨by rw [cellsOf_len]; simp, .inr ⟨w.heap.size, n, madeCells #[.int .i64 0] n, rfl, Nat.le_refl _, blk_alloc_new _ _, Nat.le_refl _, hm, by rw [size_madeCells]; simp, ?_⟩⟩
  rw [toList_madeCells_one]
  simp [cellsOf]

set_option maxHeartbeats 4000000 in
set_option maxRecDepth 100000 in
theorem r2new_any (w : World) : Calls Tryd.prog 5 #[] w fun e w' => ∃ vh, e = .returned (.agg #[vh, .slice none 0 0, .int .i64 0]) ∧ w'.ownsRow w.heap.size 3 1 vh 8 (cellsOf (lst nV)) ∧ Below w.heap.size w w' := by
  have hm8 := run_make_row' (P := Tryd.prog) 25 3 (.int .i64 0) 8 Tryd.underlying25 Tryd.info3 rfl .i64 .i64 8 (by omega) (by omega)
  rw [show ((8 : Nat) : Int) = 8 from rfl] at hm8
  have HZ : Hid (∀ O, ((w.alloc O).alloc (.cells (madeCells #[.int .i64 0] 8) 3)).ownsRow w.heap.size 3 1 (.slice (some ⟨w.heap.size + 1, 0, none⟩) 8 8) 8 (cellsOf (lst nV)) ∧ Below w.heap.size w ((w.alloc O).alloc (.cells (madeCells #[.int .i64 0] 8) 3))) := fun O => by
    have h1 := made_own (w.alloc O) 8 (lst nV) (by decide) (by decide)
    rw [show (w.alloc O).heap.size = w.heap.size + 1 by simp] at h1
    exact ⟨own_base h1 (by omega), Below.next (below_one _ _) (below_one _ _)⟩
  go_enter Tryd.func5, Tryd.ntmps5
  go_wp2
  refine bodyPost_ret (v := .agg #[.slice (some ⟨w.heap.size + 1, 0, none⟩) 8 8, .slice none 0 0, .int .i64 0]) ?_ rfl ?_
  · rw [results_cell1 rfl]
    go_simp
  · exact ⟨_, rfl, (HZ.out _).1, (HZ.out _).2⟩

/-- Three boxes at the start of a call. -/
theorem boxes3 (w : World) (x y z : Value) (p q r : Int) : ∃ w1, ((w.alloc (.cells #[x, y, z] 28)).alloc (.cells #[.int .i64 p, .int .i64 q, .int .i64 r] 35)).alloc (.cells #[.slice none 0 0, .slice none 0 0, .int .i64 0] 28) = w1 ∧
    Below w.heap.size w w1 ∧ Box3 w1 w.heap.size x y z ∧ BoxP w1 (w.heap.size + 1) p q r ∧ Box3 w1 (w.heap.size + 1 + 1) (.slice none 0 0) (.slice none 0 0) (.int .i64 0) ∧ w1.heap.size = w.heap.size + 3 := by
  refine ⟨_, rfl, Below.next (Below.next (below_one _ _) (below_one _ _)) (below_one _ _), ((box3_new w x y z).later (below_one _ _)).later (below_one _ _), ?_, ?_, by simp⟩
  · have := (boxP_new (w.alloc (.cells #[x, y, z] 28)) p q r).later (below_one _ (.cells #[.slice none 0 0, .slice none 0 0, .int .i64 0] 28))
    rwa [show (w.alloc (.cells #[x, y, z] 28)).heap.size = w.heap.size + 1 by simp] at this
  · have := box3_new ((w.alloc (.cells #[x, y, z] 28)).alloc (.cells #[.int .i64 p, .int .i64 q, .int .i64 r] 35)) (.slice none 0 0) (.slice none 0 0) (.int .i64 0)
    rwa [show ((w.alloc (.cells #[x, y, z] 28)).alloc (.cells #[.int .i64 p, .int .i64 q, .int .i64 r] 35)).heap.size = w.heap.size + 1 + 1 by simp] at this

/-- The log that a step tells: the one before, or a new one of the call's own. -/
def NewLog (w w' : World) (vl vl' : Value) (L L' : List Rc) : Prop := (vl' = vl ∧ L' = L) ∨ w'.ownsRow w.heap.size 35 3 vl' L'.length (plc L')
theorem news_three (w : World) (u v x : Value) (t : TypeId) : ∀ (j : Nat) (z : Value), [u, v, x][j]? = some z → (w.alloc (.cells #[u, v, x] t)).cell? ((⟨w.heap.size, 0, none⟩ : Addr).add j) = some z := by
  intro j x hx
  rw [addr_at, cell_new]
  simpa using hx
theorem ones_three (x y z : Int) : ∀ u ∈ [Value.int .i64 x, .int .i64 y, .int .i64 z], u.oneCell' = true := fun u hu => by
  simp only [List.mem_cons, List.not_mem_nil, or_false] at hu
  rcases hu with rfl | rfl | rfl <;> rfl
/-- What a record more comes to. -/
theorem down_end {w w1 w4 : World} {vh vl v2 : Value} {s : Value} {L : List Rc} {r : Rc} (hb1 : Below w.heap.size w w1) (hs1 : w.heap.size + 3 ≤ w1.heap.size) (ho : w4.ownsRow w1.heap.size 35 3 v2 (L ++ [r]).length (plc (L ++ [r]))) (hb : Below w1.heap.size w1 w4) :
    NewLog w ((((w4.setCell ⟨w.heap.size, 1, none⟩ v2).setCell ⟨w.heap.size + 1 + 1, 0, none⟩ vh).setCell ⟨w.heap.size + 1 + 1, 1, none⟩ v2).setCell ⟨w.heap.size + 1 + 1, 2, none⟩ s) vl v2 L (L ++ [r]) ∧
    Below w.heap.size w ((((w4.setCell ⟨w.heap.size, 1, none⟩ v2).setCell ⟨w.heap.size + 1 + 1, 0, none⟩ vh).setCell ⟨w.heap.size + 1 + 1, 1, none⟩ v2).setCell ⟨w.heap.size + 1 + 1, 2, none⟩ s) := by
  have hb4 : Below w.heap.size w w4 := hb1.trans (hb.mono (by omega))
  refine ⟨.inr (own_base (own_block ho fun b e => ?_) (by omega)), below_set3 (hb4.setCell (p := ⟨w.heap.size, 1, none⟩) (Nat.le_refl _) v2) (by omega) _ _ _⟩
  have := (ho.lt b e).1
  rw [Below.heap_setCell _ ⟨w.heap.size + 1 + 1, 2, none⟩ _ b (by show b ≠ w.heap.size + 1 + 1; omega), Below.heap_setCell _ ⟨w.heap.size + 1 + 1, 1, none⟩ _ b (by show b ≠ w.heap.size + 1 + 1; omega), Below.heap_setCell _ ⟨w.heap.size + 1 + 1, 0, none⟩ _ b (by show b ≠ w.heap.size + 1 + 1; omega), Below.heap_setCell _ ⟨w.heap.size, 1, none⟩ _ b (by show b ≠ w.heap.size; omega)]

theorem Box3.off {w : World} {b : Nat} {x y z : Value} (h : Box3 w b x y z) {g : Nat} (hp : b ≠ g) (p q r : Value) : Box3 (((w.setCell ⟨g, 0, none⟩ p).setCell ⟨g, 1, none⟩ q).setCell ⟨g, 2, none⟩ r) b x y z :=
  h.same (by rw [Below.heap_setCell _ ⟨g, 2, none⟩ _ b hp, Below.heap_setCell _ ⟨g, 1, none⟩ _ b hp, Below.heap_setCell _ ⟨g, 0, none⟩ _ b hp])
theorem size_set3 (w : World) (g : Nat) (p q r : Value) : (((w.setCell ⟨g, 0, none⟩ p).setCell ⟨g, 1, none⟩ q).setCell ⟨g, 2, none⟩ r).heap.size = w.heap.size := by simp [World.setCell]

/-- What is wrong with a record, or with an end. -/
def doE (L : List Rc) (t b x : Int) (E : Bool) : Nat := if E = true then enE L t else wrE L t b x
def doL (L : List Rc) (t b x : Int) (E : Bool) : List Rc := if E = true then enL L t else wrL L t b x
theorem do_may {L : List Rc} {t b x : Int} {E : Bool} (h : mayE L t ≠ 0) : doE L t b x E = mayE L t ∧ doL L t b x E = L := by
  unfold doE doL enL wrL
  cases E with
  | true => exact ⟨by rw [if_pos rfl]; exact if_neg h, by rw [if_pos rfl]; exact if_neg (by rw [show enE L t = mayE L t from if_neg h]; exact h)⟩
  | false => exact ⟨by rw [if_neg (by decide)]; exact if_neg h, by rw [if_neg (by decide)]; exact if_neg (by rw [show wrE L t b x = mayE L t from if_neg h]; exact h)⟩
theorem do_bad {L : List Rc} {t b x : Int} (h : mayE L t = 0) (h2 : ¬ (0 ≤ b ∧ b < 8 ∧ 0 ≤ x ∧ x ≤ 1000)) : doE L t b x false = 1 ∧ doL L t b x false = L := by
  have := wr_bad (b := b) (v := x) h h2
  refine ⟨this, ?_⟩
  show wrL L t b x = L
  exact if_neg (by rw [this]; decide)
theorem do_full {L : List Rc} {t b x : Int} {E : Bool} (h : mayE L t = 0) (h2 : E = false → 0 ≤ b ∧ b < 8 ∧ 0 ≤ x ∧ x ≤ 1000) (h3 : L.length = 60) : doE L t b x E = 4 ∧ doL L t b x E = L := by
  cases E with
  | true =>
    have : enE L t = 4 := by unfold enE; rw [if_pos h, if_pos h3]
    refine ⟨this, ?_⟩
    show enL L t = L
    exact if_neg (by rw [this]; decide)
  | false =>
    have := wr_full h (h2 rfl) h3
    refine ⟨this, ?_⟩
    show wrL L t b x = L
    exact if_neg (by rw [this]; decide)
theorem do_wr {L : List Rc} {T B X : Nat} (h : mayE L (T : Int) = 0) (h2 : 0 ≤ (B : Int) ∧ (B : Int) < 8 ∧ 0 ≤ (X : Int) ∧ (X : Int) ≤ 1000) (h3 : L.length ≠ 60) : doE L (T : Int) (B : Int) (X : Int) false = 0 ∧ doL L (T : Int) (B : Int) (X : Int) false = L ++ [⟨T, B, X, false⟩] := by
  have := wr_good h h2 h3
  refine ⟨this, ?_⟩
  show wrL L _ _ _ = _
  unfold wrL
  rw [if_pos this, Int.toNat_natCast, Int.toNat_natCast, Int.toNat_natCast]
theorem do_en {L : List Rc} {T : Nat} {b x : Int} (h : mayE L (T : Int) = 0) (h3 : L.length ≠ 60) : doE L (T : Int) b x true = 0 ∧ doL L (T : Int) b x true = L ++ [⟨T, 0, 0, true⟩] := by
  have : enE L (T : Int) = 0 := by unfold enE; rw [if_pos h, if_neg h3]
  refine ⟨this, ?_⟩
  show enL L _ = _
  unfold enL
  rw [if_pos this, Int.toNat_natCast]

set_option maxHeartbeats 16000000 in
set_option maxRecDepth 100000 in
theorem r2down_any (w : World) (ah : Option Addr) (ch : Nat) (vl : Value) (s : Int) (L : List Rc) (h : PutsIs w vl L) (h60 : L.length ≤ 60) (t b x : Int) (E : Bool) :
    Calls Tryd.prog 6 #[.agg #[.slice ah 8 ch, vl, .int .i64 s], .agg #[.int .i64 t, .int .i64 b, .int .i64 x], .bool E] w fun e w' => ∃ vl', e = .returned (.tuple #[.agg #[.slice ah 8 ch, vl', .int .i64 s], .int .i64 (doE L t b x E : Int)]) ∧ NewLog w w' vl vl' L (doL L t b x E) ∧ Below w.heap.size w w' := by
  obtain ⟨a, c, hvl, hlc, _⟩ := id h
  obtain ⟨n, hn⟩ : ∃ n, L.length = n := ⟨_, rfl⟩
  have HN : Hid (L.length = n) := hn
  rw [hn] at hvl hlc
  subst hvl
  obtain ⟨w1, hw1, hb1, k0, k1, k2, ksz⟩ := boxes3 w (.slice ah 8 ch) (.slice a n c) (.int .i64 s) t b x
  have HW1 : Hid _ := hw1
  have HB1 : Hid (Below w.heap.size w w1 ∧ w1.heap.size = w.heap.size + 3) := ⟨hb1, ksz⟩
  have HX : Hid (∀ W, Below w1.heap.size w1 W → Box3 W w.heap.size (.slice ah 8 ch) (.slice a n c) (.int .i64 s) ∧ BoxP W (w.heap.size + 1) t b x ∧ Box3 W (w.heap.size + 1 + 1) (.slice none 0 0) (.slice none 0 0) (.int .i64 0)) := fun W hW => ⟨k0.later hW, k1.later hW, k2.later hW⟩
  have HPu : Hid (∀ W, Below w1.heap.size w1 W → PutsIs W (.slice a n c) L) := fun W hW => (h.later hb1).later hW
  have HPw : Hid (∀ W, Below w.heap.size w W → PutsIs W (.slice a n c) L) := fun W hW => h.later hW
  have HEd : Hid (∀ W (T : Nat), Below w1.heap.size w1 W → Calls Tryd.prog 20 #[.agg #[.slice ah 8 ch, .slice a n c, .int .i64 s], .int .i64 (T : Int)] W fun e w' => e = .returned (.bool (endd L T)) ∧ Below W.heap.size W w') := fun W T hW => r2ended_any W ah ch _ s L (HPu.out W hW) h60 T
  have HErr : Hid (∀ W, Below w1.heap.size w1 W → Below w.heap.size w (((W.setCell ⟨w.heap.size + 1 + 1, 0, none⟩ (.slice ah 8 ch)).setCell ⟨w.heap.size + 1 + 1, 1, none⟩ (.slice a n c)).setCell ⟨w.heap.size + 1 + 1, 2, none⟩ (.int .i64 s))) := fun W hW => below_set3 (hb1.trans (hW.mono (by omega))) (by omega) _ _ _
  rw [hn] at h60
  clear h hw1 hb1 k0 k1 k2 ksz hn
  by_cases ht : 0 ≤ t ∧ t ≤ 19
  · have HI1 : Hid _ := fun (W : World) => rin_yes t 0 19 W ht
    obtain ⟨T, rfl⟩ : ∃ T : Nat, t = (T : Int) := ⟨t.toNat, by omega⟩
    cases he : endd L T with
    | true =>
      have hm : mayE L (T : Int) = 7 := by unfold mayE; rw [if_pos (by omega), Int.toNat_natCast, if_pos he]
      obtain ⟨e1, e2⟩ := do_may (L := L) (b := b) (x := x) (E := E) (by rw [hm]; decide : mayE L (T : Int) ≠ 0)
      rw [e1, e2, hm]
      clear e1 e2 hm ht
      go_enter Tryd.func6, Tryd.ntmps6
      go_wp2_with fail
      rw [HW1.out]
      have HZ1 : Hid (Below w1.heap.size w1 w1) := Below.refl _ _
      obtain ⟨m0, m1, m2⟩ := HX.out w1 HZ1.out
      obtain ⟨u0, u1, u2, _, _, _⟩ := m0.facts
      obtain ⟨q0, q1, q2, qf0, qf1, qf2⟩ := m1.facts
      obtain ⟨y0, y1, y2, f0, f1, f2⟩ := m2.facts
      clear m0 m1 m2
      refine Calls.mono (HI1.out w1) ?_
      rintro e w2 ⟨rfl, rfl⟩
      have HE2 : Hid _ := fun (_ : Nat) => HEd.out w1 T (Below.refl _ _)
      rw [he] at HE2
      go_wp2_with (go_at_call 20; refine (HE2.out 0).mono ?_; rintro e w3 ⟨rfl, hb3⟩; have HB3 : Hid (Below w1.heap.size w1 w3) := hb3; obtain ⟨m0, m1, m2⟩ := HX.out w3 hb3; obtain ⟨u0, u1, u2, _, _, _⟩ := m0.facts; obtain ⟨y0, y1, y2, f0, f1, f2⟩ := m2.facts; obtain ⟨q0, q1, q2, _, _, _⟩ := m1.facts; clear m0 m1 m2 hb3)
      refine bodyPost_ret (v := .tuple #[.agg #[.slice ah 8 ch, .slice a n c, .int .i64 s], .int .i64 7]) ?_ rfl ?_
      · rw [results_cell2 rfl]
        go_simp
      · exact ⟨_, rfl, .inl ⟨rfl, rfl⟩, HErr.out w3 HB3.out⟩
    | false =>
      have hm : mayE L (T : Int) = 0 := by unfold mayE; rw [if_pos (by omega), Int.toNat_natCast, if_neg (by rw [he]; decide)]
      have HE2 : Hid (∀ W, Below w1.heap.size w1 W → Calls Tryd.prog 20 #[.agg #[.slice ah 8 ch, .slice a n c, .int .i64 s], .int .i64 (T : Int)] W fun e w' => e = .returned (.bool false) ∧ Below W.heap.size W w') := fun W hW => by have := HEd.out W T hW; rw [he] at this; exact this
      clear HEd
      obtain ⟨ti, hti, hz0, hz1, hz2⟩ := info_parts Tryd.info35
      cases E with
      | true =>
        by_cases h6 : n = 60
        · obtain ⟨e1, e2⟩ := do_full (L := L) (b := b) (x := x) (E := true) hm (fun h => by cases h) (by rw [HN.out]; exact h6)
          rw [e1, e2]
          clear e1 e2 hm he ht
          subst h6
          go_enter Tryd.func6, Tryd.ntmps6
          go_wp2_with fail
          rw [HW1.out]
          have HZ1 : Hid (Below w1.heap.size w1 w1) := Below.refl _ _
          obtain ⟨m0, m1, m2⟩ := HX.out w1 HZ1.out
          obtain ⟨u0, u1, u2, _, _, _⟩ := m0.facts
          obtain ⟨q0, q1, q2, qf0, qf1, qf2⟩ := m1.facts
          obtain ⟨y0, y1, y2, f0, f1, f2⟩ := m2.facts
          clear m0 m1 m2
          refine Calls.mono (HI1.out w1) ?_
          rintro e w2 ⟨rfl, rfl⟩
          go_wp2_with (first
            | (go_at_call 20; refine (HE2.out w1 (Below.refl _ _)).mono ?_; rintro e w3 ⟨rfl, hb3⟩; have HB3 : Hid (Below w1.heap.size w1 w3) := hb3; obtain ⟨m0, m1, m2⟩ := HX.out w3 hb3; obtain ⟨u0, u1, u2, uf0, uf1, uf2⟩ := m0.facts; obtain ⟨q0, q1, q2, qf0, qf1, qf2⟩ := m1.facts; obtain ⟨y0, y1, y2, f0, f1, f2⟩ := m2.facts; clear m0 m1 m2 hb3))
          refine bodyPost_ret (v := .tuple #[.agg #[.slice ah 8 ch, .slice a 60 c, .int .i64 s], .int .i64 4]) ?_ rfl ?_
          · rw [results_cell2 rfl]
            go_simp
          · exact ⟨_, rfl, .inl ⟨rfl, rfl⟩, HErr.out w3 HB3.out⟩
        · obtain ⟨e1, e2⟩ := do_en (L := L) (b := b) (x := x) hm (by rw [HN.out]; exact h6)
          rw [e1, e2]
          clear e1 e2 hm he ht
          go_enter Tryd.func6, Tryd.ntmps6
          go_wp2_with fail
          rw [HW1.out]
          have HZ1 : Hid (Below w1.heap.size w1 w1) := Below.refl _ _
          obtain ⟨m0, m1, m2⟩ := HX.out w1 HZ1.out
          obtain ⟨u0, u1, u2, _, _, _⟩ := m0.facts
          obtain ⟨q0, q1, q2, qf0, qf1, qf2⟩ := m1.facts
          obtain ⟨y0, y1, y2, f0, f1, f2⟩ := m2.facts
          clear m0 m1 m2
          refine Calls.mono (HI1.out w1) ?_
          rintro e w2 ⟨rfl, rfl⟩
          have h6i : ¬ (60 : Int) ≤ (n : Int) := by omega
          go_wp2_with (first
            | (go_at_call 20; refine (HE2.out w1 (Below.refl _ _)).mono ?_; rintro e w3 ⟨rfl, hb3⟩; have HB3 : Hid (Below w1.heap.size w1 w3) := hb3; obtain ⟨m0, m1, m2⟩ := HX.out w3 hb3; obtain ⟨u0, u1, u2, uf0, uf1, uf2⟩ := m0.facts; obtain ⟨q0, q1, q2, qf0, qf1, qf2⟩ := m1.facts; obtain ⟨y0, y1, y2, f0, f1, f2⟩ := m2.facts; clear m0 m1 m2 hb3; have HW0 : Hid (∀ W0, W0 = (((w3.setCell ⟨w.heap.size + 1, 0, none⟩ (.int .i64 (T : Int))).setCell ⟨w.heap.size + 1, 1, none⟩ (.int .i64 0)).setCell ⟨w.heap.size + 1, 2, none⟩ (.int .i64 (-1))) → (Box3 W0 w.heap.size (.slice ah 8 ch) (.slice a n c) (.int .i64 s) ∧ BoxP W0 (w.heap.size + 1) (T : Int) 0 (-1) ∧ Box3 W0 (w.heap.size + 1 + 1) (.slice none 0 0) (.slice none 0 0) (.int .i64 0)) ∧ Below w.heap.size w W0 ∧ w.heap.size + 3 ≤ W0.heap.size) := by rintro _ rfl; obtain ⟨m0, m1, m2⟩ := HX.out w3 HB3.out; exact ⟨⟨m0.off (by omega) _ _ _, m1.set _ _ _, m2.off (by omega) _ _ _⟩, below_set3 (HB1.out.1.trans (HB3.out.mono (by have := HB1.out.2; omega))) (by omega) _ _ _, by rw [size_set3]; have := HB3.out.size; have := HB1.out.2; omega⟩)
            | (at_builtin; refine wpList_append_puts (by rfl) (.tmp 43) (.tmp 45) (by rfl) (((w3.setCell ⟨w.heap.size + 1, 0, none⟩ (.int .i64 (T : Int))).setCell ⟨w.heap.size + 1, 1, none⟩ (.int .i64 0)).setCell ⟨w.heap.size + 1, 2, none⟩ (.int .i64 (-1))).heap.size (.slice none 0 0) 0 [] (by rfl) (World.ownsRow_nil _ _ _ _) (.slice a n c) L (by rfl) (HPw.out _ (HW0.out _ rfl).2.1) ?q1 ?q2 ?q3))
          case q1 => rw [HN.out]; omega
          case q2 => exact Nat.le_refl _
          case q3 =>
            intro v1 w4 hown hb
            obtain ⟨W0, hW0⟩ : ∃ W0, W0 = (((w3.setCell ⟨w.heap.size + 1, 0, none⟩ (.int .i64 (T : Int))).setCell ⟨w.heap.size + 1, 1, none⟩ (.int .i64 0)).setCell ⟨w.heap.size + 1, 2, none⟩ (.int .i64 (-1))) := ⟨_, rfl⟩
            have HK := HW0.out W0 hW0
            have hsz : w3.heap.size = W0.heap.size := by rw [hW0, size_set3]
            rw [hsz] at hown
            rw [← hW0] at hb
            try rw [hsz] at hb
            clear hsz
            clear hW0 HW0
            obtain ⟨⟨k0, k1, k2⟩, kb, kz⟩ := HK
            have O4 : Hid (w4.ownsRow W0.heap.size 35 3 v1 n (plc L)) := by show World.ownsRow _ _ _ _ _ _ _; first | exact hown | (simpa [HN.out] using hown)
            have B4 : Hid (Below W0.heap.size W0 w4) := hb
            have KB : Hid (Below w.heap.size w W0 ∧ w.heap.size + 3 ≤ W0.heap.size) := ⟨kb, kz⟩
            have KX : Hid (∀ W, Below W0.heap.size W0 W → Box3 W w.heap.size (.slice ah 8 ch) (.slice a n c) (.int .i64 s) ∧ BoxP W (w.heap.size + 1) (T : Int) 0 (-1) ∧ Box3 W (w.heap.size + 1 + 1) (.slice none 0 0) (.slice none 0 0) (.int .i64 0)) := fun W hW => ⟨k0.later hW, k1.later hW, k2.later hW⟩
            clear hown hb k0 k1 k2 kb kz u0 u1 u2 q0 q1 q2 y0 y1 y2 f0 f1 f2
            obtain ⟨m0, m1, m2⟩ := KX.out w4 B4.out
            obtain ⟨u0, u1, u2, uf0, uf1, uf2⟩ := m0.facts
            obtain ⟨q0, q1, q2, qf0, qf1, qf2⟩ := m1.facts
            obtain ⟨y0, y1, y2, f0, f1, f2⟩ := m2.facts
            clear m0 m1 m2
            have HSn : Hid (plc L ++ [.int .i64 (T : Int), .int .i64 0, .int .i64 (-1)] = plc (L ++ [(⟨T, 0, 0, true⟩ : Rc)])) := plc_snoc (⟨T, 0, 0, true⟩ : Rc) L
            have HLn : Hid ((L ++ [(⟨T, 0, 0, true⟩ : Rc)]).length = n + 1) := by show List.length _ = _; rw [List.length_append, HN.out]; rfl
            go_wp2_with (at_builtin; refine wpList_append_own _ (by rfl) (.tmp 47) (.tmp 49) 26 (by rfl) W0.heap.size 35 ti (.agg #[.int .i64 0, .int .i64 0, .int .i64 0]) 3 24 Tryd.underlying26 hti hz0 hz1 hz2 rfl (by decide) v1 n (plc L) (by rfl) (O4.out.alloc _) ⟨w4.heap.size, 0, none⟩ 1 1 [.int .i64 (T : Int), .int .i64 0, .int .i64 (-1)] (by rfl) rfl (news_three w4 _ _ _ 35) (ones_three _ _ _) ?p1 ?p2 ?p3 ?p4)
            case p1 => unfold maxLen; omega
            case p2 => omega
            case p3 => have := B4.out.size; simp; omega
            case p4 =>
              intro v2 w5 hown hgr _
              rw [HSn.out] at hown
              have hb5 : Below W0.heap.size W0 w5 := (B4.out.alloc B4.out.size _).grown hgr (by have := B4.out.size; simp; omega) (fun k e => (O4.out.lt k e).1)
              obtain ⟨a2, c2, rfl⟩ := rown_form hown
              have O5 : Hid (w5.ownsRow W0.heap.size 35 3 (.slice a2 (n + 1) c2) (L ++ [(⟨T, 0, 0, true⟩ : Rc)]).length (plc (L ++ [(⟨T, 0, 0, true⟩ : Rc)]))) := by rw [HLn.out]; exact hown
              have B5 : Hid (Below W0.heap.size W0 w5) := hb5
              have HD : Hid _ := fun (_ : Nat) => down_end (vh := .slice ah 8 ch) (vl := .slice a n c) (s := .int .i64 s) KB.out.1 KB.out.2 O5.out B5.out
              clear hown hgr hb5 u0 u1 u2 q0 q1 q2 y0 y1 y2 f0 f1 f2 uf0 uf1 uf2 qf0 qf1 qf2
              obtain ⟨m0, m1, m2⟩ := KX.out w5 B5.out
              obtain ⟨u0, u1, u2, uf0, uf1, uf2⟩ := m0.facts
              obtain ⟨y0, y1, y2, f0, f1, f2⟩ := m2.facts
              clear m0 m1 m2
              go_wp2
              refine bodyPost_ret (v := .tuple #[.agg #[.slice ah 8 ch, .slice a2 (n + 1) c2, .int .i64 s], .int .i64 0]) ?_ rfl ?_
              · rw [results_cell2 rfl]
                go_simp
              · exact ⟨_, rfl, (HD.out 0).1, (HD.out 0).2⟩
      | false =>
        by_cases hbk : 0 ≤ b ∧ b ≤ 7
        · have HI2 : Hid _ := fun (W : World) => rin_yes b 0 7 W hbk
          by_cases hvk : 0 ≤ x ∧ x ≤ 1000
          · have HI3 : Hid _ := fun (W : World) => rin_yes x 0 1000 W hvk
            by_cases h6 : n = 60
            · obtain ⟨e1, e2⟩ := do_full (L := L) (b := b) (x := x) (E := false) hm (fun _ => by omega) (by rw [HN.out]; exact h6)
              rw [e1, e2]
              clear e1 e2 hm he ht hbk hvk
              subst h6
              go_enter Tryd.func6, Tryd.ntmps6
              go_wp2_with fail
              rw [HW1.out]
              have HZ1 : Hid (Below w1.heap.size w1 w1) := Below.refl _ _
              obtain ⟨m0, m1, m2⟩ := HX.out w1 HZ1.out
              obtain ⟨u0, u1, u2, _, _, _⟩ := m0.facts
              obtain ⟨q0, q1, q2, qf0, qf1, qf2⟩ := m1.facts
              obtain ⟨y0, y1, y2, f0, f1, f2⟩ := m2.facts
              clear m0 m1 m2
              refine Calls.mono (HI1.out w1) ?_
              rintro e w2 ⟨rfl, rfl⟩
              go_wp2_with (first
                | (go_at_call 20; refine (HE2.out w1 (Below.refl _ _)).mono ?_; rintro e w3 ⟨rfl, hb3⟩; have HB3 : Hid (Below w1.heap.size w1 w3) := hb3; obtain ⟨m0, m1, m2⟩ := HX.out w3 hb3; obtain ⟨u0, u1, u2, uf0, uf1, uf2⟩ := m0.facts; obtain ⟨q0, q1, q2, qf0, qf1, qf2⟩ := m1.facts; obtain ⟨y0, y1, y2, f0, f1, f2⟩ := m2.facts; clear m0 m1 m2 hb3)
                | (go_at_call_of 19 (Value.int .i64 7); refine (HI2.out w3).mono ?_; rintro e w4 ⟨rfl, rfl⟩)
                | (go_at_call_of 19 (Value.int .i64 1000); refine (HI3.out w3).mono ?_; rintro e w4 ⟨rfl, rfl⟩))
              refine bodyPost_ret (v := .tuple #[.agg #[.slice ah 8 ch, .slice a 60 c, .int .i64 s], .int .i64 4]) ?_ rfl ?_
              · rw [results_cell2 rfl]
                go_simp
              · exact ⟨_, rfl, .inl ⟨rfl, rfl⟩, HErr.out w3 HB3.out⟩
            · obtain ⟨B8, rfl⟩ : ∃ B8 : Nat, b = (B8 : Int) := ⟨b.toNat, by omega⟩
              obtain ⟨X8, rfl⟩ : ∃ X8 : Nat, x = (X8 : Int) := ⟨x.toNat, by omega⟩
              obtain ⟨e1, e2⟩ := do_wr (L := L) (B := B8) (X := X8) hm (by omega) (by rw [HN.out]; exact h6)
              rw [e1, e2]
              clear e1 e2 hm he ht hbk hvk
              go_enter Tryd.func6, Tryd.ntmps6
              go_wp2_with fail
              rw [HW1.out]
              have HZ1 : Hid (Below w1.heap.size w1 w1) := Below.refl _ _
              obtain ⟨m0, m1, m2⟩ := HX.out w1 HZ1.out
              obtain ⟨u0, u1, u2, _, _, _⟩ := m0.facts
              obtain ⟨q0, q1, q2, qf0, qf1, qf2⟩ := m1.facts
              obtain ⟨y0, y1, y2, f0, f1, f2⟩ := m2.facts
              clear m0 m1 m2
              refine Calls.mono (HI1.out w1) ?_
              rintro e w2 ⟨rfl, rfl⟩
              have h6i : ¬ (60 : Int) ≤ (n : Int) := by omega
              go_wp2_with (first
                | (go_at_call 20; refine (HE2.out w1 (Below.refl _ _)).mono ?_; rintro e w3 ⟨rfl, hb3⟩; have HB3 : Hid (Below w1.heap.size w1 w3) := hb3; obtain ⟨m0, m1, m2⟩ := HX.out w3 hb3; obtain ⟨u0, u1, u2, uf0, uf1, uf2⟩ := m0.facts; obtain ⟨q0, q1, q2, qf0, qf1, qf2⟩ := m1.facts; obtain ⟨y0, y1, y2, f0, f1, f2⟩ := m2.facts; clear m0 m1 m2 hb3; have HW0 : Hid (∀ W0, W0 = w3 → (Box3 W0 w.heap.size (.slice ah 8 ch) (.slice a n c) (.int .i64 s) ∧ BoxP W0 (w.heap.size + 1) (T : Int) (B8 : Int) (X8 : Int) ∧ Box3 W0 (w.heap.size + 1 + 1) (.slice none 0 0) (.slice none 0 0) (.int .i64 0)) ∧ Below w.heap.size w W0 ∧ w.heap.size + 3 ≤ W0.heap.size) := by intro W0 hW0; rw [hW0]; exact ⟨HX.out w3 HB3.out, HB1.out.1.trans (HB3.out.mono (by have := HB1.out.2; omega)), by have := HB3.out.size; have := HB1.out.2; omega⟩)
                | (go_at_call_of 19 (Value.int .i64 7); refine (HI2.out w3).mono ?_; rintro e w4 ⟨rfl, rfl⟩)
                | (go_at_call_of 19 (Value.int .i64 1000); refine (HI3.out w3).mono ?_; rintro e w4 ⟨rfl, rfl⟩)
                | (at_builtin; refine wpList_append_puts (by rfl) (.tmp 43) (.tmp 45) (by rfl) w3.heap.size (.slice none 0 0) 0 [] (by rfl) (World.ownsRow_nil _ _ _ _) (.slice a n c) L (by rfl) (HPw.out _ (HW0.out _ rfl).2.1) ?q1 ?q2 ?q3))
              case q1 => rw [HN.out]; omega
              case q2 => exact Nat.le_refl _
              case q3 =>
                intro v1 w4 hown hb
                obtain ⟨W0, hW0⟩ : ∃ W0, W0 = w3 := ⟨_, rfl⟩
                have HK := HW0.out W0 hW0
                rw [← hW0] at hown hb
                clear hW0 HW0
                obtain ⟨⟨k0, k1, k2⟩, kb, kz⟩ := HK
                have O4 : Hid (w4.ownsRow W0.heap.size 35 3 v1 n (plc L)) := by show World.ownsRow _ _ _ _ _ _ _; first | exact hown | (simpa [HN.out] using hown)
                have B4 : Hid (Below W0.heap.size W0 w4) := hb
                have KB : Hid (Below w.heap.size w W0 ∧ w.heap.size + 3 ≤ W0.heap.size) := ⟨kb, kz⟩
                have KX : Hid (∀ W, Below W0.heap.size W0 W → Box3 W w.heap.size (.slice ah 8 ch) (.slice a n c) (.int .i64 s) ∧ BoxP W (w.heap.size + 1) (T : Int) (B8 : Int) (X8 : Int) ∧ Box3 W (w.heap.size + 1 + 1) (.slice none 0 0) (.slice none 0 0) (.int .i64 0)) := fun W hW => ⟨k0.later hW, k1.later hW, k2.later hW⟩
                clear hown hb k0 k1 k2 kb kz u0 u1 u2 q0 q1 q2 y0 y1 y2 f0 f1 f2
                obtain ⟨m0, m1, m2⟩ := KX.out w4 B4.out
                obtain ⟨u0, u1, u2, uf0, uf1, uf2⟩ := m0.facts
                obtain ⟨q0, q1, q2, qf0, qf1, qf2⟩ := m1.facts
                obtain ⟨y0, y1, y2, f0, f1, f2⟩ := m2.facts
                clear m0 m1 m2
                have HSn : Hid (plc L ++ [.int .i64 (T : Int), .int .i64 (B8 : Int), .int .i64 (X8 : Int)] = plc (L ++ [(⟨T, B8, X8, false⟩ : Rc)])) := plc_snoc (⟨T, B8, X8, false⟩ : Rc) L
                have HLn : Hid ((L ++ [(⟨T, B8, X8, false⟩ : Rc)]).length = n + 1) := by show List.length _ = _; rw [List.length_append, HN.out]; rfl
                go_wp2_with (at_builtin; refine wpList_append_own _ (by rfl) (.tmp 47) (.tmp 49) 26 (by rfl) W0.heap.size 35 ti (.agg #[.int .i64 0, .int .i64 0, .int .i64 0]) 3 24 Tryd.underlying26 hti hz0 hz1 hz2 rfl (by decide) v1 n (plc L) (by rfl) (O4.out.alloc _) ⟨w4.heap.size, 0, none⟩ 1 1 [.int .i64 (T : Int), .int .i64 (B8 : Int), .int .i64 (X8 : Int)] (by rfl) rfl (news_three w4 _ _ _ 35) (ones_three _ _ _) ?p1 ?p2 ?p3 ?p4)
                case p1 => unfold maxLen; omega
                case p2 => omega
                case p3 => have := B4.out.size; simp; omega
                case p4 =>
                  intro v2 w5 hown hgr _
                  rw [HSn.out] at hown
                  have hb5 : Below W0.heap.size W0 w5 := (B4.out.alloc B4.out.size _).grown hgr (by have := B4.out.size; simp; omega) (fun k e => (O4.out.lt k e).1)
                  obtain ⟨a2, c2, rfl⟩ := rown_form hown
                  have O5 : Hid (w5.ownsRow W0.heap.size 35 3 (.slice a2 (n + 1) c2) (L ++ [(⟨T, B8, X8, false⟩ : Rc)]).length (plc (L ++ [(⟨T, B8, X8, false⟩ : Rc)]))) := by rw [HLn.out]; exact hown
                  have B5 : Hid (Below W0.heap.size W0 w5) := hb5
                  have HD : Hid _ := fun (_ : Nat) => down_end (vh := .slice ah 8 ch) (vl := .slice a n c) (s := .int .i64 s) KB.out.1 KB.out.2 O5.out B5.out
                  clear hown hgr hb5 u0 u1 u2 q0 q1 q2 y0 y1 y2 f0 f1 f2 uf0 uf1 uf2 qf0 qf1 qf2
                  obtain ⟨m0, m1, m2⟩ := KX.out w5 B5.out
                  obtain ⟨u0, u1, u2, uf0, uf1, uf2⟩ := m0.facts
                  obtain ⟨y0, y1, y2, f0, f1, f2⟩ := m2.facts
                  clear m0 m1 m2
                  go_wp2
                  refine bodyPost_ret (v := .tuple #[.agg #[.slice ah 8 ch, .slice a2 (n + 1) c2, .int .i64 s], .int .i64 0]) ?_ rfl ?_
                  · rw [results_cell2 rfl]
                    go_simp
                  · exact ⟨_, rfl, (HD.out 0).1, (HD.out 0).2⟩
          · have HI3 : Hid _ := fun (W : World) => rin_no x 0 1000 W hvk
            obtain ⟨e1, e2⟩ := do_bad (L := L) (b := b) (x := x) hm (by omega)
            rw [e1, e2]
            clear e1 e2 hm he ht hbk hvk
            go_enter Tryd.func6, Tryd.ntmps6
            go_wp2_with fail
            rw [HW1.out]
            have HZ1 : Hid (Below w1.heap.size w1 w1) := Below.refl _ _
            obtain ⟨m0, m1, m2⟩ := HX.out w1 HZ1.out
            obtain ⟨u0, u1, u2, _, _, _⟩ := m0.facts
            obtain ⟨q0, q1, q2, qf0, qf1, qf2⟩ := m1.facts
            obtain ⟨y0, y1, y2, f0, f1, f2⟩ := m2.facts
            clear m0 m1 m2
            refine Calls.mono (HI1.out w1) ?_
            rintro e w2 ⟨rfl, rfl⟩
            go_wp2_with (first
              | (go_at_call 20; refine (HE2.out w1 (Below.refl _ _)).mono ?_; rintro e w3 ⟨rfl, hb3⟩; have HB3 : Hid (Below w1.heap.size w1 w3) := hb3; obtain ⟨m0, m1, m2⟩ := HX.out w3 hb3; obtain ⟨u0, u1, u2, uf0, uf1, uf2⟩ := m0.facts; obtain ⟨q0, q1, q2, qf0, qf1, qf2⟩ := m1.facts; obtain ⟨y0, y1, y2, f0, f1, f2⟩ := m2.facts; clear m0 m1 m2 hb3)
              | (go_at_call_of 19 (Value.int .i64 7); refine (HI2.out w3).mono ?_; rintro e w4 ⟨rfl, rfl⟩)
              | (go_at_call_of 19 (Value.int .i64 1000); refine (HI3.out w3).mono ?_; rintro e w4 ⟨rfl, rfl⟩))
            refine bodyPost_ret (v := .tuple #[.agg #[.slice ah 8 ch, .slice a n c, .int .i64 s], .int .i64 1]) ?_ rfl ?_
            · rw [results_cell2 rfl]
              go_simp
            · exact ⟨_, rfl, .inl ⟨rfl, rfl⟩, HErr.out w3 HB3.out⟩
        · have HI2 : Hid _ := fun (W : World) => rin_no b 0 7 W hbk
          obtain ⟨e1, e2⟩ := do_bad (L := L) (b := b) (x := x) hm (by omega)
          rw [e1, e2]
          clear e1 e2 hm he ht hbk
          go_enter Tryd.func6, Tryd.ntmps6
          go_wp2_with fail
          rw [HW1.out]
          have HZ1 : Hid (Below w1.heap.size w1 w1) := Below.refl _ _
          obtain ⟨m0, m1, m2⟩ := HX.out w1 HZ1.out
          obtain ⟨u0, u1, u2, _, _, _⟩ := m0.facts
          obtain ⟨q0, q1, q2, qf0, qf1, qf2⟩ := m1.facts
          obtain ⟨y0, y1, y2, f0, f1, f2⟩ := m2.facts
          clear m0 m1 m2
          refine Calls.mono (HI1.out w1) ?_
          rintro e w2 ⟨rfl, rfl⟩
          go_wp2_with (first
            | (go_at_call 20; refine (HE2.out w1 (Below.refl _ _)).mono ?_; rintro e w3 ⟨rfl, hb3⟩; have HB3 : Hid (Below w1.heap.size w1 w3) := hb3; obtain ⟨m0, m1, m2⟩ := HX.out w3 hb3; obtain ⟨u0, u1, u2, uf0, uf1, uf2⟩ := m0.facts; obtain ⟨q0, q1, q2, qf0, qf1, qf2⟩ := m1.facts; obtain ⟨y0, y1, y2, f0, f1, f2⟩ := m2.facts; clear m0 m1 m2 hb3)
            | (go_at_call_of 19 (Value.int .i64 7); refine (HI2.out w3).mono ?_; rintro e w4 ⟨rfl, rfl⟩))
          refine bodyPost_ret (v := .tuple #[.agg #[.slice ah 8 ch, .slice a n c, .int .i64 s], .int .i64 1]) ?_ rfl ?_
          · rw [results_cell2 rfl]
            go_simp
          · exact ⟨_, rfl, .inl ⟨rfl, rfl⟩, HErr.out w3 HB3.out⟩
  · have HI1 : Hid _ := fun (W : World) => rin_no t 0 19 W ht
    have hm : mayE L t = 1 := if_neg (by omega)
    obtain ⟨e1, e2⟩ := do_may (L := L) (b := b) (x := x) (E := E) (by rw [hm]; decide : mayE L t ≠ 0)
    rw [e1, e2, hm]
    clear e1 e2 hm ht
    go_enter Tryd.func6, Tryd.ntmps6
    go_wp2_with fail
    rw [HW1.out]
    have HZ1 : Hid (Below w1.heap.size w1 w1) := Below.refl _ _
    obtain ⟨m0, m1, m2⟩ := HX.out w1 HZ1.out
    obtain ⟨u0, u1, u2, _, _, _⟩ := m0.facts
    obtain ⟨q0, q1, q2, qf0, qf1, qf2⟩ := m1.facts
    obtain ⟨y0, y1, y2, f0, f1, f2⟩ := m2.facts
    clear m0 m1 m2
    refine Calls.mono (HI1.out w1) ?_
    rintro e w2 ⟨rfl, rfl⟩
    go_wp2
    refine bodyPost_ret (v := .tuple #[.agg #[.slice ah 8 ch, .slice a n c, .int .i64 s], .int .i64 1]) ?_ rfl ?_
    · rw [results_cell2 rfl]
      go_simp
    · exact ⟨_, rfl, .inl ⟨rfl, rfl⟩, HErr.out w1 HZ1.out⟩

end Go.Proofs.YtejganpamidkmaaDoor
