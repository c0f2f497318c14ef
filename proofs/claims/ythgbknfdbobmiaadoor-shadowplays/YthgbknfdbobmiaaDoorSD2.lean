/- This text proves what the document's own Write answers: its three lists as they are then, and in which slot the page is; old memory is as it was; the conditions are that the lists lie there, and that the disk is one that can be. -/
import Derived.Test.YthgbknfdbobmiaaDoorSD0
namespace Go.Proofs.YthgbknfdbobmiaaDoor
open Go.RowKit Go.Deep

/-- A call's answer: the lists of slots and of the new table are the call's own, or it is the list before. -/
structure NxS (w w' : World) (vs vn vs' vn' : Value) (C D : Nat → Int) : Prop where
  s : w'.ownsRow w.heap.size 3 1 vs' 16 (cellsOf (lsC D 0 16))
  n : vn' = vn ∧ lsC D 24 8 = lsC C 24 8 ∨ w'.ownsRow w.heap.size 3 1 vn' 8 (cellsOf (lsC D 24 8))
  o : lsC D 16 8 = lsC C 16 8
  old : Below w.heap.size w w'

theorem boxes2 (w : World) (x y z p q r : Value) : ∃ w1, (w.alloc (.cells #[x, y, z] 27)).alloc (.cells #[p, q, r] 27) = w1 ∧
    Below w.heap.size w w1 ∧ Box3 w1 w.heap.size x y z ∧ Box3 w1 (w.heap.size + 1) p q r ∧ w1.heap.size = w.heap.size + 2 := by
  refine ⟨_, rfl, Below.next (below_one _ _) (below_one _ _), (box3_new w x y z).later (below_one _ _), ?_, by simp⟩
  have := box3_new (w.alloc (.cells #[x, y, z] 27)) p q r
  rwa [show (w.alloc (.cells #[x, y, z] 27)).heap.size = w.heap.size + 1 by simp] at this

theorem SliceIs.cellI {w : World} {C : Nat → Int} {a : Option Addr} {z n c : Nat} (h : SliceIs w (.slice a n c) (lsC C z n)) {i : Nat} (hi : i < n) : ∃ b o, a = some ⟨b, o, none⟩ ∧ b < w.heap.size ∧ ∀ j, j < n → w.cell? ⟨b, o + j, none⟩ = some (.int .i64 (C (z + j))) := by
  obtain ⟨a', c', e, _, hx⟩ := h
  simp only [Value.slice.injEq] at e
  obtain ⟨rfl, _, rfl⟩ := e
  obtain ⟨b, o, ha, hb, hc⟩ := hx (fun e => by have := lsC_len C z n; rw [e] at this; simp at this; omega)
  exact ⟨b, o, ha, hb, fun j hj => by rw [hc j (by rw [lsC_len]; exact hj), lsC_nth hj]⟩

set_option maxHeartbeats 8000000 in
set_option maxRecDepth 100000 in
theorem r3write_new (w : World) (vs vo vn : Value) (C : Nat → Int) (hd : DocS w vs vo vn C) (p : Nat) (x : Int) (hp : p < 8) (he : C (24 + p) = C (16 + p)) :
    Calls Tryd.prog 8 #[.agg #[vs, vo, vn], .int .i64 (p : Int), .int .i64 x] w fun e w' => ∃ vs' vn', e = .returned (.tuple #[.agg #[vs', vo, vn'], .int .i64 (atS C p : Int)]) ∧ NxS w w' vs vn vs' vn' C (wrS C p x) := by
  obtain ⟨⟨a0, cs, rfl⟩, ⟨ao, co, rfl⟩, ⟨an, cn, rfl⟩⟩ := hd.form
  obtain ⟨hl, hno, hyes⟩ := lfS_some hp he
  have e1 : atS C p = lfS C := by unfold atS; rw [if_pos he]
  obtain ⟨m, hm⟩ : ∃ m, lfS C = m := ⟨_, rfl⟩
  have HE : Hid (atS C p = m ∧ wrS C p x = putI (putI C (24 + p) (m : Int)) m x) := ⟨e1.trans hm, by unfold wrS tbS; rw [if_pos he, e1, hm]⟩
  rw [hm] at hl hno hyes
  have HNo : Hid (namS C m = false) := hno
  have HYs : Hid (∀ j, j < m → namS C j = true) := hyes
  clear hno hyes
  obtain ⟨w1, hw1, hb1, k0, k1, ksz⟩ := boxes2 w (.slice a0 16 cs) (.slice ao 8 co) (.slice an 8 cn) (.slice none 0 0) (.slice none 0 0) (.slice none 0 0)
  have HW1 : Hid _ := hw1
  have HK0 : Hid (∀ W, Below w1.heap.size w1 W → Box3 W w.heap.size (.slice a0 16 cs) (.slice ao 8 co) (.slice an 8 cn) ∧ Box3 W (w.heap.size + 1) (.slice none 0 0) (.slice none 0 0) (.slice none 0 0)) := fun W hb => ⟨k0.later hb, k1.later hb⟩
  have HB1 : Hid (Below w.heap.size w w1 ∧ w1.heap.size = w.heap.size + 2) := ⟨hb1, ksz⟩
  have HD : Hid (∀ W, Below w.heap.size w W → DocS W (.slice a0 16 cs) (.slice ao 8 co) (.slice an 8 cn) C) := fun W hb => hd.later hb
  obtain ⟨bo, oo, rfl, hbo, hco⟩ := (hd.later hb1).o.cellI (i := 0) (by decide)
  obtain ⟨bn, on, rfl, hbn, hcn⟩ := (hd.later hb1).n.cellI (i := 0) (by decide)
  have x1 := hco p hp
  have x2 := hcn p hp
  obtain ⟨u0, u1, u2, uf0, uf1, uf2⟩ := k0.facts
  rw [← he] at x1
  generalize C (24 + p) = y at x1 x2
  clear he e1 hm
  clear hd hb1 k0 k1 ksz hco hcn hbo hbn
  rw [← hw1] at x1 x2 u0 u1 u2 uf0 uf1 uf2
  clear hw1
  go_enter Tryd.func8, Tryd.ntmps8
  go_wp2_with fail
  rw [HW1.out] at x1 x2 u0 u1 u2 uf0 uf1 uf2 ⊢
  obtain ⟨P, hP⟩ : ∃ P, w.heap.size = P := ⟨_, rfl⟩
  have HP : Hid (w.heap.size = P) := hP
  rw [hP] at u0 u1 u2 uf0 uf1 uf2 HK0 ⊢
  clear hP
  have HHo : Hid _ := fun (k : Int) => r1has_any w1 _ _ (HD.out w1 HB1.out.1).o k
  have HHn : Hid _ := fun (k : Int) => r1has_any w1 _ _ (HD.out w1 HB1.out.1).n k
  go_loop [8] (fun i => ∃ k : Nat, k ≤ m ∧ i = .int .i64 (k : Int)) (fun i => m - (Go.RowKit.intOf i).toNat)
  case atStart => exact ⟨0, Nat.zero_le _, rfl⟩
  case round =>
    obtain ⟨k, hk, rfl⟩ := hrel
    cases ho : inT C 16 (k : Int) with
    | true =>
      have hkm : k ≠ m := fun e => by
        subst e
        have := HNo.out
        unfold namS at this
        rw [Bool.or_eq_false_iff, ho] at this
        cases this.2
      have HV : Hid (inT C 16 (k : Int) = true) := ho
      clear ho
      go_wp2_with fail
      refine (HHo.out (k : Int)).mono ?_
      rintro e w' ⟨rfl, rfl⟩
      rw [lsC_any, HV.out]
      go_wp2
      go_round
      case rel => exact ⟨k + 1, by omega, by go_num⟩
      case measure => simp [Go.RowKit.intOf]; omega
    | false =>
      cases hn : inT C 24 (k : Int) with
      | true =>
        have hkm : k ≠ m := fun e => by
          subst e
          have := HNo.out
          unfold namS at this
          rw [Bool.or_eq_false_iff, hn] at this
          cases this.1
        have HV : Hid (inT C 16 (k : Int) = false) := ho
        have HW : Hid (inT C 24 (k : Int) = true) := hn
        clear ho hn
        go_wp2_with fail
        refine (HHo.out (k : Int)).mono ?_
        rintro e w' ⟨rfl, rfl⟩
        rw [lsC_any, HV.out]
        go_wp2_with fail
        refine (HHn.out (k : Int)).mono ?_
        rintro e w' ⟨rfl, rfl⟩
        rw [lsC_any, HW.out]
        go_wp2
        go_round
        case rel => exact ⟨k + 1, by omega, by go_num⟩
        case measure => simp [Go.RowKit.intOf]; omega
      | false =>
        have hkm : k = m := by
          refine Classical.byContradiction fun e => ?_
          have := HYs.out k (by omega)
          unfold namS at this
          rw [hn, ho] at this
          cases this
        have HV : Hid (inT C 16 (k : Int) = false) := ho
        have HW : Hid (inT C 24 (k : Int) = false) := hn
        clear ho hn
        subst hkm
        go_wp2_with fail
        refine (HHo.out (k : Int)).mono ?_
        rintro e w' ⟨rfl, rfl⟩
        rw [lsC_any, HV.out]
        go_wp2_with fail
        refine (HHn.out (k : Int)).mono ?_
        rintro e w' ⟨rfl, rfl⟩
        rw [lsC_any, HW.out]
        have HSet : Hid _ := fun (_ : Nat) => set_own w1 _ _ 8 p (k : Int) (HD.out w1 HB1.out.1).n (lsC_len _ _ _) hp (by decide)
        go_wp2_with fail
        refine (HSet.out 0).mono ?_
        rintro e w2 ⟨g2, cap2, rfl, ho2, hb2⟩
        have O2 : Hid (w2.ownsRow w1.heap.size 3 1 (.slice (some ⟨g2, 0, none⟩) 8 cap2) 8 (cellsOf (lsC (putI C (24 + p) (k : Int)) 24 8))) := by rw [← lsC_set]; exact ho2
        have B2 : Hid (Below w.heap.size w w2 ∧ Below w1.heap.size w1 w2) := ⟨Below.next HB1.out.1 hb2, hb2⟩
        clear ho2 hb2 u0 u1 u2 uf0 uf1 uf2 HHo HHn HSet
        have K2 := HK0.out w2 B2.out.2
        obtain ⟨u0, u1, u2, uf0, uf1, uf2⟩ := K2.1.facts
        have O3 : Hid ((w2.setCell ⟨P, 2, none⟩ (.slice (some ⟨g2, 0, none⟩) 8 cap2)).ownsRow w1.heap.size 3 1 (.slice (some ⟨g2, 0, none⟩) 8 cap2) 8 (cellsOf (lsC (putI C (24 + p) (k : Int)) 24 8)) ∧
            Below w.heap.size w (w2.setCell ⟨P, 2, none⟩ (.slice (some ⟨g2, 0, none⟩) 8 cap2)) ∧ Box3 (w2.setCell ⟨P, 2, none⟩ (.slice (some ⟨g2, 0, none⟩) 8 cap2)) P (.slice a0 16 cs) (.slice (some ⟨bo, oo, none⟩) 8 co) (.slice (some ⟨g2, 0, none⟩) 8 cap2) ∧
            Box3 (w2.setCell ⟨P, 2, none⟩ (.slice (some ⟨g2, 0, none⟩) 8 cap2)) (P + 1) (.slice none 0 0) (.slice none 0 0) (.slice none 0 0)) := by
          have hPe := HP.out
          have hsz := HB1.out.2
          exact ⟨own_set1 O2.out (a := ⟨P, 2, none⟩) (by show P < _; omega) _, B2.out.1.setCell (p := ⟨P, 2, none⟩) (by show w.heap.size ≤ P; omega) _, K2.1.set2 _, K2.2.same (Below.heap_setCell w2 ⟨P, 2, none⟩ _ (P + 1) (by show P + 1 ≠ P; omega))⟩
        clear K2
        go_wp2_with fail
        clear u0 u1 u2 uf0 uf1 uf2
        have HS3' : Hid (w1.heap.size ≤ (w2.setCell ⟨P, 2, none⟩ (.slice (some ⟨g2, 0, none⟩) 8 cap2)).heap.size) := by have := B2.out.2.size; show w1.heap.size ≤ _; simpa [World.setCell] using this
        generalize hw3 : w2.setCell ⟨P, 2, none⟩ (.slice (some ⟨g2, 0, none⟩) 8 cap2) = w3 at O3 HS3' ⊢
        clear hw3 O2
        have HS3 : Hid (w1.heap.size ≤ w3.heap.size) := HS3'.out
        obtain ⟨u0, u1, u2, uf0, uf1, uf2⟩ := O3.out.2.2.1.facts
        have HSet2 : Hid _ := fun (_ : Nat) => set_own w3 _ _ 16 k x (HD.out w3 O3.out.2.1).s (lsC_len _ _ _) hl (by decide)
        go_wp2_with fail
        refine (HSet2.out 0).mono ?_
        rintro e w4 ⟨g4, cap4, rfl, ho4, hb4⟩
        clear u0 u1 u2 uf0 uf1 uf2 HSet2
        have K4 := (⟨O3.out.2.2.1.later hb4, O3.out.2.2.2.later hb4⟩ : Box3 w4 P _ _ _ ∧ Box3 w4 (P + 1) _ _ _)
        obtain ⟨u0, u1, u2, uf0, uf1, uf2⟩ := K4.1.facts
        obtain ⟨r0, r1, r2, rf0, rf1, rf2⟩ := K4.2.facts
        have HEnd : Hid (∀ a b c, NxS w ((((w4.setCell ⟨P, 0, none⟩ (.slice (some ⟨g4, 0, none⟩) 16 cap4)).setCell ⟨P + 1, 0, none⟩ a).setCell ⟨P + 1, 1, none⟩ b).setCell ⟨P + 1, 2, none⟩ c) (.slice a0 16 cs) (.slice (some ⟨bn, on, none⟩) 8 cn) (.slice (some ⟨g4, 0, none⟩) 16 cap4) (.slice (some ⟨g2, 0, none⟩) 8 cap2) C (wrS C p x)) := fun a b c => by
          have hPe := HP.out
          have hsz := HB1.out.2
          have hs3 : w1.heap.size ≤ w3.heap.size := HS3.out
          refine ⟨?_, ?_, ?_, ?_⟩
          · refine own_base (base := w3.heap.size) (own_set3 (g := P + 1) (own_set1 (a := ⟨P, 0, none⟩) ?_ ?_ _) ?_ a b c) ?_
            · rw [lsC_set, Nat.zero_add] at ho4
              rw [lsC_same (C := wrS C p x) (D := putI C k x) (z := 0) (y := 0) (fun i hi => by
                rw [HE.out.2]
                unfold putI
                by_cases e : 0 + i = k
                · rw [if_pos e, if_pos e]
                · rw [if_neg e, if_neg e, if_neg (by omega)])]
              exact ho4
            · show P < _; omega
            · omega
            · omega
          · right
            refine own_base (base := w1.heap.size) (own_set3 (g := P + 1) (own_set1 (a := ⟨P, 0, none⟩) ?_ (by show P < _; omega) _) (by omega) a b c) (by omega)
            rw [lsC_same (C := wrS C p x) (D := putI C (24 + p) (k : Int)) (z := 24) (y := 24) (fun i hi => by rw [HE.out.2, putI_off _ _ (by omega)])]
            exact xown_later O3.out.1 hb4
          · exact lsC_same fun i hi => wr_old C x (by rw [HE.out.1]; omega) i hi
          · exact below_set3 (Below.setCell (p := ⟨P, 0, none⟩) (Below.next O3.out.2.1 hb4) (by show w.heap.size ≤ P; omega) _) (by omega) a b c
        clear ho4 hb4 K4
        go_wp2
        refine bodyPost_ret (v := .tuple #[.agg #[.slice (some ⟨g4, 0, none⟩) 16 cap4, .slice (some ⟨bo, oo, none⟩) 8 co, (.slice (some ⟨g2, 0, none⟩) 8 cap2)], .int .i64 (k : Int)]) ?_ rfl ?_
        · rw [results_cell2 rfl]
          go_simp
        · exact ⟨_, _, by rw [HE.out.1], HEnd.out _ _ _⟩

set_option maxHeartbeats 8000000 in
set_option maxRecDepth 100000 in
theorem r3write_again (w : World) (vs vo vn : Value) (C : Nat → Int) (hd : DocS w vs vo vn C) (hg : GoodS C) (p : Nat) (x : Int) (hp : p < 8) (he : C (24 + p) ≠ C (16 + p)) :
    Calls Tryd.prog 8 #[.agg #[vs, vo, vn], .int .i64 (p : Int), .int .i64 x] w fun e w' => ∃ vs' vn', e = .returned (.tuple #[.agg #[vs', vo, vn'], .int .i64 (atS C p : Int)]) ∧ NxS w w' vs vn vs' vn' C (wrS C p x) := by
  obtain ⟨⟨a0, cs, rfl⟩, ⟨ao, co, rfl⟩, ⟨an, cn, rfl⟩⟩ := hd.form
  have h0 := (hg.wr p hp).resolve_left he
  have h1 := (hg.tabN hp).2
  have e1 : atS C p = (C (24 + p)).toNat := by unfold atS; rw [if_neg he]
  obtain ⟨m, hm⟩ : ∃ m : Nat, C (24 + p) = (m : Int) := ⟨_, (Int.toNat_of_nonneg h0).symm⟩
  have hl : m < 16 := by omega
  have e2 : atS C p = m := by rw [e1, hm]; rfl
  have HE : Hid (atS C p = m ∧ wrS C p x = putI C m x) := ⟨e2, by unfold wrS tbS; rw [if_neg he, e2]⟩
  obtain ⟨w1, hw1, hb1, k0, k1, ksz⟩ := boxes2 w (.slice a0 16 cs) (.slice ao 8 co) (.slice an 8 cn) (.slice none 0 0) (.slice none 0 0) (.slice none 0 0)
  have HW1 : Hid _ := hw1
  have HK0 : Hid (∀ W, Below w1.heap.size w1 W → Box3 W w.heap.size (.slice a0 16 cs) (.slice ao 8 co) (.slice an 8 cn) ∧ Box3 W (w.heap.size + 1) (.slice none 0 0) (.slice none 0 0) (.slice none 0 0)) := fun W hb => ⟨k0.later hb, k1.later hb⟩
  have HB1 : Hid (Below w.heap.size w w1 ∧ w1.heap.size = w.heap.size + 2) := ⟨hb1, ksz⟩
  have HD : Hid (∀ W, Below w.heap.size w W → DocS W (.slice a0 16 cs) (.slice ao 8 co) (.slice an 8 cn) C) := fun W hb => hd.later hb
  obtain ⟨bo, oo, rfl, hbo, hco⟩ := (hd.later hb1).o.cellI (i := 0) (by decide)
  obtain ⟨bn, on, rfl, hbn, hcn⟩ := (hd.later hb1).n.cellI (i := 0) (by decide)
  have x1 := hco p hp
  have x2 := hcn p hp
  obtain ⟨u0, u1, u2, uf0, uf1, uf2⟩ := k0.facts
  have hne : ((m : Int) == C (16 + p)) = false := by simp; exact fun e => he (hm.trans e)
  rw [hm] at x2
  generalize C (16 + p) = z at x1 hne
  clear he e1 e2 hm h0 h1
  clear hd hb1 k0 k1 ksz hco hcn hbo hbn
  rw [← hw1] at x1 x2 u0 u1 u2 uf0 uf1 uf2
  clear hw1
  go_enter Tryd.func8, Tryd.ntmps8
  go_wp2_with fail
  rw [HW1.out] at x1 x2 u0 u1 u2 uf0 uf1 uf2 ⊢
  obtain ⟨P, hP⟩ : ∃ P, w.heap.size = P := ⟨_, rfl⟩
  have HP : Hid (w.heap.size = P) := hP
  rw [hP] at u0 u1 u2 uf0 uf1 uf2 HK0 ⊢
  clear hP
  clear u0 u1 u2 uf0 uf1 uf2
  obtain ⟨u0, u1, u2, uf0, uf1, uf2⟩ := (HK0.out w1 (Below.refl _ _)).1.facts
  have HSet2 : Hid _ := fun (_ : Nat) => set_own w1 _ _ 16 m x (HD.out w1 HB1.out.1).s (lsC_len _ _ _) hl (by decide)
  refine (HSet2.out 0).mono ?_
  rintro e w4 ⟨g4, cap4, rfl, ho4, hb4⟩
  clear u0 u1 u2 uf0 uf1 uf2 HSet2
  have K4 := HK0.out w4 hb4
  obtain ⟨u0, u1, u2, uf0, uf1, uf2⟩ := K4.1.facts
  obtain ⟨r0, r1, r2, rf0, rf1, rf2⟩ := K4.2.facts
  have HEnd : Hid (∀ a b c, NxS w ((((w4.setCell ⟨P, 0, none⟩ (.slice (some ⟨g4, 0, none⟩) 16 cap4)).setCell ⟨P + 1, 0, none⟩ a).setCell ⟨P + 1, 1, none⟩ b).setCell ⟨P + 1, 2, none⟩ c) (.slice a0 16 cs) (.slice (some ⟨bn, on, none⟩) 8 cn) (.slice (some ⟨g4, 0, none⟩) 16 cap4) (.slice (some ⟨bn, on, none⟩) 8 cn) C (wrS C p x)) := fun a b c => by
    have hPe := HP.out
    have hsz := HB1.out.2
    have hs3 : w1.heap.size ≤ w1.heap.size := Nat.le_refl _
    refine ⟨?_, ?_, ?_, ?_⟩
    · refine own_base (base := w1.heap.size) (own_set3 (g := P + 1) (own_set1 (a := ⟨P, 0, none⟩) ?_ ?_ _) ?_ a b c) ?_
      · rw [lsC_set, Nat.zero_add] at ho4
        rw [lsC_same (C := wrS C p x) (D := putI C m x) (z := 0) (y := 0) (fun i hi => by rw [HE.out.2])]
        exact ho4
      · show P < _; omega
      · omega
      · omega
    · exact .inl ⟨rfl, lsC_same fun i hi => by rw [HE.out.2, putI_off _ _ (by omega)]⟩
    · exact lsC_same fun i hi => wr_old C x (by rw [HE.out.1]; omega) i hi
    · exact below_set3 (Below.setCell (p := ⟨P, 0, none⟩) (Below.next HB1.out.1 hb4) (by show w.heap.size ≤ P; omega) _) (by omega) a b c
  clear ho4 hb4 K4
  go_wp2
  refine bodyPost_ret (v := .tuple #[.agg #[.slice (some ⟨g4, 0, none⟩) 16 cap4, .slice (some ⟨bo, oo, none⟩) 8 co, (.slice (some ⟨bn, on, none⟩) 8 cn)], .int .i64 (m : Int)]) ?_ rfl ?_
  · rw [results_cell2 rfl]
    go_simp
  · exact ⟨_, _, by rw [HE.out.1], HEnd.out _ _ _⟩

theorem r3write_any (w : World) (vs vo vn : Value) (C : Nat → Int) (hd : DocS w vs vo vn C) (hg : GoodS C) (p : Nat) (x : Int) (hp : p < 8) :
    Calls Tryd.prog 8 #[.agg #[vs, vo, vn], .int .i64 (p : Int), .int .i64 x] w fun e w' => ∃ vs' vn', e = .returned (.tuple #[.agg #[vs', vo, vn'], .int .i64 (atS C p : Int)]) ∧ NxS w w' vs vn vs' vn' C (wrS C p x) := by
  by_cases he : C (24 + p) = C (16 + p)
  · exact r3write_new w vs vo vn C hd p x hp he
  · exact r3write_again w vs vo vn C hd hg p x hp he

end Go.Proofs.YthgbknfdbobmiaaDoor
