/- This text proves what the document's own Write of a disk answers: a note more, a value, whose block it is, and what is wrong; old memory is as it was; the condition is that the document's disk lies there. -/
import Derived.Test.YtkpfieemkjfjkaaDoorUD3
namespace Go.Proofs.YtkpfieemkjfjkaaDoor
open Go.RowKit Go.Deep Go.Maps

/-- Three boxes at the start of a call. -/
theorem boxes3 (w : World) (x y z : Value) (p q r : Int) : ∃ w1, ((w.alloc (.cells #[x, y, z] 39)).alloc (.cells #[.int .i64 p, .int .i64 q, .int .i64 r] 31)).alloc (.cells #[.slice none 0 0, .slice none 0 0, .slice none 0 0] 39) = w1 ∧
    Below w.heap.size w w1 ∧ Box3 w1 w.heap.size x y z ∧ BoxP w1 (w.heap.size + 1) p q r ∧ Box3 w1 (w.heap.size + 1 + 1) (.slice none 0 0) (.slice none 0 0) (.slice none 0 0) ∧ w1.heap.size = w.heap.size + 3 := by
  refine ⟨_, rfl, Below.next (Below.next (below_one _ _) (below_one _ _)) (below_one _ _), ((box3_new w x y z).later (below_one _ _)).later (below_one _ _), ?_, ?_, by simp⟩
  · have := (boxP_new (w.alloc (.cells #[x, y, z] 39)) p q r).later (below_one _ (.cells #[.slice none 0 0, .slice none 0 0, .slice none 0 0] 39))
    rwa [show (w.alloc (.cells #[x, y, z] 39)).heap.size = w.heap.size + 1 by simp] at this
  · have := box3_new ((w.alloc (.cells #[x, y, z] 39)).alloc (.cells #[.int .i64 p, .int .i64 q, .int .i64 r] 31)) (.slice none 0 0) (.slice none 0 0) (.slice none 0 0)
    rwa [show ((w.alloc (.cells #[x, y, z] 39)).alloc (.cells #[.int .i64 p, .int .i64 q, .int .i64 r] 31)).heap.size = w.heap.size + 1 + 1 by simp] at this
theorem BoxP.stay {w W : World} {P Q : Nat} {x y z : Int} (h : BoxP w Q x y z) (hs : Stay (fun u => u = P) w W) (hn : Q ≠ P) : BoxP W Q x y z := (hs.block Q h.lt hn).trans h
theorem Box3.stay {w W : World} {P Q : Nat} {x y z : Value} (h : Box3 w Q x y z) (hs : Stay (fun u => u = P) w W) (hn : Q ≠ P) : Box3 W Q x y z := (hs.block Q h.lt hn).trans h
theorem lsO_put {L : List Nt} {T B y : Nat} (h : own L B = -1 ∨ own L B = (T : Int)) : (lsO L).set B (T : Int) = lsO (L ++ [⟨T, B, y⟩]) := by
  refine List.ext_getElem (by simp [lsO]) fun i h1 h2 => ?_
  rw [List.getElem_set]
  have e1 : (lsO (L ++ [⟨T, B, y⟩]))[i] = own (L ++ [⟨T, B, y⟩]) i := by simp [lsO]
  rw [e1, own_snoc]
  by_cases e : B = i
  · subst e
    rw [if_pos rfl]
    rcases h with k | k
    · rw [if_pos k, if_pos rfl]
    · rw [if_neg (by omega), k]
  · rw [if_neg e]
    have e2 : (lsO L)[i]'(by simpa using h1) = own L i := by simp [lsO]
    rw [e2]
    by_cases k : own L i = -1
    · rw [if_pos k, if_neg e, k]
    · rw [if_neg k]

set_option maxHeartbeats 4000000 in
set_option maxRecDepth 100000 in
theorem r2write_any (w : World) (vb vo vw : Value) (d : Ud) (hd : DocIs w vb vo vw d) (hg : GoodU d) (t x y : Int) :
    Calls Tryd.prog 15 #[.agg #[vb, vo, vw], .agg #[.int .i64 t, .int .i64 x, .int .i64 y]] w fun e w' => ∃ vb' vo' vw', e = .returned (.tuple #[.agg #[vb', vo', vw'], .int .i64 (wrE d.L t x y : Int)]) ∧ Nxt w w' vb vo vw vb' vo' vw' d (wrD d t x y) := by
  obtain ⟨ab, cb, ao, co, aw, cw, rfl, rfl, rfl⟩ := hd.form
  obtain ⟨bb, ob, c8, e8, hbb, hcb⟩ := row_cells hd.b (lst_len _) (by decide)
  cases e8
  obtain ⟨bo, oo, c9, e9, hbo, hco⟩ := row_cells hd.o (lsO_len _) (by decide)
  cases e9
  have HD : Hid (DocIs w (.slice (some ⟨bb, ob, none⟩) 8 cb) (.slice (some ⟨bo, oo, none⟩) 8 co) (.slice aw d.L.length cw) d) := hd
  have HG : Hid (GoodU d) := hg
  have h60 := hg.len
  obtain ⟨n, hn⟩ : ∃ n, d.L.length = n := ⟨_, rfl⟩
  have HN : Hid (d.L.length = n) := hn
  rw [hn] at HD h60 ⊢
  obtain ⟨w1, hw1, hb1, k0, kq, k1, ksz⟩ := boxes3 w (.slice (some ⟨bb, ob, none⟩) 8 cb) (.slice (some ⟨bo, oo, none⟩) 8 co) (.slice aw n cw) t x y
  have HW1 : Hid _ := hw1
  have HB1 : Hid (Below w.heap.size w w1) := hb1
  obtain ⟨P, hP⟩ : ∃ P, P = w.heap.size := ⟨_, rfl⟩
  obtain ⟨Q, hQ⟩ : ∃ Q, Q = w.heap.size + 1 := ⟨_, rfl⟩
  obtain ⟨R, hR⟩ : ∃ R, R = w.heap.size + 1 + 1 := ⟨_, rfl⟩
  have HP : Hid (w.heap.size ≤ P ∧ P < w1.heap.size ∧ w.heap.size ≤ R ∧ R < w1.heap.size ∧ R ≠ P ∧ Q ≠ P) := ⟨by omega, by omega, by omega, by omega, by omega, by omega⟩
  have HPR : Hid (w.heap.size + 1 + 1 = R ∧ w.heap.size + 1 = Q ∧ w.heap.size = P) := ⟨hR.symm, hQ.symm, hP.symm⟩
  rw [← hR] at k1
  rw [← hQ] at kq
  rw [← hP] at k0
  have HX0 : Hid (Bx w1 w1 P (.slice (some ⟨bb, ob, none⟩) 8 cb) (.slice (some ⟨bo, oo, none⟩) 8 co) (.slice aw n cw) (.slice (some ⟨bb, ob, none⟩) 8 cb) (.slice (some ⟨bo, oo, none⟩) 8 co) (.slice aw n cw) (lst d.H) (lst d.H) (lsO d.L) (lsO d.L) d.L d.L) := Bx.new k0
  have HQ1 : Hid (BoxP w1 Q t x y) := kq
  have HR1 : Hid (Box3 w1 R (.slice none 0 0) (.slice none 0 0) (.slice none 0 0)) := k1
  have HE : Hid (∀ W, Below w1.heap.size w1 W → ∀ p q r, Nxt w (((W.setCell ⟨R, 0, none⟩ p).setCell ⟨R, 1, none⟩ q).setCell ⟨R, 2, none⟩ r) (.slice (some ⟨bb, ob, none⟩) 8 cb) (.slice (some ⟨bo, oo, none⟩) 8 co) (.slice aw n cw) (.slice (some ⟨bb, ob, none⟩) 8 cb) (.slice (some ⟨bo, oo, none⟩) 8 co) (.slice aw n cw) d d) := fun W hW p q r =>
    (HX0.out.later hW).end (d := d) (d' := d) HB1.out HP.out.1 HP.out.2.2.1 HP.out.2.2.2.1 p q r
  obtain ⟨u0, u1, u2, uf0, uf1, uf2⟩ := k0.facts
  obtain ⟨q0, q1, q2, qf0, qf1, qf2⟩ := kq.facts
  obtain ⟨y0, y1, y2, f0, f1, f2⟩ := k1.facts
  have HCbs : Hid (∀ i, i < 8 → ∀ W, Below w.heap.size w W → W.cell? ⟨bb, ob + i, none⟩ = some (.int .i64 (d.H i : Int))) := fun i hi W hW => by
    rw [hW.cell (p := ⟨bb, ob + i, none⟩) hbb, hcb i hi, lst_nth hi]
  have HCo : Hid (∀ i, i < 8 → w1.cell? ⟨bo, oo + i, none⟩ = some (.int .i64 (own d.L i))) := fun i hi => by
    rw [HB1.out.cell (p := ⟨bo, oo + i, none⟩) hbo, hco i hi, lsO_nth hi]
  clear hd hg hw1 hb1 k0 kq k1 ksz hn hP hQ hR hco hbo hcb hbb
  by_cases ht : 0 ≤ t ∧ t ≤ 19
  · have HI1 : Hid _ := fun (W : World) => rin_yes t 0 19 W ht
    by_cases hx : 0 ≤ x ∧ x ≤ 7
    · have HI2 : Hid _ := fun (W : World) => rin_yes x 0 7 W hx
      by_cases hy : 0 ≤ y ∧ y ≤ 1000
      · have HI3 : Hid _ := fun (W : World) => rin_yes y 0 1000 W hy
        have hok : okP t x y = true := okP_iff.2 (by omega)
        obtain ⟨T, rfl⟩ : ∃ T : Nat, t = (T : Int) := ⟨t.toNat, by omega⟩
        obtain ⟨X, rfl⟩ : ∃ X : Nat, x = (X : Int) := ⟨x.toNat, by omega⟩
        obtain ⟨Y, rfl⟩ : ∃ Y : Nat, y = (Y : Int) := ⟨y.toNat, by omega⟩
        have hX8 : X < 8 := by omega
        have hX8i : (X : Int) < 8 := by omega
        have x0 := HCo.out X hX8
        by_cases hc : own d.L X = -1 ∨ own d.L X = (T : Int)
        · by_cases h6 : n = 60
          · have he : wrE d.L T X Y = 4 := by unfold wrE; rw [if_pos hok, if_neg (by rw [Int.toNat_natCast]; intro k; rcases hc with m | m; exact k.1 m; exact k.2 m), if_pos (by rw [HN.out]; exact h6)]
            rw [wrD_no (by rw [he]; decide), he]
            subst h6
            clear he hok ht hx hy
            rcases hc with hc | hc
            · rw [hc] at x0
              clear hc HN HCo HG HD
              go_enter Tryd.func15, Tryd.ntmps15
              go_wp2_with fail
              rw [HW1.out, HPR.out.1, HPR.out.2.1, HPR.out.2.2]
              refine Calls.mono (HI1.out w1) ?_
              rintro e w2 ⟨rfl, rfl⟩
              go_wp2_with (first
                | (go_at_call_of 24 (Value.int .i64 7); refine (HI2.out w1).mono ?_; rintro e w4 ⟨rfl, rfl⟩)
                | (go_at_call_of 24 (Value.int .i64 1000); refine (HI3.out w1).mono ?_; rintro e w4 ⟨rfl, rfl⟩))
              go_quiet (fail)
              go_wp2
              refine bodyPost_ret (v := .tuple #[.agg #[.slice (some ⟨bb, ob, none⟩) 8 cb, .slice (some ⟨bo, oo, none⟩) 8 co, .slice aw 60 cw], .int .i64 4]) ?_ rfl ?_
              · rw [results_cell2 rfl]
                go_simp
              · exact ⟨_, _, _, rfl, HE.out _ (by first | exact Below.refl _ _ | exact below_drew _ _ _) _ _ _⟩
            · rw [hc] at x0
              clear hc HN HCo HG HD
              go_enter Tryd.func15, Tryd.ntmps15
              go_wp2_with fail
              rw [HW1.out, HPR.out.1, HPR.out.2.1, HPR.out.2.2]
              refine Calls.mono (HI1.out w1) ?_
              rintro e w2 ⟨rfl, rfl⟩
              go_wp2_with (first
                | (go_at_call_of 24 (Value.int .i64 7); refine (HI2.out w1).mono ?_; rintro e w4 ⟨rfl, rfl⟩)
                | (go_at_call_of 24 (Value.int .i64 1000); refine (HI3.out w1).mono ?_; rintro e w4 ⟨rfl, rfl⟩))
              go_quiet (fail)
              go_wp2
              refine bodyPost_ret (v := .tuple #[.agg #[.slice (some ⟨bb, ob, none⟩) 8 cb, .slice (some ⟨bo, oo, none⟩) 8 co, .slice aw 60 cw], .int .i64 4]) ?_ rfl ?_
              · rw [results_cell2 rfl]
                go_simp
              · exact ⟨_, _, _, rfl, HE.out _ (by first | exact Below.refl _ _ | exact below_drew _ _ _) _ _ _⟩
          · have he : wrE d.L T X Y = 0 := wrE_nul hok (by rw [Int.toNat_natCast]; exact hc) (by rw [HN.out]; exact h6)
            have hdd := wrD_yes he
            simp only [Int.toNat_natCast] at hdd
            have HCb : Hid _ := HCbs.out X hX8
            generalize d.H X = HXv at hdd HCb
            rw [hdd, he]
            have h6i : ¬ (60 : Int) ≤ (n : Int) := by omega
            have HLo : Hid _ := lsO_put (y := HXv) hc
            clear he hdd hok ht hx hy
            rcases hc with hc | hc
            · rw [hc] at x0
              clear hc HCo HG
              go_enter Tryd.func15, Tryd.ntmps15
              go_wp2_with fail
              rw [HW1.out, HPR.out.1, HPR.out.2.1, HPR.out.2.2]
              refine Calls.mono (HI1.out w1) ?_
              rintro e w2 ⟨rfl, rfl⟩
              go_wp2_with (first
                | (go_at_call_of 24 (Value.int .i64 7); refine (HI2.out w1).mono ?_; rintro e w4 ⟨rfl, rfl⟩)
                | (go_at_call_of 24 (Value.int .i64 1000); refine (HI3.out w1).mono ?_; rintro e w4 ⟨rfl, rfl⟩))
              go_quiet (fail)
              generalize hW0 : World.drewN w1 _ = W0
              have B0 : Hid (Below w1.heap.size w1 W0) := by show Below _ _ _; rw [← hW0]; exact below_drew _ _ _
              clear hW0 u0 u1 u2 uf0 uf1 uf2 q0 q1 q2 qf0 qf1 qf2 y0 y1 y2 f0 f1 f2 x0
              have S0 : Hid _ := fun (_ : Nat) => HX0.out.later B0.out
              have HBw : Hid (Below w.heap.size w W0) := (S0.out 0).old HB1.out HP.out.1
              have HKw : Hid (∀ W, Below W0.heap.size W0 W → W.cell? ⟨Q, 0, none⟩ = some (.int .i64 (T : Int)) ∧ W.cell? ⟨Q, 1, none⟩ = some (.int .i64 (X : Int)) ∧ W.cell? ⟨P, 0, none⟩ = some (.slice (some ⟨bb, ob, none⟩) 8 cb) ∧ W.cell? ⟨bb, ob + X, none⟩ = some (.int .i64 (HXv : Int)) ∧ W.cell? ⟨P, 2, none⟩ = some (.slice aw n cw) ∧ W.frozen? ⟨P, 2, none⟩ = false) := fun W hW => by
                have h1 := (S0.out 0).later hW
                obtain ⟨m0, _, m2, _, _, mf2⟩ := h1.box.facts
                obtain ⟨k0, k1, _, _, _, _⟩ := (HQ1.out.stay h1.st HP.out.2.2.2.2.2).facts
                exact ⟨k0, k1, m0, HCb.out W (h1.old HB1.out HP.out.1), m2, mf2⟩
              obtain ⟨u0, u1, u2, uf0, uf1, uf2⟩ := (S0.out 0).box.facts
              obtain ⟨ti, hti, hz0, hz1, hz2⟩ := info_parts Tryd.info31
              go_wp2_with (at_builtin; refine wpList_append_puts (by rfl) (.tmp 48) (.tmp 50) (by rfl) W0.heap.size (.slice none 0 0) 0 [] (by rfl) (World.ownsRow_nil _ _ _ _) (.slice aw n cw) d.L (by rfl) (HD.out.n.later HBw.out) ?q1 ?q2 ?q3)
              case q1 => rw [HN.out]; omega
              case q2 => exact Nat.le_refl _
              case q3 =>
                intro v1 w4 hown hb
                have O4 : Hid (w4.ownsRow W0.heap.size 31 3 v1 n (ntc d.L)) := by show World.ownsRow _ _ _ _ _ _ _; first | exact hown | (simpa [HN.out] using hown)
                have B4 : Hid (Below W0.heap.size W0 w4) := hb
                clear hown hb u0 u1 u2 uf0 uf1 uf2
                obtain ⟨a1, c1, rfl⟩ := rown_form O4.out
                have O4d : Hid (w4.drew.ownsRow W0.heap.size 31 3 (.slice a1 n c1) n (ntc d.L)) := xown_later O4.out (below_drew1 _ _)
                have HKp : Hid (∀ W, Below w4.drew.heap.size w4.drew W → W.cell? ⟨Q, 0, none⟩ = some (.int .i64 (T : Int)) ∧ W.cell? ⟨Q, 1, none⟩ = some (.int .i64 (X : Int)) ∧ W.cell? ⟨P, 0, none⟩ = some (.slice (some ⟨bb, ob, none⟩) 8 cb) ∧ W.cell? ⟨bb, ob + X, none⟩ = some (.int .i64 (HXv : Int)) ∧ W.cell? ⟨P, 2, none⟩ = some (.slice aw n cw) ∧ W.frozen? ⟨P, 2, none⟩ = false) := fun W hW => HKw.out W (B4.out.trans ((undrew1 hW).mono B4.out.size))
                obtain ⟨q0, q1, u0, x0, u2, uf2⟩ := HKw.out w4 B4.out
                go_wp2_with fail
                refine wp_region_last (S := fun w' => w'.cell? ⟨Q, 0, none⟩ = some (.int .i64 (T : Int)) ∧ w'.cell? ⟨Q, 1, none⟩ = some (.int .i64 (X : Int)) ∧ w'.cell? ⟨P, 0, none⟩ = some (.slice (some ⟨bb, ob, none⟩) 8 cb) ∧ w'.cell? ⟨bb, ob + X, none⟩ = some (.int .i64 (HXv : Int)) ∧ w'.cell? ⟨P, 2, none⟩ = some (.slice aw n cw) ∧ w'.frozen? ⟨P, 2, none⟩ = false) 15 (by kernel_rfl) (by kernel_rfl) ?hs (fun hHeld => ?_)
                case hs => exact ⟨q0, q1, u0, x0, u2, uf2⟩
                refine held_take (i := 0) (v := ?_) rfl rfl (by kernel_rfl) (by kernel_rfl) (by kernel_rfl) (fun _ _ _ h => h) (Or.inl ⟨by rfl, ?_⟩) hHeld ?_
                rotate_left
                · (intro w hSw; (try dsimp only at hSw); go_simp; try with_reducible rfl)
                simp only [Act.put, List.setIfInBounds_toArray, List.set_cons_zero, List.set_cons_succ]
                refine held_take (i := 1) (v := ?_) rfl rfl (by kernel_rfl) (by kernel_rfl) (by kernel_rfl) (fun _ _ _ h => h) (Or.inl ⟨by rfl, ?_⟩) hHeld ?_
                rotate_left
                · (intro w hSw; (try dsimp only at hSw); go_simp; try with_reducible rfl)
                simp only [Act.put, List.setIfInBounds_toArray, List.set_cons_zero, List.set_cons_succ]
                refine held_take (i := 2) (v := ?_) rfl rfl (by kernel_rfl) (by kernel_rfl) (by kernel_rfl) (fun _ _ _ h => h) (Or.inl ⟨by rfl, ?_⟩) hHeld ?_
                rotate_left
                · (intro w hSw; (try dsimp only at hSw); go_simp; try with_reducible rfl)
                simp only [Act.put, List.setIfInBounds_toArray, List.set_cons_zero, List.set_cons_succ]
                refine held_take (i := 3) (v := ?_) rfl rfl (by kernel_rfl) (by kernel_rfl) (by kernel_rfl) (fun _ _ _ h => h) (Or.inl ⟨by rfl, ?_⟩) hHeld ?_
                rotate_left
                · (intro w hSw; (try dsimp only at hSw); go_simp; try with_reducible rfl)
                simp only [Act.put, List.setIfInBounds_toArray, List.set_cons_zero, List.set_cons_succ]
                refine held_take (i := 4) (v := ?_) rfl rfl (by kernel_rfl) (by kernel_rfl) (by kernel_rfl) (fun _ _ _ h => h) (Or.inl ⟨by rfl, ?_⟩) hHeld ?_
                rotate_left
                · (intro w hSw; (try dsimp only at hSw); go_simp; try with_reducible rfl)
                simp only [Act.put, List.setIfInBounds_toArray, List.set_cons_zero, List.set_cons_succ]
                refine held_take (i := 5) (v := ?_) rfl rfl (by kernel_rfl) (by kernel_rfl) (by kernel_rfl) (fun _ _ _ h => h) (Or.inl ⟨by rfl, ?_⟩) hHeld ?_
                rotate_left
                · (intro w hSw; (try dsimp only at hSw); go_simp; try with_reducible rfl)
                simp only [Act.put, List.setIfInBounds_toArray, List.set_cons_zero, List.set_cons_succ]
                refine held_take (i := 6) (v := ?_) rfl rfl (by kernel_rfl) (by kernel_rfl) (by kernel_rfl) (fun _ _ _ h => h) (Or.inl ⟨by rfl, ?_⟩) hHeld ?_
                rotate_left
                · (intro w hSw; (try dsimp only at hSw); go_simp; try with_reducible rfl)
                simp only [Act.put, List.setIfInBounds_toArray, List.set_cons_zero, List.set_cons_succ]
                refine held_take (i := 7) (v := ?_) rfl rfl (by kernel_rfl) (by kernel_rfl) (by kernel_rfl) (fun _ _ _ h => h) (Or.inl ⟨by rfl, ?_⟩) hHeld ?_
                rotate_left
                · (intro w hSw; (try dsimp only at hSw); go_simp; try with_reducible rfl)
                simp only [Act.put, List.setIfInBounds_toArray, List.set_cons_zero, List.set_cons_succ]
                refine held_take (i := 8) (v := ?_) rfl rfl (by kernel_rfl) (by kernel_rfl) (by kernel_rfl) (fun _ _ _ h => h) (Or.inl ⟨by rfl, ?_⟩) hHeld ?_
                rotate_left
                · (intro w hSw; (try dsimp only at hSw); go_simp; try with_reducible rfl)
                simp only [Act.put, List.setIfInBounds_toArray, List.set_cons_zero, List.set_cons_succ]
                refine held_take (i := 9) (v := ?_) rfl rfl (by kernel_rfl) (by kernel_rfl) (by kernel_rfl) (fun _ _ _ h => h) (Or.inl ⟨by rfl, ?_⟩) hHeld ?_
                rotate_left
                · (intro w hSw; (try dsimp only at hSw); go_simp; try with_reducible rfl)
                simp only [Act.put, List.setIfInBounds_toArray, List.set_cons_zero, List.set_cons_succ]
                refine held_take (i := 10) (v := ?_) rfl rfl (by kernel_rfl) (by kernel_rfl) (by kernel_rfl) (fun _ _ _ h => h) (Or.inl ⟨by rfl, ?_⟩) hHeld ?_
                rotate_left
                · (intro w hSw; (try dsimp only at hSw); go_simp; try with_reducible rfl)
                simp only [Act.put, List.setIfInBounds_toArray, List.set_cons_zero, List.set_cons_succ]
                refine held_take (i := 11) (v := ?_) rfl rfl (by kernel_rfl) (by kernel_rfl) (by kernel_rfl) (fun _ _ _ h => h) (Or.inl ⟨by rfl, ?_⟩) hHeld ?_
                rotate_left
                · (intro w hSw; (try dsimp only at hSw); go_simp; try with_reducible rfl)
                simp only [Act.put, List.setIfInBounds_toArray, List.set_cons_zero, List.set_cons_succ]
                refine wpAnyH_ready (rs := [12]) (by kernel_rfl) (by simp) ?_
                refine AllReadyH.cons rfl (fun K hK => ?_) AllReadyH.nil
                go_simp
                refine hK.out _ _ (HKp.out _ (below_one w4.drew _)) (fun hHeld => ?_)
                clear hK K
                refine wpAnyH_ready (rs := [13]) (by kernel_rfl) (by simp) ?_
                refine AllReadyH.cons rfl (fun K hK => ?_) AllReadyH.nil
                refine step_append_lies _ (by rfl) (.tmp 52) (.tmp 64) 37 (by rfl) W0.heap.size 31 ti (.agg #[.int .i64 0, .int .i64 0, .int .i64 0]) 3 24 Tryd.underlying37 hti hz0 hz1 hz2 rfl (by decide) (.slice a1 n c1) n (ntc d.L) (by rfl) (O4d.out.alloc _) ⟨w4.heap.size, 0, none⟩ 1 1 [.int .i64 (T : Int), .int .i64 (X : Int), .int .i64 (HXv : Int)] (by rfl) rfl (news_three w4.drew _ _ _ 31) (ones_three _ _ _) (by decide) (by unfold maxLen; omega) (by omega) (by have := B4.out.size; simp; omega) _ rfl ?_
                intro g2 cap2 w5 hown hgr hat hlt
                have hb5 : Below W0.heap.size W0 w5 := ((B4.out.trans (below_drew1 _ _)).alloc B4.out.size _).grown hgr (by have := B4.out.size; simp; omega) (fun k e => (O4d.out.lt k e).1)
                have B5 : Hid (Below W0.heap.size W0 w5) := hb5
                have O5 : Hid (w5.ownsRow W0.heap.size 31 3 (.slice (some ⟨g2, 0, none⟩) (n + 1) cap2) (d.L ++ [(⟨T, X, HXv⟩ : Nt)]).length (ntc (d.L ++ [(⟨T, X, HXv⟩ : Nt)]))) := by
                  show World.ownsRow _ _ _ _ _ _ _
                  rw [List.length_append, HN.out, ← ntc_snoc]
                  exact hown
                clear hown hgr hat hlt hb5
                refine hK.out _ _ (HKw.out _ B5.out) (fun hHeld => ?_)
                clear hK K
                refine held_take (i := 14) (v := ?_) rfl rfl (by kernel_rfl) (by kernel_rfl) (by kernel_rfl) (fun _ _ _ h => h) (Or.inl ⟨by rfl, ?_⟩) hHeld ?_
                rotate_left
                · (intro w hSw; (try dsimp only at hSw); go_simp; try with_reducible rfl)
                simp only [Act.put, List.setIfInBounds_toArray]
                refine wpAnyH_done (by kernel_rfl) ?_ _
                refine last_step rfl (fun K hK => ?_)
                go_simp
                refine hK _ _ ?_
                clear hK K
                have S6 : Hid _ := fun (_ : Nat) => (S0.out 0).setN HP.out.2.1 O5.out B5.out
                clear hHeld q0 q1 u0 x0 u2 uf2
                generalize World.setCell _ _ _ = W6 at S6 ⊢
                obtain ⟨u0, u1, u2, uf0, uf1, uf2⟩ := (S6.out 0).box.facts
                obtain ⟨q0, q1, q2, _, _, _⟩ := (HQ1.out.stay (S6.out 0).st HP.out.2.2.2.2.2).facts
                have hQP : Q ≠ P := HP.out.2.2.2.2.2
                have hPQ : P ≠ Q := fun e => hQP e.symm
                have HSet6 : Hid _ := fun (_ : Nat) => set_own W6 _ _ 8 X (Y : Int) ((S6.out 0).b.is (HD.out.b.later ((S6.out 0).old HB1.out HP.out.1))) (lst_len _) hX8 (by decide)
                rw [lst_put] at HSet6
                go_wp2_with fail
                refine (HSet6.out 0).mono ?_
                rintro e w7 ⟨g7, cap7, rfl, ho, hb⟩
                have S7 : Hid _ := fun (_ : Nat) => (S6.out 0).setB HP.out.2.1 ho hb
                clear u0 u1 u2 uf0 uf1 uf2 q0 q1 q2
                obtain ⟨u0, u1, u2, uf0, uf1, uf2⟩ := ((S6.out 0).later hb).box.facts
                obtain ⟨q0, q1, q2, _, _, _⟩ := (HQ1.out.stay ((S6.out 0).later hb).st HP.out.2.2.2.2.2).facts
                clear ho hb HSet6
                have HSet7 : Hid _ := fun (_ : Nat) => set_own (w7.setCell ⟨P, 0, none⟩ (.slice (some ⟨g7, 0, none⟩) 8 cap7)) _ _ 8 X (T : Int) ((S7.out 0).o.is (HD.out.o.later ((S7.out 0).old HB1.out HP.out.1))) (lsO_len _) hX8 (by decide)
                rw [HLo.out] at HSet7
                go_wp2_with fail
                refine (HSet7.out 0).mono ?_
                rintro e w8 ⟨g8, cap8, rfl, ho, hb⟩
                have S8 : Hid _ := fun (_ : Nat) => (S7.out 0).setO HP.out.2.1 ho hb
                clear u0 u1 u2 uf0 uf1 uf2 q0 q1 q2
                obtain ⟨u0, u1, u2, uf0, uf1, uf2⟩ := ((S7.out 0).later hb).box.facts
                clear ho hb HSet7
                obtain ⟨y0, y1, y2, f0, f1, f2⟩ := (HR1.out.stay (S8.out 0).st HP.out.2.2.2.2.1).facts
                go_wp2
                refine bodyPost_ret (v := .tuple #[.agg #[.slice (some ⟨g7, 0, none⟩) 8 cap7, .slice (some ⟨g8, 0, none⟩) 8 cap8, .slice (some ⟨g2, 0, none⟩) (n + 1) cap2], .int .i64 0]) ?_ rfl ?_
                · rw [results_cell2 rfl]
                  go_simp
                · exact ⟨_, _, _, rfl, (S8.out 0).end (d := d) (d' := ⟨putV d.H X Y, d.L ++ [⟨T, X, HXv⟩]⟩) HB1.out HP.out.1 HP.out.2.2.1 HP.out.2.2.2.1 _ _ _⟩
            · rw [hc] at x0
              clear hc HCo HG
              go_enter Tryd.func15, Tryd.ntmps15
              go_wp2_with fail
              rw [HW1.out, HPR.out.1, HPR.out.2.1, HPR.out.2.2]
              refine Calls.mono (HI1.out w1) ?_
              rintro e w2 ⟨rfl, rfl⟩
              go_wp2_with (first
                | (go_at_call_of 24 (Value.int .i64 7); refine (HI2.out w1).mono ?_; rintro e w4 ⟨rfl, rfl⟩)
                | (go_at_call_of 24 (Value.int .i64 1000); refine (HI3.out w1).mono ?_; rintro e w4 ⟨rfl, rfl⟩))
              go_quiet (fail)
              generalize hW0 : World.drewN w1 _ = W0
              have B0 : Hid (Below w1.heap.size w1 W0) := by show Below _ _ _; rw [← hW0]; exact below_drew _ _ _
              clear hW0 u0 u1 u2 uf0 uf1 uf2 q0 q1 q2 qf0 qf1 qf2 y0 y1 y2 f0 f1 f2 x0
              have S0 : Hid _ := fun (_ : Nat) => HX0.out.later B0.out
              have HBw : Hid (Below w.heap.size w W0) := (S0.out 0).old HB1.out HP.out.1
              have HKw : Hid (∀ W, Below W0.heap.size W0 W → W.cell? ⟨Q, 0, none⟩ = some (.int .i64 (T : Int)) ∧ W.cell? ⟨Q, 1, none⟩ = some (.int .i64 (X : Int)) ∧ W.cell? ⟨P, 0, none⟩ = some (.slice (some ⟨bb, ob, none⟩) 8 cb) ∧ W.cell? ⟨bb, ob + X, none⟩ = some (.int .i64 (HXv : Int)) ∧ W.cell? ⟨P, 2, none⟩ = some (.slice aw n cw) ∧ W.frozen? ⟨P, 2, none⟩ = false) := fun W hW => by
                have h1 := (S0.out 0).later hW
                obtain ⟨m0, _, m2, _, _, mf2⟩ := h1.box.facts
                obtain ⟨k0, k1, _, _, _, _⟩ := (HQ1.out.stay h1.st HP.out.2.2.2.2.2).facts
                exact ⟨k0, k1, m0, HCb.out W (h1.old HB1.out HP.out.1), m2, mf2⟩
              obtain ⟨u0, u1, u2, uf0, uf1, uf2⟩ := (S0.out 0).box.facts
              obtain ⟨ti, hti, hz0, hz1, hz2⟩ := info_parts Tryd.info31
              go_wp2_with (at_builtin; refine wpList_append_puts (by rfl) (.tmp 48) (.tmp 50) (by rfl) W0.heap.size (.slice none 0 0) 0 [] (by rfl) (World.ownsRow_nil _ _ _ _) (.slice aw n cw) d.L (by rfl) (HD.out.n.later HBw.out) ?q1 ?q2 ?q3)
              case q1 => rw [HN.out]; omega
              case q2 => exact Nat.le_refl _
              case q3 =>
                intro v1 w4 hown hb
                have O4 : Hid (w4.ownsRow W0.heap.size 31 3 v1 n (ntc d.L)) := by show World.ownsRow _ _ _ _ _ _ _; first | exact hown | (simpa [HN.out] using hown)
                have B4 : Hid (Below W0.heap.size W0 w4) := hb
                clear hown hb u0 u1 u2 uf0 uf1 uf2
                obtain ⟨a1, c1, rfl⟩ := rown_form O4.out
                have O4d : Hid (w4.drew.ownsRow W0.heap.size 31 3 (.slice a1 n c1) n (ntc d.L)) := xown_later O4.out (below_drew1 _ _)
                have HKp : Hid (∀ W, Below w4.drew.heap.size w4.drew W → W.cell? ⟨Q, 0, none⟩ = some (.int .i64 (T : Int)) ∧ W.cell? ⟨Q, 1, none⟩ = some (.int .i64 (X : Int)) ∧ W.cell? ⟨P, 0, none⟩ = some (.slice (some ⟨bb, ob, none⟩) 8 cb) ∧ W.cell? ⟨bb, ob + X, none⟩ = some (.int .i64 (HXv : Int)) ∧ W.cell? ⟨P, 2, none⟩ = some (.slice aw n cw) ∧ W.frozen? ⟨P, 2, none⟩ = false) := fun W hW => HKw.out W (B4.out.trans ((undrew1 hW).mono B4.out.size))
                obtain ⟨q0, q1, u0, x0, u2, uf2⟩ := HKw.out w4 B4.out
                go_wp2_with fail
                refine wp_region_last (S := fun w' => w'.cell? ⟨Q, 0, none⟩ = some (.int .i64 (T : Int)) ∧ w'.cell? ⟨Q, 1, none⟩ = some (.int .i64 (X : Int)) ∧ w'.cell? ⟨P, 0, none⟩ = some (.slice (some ⟨bb, ob, none⟩) 8 cb) ∧ w'.cell? ⟨bb, ob + X, none⟩ = some (.int .i64 (HXv : Int)) ∧ w'.cell? ⟨P, 2, none⟩ = some (.slice aw n cw) ∧ w'.frozen? ⟨P, 2, none⟩ = false) 15 (by kernel_rfl) (by kernel_rfl) ?hs (fun hHeld => ?_)
                case hs => exact ⟨q0, q1, u0, x0, u2, uf2⟩
                refine held_take (i := 0) (v := ?_) rfl rfl (by kernel_rfl) (by kernel_rfl) (by kernel_rfl) (fun _ _ _ h => h) (Or.inl ⟨by rfl, ?_⟩) hHeld ?_
                rotate_left
                · (intro w hSw; (try dsimp only at hSw); go_simp; try with_reducible rfl)
                simp only [Act.put, List.setIfInBounds_toArray, List.set_cons_zero, List.set_cons_succ]
                refine held_take (i := 1) (v := ?_) rfl rfl (by kernel_rfl) (by kernel_rfl) (by kernel_rfl) (fun _ _ _ h => h) (Or.inl ⟨by rfl, ?_⟩) hHeld ?_
                rotate_left
                · (intro w hSw; (try dsimp only at hSw); go_simp; try with_reducible rfl)
                simp only [Act.put, List.setIfInBounds_toArray, List.set_cons_zero, List.set_cons_succ]
                refine held_take (i := 2) (v := ?_) rfl rfl (by kernel_rfl) (by kernel_rfl) (by kernel_rfl) (fun _ _ _ h => h) (Or.inl ⟨by rfl, ?_⟩) hHeld ?_
                rotate_left
                · (intro w hSw; (try dsimp only at hSw); go_simp; try with_reducible rfl)
                simp only [Act.put, List.setIfInBounds_toArray, List.set_cons_zero, List.set_cons_succ]
                refine held_take (i := 3) (v := ?_) rfl rfl (by kernel_rfl) (by kernel_rfl) (by kernel_rfl) (fun _ _ _ h => h) (Or.inl ⟨by rfl, ?_⟩) hHeld ?_
                rotate_left
                · (intro w hSw; (try dsimp only at hSw); go_simp; try with_reducible rfl)
                simp only [Act.put, List.setIfInBounds_toArray, List.set_cons_zero, List.set_cons_succ]
                refine held_take (i := 4) (v := ?_) rfl rfl (by kernel_rfl) (by kernel_rfl) (by kernel_rfl) (fun _ _ _ h => h) (Or.inl ⟨by rfl, ?_⟩) hHeld ?_
                rotate_left
                · (intro w hSw; (try dsimp only at hSw); go_simp; try with_reducible rfl)
                simp only [Act.put, List.setIfInBounds_toArray, List.set_cons_zero, List.set_cons_succ]
                refine held_take (i := 5) (v := ?_) rfl rfl (by kernel_rfl) (by kernel_rfl) (by kernel_rfl) (fun _ _ _ h => h) (Or.inl ⟨by rfl, ?_⟩) hHeld ?_
                rotate_left
                · (intro w hSw; (try dsimp only at hSw); go_simp; try with_reducible rfl)
                simp only [Act.put, List.setIfInBounds_toArray, List.set_cons_zero, List.set_cons_succ]
                refine held_take (i := 6) (v := ?_) rfl rfl (by kernel_rfl) (by kernel_rfl) (by kernel_rfl) (fun _ _ _ h => h) (Or.inl ⟨by rfl, ?_⟩) hHeld ?_
                rotate_left
                · (intro w hSw; (try dsimp only at hSw); go_simp; try with_reducible rfl)
                simp only [Act.put, List.setIfInBounds_toArray, List.set_cons_zero, List.set_cons_succ]
                refine held_take (i := 7) (v := ?_) rfl rfl (by kernel_rfl) (by kernel_rfl) (by kernel_rfl) (fun _ _ _ h => h) (Or.inl ⟨by rfl, ?_⟩) hHeld ?_
                rotate_left
                · (intro w hSw; (try dsimp only at hSw); go_simp; try with_reducible rfl)
                simp only [Act.put, List.setIfInBounds_toArray, List.set_cons_zero, List.set_cons_succ]
                refine held_take (i := 8) (v := ?_) rfl rfl (by kernel_rfl) (by kernel_rfl) (by kernel_rfl) (fun _ _ _ h => h) (Or.inl ⟨by rfl, ?_⟩) hHeld ?_
                rotate_left
                · (intro w hSw; (try dsimp only at hSw); go_simp; try with_reducible rfl)
                simp only [Act.put, List.setIfInBounds_toArray, List.set_cons_zero, List.set_cons_succ]
                refine held_take (i := 9) (v := ?_) rfl rfl (by kernel_rfl) (by kernel_rfl) (by kernel_rfl) (fun _ _ _ h => h) (Or.inl ⟨by rfl, ?_⟩) hHeld ?_
                rotate_left
                · (intro w hSw; (try dsimp only at hSw); go_simp; try with_reducible rfl)
                simp only [Act.put, List.setIfInBounds_toArray, List.set_cons_zero, List.set_cons_succ]
                refine held_take (i := 10) (v := ?_) rfl rfl (by kernel_rfl) (by kernel_rfl) (by kernel_rfl) (fun _ _ _ h => h) (Or.inl ⟨by rfl, ?_⟩) hHeld ?_
                rotate_left
                · (intro w hSw; (try dsimp only at hSw); go_simp; try with_reducible rfl)
                simp only [Act.put, List.setIfInBounds_toArray, List.set_cons_zero, List.set_cons_succ]
                refine held_take (i := 11) (v := ?_) rfl rfl (by kernel_rfl) (by kernel_rfl) (by kernel_rfl) (fun _ _ _ h => h) (Or.inl ⟨by rfl, ?_⟩) hHeld ?_
                rotate_left
                · (intro w hSw; (try dsimp only at hSw); go_simp; try with_reducible rfl)
                simp only [Act.put, List.setIfInBounds_toArray, List.set_cons_zero, List.set_cons_succ]
                refine wpAnyH_ready (rs := [12]) (by kernel_rfl) (by simp) ?_
                refine AllReadyH.cons rfl (fun K hK => ?_) AllReadyH.nil
                go_simp
                refine hK.out _ _ (HKp.out _ (below_one w4.drew _)) (fun hHeld => ?_)
                clear hK K
                refine wpAnyH_ready (rs := [13]) (by kernel_rfl) (by simp) ?_
                refine AllReadyH.cons rfl (fun K hK => ?_) AllReadyH.nil
                refine step_append_lies _ (by rfl) (.tmp 52) (.tmp 64) 37 (by rfl) W0.heap.size 31 ti (.agg #[.int .i64 0, .int .i64 0, .int .i64 0]) 3 24 Tryd.underlying37 hti hz0 hz1 hz2 rfl (by decide) (.slice a1 n c1) n (ntc d.L) (by rfl) (O4d.out.alloc _) ⟨w4.heap.size, 0, none⟩ 1 1 [.int .i64 (T : Int), .int .i64 (X : Int), .int .i64 (HXv : Int)] (by rfl) rfl (news_three w4.drew _ _ _ 31) (ones_three _ _ _) (by decide) (by unfold maxLen; omega) (by omega) (by have := B4.out.size; simp; omega) _ rfl ?_
                intro g2 cap2 w5 hown hgr hat hlt
                have hb5 : Below W0.heap.size W0 w5 := ((B4.out.trans (below_drew1 _ _)).alloc B4.out.size _).grown hgr (by have := B4.out.size; simp; omega) (fun k e => (O4d.out.lt k e).1)
                have B5 : Hid (Below W0.heap.size W0 w5) := hb5
                have O5 : Hid (w5.ownsRow W0.heap.size 31 3 (.slice (some ⟨g2, 0, none⟩) (n + 1) cap2) (d.L ++ [(⟨T, X, HXv⟩ : Nt)]).length (ntc (d.L ++ [(⟨T, X, HXv⟩ : Nt)]))) := by
                  show World.ownsRow _ _ _ _ _ _ _
                  rw [List.length_append, HN.out, ← ntc_snoc]
                  exact hown
                clear hown hgr hat hlt hb5
                refine hK.out _ _ (HKw.out _ B5.out) (fun hHeld => ?_)
                clear hK K
                refine held_take (i := 14) (v := ?_) rfl rfl (by kernel_rfl) (by kernel_rfl) (by kernel_rfl) (fun _ _ _ h => h) (Or.inl ⟨by rfl, ?_⟩) hHeld ?_
                rotate_left
                · (intro w hSw; (try dsimp only at hSw); go_simp; try with_reducible rfl)
                simp only [Act.put, List.setIfInBounds_toArray]
                refine wpAnyH_done (by kernel_rfl) ?_ _
                refine last_step rfl (fun K hK => ?_)
                go_simp
                refine hK _ _ ?_
                clear hK K
                have S6 : Hid _ := fun (_ : Nat) => (S0.out 0).setN HP.out.2.1 O5.out B5.out
                clear hHeld q0 q1 u0 x0 u2 uf2
                generalize World.setCell _ _ _ = W6 at S6 ⊢
                obtain ⟨u0, u1, u2, uf0, uf1, uf2⟩ := (S6.out 0).box.facts
                obtain ⟨q0, q1, q2, _, _, _⟩ := (HQ1.out.stay (S6.out 0).st HP.out.2.2.2.2.2).facts
                have hQP : Q ≠ P := HP.out.2.2.2.2.2
                have hPQ : P ≠ Q := fun e => hQP e.symm
                have HSet6 : Hid _ := fun (_ : Nat) => set_own W6 _ _ 8 X (Y : Int) ((S6.out 0).b.is (HD.out.b.later ((S6.out 0).old HB1.out HP.out.1))) (lst_len _) hX8 (by decide)
                rw [lst_put] at HSet6
                go_wp2_with fail
                refine (HSet6.out 0).mono ?_
                rintro e w7 ⟨g7, cap7, rfl, ho, hb⟩
                have S7 : Hid _ := fun (_ : Nat) => (S6.out 0).setB HP.out.2.1 ho hb
                clear u0 u1 u2 uf0 uf1 uf2 q0 q1 q2
                obtain ⟨u0, u1, u2, uf0, uf1, uf2⟩ := ((S6.out 0).later hb).box.facts
                obtain ⟨q0, q1, q2, _, _, _⟩ := (HQ1.out.stay ((S6.out 0).later hb).st HP.out.2.2.2.2.2).facts
                clear ho hb HSet6
                have HSet7 : Hid _ := fun (_ : Nat) => set_own (w7.setCell ⟨P, 0, none⟩ (.slice (some ⟨g7, 0, none⟩) 8 cap7)) _ _ 8 X (T : Int) ((S7.out 0).o.is (HD.out.o.later ((S7.out 0).old HB1.out HP.out.1))) (lsO_len _) hX8 (by decide)
                rw [HLo.out] at HSet7
                go_wp2_with fail
                refine (HSet7.out 0).mono ?_
                rintro e w8 ⟨g8, cap8, rfl, ho, hb⟩
                have S8 : Hid _ := fun (_ : Nat) => (S7.out 0).setO HP.out.2.1 ho hb
                clear u0 u1 u2 uf0 uf1 uf2 q0 q1 q2
                obtain ⟨u0, u1, u2, uf0, uf1, uf2⟩ := ((S7.out 0).later hb).box.facts
                clear ho hb HSet7
                obtain ⟨y0, y1, y2, f0, f1, f2⟩ := (HR1.out.stay (S8.out 0).st HP.out.2.2.2.2.1).facts
                go_wp2
                refine bodyPost_ret (v := .tuple #[.agg #[.slice (some ⟨g7, 0, none⟩) 8 cap7, .slice (some ⟨g8, 0, none⟩) 8 cap8, .slice (some ⟨g2, 0, none⟩) (n + 1) cap2], .int .i64 0]) ?_ rfl ?_
                · rw [results_cell2 rfl]
                  go_simp
                · exact ⟨_, _, _, rfl, (S8.out 0).end (d := d) (d' := ⟨putV d.H X Y, d.L ++ [⟨T, X, HXv⟩]⟩) HB1.out HP.out.1 HP.out.2.2.1 HP.out.2.2.2.1 _ _ _⟩
        · have he : wrE d.L T X Y = 6 := by unfold wrE; rw [if_pos hok, if_pos (by rw [Int.toNat_natCast]; exact ⟨fun m => hc (.inl m), fun m => hc (.inr m)⟩)]
          rw [wrD_no (by rw [he]; decide), he]
          have ho0 : 0 ≤ own d.L X := by rcases own_low (L := d.L) (b := X) with m | m; exact absurd (.inl m) hc; exact m
          have hne : (own d.L X != (T : Int)) = true := by simp only [bne_iff_ne]; exact fun m => hc (.inr m)
          generalize own d.L X = ow at x0 ho0 hne
          clear he hok ht hx hy hc HN HCo HG HD
          go_enter Tryd.func15, Tryd.ntmps15
          go_wp2_with fail
          rw [HW1.out, HPR.out.1, HPR.out.2.1, HPR.out.2.2]
          refine Calls.mono (HI1.out w1) ?_
          rintro e w2 ⟨rfl, rfl⟩
          go_wp2_with (first
            | (go_at_call_of 24 (Value.int .i64 7); refine (HI2.out w1).mono ?_; rintro e w4 ⟨rfl, rfl⟩)
            | (go_at_call_of 24 (Value.int .i64 1000); refine (HI3.out w1).mono ?_; rintro e w4 ⟨rfl, rfl⟩))
          go_quiet (fail)
          go_wp2
          refine bodyPost_ret (v := .tuple #[.agg #[.slice (some ⟨bb, ob, none⟩) 8 cb, .slice (some ⟨bo, oo, none⟩) 8 co, .slice aw n cw], .int .i64 6]) ?_ rfl ?_
          · rw [results_cell2 rfl]
            go_simp
          · exact ⟨_, _, _, rfl, HE.out _ (by first | exact Below.refl _ _ | exact below_drew _ _ _) _ _ _⟩
      · have HI3 : Hid _ := fun (W : World) => rin_no y 0 1000 W hy
        have he : wrE d.L t x y = 1 := if_neg fun k => by have := okP_iff.1 k; omega
        rw [wrD_no (by rw [he]; decide), he]
        clear he ht hx hy HN HCo HG HD
        go_enter Tryd.func15, Tryd.ntmps15
        go_wp2_with fail
        rw [HW1.out, HPR.out.1, HPR.out.2.1, HPR.out.2.2]
        refine Calls.mono (HI1.out w1) ?_
        rintro e w2 ⟨rfl, rfl⟩
        go_wp2_with (first
          | (go_at_call_of 24 (Value.int .i64 7); refine (HI2.out w1).mono ?_; rintro e w4 ⟨rfl, rfl⟩)
          | (go_at_call_of 24 (Value.int .i64 1000); refine (HI3.out w1).mono ?_; rintro e w4 ⟨rfl, rfl⟩))
        refine bodyPost_ret (v := .tuple #[.agg #[.slice (some ⟨bb, ob, none⟩) 8 cb, .slice (some ⟨bo, oo, none⟩) 8 co, .slice aw n cw], .int .i64 1]) ?_ rfl ?_
        · rw [results_cell2 rfl]
          go_simp
        · exact ⟨_, _, _, rfl, HE.out _ (by first | exact Below.refl _ _ | exact below_drew _ _ _) _ _ _⟩
    · have HI2 : Hid _ := fun (W : World) => rin_no x 0 7 W hx
      have he : wrE d.L t x y = 1 := if_neg fun k => by have := okP_iff.1 k; omega
      rw [wrD_no (by rw [he]; decide), he]
      clear he ht hx HN HCo HG HD
      go_enter Tryd.func15, Tryd.ntmps15
      go_wp2_with fail
      rw [HW1.out, HPR.out.1, HPR.out.2.1, HPR.out.2.2]
      refine Calls.mono (HI1.out w1) ?_
      rintro e w2 ⟨rfl, rfl⟩
      go_wp2_with (first
        | (go_at_call_of 24 (Value.int .i64 7); refine (HI2.out w1).mono ?_; rintro e w4 ⟨rfl, rfl⟩)
        | (go_at_call_of 24 (Value.int .i64 1000); refine (HI3.out w1).mono ?_; rintro e w4 ⟨rfl, rfl⟩))
      refine bodyPost_ret (v := .tuple #[.agg #[.slice (some ⟨bb, ob, none⟩) 8 cb, .slice (some ⟨bo, oo, none⟩) 8 co, .slice aw n cw], .int .i64 1]) ?_ rfl ?_
      · rw [results_cell2 rfl]
        go_simp
      · exact ⟨_, _, _, rfl, HE.out _ (by first | exact Below.refl _ _ | exact below_drew _ _ _) _ _ _⟩
  · have HI1 : Hid _ := fun (W : World) => rin_no t 0 19 W ht
    have he : wrE d.L t x y = 1 := if_neg fun k => by have := okP_iff.1 k; omega
    rw [wrD_no (by rw [he]; decide), he]
    clear he ht HN HCo HG HD
    go_enter Tryd.func15, Tryd.ntmps15
    go_wp2_with fail
    rw [HW1.out, HPR.out.1, HPR.out.2.1, HPR.out.2.2]
    refine Calls.mono (HI1.out w1) ?_
    rintro e w2 ⟨rfl, rfl⟩
    go_wp2_with (first
      | (go_at_call_of 24 (Value.int .i64 7); refine (HI2.out w1).mono ?_; rintro e w4 ⟨rfl, rfl⟩)
      | (go_at_call_of 24 (Value.int .i64 1000); refine (HI3.out w1).mono ?_; rintro e w4 ⟨rfl, rfl⟩))
    refine bodyPost_ret (v := .tuple #[.agg #[.slice (some ⟨bb, ob, none⟩) 8 cb, .slice (some ⟨bo, oo, none⟩) 8 co, .slice aw n cw], .int .i64 1]) ?_ rfl ?_
    · rw [results_cell2 rfl]
      go_simp
    · exact ⟨_, _, _, rfl, HE.out _ (by first | exact Below.refl _ _ | exact below_drew _ _ _) _ _ _⟩

end Go.Proofs.YtkpfieemkjfjkaaDoor
