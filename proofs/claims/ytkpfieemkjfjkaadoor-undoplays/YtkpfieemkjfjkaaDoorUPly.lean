/- This text proves that platterholdlaw2.UndoPlays returns true for any rows, and lets all old memory be; the conditions: the rows lie there, and the library's variable errors.errorType holds what the program's own text lays. -/
import Derived.Test.YtkpfieemkjfjkaaDoorUD6
import Derived.Deep.DeepCutAuto
import Derived.Deep.CutBlock
import Derived.Laws.OwnMore
namespace Go.Proofs.YtkpfieemkjfjkaaDoor
open Go.RowKit Go.Deep Go.Maps

set_option maxHeartbeats 64000000 in
set_option maxRecDepth 100000 in
theorem undoPlays_any (w : World) (v0 : Value) (rs : List (List Int)) (hr : RowsIs w v0 rs) (hL : Laid w) :
    Calls Tryd.prog 4 #[v0] w fun e w' => e = .returned (.bool true) ∧ Below w.heap.size w w' := by
  have HR : Hid (RowsIs w v0 rs) := hr
  have HL : Hid (Laid w) := hL
  obtain ⟨a, c, hv, hl, _⟩ := hr
  obtain ⟨n, hn⟩ : ∃ n, n = rs.length := ⟨_, rfl⟩
  rw [← hn] at hv hl
  unfold maxLen at hl
  subst hv
  clear hn hL
  go_enter Tryd.func4, Tryd.ntmps4
  go_wp2_with fail
  refine (new_any _).mono ?_
  rintro e w1 ⟨rfl, hT, hb⟩
  have ST0 : Hid (OnU w w1 w.heap.size (.slice none 0 0) ud0) := ⟨hT, hb⟩
  clear hT hb
  unfold ptrU
  go_wp2_with fail
  refine (r2new_any w1).mono ?_
  rintro e w2 ⟨vb0, vo0, rfl, hD2, hO2, hb2⟩
  have ST1 : Hid _ := fun (_ : Nat) => PlU.new ST0.out hD2 hO2 hb2
  obtain ⟨a0, c0, rfl⟩ := rown_form hD2
  obtain ⟨a1, c1, rfl⟩ := rown_form hO2
  clear hD2 hO2 hb2
  go_wp2
  generalize w2.alloc _ = w3 at ST1 ⊢
  generalize w2.heap.size = X at ST1 ⊢
  generalize w.heap.size = g at ST1 ⊢
  have ST2 : Hid (∃ v vb vo vw d, PlU w w3 g v X vb vo vw d d) := ⟨_, _, _, _, _, ST1.out 0⟩
  clear ST0 ST1
  go_loopw [5] (fun i wr => ∃ k, k ≤ 80 ∧ i = .int .i64 ((k : Nat) : Int) ∧ ∃ v vb vo vw d, PlU w wr g v X vb vo vw d d) (fun i _ => 80 - (Go.RowKit.intOf i).toNat)
  case atStart => exact ⟨0, by omega, rfl, ST2.out⟩
  case round =>
    obtain ⟨k, hk, rfl, v, vb, vo, vw, d, hst⟩ := hrel
    have ST : Hid (PlU w wr g v X vb vo vw d d) := hst
    clear hst ST2
    by_cases hlt : k < n
    · have hl1 : (k : Int) < (n : Int) := by omega
      by_cases hs : k < 80
      · have hs1 : (k : Int) < 80 := by omega
        obtain ⟨bb, o, vr, ha, hbs, hck, hsk⟩ := HR.out.row k hlt
        subst ha
        have HSK : Hid (SliceIs w vr (rowAt rs k)) := hsk
        have hc0 : wr.cell? ⟨bb, o + k, none⟩ = some vr := by rw [ST.out.on.old.cell (p := ⟨bb, o + k, none⟩) hbs]; exact hck
        obtain ⟨a1, c1, hv1, _, _⟩ := hsk
        obtain ⟨z, hz⟩ : ∃ z, z = (rowAt rs k).length := ⟨_, rfl⟩
        have HZ : Hid (z = (rowAt rs k).length) := hz
        rw [← hz] at hv1
        subst hv1
        clear hck hz
        have hbox := ST.out.box
        obtain ⟨ab, cb, ao, co, aw, cw, rfl, rfl, rfl⟩ := ST.out.doc.is.form
        obtain ⟨x0, x1, x2, f0, f1, f2⟩ := hbox.facts
        have h60 : d.L.length ≤ 60 := ST.out.on.disk.good.len
        obtain ⟨NL, hNL⟩ : ∃ NL, NL = d.L.length := ⟨_, rfl⟩
        have HNL : Hid (NL = d.L.length) := hNL
        rw [← hNL] at ST hbox x2 h60
        have HB0 : Hid (Box3 wr X (.slice ab 8 cb) (.slice ao 8 co) (.slice aw NL cw)) := hbox
        clear hbox hNL
        go_upto_block 2 with fail
        go_cut [7, 8] (fun e err wx => ∃ (c : Nat) (v' vb' vo' vw' : Value) (d' : Ud), e = .int .i64 (c : Int) ∧ err = errV c ∧ PlU w wx g v' X vb' vo' vw' d' d')
        case first =>
          by_cases h1 : z = 1
          · subst h1
            obtain ⟨b1, o1, c2, hv2, hb1, hx⟩ := row_cells HSK.out HZ.out.symm (by omega)
            cases hv2
            have HX : Hid (∀ w2, Below w.heap.size w w2 → w2.cell? ⟨b1, o1, none⟩ = some (.int .i64 (nth (rowAt rs k) 0))) := fun w2 h => by rw [h.cell (p := ⟨b1, o1, none⟩) hb1]; exact hx 0 (by omega)
            clear hx hc0
            generalize nth (rowAt rs k) 0 = X0 at HX
            have r0 := HX.out wr ST.out.on.old
            have STd : Hid (PlU w wr.drew g v X (.slice ab 8 cb) (.slice ao 8 co) (.slice aw NL cw) d d) := ST.out.later (below_drew1 _ _)
            have HRo : Hid _ := fun (_ : Nat) => leave_any wr.drew _ _ _ d STd.out.doc.is STd.out.on.disk.good X0 false
            go_wp2_with fail
            refine wp_region_held_drew (S := fun w' => w'.cell? ⟨b1, o1, none⟩ = some (.int .i64 X0)) (by kernel_rfl) ?hs (fun hHeld => ?_)
            case hs => exact r0
            refine held_take (i := 1) (v := ?_) rfl rfl (by kernel_rfl) (by kernel_rfl) (by kernel_rfl) (fun _ _ _ h => h) (Or.inl ⟨by rfl, ?_⟩) hHeld ?_
            rotate_left
            · (intro w hSw; (try dsimp only at hSw); go_simp; try with_reducible rfl)
            simp only [Act.put, List.setIfInBounds_toArray, List.set_cons_zero, List.set_cons_succ]
            refine held_take (i := 2) (v := ?_) rfl rfl (by kernel_rfl) (by kernel_rfl) (by kernel_rfl) (fun _ _ _ h => h) (Or.inl ⟨by rfl, ?_⟩) hHeld ?_
            rotate_left
            · (intro w hSw; (try dsimp only at hSw); go_simp; try with_reducible rfl)
            simp only [Act.put, List.setIfInBounds_toArray, List.set_cons_zero, List.set_cons_succ]
            refine held_take (i := 3) (v := ?_) rfl rfl (by kernel_rfl) (by kernel_rfl) (by kernel_rfl) (fun _ _ _ h => h) (Or.inl ⟨by rfl, ?_⟩) hHeld ?_
            rotate_left
            · (intro w hSw; (try dsimp only at hSw); go_simp; try with_reducible rfl)
            simp only [Act.put, List.setIfInBounds_toArray, List.set_cons_zero, List.set_cons_succ]
            refine wpAnyH_ready (rs := [0]) (by kernel_rfl) (by simp) ?_
            refine AllReadyH.cons rfl (fun K hK => ?_) AllReadyH.nil
            go_simp
            refine hK.out _ _ (hHeld) (fun hHeld => ?_)
            clear hK K
            refine wpAnyH_ready (rs := [4]) (by kernel_rfl) (by simp) ?_
            refine AllReadyH.cons rfl (fun K hK => ?_) AllReadyH.nil
            go_simp
            go_at_call 13
            refine (HRo.out 0).mono ?_
            rintro e w2 ⟨vb', vo', vw', rfl, hnx⟩
            obtain ⟨ab', cb', ao', co', aw', cw', rfl, rfl, rfl⟩ := (hnx.doc STd.out.doc.is).form
            have hBx := (HB0.out.later (below_drew1 _ _)).later hnx.old
            obtain ⟨q0, q1, q2, g0, g1, g2⟩ := hBx.facts
            have hM2 := STd.out.docs hnx
            have hb2 := hnx.old
            go_simp
            refine hK.out _ _ (HX.out _ (STd.out.later hb2).on.old) (fun hHeld => ?_)
            clear hK K
            refine held_take (i := 5) (v := ?_) rfl rfl (by kernel_rfl) (by kernel_rfl) (by kernel_rfl) (fun _ _ _ h => h) (Or.inl ⟨by rfl, ?_⟩) hHeld ?_
            rotate_left
            · (intro w hSw; (try dsimp only at hSw); go_simp; try with_reducible rfl)
            simp only [Act.put, List.setIfInBounds_toArray, List.set_cons_zero, List.set_cons_succ]
            refine held_take (i := 6) (v := ?_) rfl rfl (by kernel_rfl) (by kernel_rfl) (by kernel_rfl) (fun _ _ _ h => h) (Or.inl ⟨by rfl, ?_⟩) hHeld ?_
            rotate_left
            · (intro w hSw; (try dsimp only at hSw); go_simp; try with_reducible rfl)
            simp only [Act.put, List.setIfInBounds_toArray, List.set_cons_zero, List.set_cons_succ]
            refine held_take (i := 7) (v := ?_) rfl rfl (by kernel_rfl) (by kernel_rfl) (by kernel_rfl) (fun _ _ _ h => h) (Or.inl ⟨by rfl, ?_⟩) hHeld ?_
            rotate_left
            · (intro w hSw; (try dsimp only at hSw); go_simp; try with_reducible rfl)
            simp only [Act.put, List.setIfInBounds_toArray, List.set_cons_zero, List.set_cons_succ]
            refine wpAnyH_ready (rs := [8]) (by kernel_rfl) (by simp) ?_
            refine AllReadyH.cons rfl (fun K hK => ?_) AllReadyH.nil
            go_simp
            refine hK.out _ _ (HX.out _ hM2.on.old) (fun hHeld => ?_)
            clear hK K
            refine held_take (i := 9) (v := ?_) rfl rfl (by kernel_rfl) (by kernel_rfl) (by kernel_rfl) (fun _ _ _ h => h) (Or.inl ⟨by rfl, ?_⟩) hHeld ?_
            rotate_left
            · (intro w hSw; (try dsimp only at hSw); go_simp; try with_reducible rfl)
            simp only [Act.put, List.setIfInBounds_toArray, List.set_cons_zero, List.set_cons_succ]
            refine wpAnyH_done (by kernel_rfl) ?_ _
            have HM3 : Hid _ := fun (_ : Nat) => hM2
            clear hM2 hBx hnx hb2 q0 q1 q2 g0 g1 g2 x0 x1 x2 f0 f1 f2 r0
            generalize World.setCell _ _ _ = w3 at HM3 ⊢
            have r3 := HX.out w3 (HM3.out 0).on.old
            have HCu : Hid _ := fun (_ : Nat) => end_any w3 _ g v d (HM3.out 0).on.disk X0
            unfold ptrU at HCu
            clear hHeld
            go_wp2_with fail
            refine (HCu.out 0).mono ?_
            rintro e w4 ⟨rfl, v4, hst4⟩
            have HM4 : Hid _ := fun (_ : Nat) => (HM3.out 0).prog hst4
            clear hst4 r3 HCu
            go_wp2
            go_meet
            case rel => exact ⟨enE X0, _, _, _, _, _, rfl, rfl, HM4.out 0⟩
          · have b1 : ((z : Int) == 1) = false := by simp; omega
            by_cases h2 : z = 2
            · subst h2
              obtain ⟨b1, o1, c2, hv2, hb1, hx⟩ := row_cells HSK.out HZ.out.symm (by omega)
              cases hv2
              have HX : Hid (∀ w2, Below w.heap.size w w2 → w2.cell? ⟨b1, o1, none⟩ = some (.int .i64 (nth (rowAt rs k) 0))) := fun w2 h => by rw [h.cell (p := ⟨b1, o1, none⟩) hb1]; exact hx 0 (by omega)
              clear hx hc0
              generalize nth (rowAt rs k) 0 = X0 at HX
              have r0 := HX.out wr ST.out.on.old
              have STd : Hid (PlU w wr.drew g v X (.slice ab 8 cb) (.slice ao 8 co) (.slice aw NL cw) d d) := ST.out.later (below_drew1 _ _)
              have HRo : Hid _ := fun (_ : Nat) => leave_any wr.drew _ _ _ d STd.out.doc.is STd.out.on.disk.good X0 true
              go_wp2_with fail
              refine wp_region_held_drew (S := fun w' => w'.cell? ⟨b1, o1, none⟩ = some (.int .i64 X0)) (by kernel_rfl) ?hs (fun hHeld => ?_)
              case hs => exact r0
              refine held_take (i := 1) (v := ?_) rfl rfl (by kernel_rfl) (by kernel_rfl) (by kernel_rfl) (fun _ _ _ h => h) (Or.inl ⟨by rfl, ?_⟩) hHeld ?_
              rotate_left
              · (intro w hSw; (try dsimp only at hSw); go_simp; try with_reducible rfl)
              simp only [Act.put, List.setIfInBounds_toArray, List.set_cons_zero, List.set_cons_succ]
              refine held_take (i := 2) (v := ?_) rfl rfl (by kernel_rfl) (by kernel_rfl) (by kernel_rfl) (fun _ _ _ h => h) (Or.inl ⟨by rfl, ?_⟩) hHeld ?_
              rotate_left
              · (intro w hSw; (try dsimp only at hSw); go_simp; try with_reducible rfl)
              simp only [Act.put, List.setIfInBounds_toArray, List.set_cons_zero, List.set_cons_succ]
              refine held_take (i := 3) (v := ?_) rfl rfl (by kernel_rfl) (by kernel_rfl) (by kernel_rfl) (fun _ _ _ h => h) (Or.inl ⟨by rfl, ?_⟩) hHeld ?_
              rotate_left
              · (intro w hSw; (try dsimp only at hSw); go_simp; try with_reducible rfl)
              simp only [Act.put, List.setIfInBounds_toArray, List.set_cons_zero, List.set_cons_succ]
              refine wpAnyH_ready (rs := [0]) (by kernel_rfl) (by simp) ?_
              refine AllReadyH.cons rfl (fun K hK => ?_) AllReadyH.nil
              go_simp
              refine hK.out _ _ (hHeld) (fun hHeld => ?_)
              clear hK K
              refine wpAnyH_ready (rs := [4]) (by kernel_rfl) (by simp) ?_
              refine AllReadyH.cons rfl (fun K hK => ?_) AllReadyH.nil
              go_simp
              go_at_call 13
              refine (HRo.out 0).mono ?_
              rintro e w2 ⟨vb', vo', vw', rfl, hnx⟩
              obtain ⟨ab', cb', ao', co', aw', cw', rfl, rfl, rfl⟩ := (hnx.doc STd.out.doc.is).form
              have hBx := (HB0.out.later (below_drew1 _ _)).later hnx.old
              obtain ⟨q0, q1, q2, g0, g1, g2⟩ := hBx.facts
              have hM2 := STd.out.docs hnx
              have hb2 := hnx.old
              go_simp
              refine hK.out _ _ (HX.out _ (STd.out.later hb2).on.old) (fun hHeld => ?_)
              clear hK K
              refine held_take (i := 5) (v := ?_) rfl rfl (by kernel_rfl) (by kernel_rfl) (by kernel_rfl) (fun _ _ _ h => h) (Or.inl ⟨by rfl, ?_⟩) hHeld ?_
              rotate_left
              · (intro w hSw; (try dsimp only at hSw); go_simp; try with_reducible rfl)
              simp only [Act.put, List.setIfInBounds_toArray, List.set_cons_zero, List.set_cons_succ]
              refine held_take (i := 6) (v := ?_) rfl rfl (by kernel_rfl) (by kernel_rfl) (by kernel_rfl) (fun _ _ _ h => h) (Or.inl ⟨by rfl, ?_⟩) hHeld ?_
              rotate_left
              · (intro w hSw; (try dsimp only at hSw); go_simp; try with_reducible rfl)
              simp only [Act.put, List.setIfInBounds_toArray, List.set_cons_zero, List.set_cons_succ]
              refine held_take (i := 7) (v := ?_) rfl rfl (by kernel_rfl) (by kernel_rfl) (by kernel_rfl) (fun _ _ _ h => h) (Or.inl ⟨by rfl, ?_⟩) hHeld ?_
              rotate_left
              · (intro w hSw; (try dsimp only at hSw); go_simp; try with_reducible rfl)
              simp only [Act.put, List.setIfInBounds_toArray, List.set_cons_zero, List.set_cons_succ]
              refine wpAnyH_ready (rs := [8]) (by kernel_rfl) (by simp) ?_
              refine AllReadyH.cons rfl (fun K hK => ?_) AllReadyH.nil
              go_simp
              refine hK.out _ _ (HX.out _ hM2.on.old) (fun hHeld => ?_)
              clear hK K
              refine held_take (i := 9) (v := ?_) rfl rfl (by kernel_rfl) (by kernel_rfl) (by kernel_rfl) (fun _ _ _ h => h) (Or.inl ⟨by rfl, ?_⟩) hHeld ?_
              rotate_left
              · (intro w hSw; (try dsimp only at hSw); go_simp; try with_reducible rfl)
              simp only [Act.put, List.setIfInBounds_toArray, List.set_cons_zero, List.set_cons_succ]
              refine wpAnyH_done (by kernel_rfl) ?_ _
              have HM3 : Hid _ := fun (_ : Nat) => hM2
              clear hM2 hBx hnx hb2 q0 q1 q2 g0 g1 g2 x0 x1 x2 f0 f1 f2 r0
              generalize World.setCell _ _ _ = w3 at HM3 ⊢
              have r3 := HX.out w3 (HM3.out 0).on.old
              have HCu : Hid _ := fun (_ : Nat) => undo_any w3 _ g v d (HM3.out 0).on.disk X0
              unfold ptrU at HCu
              clear hHeld
              go_wp2_with fail
              refine (HCu.out 0).mono ?_
              rintro e w4 ⟨rfl, v4, hst4⟩
              have HM4 : Hid _ := fun (_ : Nat) => (HM3.out 0).prog hst4
              clear hst4 r3 HCu
              go_wp2
              go_meet
              case rel => exact ⟨enE X0, _, _, _, _, _, rfl, rfl, HM4.out 0⟩
            · have b2 : ((z : Int) == 2) = false := by simp; omega
              by_cases h3 : z = 3
              · subst h3
                obtain ⟨b1, o1, c2, hv2, hb1, hx⟩ := row_cells HSK.out HZ.out.symm (by omega)
                cases hv2
                have HX : Hid (∀ w2, Below w.heap.size w w2 → w2.cell? ⟨b1, o1, none⟩ = some (.int .i64 (nth (rowAt rs k) 0)) ∧ w2.cell? ⟨b1, o1 + 1, none⟩ = some (.int .i64 (nth (rowAt rs k) 1)) ∧ w2.cell? ⟨b1, o1 + 2, none⟩ = some (.int .i64 (nth (rowAt rs k) 2))) := fun w2 h => ⟨by rw [h.cell (p := ⟨b1, o1, none⟩) hb1]; exact hx 0 (by omega), by rw [h.cell (p := ⟨b1, o1 + 1, none⟩) hb1]; exact hx 1 (by omega), by rw [h.cell (p := ⟨b1, o1 + 2, none⟩) hb1]; exact hx 2 (by omega)⟩
                clear hx hc0
                generalize nth (rowAt rs k) 0 = X0 at HX
                generalize nth (rowAt rs k) 1 = X1 at HX
                generalize nth (rowAt rs k) 2 = X2 at HX
                obtain ⟨r0, r1, r2⟩ := HX.out wr ST.out.on.old
                have HXa : Hid (∀ o, (wr.drew.alloc o).cell? ⟨b1, o1, none⟩ = some (.int .i64 X0) ∧ (wr.drew.alloc o).cell? ⟨b1, o1 + 1, none⟩ = some (.int .i64 X1) ∧ (wr.drew.alloc o).cell? ⟨b1, o1 + 2, none⟩ = some (.int .i64 X2)) := fun o => HX.out _ (((ST.out.later (below_drew1 _ _)).later (below_one _ _)).on.old)
                go_wp2_with fail
                go_region_held3 (fun w' => w'.cell? ⟨b1, o1, none⟩ = some (.int .i64 X0) ∧ w'.cell? ⟨b1, o1 + 1, none⟩ = some (.int .i64 X1) ∧ w'.cell? ⟨b1, o1 + 2, none⟩ = some (.int .i64 X2))
                  (first | (go_split_ands; exact HXa.out _) | go_keep)
                  (fail)
                have ST1 : Hid _ := fun (_ : Nat) => (ST.out.later (below_one wr (.cells #[.int .i64 X0, .int .i64 X1, .int .i64 X2] 31))).later (below_drew1 _ _)
                have hPX : ¬ wr.heap.size = X := by have := ST.out.box.lt; omega
                have hXP : ¬ X = wr.heap.size := fun e => hPX e.symm
                have HPn : Hid (∀ W, Below (wr.alloc (.cells #[.int .i64 X0, .int .i64 X1, .int .i64 X2] 31)).drew.heap.size (wr.alloc (.cells #[.int .i64 X0, .int .i64 X1, .int .i64 X2] 31)).drew W → W.cell? ⟨wr.heap.size, 0, none⟩ = some (.int .i64 X0) ∧ W.cell? ⟨wr.heap.size, 1, none⟩ = some (.int .i64 X1) ∧ W.cell? ⟨wr.heap.size, 2, none⟩ = some (.int .i64 X2)) := fun W hW => ⟨by rw [(undrew1 hW).cell (p := ⟨wr.heap.size, 0, none⟩) (by show _ < (wr.alloc _).heap.size; simp)]; exact cell_new _ _ _ _, by rw [(undrew1 hW).cell (p := ⟨wr.heap.size, 1, none⟩) (by show _ < (wr.alloc _).heap.size; simp)]; exact cell_new _ _ _ _, by rw [(undrew1 hW).cell (p := ⟨wr.heap.size, 2, none⟩) (by show _ < (wr.alloc _).heap.size; simp)]; exact cell_new _ _ _ _⟩
                clear x0 x1 x2 f0 f1 f2 r0 r1 r2 HXa
                generalize (wr.alloc _).drew = W1 at ST1 HPn ⊢
                generalize wr.heap.size = P at HPn hPX hXP ⊢
                obtain ⟨p0, p1, p2⟩ := HPn.out W1 (Below.refl _ _)
                obtain ⟨x0, x1, x2, f0, f1, f2⟩ := (ST1.out 0).box.facts
                have HRo : Hid _ := fun (_ : Nat) => r2write_any W1 _ _ _ d (ST1.out 0).doc.is (ST1.out 0).on.disk.good X0 X1 X2
                have HWr : Hid _ := fun (W : World) (vb vo vw : Value) (q : Ud) (h : PlU w W g v X vb vo vw d q) => write_any W _ g v d h.on.disk X0 X1 X2
                unfold ptrU at HWr
                go_wp2_with fail
                refine (HRo.out 0).mono ?_
                rintro e w2 ⟨vb', vo', vw', rfl, hnx⟩
                obtain ⟨ab', cb', ao', co', aw', cw', rfl, rfl, rfl⟩ := (hnx.doc (ST1.out 0).doc.is).form
                have hBx := (ST1.out 0).box.later hnx.old
                have HM2 : Hid _ := fun (_ : Nat) => (ST1.out 0).docs hnx
                clear x0 x1 x2 f0 f1 f2 p0 p1 p2
                obtain ⟨q0, q1, q2, g0, g1, g2⟩ := hBx.facts
                obtain ⟨s0, s1, s2⟩ := HPn.out w2 hnx.old
                clear hnx hBx
                go_wp2_with fail
                refine (HWr.out _ _ _ _ _ (HM2.out 0)).mono ?_
                rintro e w4 ⟨rfl, v4, hst4⟩
                have HM4 : Hid _ := fun (_ : Nat) => (HM2.out 0).prog hst4
                clear hst4 q0 q1 q2 g0 g1 g2 s0 s1 s2
                go_wp2
                go_meet
                case rel => exact ⟨wrE d.L X0 X1 X2, _, _, _, _, _, rfl, rfl, HM4.out 0⟩
              · have b3 : ((z : Int) == 3) = false := by simp; omega
                by_cases h4 : z = 4
                · subst h4
                  clear h1 h2 h3 b1 b2 b3
                  have HRo : Hid _ := fun (_ : Nat) => r2crash_any wr _ _ _ d ST.out.doc.is ST.out.on.disk.good
                  have HCu : Hid _ := fun (W : World) (vb vo vw : Value) (q : Ud) (h : PlU w W g v X vb vo vw d q) => crash_any W _ g v d h.on.disk
                  unfold ptrU at HCu
                  clear hc0
                  generalize hcn : (crN d.L : Nat) = CN at HRo HCu
                  clear hcn
                  go_wp2_with fail
                  refine (HRo.out 0).mono ?_
                  rintro e w2 ⟨vb', vo', vw', rfl, hnx⟩
                  obtain ⟨ab', cb', ao', co', aw', cw', rfl, rfl, rfl⟩ := (hnx.doc ST.out.doc.is).form
                  have hBx := HB0.out.later hnx.old
                  have HM2 : Hid _ := fun (_ : Nat) => ST.out.docs hnx
                  clear x0 x1 x2 f0 f1 f2
                  obtain ⟨q0, q1, q2, g0, g1, g2⟩ := hBx.facts
                  clear hnx hBx
                  go_wp2_with fail
                  refine (HCu.out _ _ _ _ _ (HM2.out 0)).mono ?_
                  rintro e w4 ⟨rfl, hst4⟩
                  have HM4 : Hid _ := fun (_ : Nat) => (HM2.out 0).prog hst4
                  clear hst4 q0 q1 q2 g0 g1 g2
                  go_wp2
                  go_meet
                  case rel => exact ⟨0, _, _, _, _, _, rfl, rfl, HM4.out 0⟩
                · have b4 : ((z : Int) == 4) = false := by simp; omega
                  clear h1 h2 h3 h4
                  go_wp2
                  go_meet
                  case rel => exact ⟨0, _, _, _, _, d, rfl, rfl, ST.out⟩
        case rest =>
        obtain ⟨E, v, vb, vo, vw, d, rfl, rfl, hP⟩ := hcut
        rename World => w6
        clear ST HB0 HNL x0 x1 x2 f0 f1 f2 h60 hc0
        obtain ⟨ab, cb, ao, co, aw, cw, rfl, rfl, rfl⟩ := hP.doc.is.form
        obtain ⟨NL, hNL⟩ : ∃ NL, NL = d.L.length := ⟨_, rfl⟩
        rw [← hNL] at hP
        clear hNL
        have HM6 : Hid (PlU w w6 g v X (.slice ab 8 cb) (.slice ao 8 co) (.slice aw NL cw) d d) := hP
        have HMd : Hid (PlU w w6.drew g v X (.slice ab 8 cb) (.slice ao 8 co) (.slice aw NL cw) d d) := HM6.out.later (below_drew1 _ _)
        have HBf : Hid (∀ W, PlU w W g v X (.slice ab 8 cb) (.slice ao 8 co) (.slice aw NL cw) d d → W.cell? ⟨X, 0, none⟩ = some (.slice ab 8 cb)) := fun W h => h.box.facts.1
        have HVa : Hid _ := fun (W : World) (h : PlU w W g v X (.slice ab 8 cb) (.slice ao 8 co) (.slice aw NL cw) d d) => values_any W _ g v d h.on.disk
        have HEr : Hid _ := fun (wz : World) (h : Below w.heap.size w wz) => error_any E (E : Int) wz (HL.out.later h)
        rw [show (((E : Nat) : Int) == (E : Int)) = true by simp] at HEr
        generalize errV E = EV at *
        clear hP
        unfold ptrU at HVa
        have x0 := HBf.out w6 HM6.out
        go_wp2_with fail
        go_region_held3 (fun w' => w'.cell? ⟨X, 0, none⟩ = some (.slice ab 8 cb))
          (first | exact HBf.out _ (HMI.out 0) | exact HBf.out _ (HMV.out 0) | exact HBf.out _ (HM8.out 0) | go_keep)
          (first
            | (go_at_call 10; refine (HEr.out _ HMd.out.on.old).mono ?_; rintro e w8 ⟨rfl, hb8⟩; have HM8 : Hid _ := fun (_ : Nat) => HMd.out.later hb8; clear hb8)
            | (go_at_call 19; refine (HVa.out _ (HM8.out 0)).mono ?_; rintro e wV ⟨rfl, hv, hb⟩; have HVs : Hid _ := fun (_ : Nat) => hv.is; have HMV : Hid _ := fun (_ : Nat) => (HM8.out 0).later hb; clear hv hb)
            | (go_at_call 18; refine (same_lists wV _ _ _ _ (HVs.out 0) (HMV.out 0).doc.is.b rfl).mono ?_; rintro e wI ⟨rfl, hb⟩; have HMI : Hid _ := fun (_ : Nat) => (HMV.out 0).later hb; clear hb))
        clear x0 HEr HVa HBf HMd HM6 HM8 HVs HMV
        go_wp2
        go_loopw [11] (fun i wr => ∃ j : Nat, j ≤ 8 ∧ i = .int .i64 (j : Int) ∧ PlU w wr g v X (.slice ab 8 cb) (.slice ao 8 co) (.slice aw NL cw) d d) (fun i _ => 8 - (Go.RowKit.intOf i).toNat)
        case atStart => exact ⟨0, by omega, rfl, HMI.out 0⟩
        case round =>
          obtain ⟨j, hj, rfl, hst⟩ := hrel
          have SJ : Hid (PlU w wr g v X (.slice ab 8 cb) (.slice ao 8 co) (.slice aw NL cw) d d) := hst
          clear hst HMI
          by_cases hj8 : j < 8
          · have hj1 : (j : Int) < 8 := by omega
            have SJd : Hid (PlU w wr.drew g v X (.slice ab 8 cb) (.slice ao 8 co) (.slice aw NL cw) d d) := SJ.out.later (below_drew1 _ _)
            have HBu : Hid _ := fun (_ : Nat) => busy_any wr.drew _ g v d SJd.out.on.disk (j : Int)
            rw [ownI_nat] at HBu
            unfold ptrU at HBu
            obtain ⟨bo, oo, c9, e9, hbo, hco⟩ := row_cells SJ.out.doc.is.o (lsO_len _) (by decide)
            cases e9
            have y0 := hco j hj8
            rw [lsO_nth hj8] at y0
            have HBf : Hid (∀ W, Below wr.drew.heap.size wr.drew W → W.cell? ⟨X, 1, none⟩ = some (.slice (some ⟨bo, oo, none⟩) 8 co) ∧ W.cell? ⟨bo, oo + j, none⟩ = some (.int .i64 (own d.L j))) := fun W hW => ⟨(SJd.out.later hW).box.facts.2.1, by rw [(undrew1 hW).cell (p := ⟨bo, oo + j, none⟩) hbo]; exact y0⟩
            have x1 := SJ.out.box.facts.2.1
            generalize own d.L j = ow at HBu y0 HBf
            clear hco
            go_wp2_with fail
            go_region_held3 (fun w' => w'.cell? ⟨X, 1, none⟩ = some (.slice (some ⟨bo, oo, none⟩) 8 co) ∧ w'.cell? ⟨bo, oo + j, none⟩ = some (.int .i64 ow))
              (first | (go_split_ands; exact HBf.out _ hb2.out) | go_keep)
              (first | (go_at_call 8; refine (HBu.out 0).mono ?_; rintro e w2 ⟨rfl, hb⟩; have hb2 : Hid _ := hb; have S2 : Hid _ := fun (_ : Nat) => SJd.out.later hb; clear hb))
            clear x1 y0
            go_wp2
            go_roundw
            case rel => exact ⟨j + 1, by omega, by go_num, S2.out 0⟩
            case measure => simp [Go.RowKit.intOf] <;> omega
          · have hj1 : ¬ (j : Int) < 8 := by omega
            go_wp2
            go_roundw
            case rel => exact ⟨k + 1, by omega, by go_num, _, _, _, _, _, SJ.out⟩
            case measure => simp [Go.RowKit.intOf]; omega
      · have hs1 : ¬ (k : Int) < 80 := by omega
        have HB1 : Hid _ := fun (_ : Nat) => busy_any wr _ g v d ST.out.on.disk (-1)
        rw [ownI_out ST.out.on.disk.good (by omega)] at HB1
        have HB2 : Hid _ := fun (W : World) (h : PlU w W g v X vb vo vw d d) => busy_any W _ g v d h.on.disk 8
        rw [ownI_out ST.out.on.disk.good (by omega)] at HB2
        unfold ptrU at HB1 HB2
        go_wp2_with fail
        refine (HB1.out 0).mono ?_
        rintro e w2 ⟨rfl, hb⟩
        have S2 : Hid _ := fun (_ : Nat) => ST.out.later hb
        clear hb HB1
        go_wp2_with fail
        refine (HB2.out w2 (S2.out 0)).mono ?_
        rintro e w3 ⟨rfl, hb⟩
        have S3 : Hid _ := fun (_ : Nat) => (S2.out 0).later hb
        clear hb HB2
        go_wp2
        go_ret
        exact ⟨rfl, (S3.out 0).on.old⟩
    · have hl1 : ¬ (k : Int) < (n : Int) := by omega
      have HB1 : Hid _ := fun (_ : Nat) => busy_any wr _ g v d ST.out.on.disk (-1)
      rw [ownI_out ST.out.on.disk.good (by omega)] at HB1
      have HB2 : Hid _ := fun (W : World) (h : PlU w W g v X vb vo vw d d) => busy_any W _ g v d h.on.disk 8
      rw [ownI_out ST.out.on.disk.good (by omega)] at HB2
      unfold ptrU at HB1 HB2
      go_wp2_with fail
      refine (HB1.out 0).mono ?_
      rintro e w2 ⟨rfl, hb⟩
      have S2 : Hid _ := fun (_ : Nat) => ST.out.later hb
      clear hb HB1
      go_wp2_with fail
      refine (HB2.out w2 (S2.out 0)).mono ?_
      rintro e w3 ⟨rfl, hb⟩
      have S3 : Hid _ := fun (_ : Nat) => (S2.out 0).later hb
      clear hb HB2
      go_wp2
      go_ret
      exact ⟨rfl, (S3.out 0).on.old⟩

end Go.Proofs.YtkpfieemkjfjkaaDoor
