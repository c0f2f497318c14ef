/- This text proves that platterholdlaw2.UndoCrash returns true: behind a crash just what had ended is there, and nobody has any; old memory is as it was; the condition is that the steps' rows lie there. -/
import Derived.Test.YtkpfieemkjfjkaaW13
import Derived.Deep.DeepCutAuto
import Derived.Laws.OwnMore
namespace Go.Proofs.Ytkpfieemkjfjkaa
open Go.RowKit Go.Deep

theorem made8 : madeCells #[.int .i64 0] 8 = celN nV 8 := Array.ext' (by rw [toList_madeCells_one]; rfl)
theorem ownI_nil (b : Int) : ownI [] b = -1 := by unfold ownI; split <;> rfl
theorem crn_nil : crN [] = 0 := by decide

set_option maxHeartbeats 1000000 in
set_option maxRecDepth 100000 in
theorem undoCrash_any (w : World) (v : Value) (rs : List (List Int)) (hr : RowsIs w v rs) :
    Calls Try.prog 4 #[v] w fun e w' => e = .returned (.bool true) ∧ Below w.heap.size w w' := by
  have HR : Hid (RowsIs w v rs) := hr
  obtain ⟨a, c, hv, hl, _⟩ := hr
  obtain ⟨n, hn⟩ : ∃ n, n = rs.length := ⟨_, rfl⟩
  rw [← hn] at hv hl
  have HN : Hid (n = rs.length) := hn
  unfold maxLen at hl
  subst hv
  clear hn
  go_enter Try.func4, Try.ntmps4
  go_wp2_with fail
  refine (fact_any w).mono ?_
  rintro e w0 ⟨rfl, hb⟩
  have HB0 : Hid (Below w.heap.size w w0) := hb
  have HR0 : Hid (RowsIs w0 (.slice a n c) rs) := HR.out.later hb
  clear hb HR
  go_wp2_with fail
  refine (new_any _).mono ?_
  rintro e w1 ⟨rfl, hT, hb⟩
  have HS1 : Hid (OnU w0 w1 w0.heap.size (.slice none 0 0) ud0) := ⟨hT, hb⟩
  clear hT hb
  unfold ptrU
  have hmk : ∀ w, (Instr.makeSlice 26 (.int .i64 8) (.int .i64 8)).run Try.prog w = .ok (.slice (some ⟨w.heap.size, 0, none⟩) 8 8) (w.alloc (.cells (madeCells #[.int .i64 0] 8) 3)) :=
    run_make_row' (P := Try.prog) 26 3 (.int .i64 0) 8 Try.underlying26 Try.info3 rfl .i64 .i64 8 (by omega) (by omega)
  rw [made8] at hmk
  have HC0 : Hid (CrU w0 ((w1.alloc (.cells (celN nV 8) 3)).alloc (.cells (celN nV 8) 3)) w0.heap.size (.slice none 0 0) ud0 w1.heap.size (w1.alloc (.cells (celN nV 8) 3)).heap.size (udo all ud0.L ud0.H) ud0.H) := by
    have hb1 := below_one w1 (.cells (celN nV 8) 3)
    have hb2 := below_one (w1.alloc (.cells (celN nV 8) 3)) (.cells (celN nV 8) 3)
    have hl1 := HS1.out.disk.lt
    have hsz : w1.heap.size < (w1.alloc (.cells (celN nV 8) 3)).heap.size := by simp
    have ho := HS1.out.old.size
    refine ⟨(HS1.out.later hb1).later hb2, (hb2.block _ hsz).trans (blk_alloc_new _ _), blk_alloc_new _ _, ?_, ?_, by omega, ho, by omega⟩
    · rintro (e | e)
      · omega
      · cases e
    · rintro (e | e)
      · omega
      · cases e
  clear HS1
  rw [show (w1.alloc (.cells (celN nV 8) 3)).heap.size = w1.heap.size + 1 by simp] at HC0
  go_wp2
  generalize (w1.alloc (.cells (celN nV 8) 3)).alloc (.cells (celN nV 8) 3) = w3 at HC0 ⊢
  generalize w1.heap.size + 1 = B at HC0 ⊢
  generalize w1.heap.size = A at HC0 ⊢
  obtain ⟨g, hG⟩ : ∃ g, g = w0.heap.size := ⟨_, rfl⟩
  rw [← hG]
  have HC1 : Hid (CrU w0 w3 g (.slice none 0 0) ud0 A B (udo all ud0.L ud0.H) ud0.H) := by rw [hG]; exact HC0.out
  clear hG HC0 hmk
  go_loopw [7] (fun i wr => ∃ k v d, k ≤ n ∧ k ≤ 80 ∧ i = .int .i64 ((k : Nat) : Int) ∧ CrU w0 wr g v d A B (udo all d.L d.H) d.H) (fun i _ => 80 - (Go.RowKit.intOf i).toNat)
  case atStart => exact ⟨0, _, _, Nat.zero_le _, by omega, rfl, HC1.out⟩
  case round =>
    obtain ⟨k, v, d, hkn, hk, rfl, hst⟩ := hrel
    have ST : Hid (CrU w0 wr g v d A B (udo all d.L d.H) d.H) := hst
    clear hst HC1
    by_cases hlt : k < n
    · have hl1 : (k : Int) < (n : Int) := by omega
      by_cases hs : k < 80
      · have hs1 : (k : Int) < 80 := by omega
        obtain ⟨b, o, vk, ha, hbs, hck, hsk⟩ := HR0.out.row k hlt
        subst ha
        have hc0 : wr.cell? ⟨b, o + k, none⟩ = some vk := by rw [ST.out.one.old.cell (p := ⟨b, o + k, none⟩) hbs]; exact hck
        clear hck
        obtain ⟨q, hq⟩ : ∃ q, (rowAt rs k).length = q := ⟨_, rfl⟩
        by_cases h1 : q = 1
        · subst h1
          obtain ⟨b1, o1, c1, rfl, hb1, hx⟩ := row_cells hsk hq (by omega)
          have HXs : Hid (∀ w2, Below w0.heap.size w0 w2 → w2.cell? ⟨b1, o1, none⟩ = some (.int .i64 (nth (rowAt rs k) 0))) := fun w2 h => by rw [h.cell (p := ⟨b1, o1, none⟩) hb1]; exact hx 0 (by omega)
          generalize nth (rowAt rs k) 0 = X0 at HXs
          have x0 := HXs.out wr ST.out.one.old
          clear hx hsk hq
          go_wp2_with fail
          go_quiet (fail)
          go_wp2
          go_loopw [9] (fun i wr => ∃ j : Nat, j ≤ 8 ∧ i = .int .i64 (j : Int) ∧ CrU w0 wr g v d A B (goal d X0 j) d.H) (fun i _ => 8 - (Go.RowKit.intOf i).toNat)
          case atStart => exact ⟨0, by omega, rfl, by rw [goal_zero]; exact ST.out.later (below_drew _ _ _)⟩
          case round =>
            obtain ⟨j, hj, rfl, hst⟩ := hrel
            have SJ : Hid (CrU w0 wr g v d A B (goal d X0 j) d.H) := hst
            clear hst ST x0 hc0
            have x0 := HXs.out wr SJ.out.one.old
            by_cases hj8 : j < 8
            · have hj1 : (j : Int) < 8 := by omega
              have SJd : Hid (CrU w0 wr.drew g v d A B (goal d X0 j) d.H) := SJ.out.later (below_drew1 _ _)
              have HBu : Hid _ := fun (_ : Nat) => busy_any wr.drew w0.heap.size g v d SJd.out.one.disk (j : Int)
              rw [ownI_nat] at HBu
              unfold ptrU at HBu
              have HY : Hid (own d.L j = X0 ∧ 0 ≤ X0 → putV (goal d X0 j) j (d.H j) = goal d X0 (j + 1)) := goal_yes
              have HNo : Hid (¬ (own d.L j = X0 ∧ 0 ≤ X0) → goal d X0 (j + 1) = goal d X0 j) := goal_no
              generalize own d.L j = ow at HBu HY HNo
              by_cases ho : ow = X0
              · subst ho
                by_cases h0 : 0 ≤ ow
                · have HYY : Hid _ := HY.out ⟨rfl, h0⟩
                  go_wp2_with fail
                  go_region_held3 (fun w' => w'.cell? ⟨b1, o1, none⟩ = some (.int .i64 ow))
                    (first | exact HXs.out _ S2.out.one.old | go_keep)
                    (first | (go_at_call 13; refine (HBu.out 0).mono ?_; rintro e w2 ⟨rfl, hb⟩; have S2 : Hid (CrU w0 w2 g v d A B (goal d ow j) d.H) := SJd.out.later hb; clear hb))
                  have m1 := S2.out.now.cell (i := j) hj8
                  have m2 := S2.out.want.cell (i := j) hj8
                  have m3 := (cell_in S2.out.want j).2
                  have S3 : Hid (CrU w0 (w2.setCell ⟨A, j, none⟩ (.int .i64 (d.H j : Int))) g v d A B (goal d ow (j + 1)) d.H) := by
                    rw [← HYY.out]
                    exact S2.out.setA j (d.H j)
                  generalize d.H j = Hj at m1 S3
                  clear x0
                  go_wp2
                  go_roundw
                  case rel => exact ⟨j + 1, by omega, by go_num, S3.out⟩
                  case measure => simp [Go.RowKit.intOf]; omega
                · have HNN : Hid _ := HNo.out fun e => h0 e.2
                  go_wp2_with fail
                  go_region_held3 (fun w' => w'.cell? ⟨b1, o1, none⟩ = some (.int .i64 ow))
                    (first | exact HXs.out _ S2.out.one.old | go_keep)
                    (first | (go_at_call 13; refine (HBu.out 0).mono ?_; rintro e w2 ⟨rfl, hb⟩; have S2 : Hid (CrU w0 w2 g v d A B (goal d ow j) d.H) := SJd.out.later hb; clear hb))
                  go_wp2
                  go_roundw
                  case rel => exact ⟨j + 1, by omega, by go_num, by rw [HNN.out]; exact S2.out⟩
                  case measure => simp [Go.RowKit.intOf]; omega
              · have hob : (ow == X0) = false := by simp; exact ho
                have HNN : Hid _ := HNo.out fun e => ho e.1
                go_wp2_with fail
                refine wp_region_held_drew (S := fun w' => w'.cell? ⟨b1, o1, none⟩ = some (.int .i64 X0)) (by kernel_rfl) ?hs (fun hHeld => ?_)
                case hs => exact x0
                refine held_take (i := 0) (v := ?_) rfl rfl (by kernel_rfl) (by kernel_rfl) (by kernel_rfl) (fun _ _ _ h => h) (Or.inl ⟨by rfl, ?_⟩) hHeld ?_
                rotate_left
                · (intro w hSw; (try dsimp only at hSw); go_simp; try with_reducible rfl)
                simp only [Act.put, List.setIfInBounds_toArray, List.set_cons_zero, List.set_cons_succ]
                refine held_take (i := 1) (v := ?_) rfl rfl (by kernel_rfl) (by kernel_rfl) (by kernel_rfl) (fun _ _ _ h => h) (Or.inl ⟨by rfl, ?_⟩) hHeld ?_
                rotate_left
                · (intro w hSw; (try dsimp only at hSw); go_simp; try with_reducible rfl)
                simp only [Act.put, List.setIfInBounds_toArray, List.set_cons_zero, List.set_cons_succ]
                refine held_take (i := 3) (v := ?_) rfl rfl (by kernel_rfl) (by kernel_rfl) (by kernel_rfl) (fun _ _ _ h => h) (Or.inl ⟨by rfl, ?_⟩) hHeld ?_
                rotate_left
                · (intro w hSw; (try dsimp only at hSw); go_simp; try with_reducible rfl)
                simp only [Act.put, List.setIfInBounds_toArray, List.set_cons_zero, List.set_cons_succ]
                refine held_take (i := 4) (v := ?_) rfl rfl (by kernel_rfl) (by kernel_rfl) (by kernel_rfl) (fun _ _ _ h => h) (Or.inl ⟨by rfl, ?_⟩) hHeld ?_
                rotate_left
                · (intro w hSw; (try dsimp only at hSw); go_simp; try with_reducible rfl)
                simp only [Act.put, List.setIfInBounds_toArray, List.set_cons_zero, List.set_cons_succ]
                refine held_take (i := 5) (v := ?_) rfl rfl (by kernel_rfl) (by kernel_rfl) (by kernel_rfl) (fun _ _ _ h => h) (Or.inl ⟨by rfl, ?_⟩) hHeld ?_
                rotate_left
                · (intro w hSw; (try dsimp only at hSw); go_simp; try with_reducible rfl)
                simp only [Act.put, List.setIfInBounds_toArray, List.set_cons_zero, List.set_cons_succ]
                refine wpAnyH_ready (rs := [2]) (by kernel_rfl) (by simp) ?_
                refine AllReadyH.cons rfl (fun K hK => ?_) AllReadyH.nil
                go_simp
                go_at_call 13
                refine (HBu.out 0).mono ?_
                rintro e w2 ⟨rfl, hb⟩
                have S2 : Hid (CrU w0 w2 g v d A B (goal d X0 j) d.H) := SJd.out.later hb
                clear hb
                go_simp
                refine hK.out _ _ (HXs.out _ S2.out.one.old) (fun hHeld => ?_)
                clear hK K
                refine held_take (i := 6) (v := ?_) rfl rfl (by kernel_rfl) (by kernel_rfl) (by kernel_rfl) (fun _ _ _ h => h) (Or.inl ⟨by rfl, ?_⟩) hHeld ?_
                rotate_left
                · (intro w hSw; (try dsimp only at hSw); go_simp; try with_reducible rfl)
                simp only [Act.put, List.setIfInBounds_toArray, List.set_cons_zero, List.set_cons_succ]
                refine held_take (i := 7) (v := ?_) rfl rfl (by kernel_rfl) (by kernel_rfl) (by kernel_rfl) (fun _ _ _ h => h) (Or.inl ⟨by rfl, ?_⟩) hHeld ?_
                rotate_left
                · (intro w hSw; (try dsimp only at hSw); go_simp; try with_reducible rfl)
                simp only [Act.put, List.setIfInBounds_toArray, List.set_cons_zero, List.set_cons_succ]
                refine held_take (i := 8) (v := undef) rfl rfl (by kernel_rfl) (by kernel_rfl) (by kernel_rfl) (fun _ _ _ h => h) (Or.inr ⟨by rfl, rfl⟩) hHeld ?_
                simp only [Act.put, List.setIfInBounds_toArray, List.set_cons_zero, List.set_cons_succ]
                refine held_take (i := 9) (v := undef) rfl rfl (by kernel_rfl) (by kernel_rfl) (by kernel_rfl) (fun _ _ _ h => h) (Or.inr ⟨by rfl, rfl⟩) hHeld ?_
                simp only [Act.put, List.setIfInBounds_toArray, List.set_cons_zero, List.set_cons_succ]
                refine held_take (i := 10) (v := undef) rfl rfl (by kernel_rfl) (by kernel_rfl) (by kernel_rfl) (fun _ _ _ h => h) (Or.inr ⟨by rfl, rfl⟩) hHeld ?_
                simp only [Act.put, List.setIfInBounds_toArray, List.set_cons_zero, List.set_cons_succ]
                refine held_take (i := 11) (v := undef) rfl rfl (by kernel_rfl) (by kernel_rfl) (by kernel_rfl) (fun _ _ _ h => h) (Or.inr ⟨by rfl, rfl⟩) hHeld ?_
                simp only [Act.put, List.setIfInBounds_toArray, List.set_cons_zero, List.set_cons_succ]
                refine held_take (i := 12) (v := ?_) rfl rfl (by kernel_rfl) (by kernel_rfl) (by kernel_rfl) (fun _ _ _ h => h) (Or.inl ⟨by rfl, ?_⟩) hHeld ?_
                rotate_left
                · (intro w hSw; (try dsimp only at hSw); go_simp; try with_reducible rfl)
                simp only [Act.put, List.setIfInBounds_toArray, List.set_cons_zero, List.set_cons_succ]
                refine wpAnyH_done (by kernel_rfl) ?_ _
                go_wp2
                go_roundw
                case rel => exact ⟨j + 1, by omega, by go_num, by rw [HNN.out]; exact S2.out⟩
                case measure => simp [Go.RowKit.intOf]; omega
            · obtain rfl : j = 8 := by omega
              have HEn : Hid _ := fun (_ : Nat) => end_any wr w0.heap.size g v d SJ.out.one.disk X0
              unfold ptrU at HEn
              have HGE : Hid _ := fun (_ : Nat) => goal_end SJ.out.one.disk.good X0
              go_wp2_with fail
              refine (HEn.out 0).mono ?_
              rintro e w2 ⟨rfl, v2, hst⟩
              have S2 : Hid (CrU w0 w2 g v2 (enD d X0) A B (udo all (enD d X0).L (enD d X0).H) (enD d X0).H) := by
                have := SJ.out.step hst
                exact ⟨this.one, this.want.as (HGE.out 0), this.now, this.apA, this.apB, this.ab, this.lowA, this.lowB⟩
              clear hst HEn x0
              go_wp2
              go_roundw
              case rel => exact ⟨k + 1, v2, _, by omega, by omega, by go_num, S2.out⟩
              case measure => simp [Go.RowKit.intOf]; omega
        · by_cases h3 : q = 3
          · subst h3
            obtain ⟨b1, o1, c1, rfl, hb1, hx⟩ := row_cells hsk hq (by omega)
            have HXs : Hid (∀ w2, Below w0.heap.size w0 w2 → w2.cell? ⟨b1, o1, none⟩ = some (.int .i64 (nth (rowAt rs k) 0)) ∧ w2.cell? ⟨b1, o1 + 1, none⟩ = some (.int .i64 (nth (rowAt rs k) 1)) ∧ w2.cell? ⟨b1, o1 + 2, none⟩ = some (.int .i64 (nth (rowAt rs k) 2))) := fun w2 h =>
              ⟨by rw [h.cell (p := ⟨b1, o1, none⟩) hb1]; exact hx 0 (by omega), by rw [h.cell (p := ⟨b1, o1 + 1, none⟩) hb1]; exact hx 1 (by omega), by rw [h.cell (p := ⟨b1, o1 + 2, none⟩) hb1]; exact hx 2 (by omega)⟩
            generalize nth (rowAt rs k) 0 = X0 at HXs
            generalize nth (rowAt rs k) 1 = X1 at HXs
            generalize nth (rowAt rs k) 2 = X2 at HXs
            clear hx hsk hq
            have STd : Hid (CrU w0 wr.drew g v d A B (udo all d.L d.H) d.H) := ST.out.later (below_drew1 _ _)
            have HWr : Hid _ := fun (_ : Nat) => write_any wr.drew w0.heap.size g v _ STd.out.one.disk X0 X1 X2
            unfold ptrU at HWr
            by_cases e0 : wrE d.L X0 X1 X2 = 0
            · rw [e0, errV_zero] at HWr
              obtain ⟨T, Bn, Vn, rfl, rfl, rfl, hT, hB, hV, _, _⟩ := wr_nat e0
              have HGo : Hid (udo all (wrD d T Bn Vn).L (wrD d T Bn Vn).H = udo all d.L d.H) := goal_wr e0
              have HH : Hid ((wrD d T Bn Vn).H = putV d.H Bn Vn) := by show _ = _; rw [wrD_yes e0]; simp
              clear e0
              obtain ⟨x0, x1, x2⟩ := HXs.out wr ST.out.one.old
              have hB8 : (Bn : Int) < 8 := by omega
              go_wp2_with fail
              go_region_held3 (fun w' => w'.cell? ⟨b1, o1, none⟩ = some (.int .i64 (T : Int)) ∧ w'.cell? ⟨b1, o1 + 1, none⟩ = some (.int .i64 (Bn : Int)) ∧ w'.cell? ⟨b1, o1 + 2, none⟩ = some (.int .i64 (Vn : Int)))
                (first | (go_split_ands; exact HXs.out _ S2.out.one.old) | go_keep)
                (first
                  | (go_at_call 8; refine (HWr.out 0).mono ?_; rintro e w2 ⟨rfl, v2, hst2⟩; have S2 : Hid (CrU w0 w2 g v2 (wrD d T Bn Vn) A B (udo all d.L d.H) d.H) := STd.out.step hst2; clear hst2)
                  | (go_at_call 10; refine (in_yes (Bn : Int) 0 7 w2 (by omega)).mono ?_; rintro e w4 ⟨rfl, rfl⟩))
              clear x0 x1 x2
              obtain ⟨x0, x1, x2⟩ := HXs.out w2 S2.out.one.old
              have hfB := (cell_in S2.out.now Bn).2
              have S3 : Hid (CrU w0 (w2.setCell ⟨B, Bn, none⟩ (.int .i64 (Vn : Int))) g v2 (wrD d T Bn Vn) A B (udo all (wrD d T Bn Vn).L (wrD d T Bn Vn).H) (wrD d T Bn Vn).H) := by
                rw [HGo.out, HH.out]
                exact S2.out.setB Bn Vn
              have hcB := S2.out.now.cell (i := Bn) (by omega)
              go_wp2_with fail
              go_region
              go_wp2
              go_roundw
              case rel => exact ⟨k + 1, v2, _, by omega, by omega, by go_num, S3.out.later (below_drew1 _ _)⟩
              case measure => simp [Go.RowKit.intOf]; omega
            · rw [errV_pos e0, wrD_no e0] at HWr
              clear e0
              obtain ⟨x0, x1, x2⟩ := HXs.out wr ST.out.one.old
              generalize ((wrE d.L X0 X1 X2 : Nat) : Int) = en at HWr
              go_wp2_with fail
              refine wp_region_held_drew (S := fun w' => w'.cell? ⟨b1, o1, none⟩ = some (.int .i64 X0) ∧ w'.cell? ⟨b1, o1 + 1, none⟩ = some (.int .i64 X1) ∧ w'.cell? ⟨b1, o1 + 2, none⟩ = some (.int .i64 X2)) (by kernel_rfl) ?hs (fun hHeld => ?_)
              case hs => exact ⟨x0, x1, x2⟩
              refine held_take (i := 0) (v := ?_) rfl rfl (by kernel_rfl) (by kernel_rfl) (by kernel_rfl) (fun _ _ _ h => h) (Or.inl ⟨by rfl, ?_⟩) hHeld ?_
              rotate_left
              · (intro w hSw; (try dsimp only at hSw); go_simp; try with_reducible rfl)
              simp only [Act.put, List.setIfInBounds_toArray, List.set_cons_zero, List.set_cons_succ]
              refine held_take (i := 1) (v := ?_) rfl rfl (by kernel_rfl) (by kernel_rfl) (by kernel_rfl) (fun _ _ _ h => h) (Or.inl ⟨by rfl, ?_⟩) hHeld ?_
              rotate_left
              · (intro w hSw; (try dsimp only at hSw); go_simp; try with_reducible rfl)
              simp only [Act.put, List.setIfInBounds_toArray, List.set_cons_zero, List.set_cons_succ]
              refine held_take (i := 2) (v := ?_) rfl rfl (by kernel_rfl) (by kernel_rfl) (by kernel_rfl) (fun _ _ _ h => h) (Or.inl ⟨by rfl, ?_⟩) hHeld ?_
              rotate_left
              · (intro w hSw; (try dsimp only at hSw); go_simp; try with_reducible rfl)
              simp only [Act.put, List.setIfInBounds_toArray, List.set_cons_zero, List.set_cons_succ]
              refine held_take (i := 3) (v := ?_) rfl rfl (by kernel_rfl) (by kernel_rfl) (by kernel_rfl) (fun _ _ _ h => h) (Or.inl ⟨by rfl, ?_⟩) hHeld ?_
              rotate_left
              · (intro w hSw; (try dsimp only at hSw); go_simp; try with_reducible rfl)
              simp only [Act.put, List.setIfInBounds_toArray, List.set_cons_zero, List.set_cons_succ]
              refine held_take (i := 4) (v := ?_) rfl rfl (by kernel_rfl) (by kernel_rfl) (by kernel_rfl) (fun _ _ _ h => h) (Or.inl ⟨by rfl, ?_⟩) hHeld ?_
              rotate_left
              · (intro w hSw; (try dsimp only at hSw); go_simp; try with_reducible rfl)
              simp only [Act.put, List.setIfInBounds_toArray, List.set_cons_zero, List.set_cons_succ]
              refine held_take (i := 5) (v := ?_) rfl rfl (by kernel_rfl) (by kernel_rfl) (by kernel_rfl) (fun _ _ _ h => h) (Or.inl ⟨by rfl, ?_⟩) hHeld ?_
              rotate_left
              · (intro w hSw; (try dsimp only at hSw); go_simp; try with_reducible rfl)
              simp only [Act.put, List.setIfInBounds_toArray, List.set_cons_zero, List.set_cons_succ]
              refine held_take (i := 6) (v := ?_) rfl rfl (by kernel_rfl) (by kernel_rfl) (by kernel_rfl) (fun _ _ _ h => h) (Or.inl ⟨by rfl, ?_⟩) hHeld ?_
              rotate_left
              · (intro w hSw; (try dsimp only at hSw); go_simp; try with_reducible rfl)
              simp only [Act.put, List.setIfInBounds_toArray, List.set_cons_zero, List.set_cons_succ]
              refine held_take (i := 7) (v := ?_) rfl rfl (by kernel_rfl) (by kernel_rfl) (by kernel_rfl) (fun _ _ _ h => h) (Or.inl ⟨by rfl, ?_⟩) hHeld ?_
              rotate_left
              · (intro w hSw; (try dsimp only at hSw); go_simp; try with_reducible rfl)
              simp only [Act.put, List.setIfInBounds_toArray, List.set_cons_zero, List.set_cons_succ]
              refine held_take (i := 8) (v := ?_) rfl rfl (by kernel_rfl) (by kernel_rfl) (by kernel_rfl) (fun _ _ _ h => h) (Or.inl ⟨by rfl, ?_⟩) hHeld ?_
              rotate_left
              · (intro w hSw; (try dsimp only at hSw); go_simp; try with_reducible rfl)
              simp only [Act.put, List.setIfInBounds_toArray, List.set_cons_zero, List.set_cons_succ]
              refine held_take (i := 9) (v := ?_) rfl rfl (by kernel_rfl) (by kernel_rfl) (by kernel_rfl) (fun _ _ _ h => h) (Or.inl ⟨by rfl, ?_⟩) hHeld ?_
              rotate_left
              · (intro w hSw; (try dsimp only at hSw); go_simp; try with_reducible rfl)
              simp only [Act.put, List.setIfInBounds_toArray, List.set_cons_zero, List.set_cons_succ]
              refine held_take (i := 10) (v := ?_) rfl rfl (by kernel_rfl) (by kernel_rfl) (by kernel_rfl) (fun _ _ _ h => h) (Or.inl ⟨by rfl, ?_⟩) hHeld ?_
              rotate_left
              · (intro w hSw; (try dsimp only at hSw); go_simp; try with_reducible rfl)
              simp only [Act.put, List.setIfInBounds_toArray, List.set_cons_zero, List.set_cons_succ]
              refine held_take (i := 11) (v := ?_) rfl rfl (by kernel_rfl) (by kernel_rfl) (by kernel_rfl) (fun _ _ _ h => h) (Or.inl ⟨by rfl, ?_⟩) hHeld ?_
              rotate_left
              · (intro w hSw; (try dsimp only at hSw); go_simp; try with_reducible rfl)
              simp only [Act.put, List.setIfInBounds_toArray, List.set_cons_zero, List.set_cons_succ]
              refine held_take (i := 12) (v := ?_) rfl rfl (by kernel_rfl) (by kernel_rfl) (by kernel_rfl) (fun _ _ _ h => h) (Or.inl ⟨by rfl, ?_⟩) hHeld ?_
              rotate_left
              · (intro w hSw; (try dsimp only at hSw); go_simp; try with_reducible rfl)
              simp only [Act.put, List.setIfInBounds_toArray, List.set_cons_zero, List.set_cons_succ]
              refine held_take (i := 13) (v := ?_) rfl rfl (by kernel_rfl) (by kernel_rfl) (by kernel_rfl) (fun _ _ _ h => h) (Or.inl ⟨by rfl, ?_⟩) hHeld ?_
              rotate_left
              · (intro w hSw; (try dsimp only at hSw); go_simp; try with_reducible rfl)
              simp only [Act.put, List.setIfInBounds_toArray, List.set_cons_zero, List.set_cons_succ]
              refine held_take (i := 14) (v := ?_) rfl rfl (by kernel_rfl) (by kernel_rfl) (by kernel_rfl) (fun _ _ _ h => h) (Or.inl ⟨by rfl, ?_⟩) hHeld ?_
              rotate_left
              · (intro w hSw; (try dsimp only at hSw); go_simp; try with_reducible rfl)
              simp only [Act.put, List.setIfInBounds_toArray, List.set_cons_zero, List.set_cons_succ]
              refine wpAnyH_ready (rs := [15]) (by kernel_rfl) (by simp) ?_
              refine AllReadyH.cons rfl (fun K hK => ?_) AllReadyH.nil
              go_simp
              go_at_call 8
              refine (HWr.out 0).mono ?_
              rintro e w2 ⟨rfl, v2, hst2⟩
              have S2 : Hid (CrU w0 w2 g v2 d A B (udo all d.L d.H) d.H) := STd.out.step hst2
              clear hst2
              go_simp
              refine hK.out _ _ (HXs.out _ S2.out.one.old) (fun hHeld => ?_)
              clear hK K
              refine held_take (i := 16) (v := ?_) rfl rfl (by kernel_rfl) (by kernel_rfl) (by kernel_rfl) (fun _ _ _ h => h) (Or.inl ⟨by rfl, ?_⟩) hHeld ?_
              rotate_left
              · (intro w hSw; (try dsimp only at hSw); go_simp; try with_reducible rfl)
              simp only [Act.put, List.setIfInBounds_toArray, List.set_cons_zero, List.set_cons_succ]
              refine held_take (i := 17) (v := ?_) rfl rfl (by kernel_rfl) (by kernel_rfl) (by kernel_rfl) (fun _ _ _ h => h) (Or.inl ⟨by rfl, ?_⟩) hHeld ?_
              rotate_left
              · (intro w hSw; (try dsimp only at hSw); go_simp; try with_reducible rfl)
              simp only [Act.put, List.setIfInBounds_toArray, List.set_cons_zero, List.set_cons_succ]
              refine held_take (i := 18) (v := ?_) rfl rfl (by kernel_rfl) (by kernel_rfl) (by kernel_rfl) (fun _ _ _ h => h) (Or.inl ⟨by rfl, ?_⟩) hHeld ?_
              rotate_left
              · (intro w hSw; (try dsimp only at hSw); go_simp; try with_reducible rfl)
              simp only [Act.put, List.setIfInBounds_toArray, List.set_cons_zero, List.set_cons_succ]
              refine held_take (i := 19) (v := undef) rfl rfl (by kernel_rfl) (by kernel_rfl) (by kernel_rfl) (fun _ _ _ h => h) (Or.inr ⟨by rfl, rfl⟩) hHeld ?_
              simp only [Act.put, List.setIfInBounds_toArray, List.set_cons_zero, List.set_cons_succ]
              refine held_take (i := 20) (v := undef) rfl rfl (by kernel_rfl) (by kernel_rfl) (by kernel_rfl) (fun _ _ _ h => h) (Or.inr ⟨by rfl, rfl⟩) hHeld ?_
              simp only [Act.put, List.setIfInBounds_toArray, List.set_cons_zero, List.set_cons_succ]
              refine held_take (i := 21) (v := undef) rfl rfl (by kernel_rfl) (by kernel_rfl) (by kernel_rfl) (fun _ _ _ h => h) (Or.inr ⟨by rfl, rfl⟩) hHeld ?_
              simp only [Act.put, List.setIfInBounds_toArray, List.set_cons_zero, List.set_cons_succ]
              refine held_take (i := 22) (v := undef) rfl rfl (by kernel_rfl) (by kernel_rfl) (by kernel_rfl) (fun _ _ _ h => h) (Or.inr ⟨by rfl, rfl⟩) hHeld ?_
              simp only [Act.put, List.setIfInBounds_toArray, List.set_cons_zero, List.set_cons_succ]
              refine held_take (i := 23) (v := ?_) rfl rfl (by kernel_rfl) (by kernel_rfl) (by kernel_rfl) (fun _ _ _ h => h) (Or.inl ⟨by rfl, ?_⟩) hHeld ?_
              rotate_left
              · (intro w hSw; (try dsimp only at hSw); go_simp; try with_reducible rfl)
              simp only [Act.put, List.setIfInBounds_toArray, List.set_cons_zero, List.set_cons_succ]
              refine wpAnyH_done (by kernel_rfl) ?_ _
              clear x0 x1 x2
              go_wp2
              go_roundw
              case rel => exact ⟨k + 1, v2, _, by omega, by omega, by go_num, S2.out⟩
              case measure => simp [Go.RowKit.intOf]; omega
          · obtain ⟨a1, c1, hv1, _, _⟩ := hsk
            rw [hq] at hv1
            subst hv1
            have b1 : ((q : Int) == 1) = false := by simp; omega
            have b3 : ((q : Int) == 3) = false := by simp; omega
            clear hq
            go_wp2_with fail
            go_quiet (fail)
            go_wp2
            go_roundw
            case rel => exact ⟨k + 1, v, d, by omega, by omega, by go_num, ST.out.later (below_drew _ _ _)⟩
            case measure => simp [Go.RowKit.intOf]; omega
      · have hs1 : ¬ (k : Int) < 80 := by omega
        have HCr : Hid _ := fun (_ : Nat) => crash_any wr w0.heap.size g v d ST.out.one.disk
        unfold ptrU at HCr
        go_wp2_with fail
        refine (HCr.out 0).mono ?_
        rintro e w2 ⟨rfl, hst⟩
        have S2 : Hid (CrU w0 w2 g (.slice none 0 0) (crD d) A B (udo all d.L d.H) d.H) := ST.out.step hst
        clear hst HCr ST
        go_wp2
        go_loopw [10] (fun i wr => ∃ j : Nat, j ≤ 8 ∧ i = .int .i64 (j : Int) ∧ CrU w0 wr g (.slice none 0 0) (crD d) A B (udo all d.L d.H) d.H) (fun i _ => 8 - (Go.RowKit.intOf i).toNat)
        case atStart => exact ⟨0, by omega, rfl, S2.out⟩
        case round =>
          obtain ⟨j, hj, rfl, hst⟩ := hrel
          have SJ : Hid (CrU w0 wr g (.slice none 0 0) (crD d) A B (udo all d.L d.H) d.H) := hst
          clear hst S2
          by_cases hj8 : j < 8
          · have hj1 : (j : Int) < 8 := by omega
            have HBu : Hid _ := fun (_ : Nat) => busy_any wr w0.heap.size g _ (crD d) SJ.out.one.disk (j : Int)
            rw [show ownI (crD d).L (j : Int) = -1 from ownI_nil _] at HBu
            unfold ptrU at HBu
            go_wp2_with fail
            refine (HBu.out 0).mono ?_
            rintro e w3 ⟨rfl, hb⟩
            have S3 : Hid (CrU w0 w3 g (.slice none 0 0) (crD d) A B (udo all d.L d.H) d.H) := SJ.out.later hb
            clear hb HBu
            go_wp2
            go_roundw
            case rel => exact ⟨j + 1, by omega, by go_num, S3.out⟩
            case measure => simp [Go.RowKit.intOf]; omega
          · have hj1 : ¬ (j : Int) < 8 := by omega
            have HVa : Hid _ := fun (_ : Nat) => values_any wr w0.heap.size g _ (crD d) SJ.out.one.disk
            have HCr : Hid _ := fun w4 (h : CrU w0 w4 g (.slice none 0 0) (crD d) A B (udo all d.L d.H) d.H) => crash_any w4 w0.heap.size g _ (crD d) h.one.disk
            rw [show crN (crD d).L = 0 from crn_nil] at HCr
            unfold ptrU at HVa HCr
            go_wp2_with fail
            refine (HVa.out 0).mono ?_
            rintro e w3 ⟨rfl, hv, hb⟩
            have V3 : Hid (VlU w3 wr.heap.size (crD d).H) := hv
            have S3 : Hid (CrU w0 w3 g (.slice none 0 0) (crD d) A B (udo all d.L d.H) d.H) := SJ.out.later hb
            clear hv hb HVa
            go_wp2_with fail
            refine (sameU_any w3 _ _ _ _ V3.out.is (S3.out.want.is 8) (fun _ _ => rfl)).mono ?_
            rintro e w4 ⟨rfl, hb⟩
            have S4 : Hid (CrU w0 w4 g (.slice none 0 0) (crD d) A B (udo all d.L d.H) d.H) := S3.out.later hb
            clear hb
            go_wp2_with fail
            refine (HCr.out w4 S4.out).mono ?_
            rintro e w5 ⟨rfl, hst⟩
            have S5 : Hid (CrU w0 w5 g (.slice none 0 0) (crD (crD d)) A B (udo all d.L d.H) d.H) := S4.out.step hst
            clear hst HCr
            go_wp2
            go_ret
            exact ⟨rfl, Below.next HB0.out S5.out.one.old⟩
    · have hl1 : ¬ (k : Int) < (n : Int) := by omega
      have HCr : Hid _ := fun (_ : Nat) => crash_any wr w0.heap.size g v d ST.out.one.disk
      unfold ptrU at HCr
      go_wp2_with fail
      refine (HCr.out 0).mono ?_
      rintro e w2 ⟨rfl, hst⟩
      have S2 : Hid (CrU w0 w2 g (.slice none 0 0) (crD d) A B (udo all d.L d.H) d.H) := ST.out.step hst
      clear hst HCr ST
      go_wp2
      go_loopw [10] (fun i wr => ∃ j : Nat, j ≤ 8 ∧ i = .int .i64 (j : Int) ∧ CrU w0 wr g (.slice none 0 0) (crD d) A B (udo all d.L d.H) d.H) (fun i _ => 8 - (Go.RowKit.intOf i).toNat)
      case atStart => exact ⟨0, by omega, rfl, S2.out⟩
      case round =>
        obtain ⟨j, hj, rfl, hst⟩ := hrel
        have SJ : Hid (CrU w0 wr g (.slice none 0 0) (crD d) A B (udo all d.L d.H) d.H) := hst
        clear hst S2
        by_cases hj8 : j < 8
        · have hj1 : (j : Int) < 8 := by omega
          have HBu : Hid _ := fun (_ : Nat) => busy_any wr w0.heap.size g _ (crD d) SJ.out.one.disk (j : Int)
          rw [show ownI (crD d).L (j : Int) = -1 from ownI_nil _] at HBu
          unfold ptrU at HBu
          go_wp2_with fail
          refine (HBu.out 0).mono ?_
          rintro e w3 ⟨rfl, hb⟩
          have S3 : Hid (CrU w0 w3 g (.slice none 0 0) (crD d) A B (udo all d.L d.H) d.H) := SJ.out.later hb
          clear hb HBu
          go_wp2
          go_roundw
          case rel => exact ⟨j + 1, by omega, by go_num, S3.out⟩
          case measure => simp [Go.RowKit.intOf]; omega
        · have hj1 : ¬ (j : Int) < 8 := by omega
          have HVa : Hid _ := fun (_ : Nat) => values_any wr w0.heap.size g _ (crD d) SJ.out.one.disk
          have HCr : Hid _ := fun w4 (h : CrU w0 w4 g (.slice none 0 0) (crD d) A B (udo all d.L d.H) d.H) => crash_any w4 w0.heap.size g _ (crD d) h.one.disk
          rw [show crN (crD d).L = 0 from crn_nil] at HCr
          unfold ptrU at HVa HCr
          go_wp2_with fail
          refine (HVa.out 0).mono ?_
          rintro e w3 ⟨rfl, hv, hb⟩
          have V3 : Hid (VlU w3 wr.heap.size (crD d).H) := hv
          have S3 : Hid (CrU w0 w3 g (.slice none 0 0) (crD d) A B (udo all d.L d.H) d.H) := SJ.out.later hb
          clear hv hb HVa
          go_wp2_with fail
          refine (sameU_any w3 _ _ _ _ V3.out.is (S3.out.want.is 8) (fun _ _ => rfl)).mono ?_
          rintro e w4 ⟨rfl, hb⟩
          have S4 : Hid (CrU w0 w4 g (.slice none 0 0) (crD d) A B (udo all d.L d.H) d.H) := S3.out.later hb
          clear hb
          go_wp2_with fail
          refine (HCr.out w4 S4.out).mono ?_
          rintro e w5 ⟨rfl, hst⟩
          have S5 : Hid (CrU w0 w5 g (.slice none 0 0) (crD (crD d)) A B (udo all d.L d.H) d.H) := S4.out.step hst
          clear hst HCr
          go_wp2
          go_ret
          exact ⟨rfl, Below.next HB0.out S5.out.one.old⟩

end Go.Proofs.Ytkpfieemkjfjkaa
