/- This text proves that platterholdtop.TopLogs returns true: three ways to be safe come to the same, turn by turn; old memory is as it was; the condition is that the turns' rows lie there. -/
import Derived.Test.YthgbknfdbobmiaaSTp1
import Derived.Deep.RegionWith
namespace Go.Proofs.Ythgbknfdbobmiaa
open Go.RowKit Go.Deep

theorem first_told : toS sh0 0 4 = 0 ∧ erS 0 4 = 0 ∧ cnS (noS sh0 0 4) 8 = 1 := by decide +kernel

set_option maxHeartbeats 16000000 in
set_option maxRecDepth 100000 in
theorem topLogs_any (w : World) (v : Value) (rs : List (List Int)) (hr : RowsIs w v rs) :
    Calls Try.prog 6 #[v] w fun e w' => e = .returned (.bool true) ∧ Below w.heap.size w w' := by
  suffices H : ∀ R : World → Prop, (∀ w', Below w.heap.size w w' → R w') → Calls Try.prog 6 #[v] w fun e w' => e = .returned (.bool true) ∧ R w' from H _ fun _ h => h
  intro R hR
  have HRf : Hid (∀ w', Below w.heap.size w w' → R w') := hR
  have HR : Hid (RowsIs w v rs) := hr
  obtain ⟨a, c, hv, hl, _⟩ := hr
  obtain ⟨n, hn⟩ : ∃ n, n = rs.length := ⟨_, rfl⟩
  rw [← hn] at hv hl
  unfold maxLen at hl
  subst hv
  clear hn hR
  go_enter Try.func6, Try.ntmps6
  go_wp2_with fail
  refine (Zw.new_any w).mono ?_
  rintro e w1 ⟨rfl, hA, hb1⟩
  have HA : Hid (Zw.DiskM w1 w.heap.size w.heap.size (.slice none 0 0) Zw.dk0 ∧ Below w.heap.size w w1) := ⟨hA, hb1⟩
  clear hA hb1
  unfold Zw.ptrD
  go_wp2_with fail
  refine (new_any w1).mono ?_
  rintro e w2 ⟨rfl, hB, hb2⟩
  have HB : Hid (UndoM w2 w1.heap.size w1.heap.size (.slice none 0 0) ud0 ∧ Below w1.heap.size w1 w2) := ⟨hB, hb2⟩
  clear hB hb2
  unfold ptrU
  go_wp2_with fail
  refine (new_shadow w2).mono ?_
  rintro e w3 ⟨g0, rfl, hC, hb3⟩
  have HC : Hid (ShaM w3 w2.heap.size g0 sh0 ∧ Below w2.heap.size w2 w3) := ⟨hC, hb3⟩
  clear hC hb3
  have HWr : Hid _ := fun (_ : Nat) => writeS_any w3 w2.heap.size g0 sh0 HC.out.1 0 4
  rw [first_told.1, first_told.2.1, errV_zero] at HWr
  unfold ptrS at HWr
  unfold ptrS
  go_wp2_with fail
  refine (HWr.out 0).mono ?_
  rintro e w4 ⟨rfl, hst⟩
  have HC4 : Hid (ShaM w4 w2.heap.size g0 (noS sh0 0 4) ∧ Below w2.heap.size w2 w4) := ⟨hst.disk, HC.out.2.trans (hst.stay.below (fun x e => by rw [e]; exact HC.out.1.low) HC.out.2.size)⟩
  clear hst HWr
  have HEn : Hid _ := fun (_ : Nat) => endS_any w4 _ g0 _ HC4.out.1
  rw [first_told.2.2] at HEn
  unfold ptrS at HEn
  go_wp2_with fail
  refine (HEn.out 0).mono ?_
  rintro e w5 ⟨rfl, hst⟩
  have HC5 : Hid (Below w2.heap.size w2 w5) := HC4.out.2.trans (hst.stay.below (fun x e => by rw [e]; exact HC4.out.1.low) HC4.out.2.size)
  clear hst HEn HC HC4
  go_wp2_with fail
  refine (new_shadow w5).mono ?_
  rintro e w6 ⟨gc, rfl, hC, hb6⟩
  have HS0 : Hid (TriM w w6 w.heap.size (.slice none 0 0) Zw.dk0 w1.heap.size (.slice none 0 0) ud0 gc sh0) :=
    TriM.make HA.out.1 HA.out.2 HB.out.1 rfl HB.out.2 hC HC5.out.size (HC5.out.trans (hb6.mono HC5.out.size))
  clear hC hb6 HA HB HC5
  unfold ptrS
  have HS1 : Hid (∃ ga gb, ga = w.heap.size ∧ gb = w1.heap.size ∧ TriM w w6 ga (.slice none 0 0) Zw.dk0 gb (.slice none 0 0) ud0 gc sh0) := ⟨_, _, rfl, rfl, HS0.out⟩
  clear HS0
  obtain ⟨ga, hGa⟩ : ∃ x, x = w.heap.size := ⟨_, rfl⟩
  obtain ⟨gb, hGb⟩ : ∃ x, x = w1.heap.size := ⟨_, rfl⟩
  have HS : Hid (TriM w w6 ga (.slice none 0 0) Zw.dk0 gb (.slice none 0 0) ud0 gc sh0) := by
    obtain ⟨x, y, rfl, rfl, h⟩ := HS1.out
    rw [hGa, hGb]; exact h
  rw [← hGa, ← hGb]
  clear hGa hGb HS1
  go_wp2
  go_loopw [8] (fun i wr => ∃ t va D vb U C, t ≤ n ∧ t ≤ 10 ∧ i = .int .i64 ((t : Nat) : Int) ∧ TriM w wr ga va D gb vb U gc C ∧ BetT t D U C) (fun i _ => 10 - (Go.RowKit.intOf i).toNat)
  case atStart => exact ⟨0, _, _, _, _, _, Nat.zero_le _, by omega, rfl, HS.out, bet_start⟩
  case round =>
    obtain ⟨t, va, D, vb, U, C, htn, ht, rfl, hst, hbt⟩ := hrel
    have ST : Hid (TriM w wr ga va D gb vb U gc C ∧ BetT t D U C) := ⟨hst, hbt⟩
    clear hst hbt HS
    by_cases hlt : t < n
    · have hl1 : (t : Int) < (n : Int) := by omega
      by_cases hs : t < 10
      · have hs1 : (t : Int) < 10 := by omega
        obtain ⟨b, o, vk, ha, hbs, hck, hsk⟩ := HR.out.row t hlt
        subst ha
        have hc0 : wr.cell? ⟨b, o + t, none⟩ = some vk := by rw [ST.out.1.old.cell (p := ⟨b, o + t, none⟩) hbs]; exact hck
        obtain ⟨a1, c1, b1, o1, hv1, hm0, ha1, hb1, hx⟩ := hsk.parts
        obtain ⟨m, hm⟩ : ∃ m, m = (rowAt rs t).length := ⟨_, rfl⟩
        rw [← hm] at hv1 hm0 ha1 hb1 hx
        unfold maxLen at hm0
        subst hv1
        have HXs : Hid (∀ w2, Below w.heap.size w w2 → ∀ i, i < m → w2.cell? ⟨b1, o1 + i, none⟩ = some (.int .i64 (nth (rowAt rs t) i))) := fun w2 h i hi => by rw [h.cell (p := ⟨b1, o1 + i, none⟩) (hb1 (by omega))]; exact hx i hi
        have HA1 : Hid (0 < m → a1 = some ⟨b1, o1, none⟩) := ha1
        clear hck hsk ha1 hb1 hx hm
        go_wp2
        clear hc0
        go_loopw [10] (fun i wr => ∃ q j va D1 vb U1 C1, q = 2 * j ∧ j ≤ 3 ∧ i = .int .i64 ((q : Nat) : Int) ∧ TriM w wr ga va D1 gb vb U1 gc C1 ∧ MidT t j D1 U.H U1 C1) (fun i _ => 6 - (Go.RowKit.intOf i).toNat)
        case atStart => exact ⟨0, 0, _, _, _, _, _, rfl, by omega, rfl, ST.out.1, ST.out.2.mid⟩
        case round =>
          obtain ⟨q, j, va1, D1, vb1, U1, C1, hq, hj, rfl, hst, hmt⟩ := hrel
          have SM : Hid (TriM w wr ga va1 D1 gb vb1 U1 gc C1 ∧ MidT t j D1 U.H U1 C1) := ⟨hst, hmt⟩
          have HQ : Hid (q = 2 * j) := hq
          have hq7 : q ≤ 6 := by omega
          clear hst hmt ST hq
          by_cases hqm : q + 1 < m
          · have hq1 : (q : Int) + 1 < (m : Int) := by omega
            by_cases hq6 : q < 6
            · have hq2 : (q : Int) < 6 := by omega
              have hq3 : (q : Int) < (m : Int) := by omega
              have hqw : IntKind.i64.wrap ((q : Int) + 1) = (q : Int) + 1 := IntWalk.i64_in _ (by omega)
              have hqt : ((q : Int) + 1).toNat = q + 1 := by omega
              have hqn : 0 ≤ (q : Int) + 1 := by omega
              have ha := HA1.out (by omega)
              subst ha
              have HXq : Hid (∀ w2, Below w.heap.size w w2 → w2.cell? ⟨b1, o1 + q, none⟩ = some (.int .i64 (nth (rowAt rs t) q)) ∧ w2.cell? ⟨b1, o1 + (q + 1), none⟩ = some (.int .i64 (nth (rowAt rs t) (q + 1)))) := fun w2 h => ⟨HXs.out w2 h q (by omega), HXs.out w2 h (q + 1) (by omega)⟩
              generalize nth (rowAt rs t) q = X0 at HXq
              generalize nth (rowAt rs t) (q + 1) = X1 at HXq
              obtain ⟨x0, x1⟩ := HXq.out wr SM.out.1.old
              have HMw : Hid _ := SM.out.2.write SM.out.1.c.good hs (by have := HQ.out; omega) X0 X1
              go_wp2_with fail
              refine wp_region_last (S := fun w' => w'.cell? ⟨b1, o1 + q, none⟩ = some (.int .i64 X0) ∧ w'.cell? ⟨b1, o1 + (q + 1), none⟩ = some (.int .i64 X1)) 12 (by kernel_rfl) (by kernel_rfl) ?hs (fun hHeld => ?_)
              case hs => exact ⟨x0, x1⟩
              refine held_take (i := 0) (v := ?_) rfl rfl (by kernel_rfl) (by kernel_rfl) (by kernel_rfl) (fun _ _ _ h => h) (Or.inl ⟨by rfl, ?_⟩) hHeld ?_
              rotate_left
              · (intro w hSw; (try dsimp only at hSw); go_simp; try with_reducible rfl)
              simp only [Act.put, List.setIfInBounds_toArray, List.set_cons_zero, List.set_cons_succ]
              refine held_take (i := 1) (v := ?_) rfl rfl (by kernel_rfl) (by kernel_rfl) (by kernel_rfl) (fun _ _ _ h => h) (Or.inl ⟨by rfl, ?_⟩) hHeld ?_
              rotate_left
              · (intro w hSw; (try dsimp only at hSw); go_simp; try with_reducible rfl)
              simp only [Act.put, List.setIfInBounds_toArray, List.set_cons_zero, List.set_cons_succ]
              refine held_take (i := 2) (v := ?_) rfl rfl (by kernel_rfl) (by kernel_rfl) (by kernel_rfl) (fun _ _ _ h => h) (Or.inl ⟨by rfl, ?_⟩) hHeld ?_
              rotate_left
              · (intro w hSw; (try dsimp only at hSw); go_simp; try with_reducible rfl)
              simp only [Act.put, List.setIfInBounds_toArray, List.set_cons_zero, List.set_cons_succ]
              refine held_take (i := 3) (v := ?_) rfl rfl (by kernel_rfl) (by kernel_rfl) (by kernel_rfl) (fun _ _ _ h => h) (Or.inl ⟨by rfl, ?_⟩) hHeld ?_
              rotate_left
              · (intro w hSw; (try dsimp only at hSw); go_simp; try with_reducible rfl)
              simp only [Act.put, List.setIfInBounds_toArray, List.set_cons_zero, List.set_cons_succ]
              refine held_take (i := 4) (v := ?_) rfl rfl (by kernel_rfl) (by kernel_rfl) (by kernel_rfl) (fun _ _ _ h => h) (Or.inl ⟨by rfl, ?_⟩) hHeld ?_
              rotate_left
              · (intro w hSw; (try dsimp only at hSw); go_simp; try with_reducible rfl)
              simp only [Act.put, List.setIfInBounds_toArray, List.set_cons_zero, List.set_cons_succ]
              refine held_take (i := 5) (v := ?_) rfl rfl (by kernel_rfl) (by kernel_rfl) (by kernel_rfl) (fun _ _ _ h => h) (Or.inl ⟨by rfl, ?_⟩) hHeld ?_
              rotate_left
              · (intro w hSw; (try dsimp only at hSw); go_simp; try with_reducible rfl)
              simp only [Act.put, List.setIfInBounds_toArray, List.set_cons_zero, List.set_cons_succ]
              refine held_take (i := 6) (v := ?_) rfl rfl (by kernel_rfl) (by kernel_rfl) (by kernel_rfl) (fun _ _ _ h => h) (Or.inl ⟨by rfl, ?_⟩) hHeld ?_
              rotate_left
              · (intro w hSw; (try dsimp only at hSw); go_simp; try with_reducible rfl)
              simp only [Act.put, List.setIfInBounds_toArray, List.set_cons_zero, List.set_cons_succ]
              refine held_take (i := 7) (v := ?_) rfl rfl (by kernel_rfl) (by kernel_rfl) (by kernel_rfl) (fun _ _ _ h => h) (Or.inl ⟨by rfl, ?_⟩) hHeld ?_
              rotate_left
              · (intro w hSw; (try dsimp only at hSw); go_simp; try with_reducible rfl)
              simp only [Act.put, List.setIfInBounds_toArray, List.set_cons_zero, List.set_cons_succ]
              refine held_take (i := 8) (v := ?_) rfl rfl (by kernel_rfl) (by kernel_rfl) (by kernel_rfl) (fun _ _ _ h => h) (Or.inl ⟨by rfl, ?_⟩) hHeld ?_
              rotate_left
              · (intro w hSw; (try dsimp only at hSw); go_simp; try with_reducible rfl)
              simp only [Act.put, List.setIfInBounds_toArray, List.set_cons_zero, List.set_cons_succ]
              refine held_take (i := 9) (v := ?_) rfl rfl (by kernel_rfl) (by kernel_rfl) (by kernel_rfl) (fun _ _ _ h => h) (Or.inl ⟨by rfl, ?_⟩) hHeld ?_
              rotate_left
              · (intro w hSw; (try dsimp only at hSw); go_simp; try with_reducible rfl)
              simp only [Act.put, List.setIfInBounds_toArray, List.set_cons_zero, List.set_cons_succ]
              refine held_take (i := 10) (v := ?_) rfl rfl (by kernel_rfl) (by kernel_rfl) (by kernel_rfl) (fun _ _ _ h => h) (Or.inl ⟨by rfl, ?_⟩) hHeld ?_
              rotate_left
              · (intro w hSw; (try dsimp only at hSw); go_simp; try with_reducible rfl)
              simp only [Act.put, List.setIfInBounds_toArray, List.set_cons_zero, List.set_cons_succ]
              refine wpAnyH_ready (rs := [11]) (by kernel_rfl) (by simp) ?_
              refine AllReadyH.cons rfl (fun K hK => ?_) AllReadyH.nil
              go_simp
              refine hK.out _ _ (HXq.out _ (SM.out.1.old.trans ((below_drew1 _ _).trans ((below_one wr.drew _).mono SM.out.1.old.size)))) (fun hHeld => ?_)
              clear hK K
              refine wpAnyH_done (by kernel_rfl) ?_ _
              refine last_step rfl (fun K hK => ?_)
              go_simp
              refine hK _ _ ?_
              clear hK K
              have hw1 : Below wr.heap.size wr (wr.alloc (.cells #[.int .i64 (t : Int), .int .i64 X0, .int .i64 X1] 46)).drew := (below_one wr _).trans (below_drew1 _ _)
              have S1 : Hid (TriM w (wr.alloc (.cells #[.int .i64 (t : Int), .int .i64 X0, .int .i64 X1] 46)).drew ga va1 D1 gb vb1 U1 gc C1) := SM.out.1.later hw1
              have HPc : Hid (∀ w3 : World, w3.heap[wr.heap.size]? = (wr.alloc (.cells #[.int .i64 (t : Int), .int .i64 X0, .int .i64 X1] 46)).drew.heap[wr.heap.size]? → w3.cell? ⟨wr.heap.size, 0, none⟩ = some (.int .i64 (t : Int)) ∧ w3.cell? ⟨wr.heap.size, 1, none⟩ = some (.int .i64 X0) ∧ w3.cell? ⟨wr.heap.size, 2, none⟩ = some (.int .i64 X1)) := fun w3 e => by
                have hc : w3.heap[wr.heap.size]? = some (.cells #[.int .i64 (t : Int), .int .i64 X0, .int .i64 X1] 46 (0, 0)) := e.trans (blk_alloc_new wr _)
                exact ⟨(cell_in hc 0).1, (cell_in hc 1).1, (cell_in hc 2).1⟩
              have hPa : ¬ Zw.Fp ga va1 wr.heap.size := fun e => by have := (SM.out.1.a.fp e).2; omega
              have hPl : wr.heap.size < (wr.alloc (.cells #[.int .i64 (t : Int), .int .i64 X0, .int .i64 X1] 46)).drew.heap.size := by show wr.heap.size < (wr.alloc _).heap.size; simp
              clear hHeld x0 x1 hw1
              obtain ⟨p0, p1, p2⟩ := HPc.out _ rfl
              generalize (wr.alloc (.cells #[.int .i64 (t : Int), .int .i64 X0, .int .i64 X1] 46)).drew = W1 at S1 HPc hPl p0 p1 p2 ⊢
              generalize wr.heap.size = P at HPc hPa hPl p0 p1 p2 ⊢
              have HWa : Hid _ := fun (_ : Nat) => Zw.write_any W1 w.heap.size ga va1 D1 S1.out.a (t : Int) X0 X1
              have HWb : Hid _ := fun w2 va' D' (h : TriM w w2 ga va' D' gb vb1 U1 gc C1) => write_any w2 w.heap.size gb vb1 U1 h.b (t : Int) X0 X1
              have HWc : Hid _ := fun w2 va' D' vb' U' (h : TriM w w2 ga va' D' gb vb' U' gc C1) => writeS_any w2 w.heap.size gc C1 h.c X0 X1
              rw [HMw.out.1] at HWa
              rw [HMw.out.2.1] at HWb
              unfold Zw.ptrD at HWa
              unfold ptrU at HWb
              unfold ptrS at HWc
              generalize (toS C1 X0 X1 : Int) = ts at HWc
              by_cases e0 : erS X0 X1 = 0
              · rw [e0, errV_zero] at HWa HWb HWc
                clear e0
                go_wp2_with fail
                refine (HWa.out 0).mono ?_
                rintro e w3 ⟨rfl, va3, hst⟩
                have S3 : Hid (TriM w w3 ga va3 (Zw.wrD D1 (t : Int) X0 X1) gb vb1 U1 gc C1) := S1.out.stepA hst
                obtain ⟨y0, y1, y2⟩ := HPc.out w3 (hst.stay.block P hPl hPa)
                clear hst HWa p0 p1 p2
                go_wp2_with fail
                refine (HWb.out w3 _ _ S3.out).mono ?_
                rintro e w4 ⟨rfl, vb4, hst⟩
                have S4 : Hid (TriM w w4.drew ga va3 (Zw.wrD D1 (t : Int) X0 X1) gb vb4 (wrD U1 (t : Int) X0 X1) gc C1) := (S3.out.stepB hst).later (below_drew1 _ _)
                obtain ⟨x0, x1⟩ := HXq.out w4 (S3.out.stepB hst).old
                clear hst HWb y0 y1 y2
                go_wp2_with fail
                go_region_held3 (fun w' => w'.cell? ⟨b1, o1 + q, none⟩ = some (.int .i64 X0) ∧ w'.cell? ⟨b1, o1 + (q + 1), none⟩ = some (.int .i64 X1))
                  (first | (go_split_ands; exact HXq.out _ S5.out.old) | go_keep)
                  (first | (go_at_call 10; refine (HWc.out _ _ _ _ _ S4.out).mono ?_; rintro e w5 ⟨rfl, hst⟩; have S5 : Hid (TriM w w5 ga va3 (Zw.wrD D1 (t : Int) X0 X1) gb vb4 (wrD U1 (t : Int) X0 X1) gc (noS C1 X0 X1)) := S4.out.stepC hst; clear hst))
                clear HWc x0 x1 S1 S3 S4
                go_wp2_with fail
                go_quiet (fail)
                go_wp2
                go_roundw
                case rel => exact ⟨q + 2, j + 1, _, _, _, _, _, by have := HQ.out; omega, by have := HQ.out; omega, by go_num, S5.out.later (below_drew _ _ _), HMw.out.2.2⟩
                case measure => simp [Go.RowKit.intOf]; omega
              · rw [errV_pos e0] at HWa HWb HWc
                generalize ((erS X0 X1 : Nat) : Int) = en at HWa HWb HWc
                clear e0
                go_wp2_with fail
                refine (HWa.out 0).mono ?_
                rintro e w3 ⟨rfl, va3, hst⟩
                have S3 : Hid (TriM w w3 ga va3 (Zw.wrD D1 (t : Int) X0 X1) gb vb1 U1 gc C1) := S1.out.stepA hst
                obtain ⟨y0, y1, y2⟩ := HPc.out w3 (hst.stay.block P hPl hPa)
                clear hst HWa p0 p1 p2
                go_wp2_with fail
                refine (HWb.out w3 _ _ S3.out).mono ?_
                rintro e w4 ⟨rfl, vb4, hst⟩
                have S4 : Hid (TriM w w4.drew ga va3 (Zw.wrD D1 (t : Int) X0 X1) gb vb4 (wrD U1 (t : Int) X0 X1) gc C1) := (S3.out.stepB hst).later (below_drew1 _ _)
                obtain ⟨x0, x1⟩ := HXq.out w4 (S3.out.stepB hst).old
                clear hst HWb y0 y1 y2
                go_wp2_with fail
                go_region_held3 (fun w' => w'.cell? ⟨b1, o1 + q, none⟩ = some (.int .i64 X0) ∧ w'.cell? ⟨b1, o1 + (q + 1), none⟩ = some (.int .i64 X1))
                  (first | (go_split_ands; exact HXq.out _ S5.out.old) | go_keep)
                  (first | (go_at_call 10; refine (HWc.out _ _ _ _ _ S4.out).mono ?_; rintro e w5 ⟨rfl, hst⟩; have S5 : Hid (TriM w w5 ga va3 (Zw.wrD D1 (t : Int) X0 X1) gb vb4 (wrD U1 (t : Int) X0 X1) gc (noS C1 X0 X1)) := S4.out.stepC hst; clear hst))
                clear HWc x0 x1 S1 S3 S4
                go_wp2_with fail
                go_quiet (fail)
                go_wp2
                go_roundw
                case rel => exact ⟨q + 2, j + 1, _, _, _, _, _, by have := HQ.out; omega, by have := HQ.out; omega, by go_num, S5.out.later (below_drew _ _ _), HMw.out.2.2⟩
                case measure => simp [Go.RowKit.intOf]; omega
            · have hq2 : ¬ (q : Int) < 6 := by omega
              by_cases hp : m % 2 = 1
              · have hp1 : (m : Int) % 2 = 1 := by omega
                have HEn : Hid _ := SM.out.2.end' SM.out.1.c.good hs hj
                have HEa : Hid _ := fun (_ : Nat) => Zw.end_any wr _ ga va1 D1 SM.out.1.a (t : Int)
                rw [HEn.out.1, errV_zero] at HEa
                unfold Zw.ptrD at HEa
                go_wp2_with fail
                refine (HEa.out 0).mono ?_
                rintro e w3 ⟨rfl, va3, hst⟩
                have S3 : Hid (TriM w w3 ga va3 (Zw.enD D1 (t : Int)) gb vb1 U1 gc C1) := SM.out.1.stepA hst
                clear hst HEa
                have HEb : Hid _ := fun (_ : Nat) => end_any w3 _ gb vb1 U1 S3.out.b (t : Int)
                rw [HEn.out.2.1, errV_zero] at HEb
                unfold ptrU at HEb
                go_wp2_with fail
                refine (HEb.out 0).mono ?_
                rintro e w4 ⟨rfl, vb4, hst⟩
                have S4 : Hid (TriM w w4 ga va3 (Zw.enD D1 (t : Int)) gb vb4 (enD U1 (t : Int)) gc C1) := S3.out.stepB hst
                clear hst HEb S3
                have HEc : Hid _ := fun (_ : Nat) => endS_any w4 _ gc C1 S4.out.c
                unfold ptrS at HEc
                go_wp2_with fail
                refine (HEc.out 0).mono ?_
                rintro e w5 ⟨rfl, hst⟩
                have SE : Hid (TriM w w5 ga va3 (Zw.enD D1 (t : Int)) gb vb4 (enD U1 (t : Int)) gc (endS C1) ∧ BetT (t + 1) (Zw.enD D1 (t : Int)) (enD U1 (t : Int)) (endS C1)) := ⟨S4.out.stepC hst, HEn.out.2.2⟩
                clear hst HEc S4 SM HEn
                generalize Zw.enD D1 (t : Int) = DE at SE
                generalize enD U1 (t : Int) = UE at SE
                generalize endS C1 = CE at SE
                have HVc : Hid _ := fun (_ : Nat) => valuesS_any w5 _ gc CE SE.out.1.c
                unfold ptrS at HVc
                go_wp2_with fail
                refine (HVc.out 0).mono ?_
                rintro e w7 ⟨A3, B3, rfl, hA3, hB3, hb, _, _⟩
                have HF : Hid (VlI w7 A3 (fun i => (UE.H i : Int)) ∧ VlI w7 B3 (fun i => (UE.H i : Int)) ∧ TriM w w7 ga va3 DE gb vb4 UE gc CE) := ⟨hA3.same SE.out.2.s1, hB3.same SE.out.2.s0, SE.out.1.later hb⟩
                clear hA3 hB3 hb HVc
                have HVa : Hid _ := fun (_ : Nat) => Zw.values_any w7 _ ga va3 DE HF.out.2.2.a
                unfold Zw.ptrD at HVa
                go_wp2_with fail
                refine (HVa.out 0).mono ?_
                rintro e w8 ⟨rfl, hv8, hb⟩
                have H8 : Hid (∃ A8, A8 = w7.heap.size ∧ VlI w8 A8 (fun i => (UE.H i : Int)) ∧ VlI w8 A3 (fun i => (UE.H i : Int)) ∧ VlI w8 B3 (fun i => (UE.H i : Int)) ∧ TriM w w8 ga va3 DE gb vb4 UE gc CE) :=
                  ⟨_, rfl, (VlI.ofAt hv8).same fun i _ => by rw [SE.out.2.z, SE.out.2.wv], HF.out.1.later hb, HF.out.2.1.later hb, HF.out.2.2.later hb⟩
                obtain ⟨A8, hA8⟩ : ∃ x, x = w7.heap.size := ⟨_, rfl⟩
                have S8 : Hid (VlI w8 A8 (fun i => (UE.H i : Int)) ∧ VlI w8 A3 (fun i => (UE.H i : Int)) ∧ VlI w8 B3 (fun i => (UE.H i : Int)) ∧ TriM w w8 ga va3 DE gb vb4 UE gc CE) := by
                  obtain ⟨x, rfl, h⟩ := H8.out
                  rw [hA8]; exact h
                rw [← hA8]
                clear hA8 hv8 hb HVa HF H8
                have HVb : Hid _ := fun (_ : Nat) => values_any w8 _ gb vb4 UE S8.out.2.2.2.b
                unfold ptrU at HVb
                go_wp2_with fail
                refine (HVb.out 0).mono ?_
                rintro e w9 ⟨rfl, hv9, hb⟩
                have S9 : Hid (VlI w9 w8.heap.size (fun i => (UE.H i : Int)) ∧ VlI w9 A8 (fun i => (UE.H i : Int)) ∧ VlI w9 A3 (fun i => (UE.H i : Int)) ∧ VlI w9 B3 (fun i => (UE.H i : Int)) ∧ TriM w w9 ga va3 DE gb vb4 UE gc CE) :=
                  ⟨VlI.ofU hv9, S8.out.1.later hb, S8.out.2.1.later hb, S8.out.2.2.1.later hb, S8.out.2.2.2.later hb⟩
                clear hv9 hb HVb S8
                go_wp2_with fail
                refine (sameS_any w9 _ _ _ _ S9.out.2.1 S9.out.1 fun _ _ => rfl).mono ?_
                rintro e w10 ⟨rfl, hb⟩
                have S10 : Hid (VlI w10 A3 (fun i => (UE.H i : Int)) ∧ VlI w10 B3 (fun i => (UE.H i : Int)) ∧ TriM w w10 ga va3 DE gb vb4 UE gc CE) := ⟨S9.out.2.2.1.later hb, S9.out.2.2.2.1.later hb, S9.out.2.2.2.2.later hb⟩
                clear hb S9
                have HVb : Hid _ := fun (_ : Nat) => values_any w10 _ gb vb4 UE S10.out.2.2.b
                unfold ptrU at HVb
                go_wp2_with fail
                refine (HVb.out 0).mono ?_
                rintro e w11 ⟨rfl, hv11, hb⟩
                have S11 : Hid (VlI w11 w10.heap.size (fun i => (UE.H i : Int)) ∧ VlI w11 A3 (fun i => (UE.H i : Int)) ∧ VlI w11 B3 (fun i => (UE.H i : Int)) ∧ TriM w w11 ga va3 DE gb vb4 UE gc CE) :=
                  ⟨VlI.ofU hv11, S10.out.1.later hb, S10.out.2.1.later hb, S10.out.2.2.later hb⟩
                clear hv11 hb HVb S10
                go_wp2_with fail
                refine (sameS_any w11 _ _ _ _ S11.out.1 S11.out.2.1 fun _ _ => rfl).mono ?_
                rintro e w12 ⟨rfl, hb⟩
                have S12 : Hid (VlI w12 A3 (fun i => (UE.H i : Int)) ∧ VlI w12 B3 (fun i => (UE.H i : Int)) ∧ TriM w w12 ga va3 DE gb vb4 UE gc CE) := ⟨S11.out.2.1.later hb, S11.out.2.2.1.later hb, S11.out.2.2.2.later hb⟩
                clear hb S11
                go_wp2_with fail
                refine (sameS_any w12 _ _ _ _ S12.out.1 S12.out.2.1 fun _ _ => rfl).mono ?_
                rintro e w13 ⟨rfl, hb⟩
                have S13 : Hid (TriM w w13 ga va3 DE gb vb4 UE gc CE) := S12.out.2.2.later hb
                clear hb S12
                go_wp2
                go_roundw
                case rel => exact ⟨t + 1, _, _, _, _, _, by omega, by omega, by go_num, S13.out, SE.out.2⟩
                case measure => simp [Go.RowKit.intOf]; omega
              · have hp1 : ¬ (m : Int) % 2 = 1 := by omega
                have HEn : Hid _ := SM.out.2.undo SM.out.1.c.good hs hj
                have HEb : Hid _ := fun (_ : Nat) => undo_any wr _ gb vb1 U1 SM.out.1.b (t : Int)
                rw [HEn.out.1, errV_zero] at HEb
                unfold ptrU at HEb
                go_wp2_with fail
                refine (HEb.out 0).mono ?_
                rintro e w4 ⟨rfl, vb4, hst⟩
                have S4 : Hid (TriM w w4 ga va1 D1 gb vb4 (unD U1 (t : Int)) gc C1) := SM.out.1.stepB hst
                clear hst HEb
                have HEc : Hid _ := fun (_ : Nat) => crashS_any w4 _ gc C1 S4.out.c
                unfold ptrS at HEc
                go_wp2_with fail
                refine (HEc.out 0).mono ?_
                rintro e w5 ⟨rfl, hst⟩
                have SE : Hid (TriM w w5 ga va1 D1 gb vb4 (unD U1 (t : Int)) gc (crS C1) ∧ BetT (t + 1) D1 (unD U1 (t : Int)) (crS C1)) := ⟨S4.out.stepC hst, HEn.out.2⟩
                clear hst HEc S4 SM HEn
                generalize unD U1 (t : Int) = UE at SE
                generalize crS C1 = CE at SE
                have HVc : Hid _ := fun (_ : Nat) => valuesS_any w5 _ gc CE SE.out.1.c
                unfold ptrS at HVc
                go_wp2_with fail
                refine (HVc.out 0).mono ?_
                rintro e w7 ⟨A3, B3, rfl, hA3, hB3, hb, _, _⟩
                have HF : Hid (VlI w7 A3 (fun i => (UE.H i : Int)) ∧ VlI w7 B3 (fun i => (UE.H i : Int)) ∧ TriM w w7 ga va1 D1 gb vb4 UE gc CE) := ⟨hA3.same SE.out.2.s1, hB3.same SE.out.2.s0, SE.out.1.later hb⟩
                clear hA3 hB3 hb HVc
                have HVa : Hid _ := fun (_ : Nat) => Zw.values_any w7 _ ga va1 D1 HF.out.2.2.a
                unfold Zw.ptrD at HVa
                go_wp2_with fail
                refine (HVa.out 0).mono ?_
                rintro e w8 ⟨rfl, hv8, hb⟩
                have H8 : Hid (∃ A8, A8 = w7.heap.size ∧ VlI w8 A8 (fun i => (UE.H i : Int)) ∧ VlI w8 A3 (fun i => (UE.H i : Int)) ∧ VlI w8 B3 (fun i => (UE.H i : Int)) ∧ TriM w w8 ga va1 D1 gb vb4 UE gc CE) :=
                  ⟨_, rfl, (VlI.ofAt hv8).same fun i _ => by rw [SE.out.2.z, SE.out.2.wv], HF.out.1.later hb, HF.out.2.1.later hb, HF.out.2.2.later hb⟩
                obtain ⟨A8, hA8⟩ : ∃ x, x = w7.heap.size := ⟨_, rfl⟩
                have S8 : Hid (VlI w8 A8 (fun i => (UE.H i : Int)) ∧ VlI w8 A3 (fun i => (UE.H i : Int)) ∧ VlI w8 B3 (fun i => (UE.H i : Int)) ∧ TriM w w8 ga va1 D1 gb vb4 UE gc CE) := by
                  obtain ⟨x, rfl, h⟩ := H8.out
                  rw [hA8]; exact h
                rw [← hA8]
                clear hA8 hv8 hb HVa HF H8
                have HVb : Hid _ := fun (_ : Nat) => values_any w8 _ gb vb4 UE S8.out.2.2.2.b
                unfold ptrU at HVb
                go_wp2_with fail
                refine (HVb.out 0).mono ?_
                rintro e w9 ⟨rfl, hv9, hb⟩
                have S9 : Hid (VlI w9 w8.heap.size (fun i => (UE.H i : Int)) ∧ VlI w9 A8 (fun i => (UE.H i : Int)) ∧ VlI w9 A3 (fun i => (UE.H i : Int)) ∧ VlI w9 B3 (fun i => (UE.H i : Int)) ∧ TriM w w9 ga va1 D1 gb vb4 UE gc CE) :=
                  ⟨VlI.ofU hv9, S8.out.1.later hb, S8.out.2.1.later hb, S8.out.2.2.1.later hb, S8.out.2.2.2.later hb⟩
                clear hv9 hb HVb S8
                go_wp2_with fail
                refine (sameS_any w9 _ _ _ _ S9.out.2.1 S9.out.1 fun _ _ => rfl).mono ?_
                rintro e w10 ⟨rfl, hb⟩
                have S10 : Hid (VlI w10 A3 (fun i => (UE.H i : Int)) ∧ VlI w10 B3 (fun i => (UE.H i : Int)) ∧ TriM w w10 ga va1 D1 gb vb4 UE gc CE) := ⟨S9.out.2.2.1.later hb, S9.out.2.2.2.1.later hb, S9.out.2.2.2.2.later hb⟩
                clear hb S9
                have HVb : Hid _ := fun (_ : Nat) => values_any w10 _ gb vb4 UE S10.out.2.2.b
                unfold ptrU at HVb
                go_wp2_with fail
                refine (HVb.out 0).mono ?_
                rintro e w11 ⟨rfl, hv11, hb⟩
                have S11 : Hid (VlI w11 w10.heap.size (fun i => (UE.H i : Int)) ∧ VlI w11 A3 (fun i => (UE.H i : Int)) ∧ VlI w11 B3 (fun i => (UE.H i : Int)) ∧ TriM w w11 ga va1 D1 gb vb4 UE gc CE) :=
                  ⟨VlI.ofU hv11, S10.out.1.later hb, S10.out.2.1.later hb, S10.out.2.2.later hb⟩
                clear hv11 hb HVb S10
                go_wp2_with fail
                refine (sameS_any w11 _ _ _ _ S11.out.1 S11.out.2.1 fun _ _ => rfl).mono ?_
                rintro e w12 ⟨rfl, hb⟩
                have S12 : Hid (VlI w12 A3 (fun i => (UE.H i : Int)) ∧ VlI w12 B3 (fun i => (UE.H i : Int)) ∧ TriM w w12 ga va1 D1 gb vb4 UE gc CE) := ⟨S11.out.2.1.later hb, S11.out.2.2.1.later hb, S11.out.2.2.2.later hb⟩
                clear hb S11
                go_wp2_with fail
                refine (sameS_any w12 _ _ _ _ S12.out.1 S12.out.2.1 fun _ _ => rfl).mono ?_
                rintro e w13 ⟨rfl, hb⟩
                have S13 : Hid (TriM w w13 ga va1 D1 gb vb4 UE gc CE) := S12.out.2.2.later hb
                clear hb S12
                go_wp2
                go_roundw
                case rel => exact ⟨t + 1, _, _, _, _, _, by omega, by omega, by go_num, S13.out, SE.out.2⟩
                case measure => simp [Go.RowKit.intOf]; omega
          · have hq1 : ¬ (q : Int) + 1 < (m : Int) := by omega
            by_cases hp : m % 2 = 1
            · have hp1 : (m : Int) % 2 = 1 := by omega
              have HEn : Hid _ := SM.out.2.end' SM.out.1.c.good hs hj
              have HEa : Hid _ := fun (_ : Nat) => Zw.end_any wr _ ga va1 D1 SM.out.1.a (t : Int)
              rw [HEn.out.1, errV_zero] at HEa
              unfold Zw.ptrD at HEa
              go_wp2_with fail
              refine (HEa.out 0).mono ?_
              rintro e w3 ⟨rfl, va3, hst⟩
              have S3 : Hid (TriM w w3 ga va3 (Zw.enD D1 (t : Int)) gb vb1 U1 gc C1) := SM.out.1.stepA hst
              clear hst HEa
              have HEb : Hid _ := fun (_ : Nat) => end_any w3 _ gb vb1 U1 S3.out.b (t : Int)
              rw [HEn.out.2.1, errV_zero] at HEb
              unfold ptrU at HEb
              go_wp2_with fail
              refine (HEb.out 0).mono ?_
              rintro e w4 ⟨rfl, vb4, hst⟩
              have S4 : Hid (TriM w w4 ga va3 (Zw.enD D1 (t : Int)) gb vb4 (enD U1 (t : Int)) gc C1) := S3.out.stepB hst
              clear hst HEb S3
              have HEc : Hid _ := fun (_ : Nat) => endS_any w4 _ gc C1 S4.out.c
              unfold ptrS at HEc
              go_wp2_with fail
              refine (HEc.out 0).mono ?_
              rintro e w5 ⟨rfl, hst⟩
              have SE : Hid (TriM w w5 ga va3 (Zw.enD D1 (t : Int)) gb vb4 (enD U1 (t : Int)) gc (endS C1) ∧ BetT (t + 1) (Zw.enD D1 (t : Int)) (enD U1 (t : Int)) (endS C1)) := ⟨S4.out.stepC hst, HEn.out.2.2⟩
              clear hst HEc S4 SM HEn
              generalize Zw.enD D1 (t : Int) = DE at SE
              generalize enD U1 (t : Int) = UE at SE
              generalize endS C1 = CE at SE
              have HVc : Hid _ := fun (_ : Nat) => valuesS_any w5 _ gc CE SE.out.1.c
              unfold ptrS at HVc
              go_wp2_with fail
              refine (HVc.out 0).mono ?_
              rintro e w7 ⟨A3, B3, rfl, hA3, hB3, hb, _, _⟩
              have HF : Hid (VlI w7 A3 (fun i => (UE.H i : Int)) ∧ VlI w7 B3 (fun i => (UE.H i : Int)) ∧ TriM w w7 ga va3 DE gb vb4 UE gc CE) := ⟨hA3.same SE.out.2.s1, hB3.same SE.out.2.s0, SE.out.1.later hb⟩
              clear hA3 hB3 hb HVc
              have HVa : Hid _ := fun (_ : Nat) => Zw.values_any w7 _ ga va3 DE HF.out.2.2.a
              unfold Zw.ptrD at HVa
              go_wp2_with fail
              refine (HVa.out 0).mono ?_
              rintro e w8 ⟨rfl, hv8, hb⟩
              have H8 : Hid (∃ A8, A8 = w7.heap.size ∧ VlI w8 A8 (fun i => (UE.H i : Int)) ∧ VlI w8 A3 (fun i => (UE.H i : Int)) ∧ VlI w8 B3 (fun i => (UE.H i : Int)) ∧ TriM w w8 ga va3 DE gb vb4 UE gc CE) :=
                ⟨_, rfl, (VlI.ofAt hv8).same fun i _ => by rw [SE.out.2.z, SE.out.2.wv], HF.out.1.later hb, HF.out.2.1.later hb, HF.out.2.2.later hb⟩
              obtain ⟨A8, hA8⟩ : ∃ x, x = w7.heap.size := ⟨_, rfl⟩
              have S8 : Hid (VlI w8 A8 (fun i => (UE.H i : Int)) ∧ VlI w8 A3 (fun i => (UE.H i : Int)) ∧ VlI w8 B3 (fun i => (UE.H i : Int)) ∧ TriM w w8 ga va3 DE gb vb4 UE gc CE) := by
                obtain ⟨x, rfl, h⟩ := H8.out
                rw [hA8]; exact h
              rw [← hA8]
              clear hA8 hv8 hb HVa HF H8
              have HVb : Hid _ := fun (_ : Nat) => values_any w8 _ gb vb4 UE S8.out.2.2.2.b
              unfold ptrU at HVb
              go_wp2_with fail
              refine (HVb.out 0).mono ?_
              rintro e w9 ⟨rfl, hv9, hb⟩
              have S9 : Hid (VlI w9 w8.heap.size (fun i => (UE.H i : Int)) ∧ VlI w9 A8 (fun i => (UE.H i : Int)) ∧ VlI w9 A3 (fun i => (UE.H i : Int)) ∧ VlI w9 B3 (fun i => (UE.H i : Int)) ∧ TriM w w9 ga va3 DE gb vb4 UE gc CE) :=
                ⟨VlI.ofU hv9, S8.out.1.later hb, S8.out.2.1.later hb, S8.out.2.2.1.later hb, S8.out.2.2.2.later hb⟩
              clear hv9 hb HVb S8
              go_wp2_with fail
              refine (sameS_any w9 _ _ _ _ S9.out.2.1 S9.out.1 fun _ _ => rfl).mono ?_
              rintro e w10 ⟨rfl, hb⟩
              have S10 : Hid (VlI w10 A3 (fun i => (UE.H i : Int)) ∧ VlI w10 B3 (fun i => (UE.H i : Int)) ∧ TriM w w10 ga va3 DE gb vb4 UE gc CE) := ⟨S9.out.2.2.1.later hb, S9.out.2.2.2.1.later hb, S9.out.2.2.2.2.later hb⟩
              clear hb S9
              have HVb : Hid _ := fun (_ : Nat) => values_any w10 _ gb vb4 UE S10.out.2.2.b
              unfold ptrU at HVb
              go_wp2_with fail
              refine (HVb.out 0).mono ?_
              rintro e w11 ⟨rfl, hv11, hb⟩
              have S11 : Hid (VlI w11 w10.heap.size (fun i => (UE.H i : Int)) ∧ VlI w11 A3 (fun i => (UE.H i : Int)) ∧ VlI w11 B3 (fun i => (UE.H i : Int)) ∧ TriM w w11 ga va3 DE gb vb4 UE gc CE) :=
                ⟨VlI.ofU hv11, S10.out.1.later hb, S10.out.2.1.later hb, S10.out.2.2.later hb⟩
              clear hv11 hb HVb S10
              go_wp2_with fail
              refine (sameS_any w11 _ _ _ _ S11.out.1 S11.out.2.1 fun _ _ => rfl).mono ?_
              rintro e w12 ⟨rfl, hb⟩
              have S12 : Hid (VlI w12 A3 (fun i => (UE.H i : Int)) ∧ VlI w12 B3 (fun i => (UE.H i : Int)) ∧ TriM w w12 ga va3 DE gb vb4 UE gc CE) := ⟨S11.out.2.1.later hb, S11.out.2.2.1.later hb, S11.out.2.2.2.later hb⟩
              clear hb S11
              go_wp2_with fail
              refine (sameS_any w12 _ _ _ _ S12.out.1 S12.out.2.1 fun _ _ => rfl).mono ?_
              rintro e w13 ⟨rfl, hb⟩
              have S13 : Hid (TriM w w13 ga va3 DE gb vb4 UE gc CE) := S12.out.2.2.later hb
              clear hb S12
              go_wp2
              go_roundw
              case rel => exact ⟨t + 1, _, _, _, _, _, by omega, by omega, by go_num, S13.out, SE.out.2⟩
              case measure => simp [Go.RowKit.intOf]; omega
            · have hp1 : ¬ (m : Int) % 2 = 1 := by omega
              have HEn : Hid _ := SM.out.2.undo SM.out.1.c.good hs hj
              have HEb : Hid _ := fun (_ : Nat) => undo_any wr _ gb vb1 U1 SM.out.1.b (t : Int)
              rw [HEn.out.1, errV_zero] at HEb
              unfold ptrU at HEb
              go_wp2_with fail
              refine (HEb.out 0).mono ?_
              rintro e w4 ⟨rfl, vb4, hst⟩
              have S4 : Hid (TriM w w4 ga va1 D1 gb vb4 (unD U1 (t : Int)) gc C1) := SM.out.1.stepB hst
              clear hst HEb
              have HEc : Hid _ := fun (_ : Nat) => crashS_any w4 _ gc C1 S4.out.c
              unfold ptrS at HEc
              go_wp2_with fail
              refine (HEc.out 0).mono ?_
              rintro e w5 ⟨rfl, hst⟩
              have SE : Hid (TriM w w5 ga va1 D1 gb vb4 (unD U1 (t : Int)) gc (crS C1) ∧ BetT (t + 1) D1 (unD U1 (t : Int)) (crS C1)) := ⟨S4.out.stepC hst, HEn.out.2⟩
              clear hst HEc S4 SM HEn
              generalize unD U1 (t : Int) = UE at SE
              generalize crS C1 = CE at SE
              have HVc : Hid _ := fun (_ : Nat) => valuesS_any w5 _ gc CE SE.out.1.c
              unfold ptrS at HVc
              go_wp2_with fail
              refine (HVc.out 0).mono ?_
              rintro e w7 ⟨A3, B3, rfl, hA3, hB3, hb, _, _⟩
              have HF : Hid (VlI w7 A3 (fun i => (UE.H i : Int)) ∧ VlI w7 B3 (fun i => (UE.H i : Int)) ∧ TriM w w7 ga va1 D1 gb vb4 UE gc CE) := ⟨hA3.same SE.out.2.s1, hB3.same SE.out.2.s0, SE.out.1.later hb⟩
              clear hA3 hB3 hb HVc
              have HVa : Hid _ := fun (_ : Nat) => Zw.values_any w7 _ ga va1 D1 HF.out.2.2.a
              unfold Zw.ptrD at HVa
              go_wp2_with fail
              refine (HVa.out 0).mono ?_
              rintro e w8 ⟨rfl, hv8, hb⟩
              have H8 : Hid (∃ A8, A8 = w7.heap.size ∧ VlI w8 A8 (fun i => (UE.H i : Int)) ∧ VlI w8 A3 (fun i => (UE.H i : Int)) ∧ VlI w8 B3 (fun i => (UE.H i : Int)) ∧ TriM w w8 ga va1 D1 gb vb4 UE gc CE) :=
                ⟨_, rfl, (VlI.ofAt hv8).same fun i _ => by rw [SE.out.2.z, SE.out.2.wv], HF.out.1.later hb, HF.out.2.1.later hb, HF.out.2.2.later hb⟩
              obtain ⟨A8, hA8⟩ : ∃ x, x = w7.heap.size := ⟨_, rfl⟩
              have S8 : Hid (VlI w8 A8 (fun i => (UE.H i : Int)) ∧ VlI w8 A3 (fun i => (UE.H i : Int)) ∧ VlI w8 B3 (fun i => (UE.H i : Int)) ∧ TriM w w8 ga va1 D1 gb vb4 UE gc CE) := by
                obtain ⟨x, rfl, h⟩ := H8.out
                rw [hA8]; exact h
              rw [← hA8]
              clear hA8 hv8 hb HVa HF H8
              have HVb : Hid _ := fun (_ : Nat) => values_any w8 _ gb vb4 UE S8.out.2.2.2.b
              unfold ptrU at HVb
              go_wp2_with fail
              refine (HVb.out 0).mono ?_
              rintro e w9 ⟨rfl, hv9, hb⟩
              have S9 : Hid (VlI w9 w8.heap.size (fun i => (UE.H i : Int)) ∧ VlI w9 A8 (fun i => (UE.H i : Int)) ∧ VlI w9 A3 (fun i => (UE.H i : Int)) ∧ VlI w9 B3 (fun i => (UE.H i : Int)) ∧ TriM w w9 ga va1 D1 gb vb4 UE gc CE) :=
                ⟨VlI.ofU hv9, S8.out.1.later hb, S8.out.2.1.later hb, S8.out.2.2.1.later hb, S8.out.2.2.2.later hb⟩
              clear hv9 hb HVb S8
              go_wp2_with fail
              refine (sameS_any w9 _ _ _ _ S9.out.2.1 S9.out.1 fun _ _ => rfl).mono ?_
              rintro e w10 ⟨rfl, hb⟩
              have S10 : Hid (VlI w10 A3 (fun i => (UE.H i : Int)) ∧ VlI w10 B3 (fun i => (UE.H i : Int)) ∧ TriM w w10 ga va1 D1 gb vb4 UE gc CE) := ⟨S9.out.2.2.1.later hb, S9.out.2.2.2.1.later hb, S9.out.2.2.2.2.later hb⟩
              clear hb S9
              have HVb : Hid _ := fun (_ : Nat) => values_any w10 _ gb vb4 UE S10.out.2.2.b
              unfold ptrU at HVb
              go_wp2_with fail
              refine (HVb.out 0).mono ?_
              rintro e w11 ⟨rfl, hv11, hb⟩
              have S11 : Hid (VlI w11 w10.heap.size (fun i => (UE.H i : Int)) ∧ VlI w11 A3 (fun i => (UE.H i : Int)) ∧ VlI w11 B3 (fun i => (UE.H i : Int)) ∧ TriM w w11 ga va1 D1 gb vb4 UE gc CE) :=
                ⟨VlI.ofU hv11, S10.out.1.later hb, S10.out.2.1.later hb, S10.out.2.2.later hb⟩
              clear hv11 hb HVb S10
              go_wp2_with fail
              refine (sameS_any w11 _ _ _ _ S11.out.1 S11.out.2.1 fun _ _ => rfl).mono ?_
              rintro e w12 ⟨rfl, hb⟩
              have S12 : Hid (VlI w12 A3 (fun i => (UE.H i : Int)) ∧ VlI w12 B3 (fun i => (UE.H i : Int)) ∧ TriM w w12 ga va1 D1 gb vb4 UE gc CE) := ⟨S11.out.2.1.later hb, S11.out.2.2.1.later hb, S11.out.2.2.2.later hb⟩
              clear hb S11
              go_wp2_with fail
              refine (sameS_any w12 _ _ _ _ S12.out.1 S12.out.2.1 fun _ _ => rfl).mono ?_
              rintro e w13 ⟨rfl, hb⟩
              have S13 : Hid (TriM w w13 ga va1 D1 gb vb4 UE gc CE) := S12.out.2.2.later hb
              clear hb S12
              go_wp2
              go_roundw
              case rel => exact ⟨t + 1, _, _, _, _, _, by omega, by omega, by go_num, S13.out, SE.out.2⟩
              case measure => simp [Go.RowKit.intOf]; omega
      · have hs1 : ¬ (t : Int) < 10 := by omega
        go_wp2
        go_ret
        exact ⟨rfl, HRf.out _ ST.out.1.old⟩
    · have hl1 : ¬ (t : Int) < (n : Int) := by omega
      go_wp2
      go_ret
      exact ⟨rfl, HRf.out _ ST.out.1.old⟩

end Go.Proofs.Ythgbknfdbobmiaa
