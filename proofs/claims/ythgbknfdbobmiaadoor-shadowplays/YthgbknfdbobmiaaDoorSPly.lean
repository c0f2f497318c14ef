/- This text proves that platterholdlaw3.ShadowPlays returns true for any rows, and lets all old memory be; the conditions: the rows lie there, and the library's variable errors.errorType holds what the program's own text lays. -/
import Derived.Test.YthgbknfdbobmiaaDoorSD4
import Derived.Test.YthgbknfdbobmiaaDoorAs
import Derived.Deep.RegionWith
import Derived.Deep.QuietTactic
namespace Go.Proofs.YthgbknfdbobmiaaDoor
open Go.RowKit Go.Deep

set_option maxHeartbeats 64000000 in
set_option maxRecDepth 100000 in
theorem shadowPlays_any (w : World) (v0 : Value) (rs : List (List Int)) (hr : RowsIs w v0 rs) (hL : Laid w) :
    Calls Tryd.prog 3 #[v0] w fun e w' => e = .returned (.bool true) ∧ Below w.heap.size w w' := by
  have HR : Hid (RowsIs w v0 rs) := hr
  have HL : Hid (Laid w) := hL
  obtain ⟨a, c, hv, hl, _⟩ := hr
  obtain ⟨n, hn⟩ : ∃ n, n = rs.length := ⟨_, rfl⟩
  rw [← hn] at hv hl
  unfold maxLen at hl
  subst hv
  clear hn hL
  go_enter Tryd.func3, Tryd.ntmps3
  go_wp2_with fail
  refine (new_shadow _).mono ?_
  rintro e w1 ⟨g, rfl, hT, hb⟩
  have ST0 : Hid (OnS w w1 g sh0) := ⟨hT, hb⟩
  clear hT hb
  unfold ptrS
  go_wp2_with fail
  refine (r3new_any w1).mono ?_
  rintro e w2 ⟨vs0, vo0, vn0, rfl, hD2, hO2, hN2, hb2⟩
  have ST1 : Hid _ := fun (_ : Nat) => PlS.new ST0.out hD2 hO2 hN2 hb2
  obtain ⟨a0, c0, rfl⟩ := rown_form hD2
  obtain ⟨a1, c1, rfl⟩ := rown_form hO2
  obtain ⟨a2, c2, rfl⟩ := rown_form hN2
  clear hD2 hO2 hN2 hb2
  go_wp2
  generalize w2.alloc _ = w3 at ST1 ⊢
  generalize w2.heap.size = X at ST1 ⊢
  have ST2 : Hid (∃ vs vo vn C, PlS w w3 g X vs vo vn C C) := ⟨_, _, _, _, ST1.out 0⟩
  clear ST0 ST1
  go_loopw [5] (fun i wr => ∃ k, k ≤ 60 ∧ i = .int .i64 ((k : Nat) : Int) ∧ ∃ vs vo vn C, PlS w wr g X vs vo vn C C) (fun i _ => 60 - (Go.RowKit.intOf i).toNat)
  case atStart => exact ⟨0, by omega, rfl, ST2.out⟩
  case round =>
    obtain ⟨k, hk, rfl, vs, vo, vn, C, hst⟩ := hrel
    have ST : Hid (PlS w wr g X vs vo vn C C) := hst
    clear hst ST2
    by_cases hlt : k < n
    · have hl1 : (k : Int) < (n : Int) := by omega
      by_cases hs : k < 60
      · have hs1 : (k : Int) < 60 := by omega
        obtain ⟨bb, o, vr, ha, hbs, hck, hsk⟩ := HR.out.row k hlt
        subst ha
        have hc0 : wr.cell? ⟨bb, o + k, none⟩ = some vr := by rw [ST.out.on.old.cell (p := ⟨bb, o + k, none⟩) hbs]; exact hck
        obtain ⟨z, hz⟩ : ∃ z, (rowAt rs k).length = z := ⟨_, rfl⟩
        obtain ⟨⟨a0, cs, rfl⟩, ⟨ao, co, rfl⟩, ⟨an, cn, rfl⟩⟩ := ST.out.doc.is.form
        by_cases h2 : z = 2
        · subst h2
          obtain ⟨b1, o1, c2, rfl, hb1, hx⟩ := row_cells hsk hz (by omega)
          have HX : Hid (∀ w2, Below w.heap.size w w2 → w2.cell? ⟨b1, o1, none⟩ = some (.int .i64 (nth (rowAt rs k) 0)) ∧ w2.cell? ⟨b1, o1 + 1, none⟩ = some (.int .i64 (nth (rowAt rs k) 1))) := fun w2 h =>
            ⟨by rw [h.cell (p := ⟨b1, o1, none⟩) hb1]; exact hx 0 (by omega), by rw [h.cell (p := ⟨b1, o1 + 1, none⟩) hb1]; exact hx 1 (by omega)⟩
          generalize nth (rowAt rs k) 0 = X0 at HX
          generalize nth (rowAt rs k) 1 = X1 at HX
          obtain ⟨r0, r1⟩ := HX.out wr ST.out.on.old
          clear hx hsk hz hck
          by_cases hok : 0 ≤ X0 ∧ X0 < 8 ∧ 0 ≤ X1 ∧ X1 ≤ 1000
          · obtain ⟨h0, h1, h2, h3⟩ := hok
            obtain ⟨P, rfl⟩ : ∃ P : Nat, X0 = (P : Int) := ⟨_, (Int.toNat_of_nonneg h0).symm⟩
            have hP : P < 8 := by omega
            have STd : Hid (PlS w wr.drew g X (.slice a0 16 cs) (.slice ao 8 co) (.slice an 8 cn) C C) := ST.out.later (below_drew1 _ _)
            have HRo : Hid _ := fun (_ : Nat) => r3write_any wr.drew _ _ _ C STd.out.doc.is STd.out.on.disk.good P X1 hP
            obtain ⟨x0, x1, x2, f0, f1, f2⟩ := ST.out.box.facts
            go_wp2_with fail
            refine (in_yes (P : Int) 0 7 _ (by omega)).mono ?_
            rintro e w6 ⟨rfl, rfl⟩
            go_wp2_with fail
            refine (in_yes X1 0 1000 _ (by omega)).mono ?_
            rintro e w6 ⟨rfl, rfl⟩
            clear hc0
            go_wp2_with fail
            refine wp_region_held_drew (S := fun w' => (w'.cell? ⟨b1, o1, none⟩ = some (.int .i64 (P : Int)) ∧ w'.cell? ⟨b1, o1 + 1, none⟩ = some (.int .i64 X1))) (by kernel_rfl) ?hs (fun hHeld => ?_)
            case hs => exact HX.out _ STd.out.on.old
            refine held_take (i := 1) (v := ?_) rfl rfl (by kernel_rfl) (by kernel_rfl) (by kernel_rfl) (fun _ _ _ h => h) (Or.inl ⟨by rfl, ?_⟩) hHeld ?_
            rotate_left
            · (intro w hSw; (try dsimp only at hSw); go_simp; try with_reducible rfl)
            simp only [Act.put, List.setIfInBounds_toArray, List.set_cons_zero, List.set_cons_succ]
            refine held_take (i := 2) (v := ?_) rfl rfl (by kernel_rfl) (by kernel_rfl) (by kernel_rfl) (fun _ _ _ h => h) (Or.inl ⟨by rfl, ?_⟩) hHeld ?_
            rotate_left
            · (intro w hSw; (try dsimp only at hSw); go_simp; try with_reducible rfl)
            simp only [Act.put, List.setIfInBounds_toArray, List.set_cons_zero, List.set_cons_succ]
            refine held_take (i := 3) (v := ?_) rfl rfl (by kernel_rfl) (by kernel_rfl) (by kernel_rfl) (fun _ _ _ h => h) (Or.inl ⟨by rfl, ?_⟩) hHeld ?_
            rotate_left
            · (intro w hSw; (try dsimp only at hSw); go_simp; try with_reducible rfl)
            simp only [Act.put, List.setIfInBounds_toArray, List.set_cons_zero, List.set_cons_succ]
            refine held_take (i := 4) (v := ?_) rfl rfl (by kernel_rfl) (by kernel_rfl) (by kernel_rfl) (fun _ _ _ h => h) (Or.inl ⟨by rfl, ?_⟩) hHeld ?_
            rotate_left
            · (intro w hSw; (try dsimp only at hSw); go_simp; try with_reducible rfl)
            simp only [Act.put, List.setIfInBounds_toArray, List.set_cons_zero, List.set_cons_succ]
            refine held_take (i := 5) (v := ?_) rfl rfl (by kernel_rfl) (by kernel_rfl) (by kernel_rfl) (fun _ _ _ h => h) (Or.inl ⟨by rfl, ?_⟩) hHeld ?_
            rotate_left
            · (intro w hSw; (try dsimp only at hSw); go_simp; try with_reducible rfl)
            simp only [Act.put, List.setIfInBounds_toArray, List.set_cons_zero, List.set_cons_succ]
            refine held_take (i := 6) (v := ?_) rfl rfl (by kernel_rfl) (by kernel_rfl) (by kernel_rfl) (fun _ _ _ h => h) (Or.inl ⟨by rfl, ?_⟩) hHeld ?_
            rotate_left
            · (intro w hSw; (try dsimp only at hSw); go_simp; try with_reducible rfl)
            simp only [Act.put, List.setIfInBounds_toArray, List.set_cons_zero, List.set_cons_succ]
            refine wpAnyH_ready (rs := [0]) (by kernel_rfl) (by simp) ?_
            refine AllReadyH.cons rfl (fun K hK => ?_) AllReadyH.nil
            go_simp
            refine hK.out _ _ (hHeld) (fun hHeld => ?_)
            clear hK K
            refine wpAnyH_ready (rs := [7]) (by kernel_rfl) (by simp) ?_
            refine AllReadyH.cons rfl (fun K hK => ?_) AllReadyH.nil
            go_simp
            go_at_call 8
            refine (HRo.out 0).mono ?_
            rintro e w2 ⟨vs', vn', rfl, hnx⟩
            have HM2 : Hid _ := fun (_ : Nat) => STd.out.docs hnx
            obtain ⟨a0', cs', rfl⟩ := rown_form hnx.s
            obtain ⟨_, _, ⟨an', cn', rfl⟩⟩ := (HM2.out 0).doc.is.form
            have hBx := STd.out.box.later hnx.old
            have hb2 := (STd.out.later hnx.old).on.old
            obtain ⟨q0, q1, q2, g0, g1, g2⟩ := hBx.facts
            go_simp
            refine hK.out _ _ (HX.out _ hb2) (fun hHeld => ?_)
            clear hK K
            refine held_take (i := 8) (v := ?_) rfl rfl (by kernel_rfl) (by kernel_rfl) (by kernel_rfl) (fun _ _ _ h => h) (Or.inl ⟨by rfl, ?_⟩) hHeld ?_
            rotate_left
            · (intro w hSw; (try dsimp only at hSw); go_simp; try with_reducible rfl)
            simp only [Act.put, List.setIfInBounds_toArray, List.set_cons_zero, List.set_cons_succ]
            refine held_take (i := 9) (v := ?_) rfl rfl (by kernel_rfl) (by kernel_rfl) (by kernel_rfl) (fun _ _ _ h => h) (Or.inl ⟨by rfl, ?_⟩) hHeld ?_
            rotate_left
            · (intro w hSw; (try dsimp only at hSw); go_simp; try with_reducible rfl)
            simp only [Act.put, List.setIfInBounds_toArray, List.set_cons_zero, List.set_cons_succ]
            refine held_take (i := 10) (v := ?_) rfl rfl (by kernel_rfl) (by kernel_rfl) (by kernel_rfl) (fun _ _ _ h => h) (Or.inl ⟨by rfl, ?_⟩) hHeld ?_
            rotate_left
            · (intro w hSw; (try dsimp only at hSw); go_simp; try with_reducible rfl)
            simp only [Act.put, List.setIfInBounds_toArray, List.set_cons_zero, List.set_cons_succ]
            refine wpAnyH_ready (rs := [11]) (by kernel_rfl) (by simp) ?_
            refine AllReadyH.cons rfl (fun K hK => ?_) AllReadyH.nil
            go_simp
            refine hK.out _ _ (HX.out _ (HM2.out 0).on.old) (fun hHeld => ?_)
            clear hK K
            refine held_take (i := 12) (v := ?_) rfl rfl (by kernel_rfl) (by kernel_rfl) (by kernel_rfl) (fun _ _ _ h => h) (Or.inl ⟨by rfl, ?_⟩) hHeld ?_
            rotate_left
            · (intro w hSw; (try dsimp only at hSw); go_simp; try with_reducible rfl)
            simp only [Act.put, List.setIfInBounds_toArray, List.set_cons_zero, List.set_cons_succ]
            refine wpAnyH_done (by kernel_rfl) ?_ _
            have HM : Hid _ := HM2.out
            clear hHeld hnx hBx hb2 q0 q1 q2 g0 g1 g2 x0 x1 x2 f0 f1 f2 r0 r1 HRo HM2
            generalize World.setCell _ _ _ = w3 at HM ⊢
            obtain ⟨r0, r1⟩ := HX.out w3 (HM.out 0).on.old
            have HWr : Hid _ := fun (_ : Nat) => writeS_any w3.drew _ g C ((HM.out 0).later (below_drew1 _ _)).on.disk (P : Int) X1
            have hok : 0 ≤ (P : Int) ∧ (P : Int) < 8 ∧ 0 ≤ X1 ∧ X1 ≤ 1000 := ⟨h0, h1, h2, h3⟩
            unfold ptrS toS erS noS at HWr
            rw [if_pos hok, if_pos hok, if_pos hok, Int.toNat_natCast] at HWr
            clear hok
            go_wp2_with fail
            go_region_held3 (fun w' => w'.cell? ⟨b1, o1, none⟩ = some (.int .i64 (P : Int)) ∧ w'.cell? ⟨b1, o1 + 1, none⟩ = some (.int .i64 X1))
              (first | (go_split_ands; exact HX.out _ (HM4.out 0).on.old) | go_keep)
              (first | (go_at_call 9; refine (HWr.out 0).mono ?_; rintro e w4 ⟨rfl, hst4⟩; have HM4 : Hid _ := fun (_ : Nat) => ((HM.out 0).later (below_drew1 _ _)).prog hst4; clear hst4))
            clear r0 r1
            have HEr : Hid _ := fun (_ : Nat) => error_any 0 (0 : Int) w4 (HL.out.later (HM4.out 0).on.old)
            rw [show (((0 : Nat) : Int) == (0 : Int)) = true by simp] at HEr
            go_wp2_with fail
            refine (HEr.out 0).mono ?_
            rintro e w5 ⟨rfl, hb5⟩
            have SE : Hid (∃ vs vo vn C, PlS w w5 g X vs vo vn C C) := ⟨_, _, _, _, (HM4.out 0).later hb5⟩
            clear hb5 HEr HWr HM HM4
            obtain ⟨vs, vo, vn, C, hst⟩ := SE.out
            obtain ⟨⟨a0, cs, rfl⟩, ⟨ao, co, rfl⟩, ⟨an, cn, rfl⟩⟩ := hst.doc.is.form
            have SF : Hid (PlS w w5 g X (.slice a0 16 cs) (.slice ao 8 co) (.slice an 8 cn) C C) := hst
            have HV : Hid _ := fun (_ : Nat) => valuesS_any w5 _ g C SF.out.on.disk
            unfold ptrS at HV
            clear hst SE
            go_wp2_with fail
            refine (HV.out 0).mono ?_
            rintro e wv ⟨A, B, rfl, hA, hB, hb, _, _⟩
            have SV : Hid (PlS w wv g X (.slice a0 16 cs) (.slice ao 8 co) (.slice an 8 cn) C C) := SF.out.later hb
            have VA : Hid (VlI wv A (vlS C 24) ∧ VlI wv B (vlS C 16)) := ⟨hA, hB⟩
            have HS : Hid (∀ W, Below wv.heap.size wv W → (W.cell? ⟨X, 0, none⟩ = some (.slice a0 16 cs) ∧ W.cell? ⟨X, 1, none⟩ = some (.slice ao 8 co) ∧ W.cell? ⟨X, 2, none⟩ = some (.slice an 8 cn)) ∧ Below wv.heap.size wv W) := fun W hW => by
              obtain ⟨x0, x1, x2, _, _, _⟩ := (SV.out.later hW).box.facts
              exact ⟨⟨x0, x1, x2⟩, hW⟩
            have HD : Hid (∀ W, Below wv.heap.size wv W → PlS w W g X (.slice a0 16 cs) (.slice ao 8 co) (.slice an 8 cn) C C) := fun W hW => SV.out.later hW
            have HVn : Hid _ := fun (W : World) (hW : Below wv.heap.size wv W) => r3values_any W _ _ _ _ C (HD.out W hW).doc.is 24 (HD.out W hW).doc.is.n fun i hi => (HD.out W hW).on.disk.good.tabN hi
            have HVo : Hid _ := fun (W : World) (hW : Below wv.heap.size wv W) => r3values_any W _ _ _ _ C (HD.out W hW).doc.is 16 (HD.out W hW).doc.is.o fun i hi => (HD.out W hW).on.disk.good.tabO hi
            have HSl : Hid _ := fun (W : World) (hW : Below wv.heap.size wv W) => slots_any W _ g C (HD.out W hW).on.disk
            unfold ptrS at HSl
            clear hA hB hb HV SF
            go_wp2_with fail
            refine wp_region_held_drew (S := fun w' => (w'.cell? ⟨X, 0, none⟩ = some (.slice a0 16 cs) ∧ w'.cell? ⟨X, 1, none⟩ = some (.slice ao 8 co) ∧ w'.cell? ⟨X, 2, none⟩ = some (.slice an 8 cn)) ∧ Below wv.heap.size wv w') (by kernel_rfl) ?hs (fun hHeld => ?_)
            case hs => exact HS.out _ (below_drew1 _ _)
            refine held_take (i := 0) (v := ?_) rfl rfl (by kernel_rfl) (by kernel_rfl) (by kernel_rfl) (fun _ _ _ h => h) (Or.inl ⟨by rfl, ?_⟩) hHeld ?_
            rotate_left
            · (intro w hSw; (try dsimp only at hSw); go_simp; try with_reducible rfl)
            simp only [Act.put, List.setIfInBounds_toArray, List.set_cons_zero, List.set_cons_succ]
            refine held_take (i := 1) (v := ?_) rfl rfl (by kernel_rfl) (by kernel_rfl) (by kernel_rfl) (fun _ _ _ h => h) (Or.inl ⟨by rfl, ?_⟩) hHeld ?_
            rotate_left
            · (intro w hSw; (try dsimp only at hSw); go_simp; try with_reducible rfl)
            simp only [Act.put, List.setIfInBounds_toArray, List.set_cons_zero, List.set_cons_succ]
            refine held_take (i := 2) (v := ?_) rfl rfl (by kernel_rfl) (by kernel_rfl) (by kernel_rfl) (fun _ _ _ h => h) (Or.inl ⟨by rfl, ?_⟩) hHeld ?_
            rotate_left
            · (intro w hSw; (try dsimp only at hSw); go_simp; try with_reducible rfl)
            simp only [Act.put, List.setIfInBounds_toArray, List.set_cons_zero, List.set_cons_succ]
            refine held_take (i := 3) (v := ?_) rfl rfl (by kernel_rfl) (by kernel_rfl) (by kernel_rfl) (fun _ _ _ h => h) (Or.inl ⟨by rfl, ?_⟩) hHeld ?_
            rotate_left
            · (intro w hSw; (try dsimp only at hSw); go_simp; try with_reducible rfl)
            simp only [Act.put, List.setIfInBounds_toArray, List.set_cons_zero, List.set_cons_succ]
            refine wpAnyH_ready (rs := [4]) (by kernel_rfl) (by simp) ?_
            refine AllReadyH.cons rfl (fun K hK => ?_) AllReadyH.nil
            go_simp
            go_at_call 14
            refine (HVn.out _ hHeld.2).mono ?_
            rintro e w7 ⟨v7, rfl, ho, hb⟩
            have B4 : Hid (Below wv.heap.size wv w7) := Below.next hHeld.2 hb
            have O4 : Hid (SliceIs w7 v7 (lsI (vlS C 24))) := slice_own ho (by unfold maxLen; omega)
            clear ho hb
            go_simp
            refine hK.out _ _ (HS.out _ B4.out) (fun hHeld => ?_)
            clear hK K
            refine wpAnyH_ready (rs := [5]) (by kernel_rfl) (by simp) ?_
            refine AllReadyH.cons rfl (fun K hK => ?_) AllReadyH.nil
            go_simp
            go_at_call 13
            refine (same_lists w7 _ _ _ _ (VA.out.1.later B4.out).is O4.out rfl).mono ?_
            rintro e w8 ⟨rfl, hb⟩
            have B5 : Hid (Below wv.heap.size wv w8) := Below.next B4.out hb
            clear hb
            go_simp
            refine hK.out _ _ (HS.out _ B5.out) (fun hHeld => ?_)
            clear hK K
            refine held_take (i := 6) (v := ?_) rfl rfl (by kernel_rfl) (by kernel_rfl) (by kernel_rfl) (fun _ _ _ h => h) (Or.inl ⟨by rfl, ?_⟩) hHeld ?_
            rotate_left
            · (intro w hSw; (try dsimp only at hSw); go_simp; try with_reducible rfl)
            simp only [Act.put, List.setIfInBounds_toArray, List.set_cons_zero, List.set_cons_succ]
            refine held_take (i := 7) (v := ?_) rfl rfl (by kernel_rfl) (by kernel_rfl) (by kernel_rfl) (fun _ _ _ h => h) (Or.inl ⟨by rfl, ?_⟩) hHeld ?_
            rotate_left
            · (intro w hSw; (try dsimp only at hSw); go_simp; try with_reducible rfl)
            simp only [Act.put, List.setIfInBounds_toArray, List.set_cons_zero, List.set_cons_succ]
            refine held_take (i := 8) (v := ?_) rfl rfl (by kernel_rfl) (by kernel_rfl) (by kernel_rfl) (fun _ _ _ h => h) (Or.inl ⟨by rfl, ?_⟩) hHeld ?_
            rotate_left
            · (intro w hSw; (try dsimp only at hSw); go_simp; try with_reducible rfl)
            simp only [Act.put, List.setIfInBounds_toArray, List.set_cons_zero, List.set_cons_succ]
            refine held_take (i := 9) (v := ?_) rfl rfl (by kernel_rfl) (by kernel_rfl) (by kernel_rfl) (fun _ _ _ h => h) (Or.inl ⟨by rfl, ?_⟩) hHeld ?_
            rotate_left
            · (intro w hSw; (try dsimp only at hSw); go_simp; try with_reducible rfl)
            simp only [Act.put, List.setIfInBounds_toArray, List.set_cons_zero, List.set_cons_succ]
            refine held_take (i := 10) (v := ?_) rfl rfl (by kernel_rfl) (by kernel_rfl) (by kernel_rfl) (fun _ _ _ h => h) (Or.inl ⟨by rfl, ?_⟩) hHeld ?_
            rotate_left
            · (intro w hSw; (try dsimp only at hSw); go_simp; try with_reducible rfl)
            simp only [Act.put, List.setIfInBounds_toArray, List.set_cons_zero, List.set_cons_succ]
            refine held_take (i := 11) (v := ?_) rfl rfl (by kernel_rfl) (by kernel_rfl) (by kernel_rfl) (fun _ _ _ h => h) (Or.inl ⟨by rfl, ?_⟩) hHeld ?_
            rotate_left
            · (intro w hSw; (try dsimp only at hSw); go_simp; try with_reducible rfl)
            simp only [Act.put, List.setIfInBounds_toArray, List.set_cons_zero, List.set_cons_succ]
            refine wpAnyH_ready (rs := [12]) (by kernel_rfl) (by simp) ?_
            refine AllReadyH.cons rfl (fun K hK => ?_) AllReadyH.nil
            go_simp
            go_at_call 14
            refine (HVo.out _ hHeld.2).mono ?_
            rintro e w9 ⟨v9, rfl, ho, hb⟩
            have B6 : Hid (Below wv.heap.size wv w9) := Below.next hHeld.2 hb
            have O6 : Hid (SliceIs w9 v9 (lsI (vlS C 16))) := slice_own ho (by unfold maxLen; omega)
            clear ho hb
            go_simp
            refine hK.out _ _ (HS.out _ B6.out) (fun hHeld => ?_)
            clear hK K
            refine wpAnyH_ready (rs := [13]) (by kernel_rfl) (by simp) ?_
            refine AllReadyH.cons rfl (fun K hK => ?_) AllReadyH.nil
            go_simp
            go_at_call 13
            refine (same_lists w9 _ _ _ _ (VA.out.2.later B6.out).is O6.out rfl).mono ?_
            rintro e wa ⟨rfl, hb⟩
            have B7 : Hid (Below wv.heap.size wv wa) := Below.next B6.out hb
            clear hb
            go_simp
            refine hK.out _ _ (HS.out _ B7.out) (fun hHeld => ?_)
            clear hK K
            refine held_take (i := 14) (v := ?_) rfl rfl (by kernel_rfl) (by kernel_rfl) (by kernel_rfl) (fun _ _ _ h => h) (Or.inl ⟨by rfl, ?_⟩) hHeld ?_
            rotate_left
            · (intro w hSw; (try dsimp only at hSw); go_simp; try with_reducible rfl)
            simp only [Act.put, List.setIfInBounds_toArray, List.set_cons_zero, List.set_cons_succ]
            refine held_take (i := 15) (v := ?_) rfl rfl (by kernel_rfl) (by kernel_rfl) (by kernel_rfl) (fun _ _ _ h => h) (Or.inl ⟨by rfl, ?_⟩) hHeld ?_
            rotate_left
            · (intro w hSw; (try dsimp only at hSw); go_simp; try with_reducible rfl)
            simp only [Act.put, List.setIfInBounds_toArray, List.set_cons_zero, List.set_cons_succ]
            refine held_take (i := 16) (v := ?_) rfl rfl (by kernel_rfl) (by kernel_rfl) (by kernel_rfl) (fun _ _ _ h => h) (Or.inl ⟨by rfl, ?_⟩) hHeld ?_
            rotate_left
            · (intro w hSw; (try dsimp only at hSw); go_simp; try with_reducible rfl)
            simp only [Act.put, List.setIfInBounds_toArray, List.set_cons_zero, List.set_cons_succ]
            refine held_take (i := 17) (v := ?_) rfl rfl (by kernel_rfl) (by kernel_rfl) (by kernel_rfl) (fun _ _ _ h => h) (Or.inl ⟨by rfl, ?_⟩) hHeld ?_
            rotate_left
            · (intro w hSw; (try dsimp only at hSw); go_simp; try with_reducible rfl)
            simp only [Act.put, List.setIfInBounds_toArray, List.set_cons_zero, List.set_cons_succ]
            refine held_take (i := 19) (v := ?_) rfl rfl (by kernel_rfl) (by kernel_rfl) (by kernel_rfl) (fun _ _ _ h => h) (Or.inl ⟨by rfl, ?_⟩) hHeld ?_
            rotate_left
            · (intro w hSw; (try dsimp only at hSw); go_simp; try with_reducible rfl)
            simp only [Act.put, List.setIfInBounds_toArray, List.set_cons_zero, List.set_cons_succ]
            refine held_take (i := 20) (v := ?_) rfl rfl (by kernel_rfl) (by kernel_rfl) (by kernel_rfl) (fun _ _ _ h => h) (Or.inl ⟨by rfl, ?_⟩) hHeld ?_
            rotate_left
            · (intro w hSw; (try dsimp only at hSw); go_simp; try with_reducible rfl)
            simp only [Act.put, List.setIfInBounds_toArray, List.set_cons_zero, List.set_cons_succ]
            refine wpAnyH_ready (rs := [18]) (by kernel_rfl) (by simp) ?_
            refine AllReadyH.cons rfl (fun K hK => ?_) AllReadyH.nil
            go_simp
            go_at_call 15
            refine (HSl.out _ hHeld.2).mono ?_
            rintro e wb ⟨E, rfl, hE, hb, _⟩
            have B8 : Hid (Below wv.heap.size wv wb) := Below.next hHeld.2 hb
            have E8 : Hid (VlI wb E fun i => C (24 + i)) := hE
            clear hE hb
            go_simp
            refine hK.out _ _ (HS.out _ B8.out) (fun hHeld => ?_)
            clear hK K
            refine wpAnyH_ready (rs := [21]) (by kernel_rfl) (by simp) ?_
            refine AllReadyH.cons rfl (fun K hK => ?_) AllReadyH.nil
            go_simp
            go_at_call 13
            refine (same_lists wb _ _ _ _ E8.out.is (HD.out wb B8.out).doc.is.n (lsC_lsI C 24).symm).mono ?_
            rintro e wc ⟨rfl, hb⟩
            have B9 : Hid (Below wv.heap.size wv wc) := Below.next B8.out hb
            clear hb
            go_simp
            refine hK.out _ _ (HS.out _ B9.out) (fun hHeld => ?_)
            clear hK K
            refine held_take (i := 22) (v := ?_) rfl rfl (by kernel_rfl) (by kernel_rfl) (by kernel_rfl) (fun _ _ _ h => h) (Or.inl ⟨by rfl, ?_⟩) hHeld ?_
            rotate_left
            · (intro w hSw; (try dsimp only at hSw); go_simp; try with_reducible rfl)
            simp only [Act.put, List.setIfInBounds_toArray, List.set_cons_zero, List.set_cons_succ]
            refine held_take (i := 23) (v := ?_) rfl rfl (by kernel_rfl) (by kernel_rfl) (by kernel_rfl) (fun _ _ _ h => h) (Or.inl ⟨by rfl, ?_⟩) hHeld ?_
            rotate_left
            · (intro w hSw; (try dsimp only at hSw); go_simp; try with_reducible rfl)
            simp only [Act.put, List.setIfInBounds_toArray, List.set_cons_zero, List.set_cons_succ]
            refine wpAnyH_done (by kernel_rfl) ?_ _
            have SZ : Hid (∃ vs vo vn C, PlS w wc g X vs vo vn C C) := ⟨_, _, _, _, HD.out wc B9.out⟩
            clear HS HD HVn HVo HSl VA SV B4 O4 B5 B6 O6 B7 B8 E8 B9 hHeld
            go_wp2
            go_roundw
            case rel => exact ⟨k + 1, by omega, by go_num, SZ.out⟩
            case measure => simp [Go.RowKit.intOf]; omega
          · have HM : Hid _ := fun (_ : Nat) => ST.out
            by_cases hp : 0 ≤ X0 ∧ X0 ≤ 7
            · have hx : ¬ (0 ≤ X1 ∧ X1 ≤ 1000) := by omega
              go_wp2_with fail
              refine (in_yes X0 0 7 _ hp).mono ?_
              rintro e w6 ⟨rfl, rfl⟩
              go_wp2_with fail
              refine (in_no X1 0 1000 _ hx).mono ?_
              rintro e w6 ⟨rfl, rfl⟩
              clear r0 r1 ST hc0
              obtain ⟨r0, r1⟩ := HX.out wr (HM.out 0).on.old
              have HWr : Hid _ := fun (_ : Nat) => writeS_any wr.drew _ g C ((HM.out 0).later (below_drew1 _ _)).on.disk X0 X1
              unfold ptrS toS erS noS at HWr
              rw [if_neg hok, if_neg hok, if_neg hok] at HWr
              go_wp2_with fail
              go_region_held3 (fun w' => w'.cell? ⟨b1, o1, none⟩ = some (.int .i64 X0) ∧ w'.cell? ⟨b1, o1 + 1, none⟩ = some (.int .i64 X1))
                (first | (go_split_ands; exact HX.out _ (HM4.out 0).on.old) | go_keep)
                (first | (go_at_call 9; refine (HWr.out 0).mono ?_; rintro e w4 ⟨rfl, hst4⟩; have HM4 : Hid _ := fun (_ : Nat) => ((HM.out 0).later (below_drew1 _ _)).prog hst4; clear hst4))
              clear r0 r1
              have HEr : Hid _ := fun (_ : Nat) => error_any 1 (1 : Int) w4 (HL.out.later (HM4.out 0).on.old)
              rw [show (((1 : Nat) : Int) == (1 : Int)) = true by simp] at HEr
              go_wp2_with fail
              refine (HEr.out 0).mono ?_
              rintro e w5 ⟨rfl, hb5⟩
              have SE : Hid (∃ vs vo vn C, PlS w w5 g X vs vo vn C C) := ⟨_, _, _, _, (HM4.out 0).later hb5⟩
              clear hb5 HEr HWr HM HM4
              obtain ⟨vs, vo, vn, C, hst⟩ := SE.out
              obtain ⟨⟨a0, cs, rfl⟩, ⟨ao, co, rfl⟩, ⟨an, cn, rfl⟩⟩ := hst.doc.is.form
              have SF : Hid (PlS w w5 g X (.slice a0 16 cs) (.slice ao 8 co) (.slice an 8 cn) C C) := hst
              have HV : Hid _ := fun (_ : Nat) => valuesS_any w5 _ g C SF.out.on.disk
              unfold ptrS at HV
              clear hst SE
              go_wp2_with fail
              refine (HV.out 0).mono ?_
              rintro e wv ⟨A, B, rfl, hA, hB, hb, _, _⟩
              have SV : Hid (PlS w wv g X (.slice a0 16 cs) (.slice ao 8 co) (.slice an 8 cn) C C) := SF.out.later hb
              have VA : Hid (VlI wv A (vlS C 24) ∧ VlI wv B (vlS C 16)) := ⟨hA, hB⟩
              have HS : Hid (∀ W, Below wv.heap.size wv W → (W.cell? ⟨X, 0, none⟩ = some (.slice a0 16 cs) ∧ W.cell? ⟨X, 1, none⟩ = some (.slice ao 8 co) ∧ W.cell? ⟨X, 2, none⟩ = some (.slice an 8 cn)) ∧ Below wv.heap.size wv W) := fun W hW => by
                obtain ⟨x0, x1, x2, _, _, _⟩ := (SV.out.later hW).box.facts
                exact ⟨⟨x0, x1, x2⟩, hW⟩
              have HD : Hid (∀ W, Below wv.heap.size wv W → PlS w W g X (.slice a0 16 cs) (.slice ao 8 co) (.slice an 8 cn) C C) := fun W hW => SV.out.later hW
              have HVn : Hid _ := fun (W : World) (hW : Below wv.heap.size wv W) => r3values_any W _ _ _ _ C (HD.out W hW).doc.is 24 (HD.out W hW).doc.is.n fun i hi => (HD.out W hW).on.disk.good.tabN hi
              have HVo : Hid _ := fun (W : World) (hW : Below wv.heap.size wv W) => r3values_any W _ _ _ _ C (HD.out W hW).doc.is 16 (HD.out W hW).doc.is.o fun i hi => (HD.out W hW).on.disk.good.tabO hi
              have HSl : Hid _ := fun (W : World) (hW : Below wv.heap.size wv W) => slots_any W _ g C (HD.out W hW).on.disk
              unfold ptrS at HSl
              clear hA hB hb HV SF
              go_wp2_with fail
              refine wp_region_held_drew (S := fun w' => (w'.cell? ⟨X, 0, none⟩ = some (.slice a0 16 cs) ∧ w'.cell? ⟨X, 1, none⟩ = some (.slice ao 8 co) ∧ w'.cell? ⟨X, 2, none⟩ = some (.slice an 8 cn)) ∧ Below wv.heap.size wv w') (by kernel_rfl) ?hs (fun hHeld => ?_)
              case hs => exact HS.out _ (below_drew1 _ _)
              refine held_take (i := 0) (v := ?_) rfl rfl (by kernel_rfl) (by kernel_rfl) (by kernel_rfl) (fun _ _ _ h => h) (Or.inl ⟨by rfl, ?_⟩) hHeld ?_
              rotate_left
              · (intro w hSw; (try dsimp only at hSw); go_simp; try with_reducible rfl)
              simp only [Act.put, List.setIfInBounds_toArray, List.set_cons_zero, List.set_cons_succ]
              refine held_take (i := 1) (v := ?_) rfl rfl (by kernel_rfl) (by kernel_rfl) (by kernel_rfl) (fun _ _ _ h => h) (Or.inl ⟨by rfl, ?_⟩) hHeld ?_
              rotate_left
              · (intro w hSw; (try dsimp only at hSw); go_simp; try with_reducible rfl)
              simp only [Act.put, List.setIfInBounds_toArray, List.set_cons_zero, List.set_cons_succ]
              refine held_take (i := 2) (v := ?_) rfl rfl (by kernel_rfl) (by kernel_rfl) (by kernel_rfl) (fun _ _ _ h => h) (Or.inl ⟨by rfl, ?_⟩) hHeld ?_
              rotate_left
              · (intro w hSw; (try dsimp only at hSw); go_simp; try with_reducible rfl)
              simp only [Act.put, List.setIfInBounds_toArray, List.set_cons_zero, List.set_cons_succ]
              refine held_take (i := 3) (v := ?_) rfl rfl (by kernel_rfl) (by kernel_rfl) (by kernel_rfl) (fun _ _ _ h => h) (Or.inl ⟨by rfl, ?_⟩) hHeld ?_
              rotate_left
              · (intro w hSw; (try dsimp only at hSw); go_simp; try with_reducible rfl)
              simp only [Act.put, List.setIfInBounds_toArray, List.set_cons_zero, List.set_cons_succ]
              refine wpAnyH_ready (rs := [4]) (by kernel_rfl) (by simp) ?_
              refine AllReadyH.cons rfl (fun K hK => ?_) AllReadyH.nil
              go_simp
              go_at_call 14
              refine (HVn.out _ hHeld.2).mono ?_
              rintro e w7 ⟨v7, rfl, ho, hb⟩
              have B4 : Hid (Below wv.heap.size wv w7) := Below.next hHeld.2 hb
              have O4 : Hid (SliceIs w7 v7 (lsI (vlS C 24))) := slice_own ho (by unfold maxLen; omega)
              clear ho hb
              go_simp
              refine hK.out _ _ (HS.out _ B4.out) (fun hHeld => ?_)
              clear hK K
              refine wpAnyH_ready (rs := [5]) (by kernel_rfl) (by simp) ?_
              refine AllReadyH.cons rfl (fun K hK => ?_) AllReadyH.nil
              go_simp
              go_at_call 13
              refine (same_lists w7 _ _ _ _ (VA.out.1.later B4.out).is O4.out rfl).mono ?_
              rintro e w8 ⟨rfl, hb⟩
              have B5 : Hid (Below wv.heap.size wv w8) := Below.next B4.out hb
              clear hb
              go_simp
              refine hK.out _ _ (HS.out _ B5.out) (fun hHeld => ?_)
              clear hK K
              refine held_take (i := 6) (v := ?_) rfl rfl (by kernel_rfl) (by kernel_rfl) (by kernel_rfl) (fun _ _ _ h => h) (Or.inl ⟨by rfl, ?_⟩) hHeld ?_
              rotate_left
              · (intro w hSw; (try dsimp only at hSw); go_simp; try with_reducible rfl)
              simp only [Act.put, List.setIfInBounds_toArray, List.set_cons_zero, List.set_cons_succ]
              refine held_take (i := 7) (v := ?_) rfl rfl (by kernel_rfl) (by kernel_rfl) (by kernel_rfl) (fun _ _ _ h => h) (Or.inl ⟨by rfl, ?_⟩) hHeld ?_
              rotate_left
              · (intro w hSw; (try dsimp only at hSw); go_simp; try with_reducible rfl)
              simp only [Act.put, List.setIfInBounds_toArray, List.set_cons_zero, List.set_cons_succ]
              refine held_take (i := 8) (v := ?_) rfl rfl (by kernel_rfl) (by kernel_rfl) (by kernel_rfl) (fun _ _ _ h => h) (Or.inl ⟨by rfl, ?_⟩) hHeld ?_
              rotate_left
              · (intro w hSw; (try dsimp only at hSw); go_simp; try with_reducible rfl)
              simp only [Act.put, List.setIfInBounds_toArray, List.set_cons_zero, List.set_cons_succ]
              refine held_take (i := 9) (v := ?_) rfl rfl (by kernel_rfl) (by kernel_rfl) (by kernel_rfl) (fun _ _ _ h => h) (Or.inl ⟨by rfl, ?_⟩) hHeld ?_
              rotate_left
              · (intro w hSw; (try dsimp only at hSw); go_simp; try with_reducible rfl)
              simp only [Act.put, List.setIfInBounds_toArray, List.set_cons_zero, List.set_cons_succ]
              refine held_take (i := 10) (v := ?_) rfl rfl (by kernel_rfl) (by kernel_rfl) (by kernel_rfl) (fun _ _ _ h => h) (Or.inl ⟨by rfl, ?_⟩) hHeld ?_
              rotate_left
              · (intro w hSw; (try dsimp only at hSw); go_simp; try with_reducible rfl)
              simp only [Act.put, List.setIfInBounds_toArray, List.set_cons_zero, List.set_cons_succ]
              refine held_take (i := 11) (v := ?_) rfl rfl (by kernel_rfl) (by kernel_rfl) (by kernel_rfl) (fun _ _ _ h => h) (Or.inl ⟨by rfl, ?_⟩) hHeld ?_
              rotate_left
              · (intro w hSw; (try dsimp only at hSw); go_simp; try with_reducible rfl)
              simp only [Act.put, List.setIfInBounds_toArray, List.set_cons_zero, List.set_cons_succ]
              refine wpAnyH_ready (rs := [12]) (by kernel_rfl) (by simp) ?_
              refine AllReadyH.cons rfl (fun K hK => ?_) AllReadyH.nil
              go_simp
              go_at_call 14
              refine (HVo.out _ hHeld.2).mono ?_
              rintro e w9 ⟨v9, rfl, ho, hb⟩
              have B6 : Hid (Below wv.heap.size wv w9) := Below.next hHeld.2 hb
              have O6 : Hid (SliceIs w9 v9 (lsI (vlS C 16))) := slice_own ho (by unfold maxLen; omega)
              clear ho hb
              go_simp
              refine hK.out _ _ (HS.out _ B6.out) (fun hHeld => ?_)
              clear hK K
              refine wpAnyH_ready (rs := [13]) (by kernel_rfl) (by simp) ?_
              refine AllReadyH.cons rfl (fun K hK => ?_) AllReadyH.nil
              go_simp
              go_at_call 13
              refine (same_lists w9 _ _ _ _ (VA.out.2.later B6.out).is O6.out rfl).mono ?_
              rintro e wa ⟨rfl, hb⟩
              have B7 : Hid (Below wv.heap.size wv wa) := Below.next B6.out hb
              clear hb
              go_simp
              refine hK.out _ _ (HS.out _ B7.out) (fun hHeld => ?_)
              clear hK K
              refine held_take (i := 14) (v := ?_) rfl rfl (by kernel_rfl) (by kernel_rfl) (by kernel_rfl) (fun _ _ _ h => h) (Or.inl ⟨by rfl, ?_⟩) hHeld ?_
              rotate_left
              · (intro w hSw; (try dsimp only at hSw); go_simp; try with_reducible rfl)
              simp only [Act.put, List.setIfInBounds_toArray, List.set_cons_zero, List.set_cons_succ]
              refine held_take (i := 15) (v := ?_) rfl rfl (by kernel_rfl) (by kernel_rfl) (by kernel_rfl) (fun _ _ _ h => h) (Or.inl ⟨by rfl, ?_⟩) hHeld ?_
              rotate_left
              · (intro w hSw; (try dsimp only at hSw); go_simp; try with_reducible rfl)
              simp only [Act.put, List.setIfInBounds_toArray, List.set_cons_zero, List.set_cons_succ]
              refine held_take (i := 16) (v := ?_) rfl rfl (by kernel_rfl) (by kernel_rfl) (by kernel_rfl) (fun _ _ _ h => h) (Or.inl ⟨by rfl, ?_⟩) hHeld ?_
              rotate_left
              · (intro w hSw; (try dsimp only at hSw); go_simp; try with_reducible rfl)
              simp only [Act.put, List.setIfInBounds_toArray, List.set_cons_zero, List.set_cons_succ]
              refine held_take (i := 17) (v := ?_) rfl rfl (by kernel_rfl) (by kernel_rfl) (by kernel_rfl) (fun _ _ _ h => h) (Or.inl ⟨by rfl, ?_⟩) hHeld ?_
              rotate_left
              · (intro w hSw; (try dsimp only at hSw); go_simp; try with_reducible rfl)
              simp only [Act.put, List.setIfInBounds_toArray, List.set_cons_zero, List.set_cons_succ]
              refine held_take (i := 19) (v := ?_) rfl rfl (by kernel_rfl) (by kernel_rfl) (by kernel_rfl) (fun _ _ _ h => h) (Or.inl ⟨by rfl, ?_⟩) hHeld ?_
              rotate_left
              · (intro w hSw; (try dsimp only at hSw); go_simp; try with_reducible rfl)
              simp only [Act.put, List.setIfInBounds_toArray, List.set_cons_zero, List.set_cons_succ]
              refine held_take (i := 20) (v := ?_) rfl rfl (by kernel_rfl) (by kernel_rfl) (by kernel_rfl) (fun _ _ _ h => h) (Or.inl ⟨by rfl, ?_⟩) hHeld ?_
              rotate_left
              · (intro w hSw; (try dsimp only at hSw); go_simp; try with_reducible rfl)
              simp only [Act.put, List.setIfInBounds_toArray, List.set_cons_zero, List.set_cons_succ]
              refine wpAnyH_ready (rs := [18]) (by kernel_rfl) (by simp) ?_
              refine AllReadyH.cons rfl (fun K hK => ?_) AllReadyH.nil
              go_simp
              go_at_call 15
              refine (HSl.out _ hHeld.2).mono ?_
              rintro e wb ⟨E, rfl, hE, hb, _⟩
              have B8 : Hid (Below wv.heap.size wv wb) := Below.next hHeld.2 hb
              have E8 : Hid (VlI wb E fun i => C (24 + i)) := hE
              clear hE hb
              go_simp
              refine hK.out _ _ (HS.out _ B8.out) (fun hHeld => ?_)
              clear hK K
              refine wpAnyH_ready (rs := [21]) (by kernel_rfl) (by simp) ?_
              refine AllReadyH.cons rfl (fun K hK => ?_) AllReadyH.nil
              go_simp
              go_at_call 13
              refine (same_lists wb _ _ _ _ E8.out.is (HD.out wb B8.out).doc.is.n (lsC_lsI C 24).symm).mono ?_
              rintro e wc ⟨rfl, hb⟩
              have B9 : Hid (Below wv.heap.size wv wc) := Below.next B8.out hb
              clear hb
              go_simp
              refine hK.out _ _ (HS.out _ B9.out) (fun hHeld => ?_)
              clear hK K
              refine held_take (i := 22) (v := ?_) rfl rfl (by kernel_rfl) (by kernel_rfl) (by kernel_rfl) (fun _ _ _ h => h) (Or.inl ⟨by rfl, ?_⟩) hHeld ?_
              rotate_left
              · (intro w hSw; (try dsimp only at hSw); go_simp; try with_reducible rfl)
              simp only [Act.put, List.setIfInBounds_toArray, List.set_cons_zero, List.set_cons_succ]
              refine held_take (i := 23) (v := ?_) rfl rfl (by kernel_rfl) (by kernel_rfl) (by kernel_rfl) (fun _ _ _ h => h) (Or.inl ⟨by rfl, ?_⟩) hHeld ?_
              rotate_left
              · (intro w hSw; (try dsimp only at hSw); go_simp; try with_reducible rfl)
              simp only [Act.put, List.setIfInBounds_toArray, List.set_cons_zero, List.set_cons_succ]
              refine wpAnyH_done (by kernel_rfl) ?_ _
              have SZ : Hid (∃ vs vo vn C, PlS w wc g X vs vo vn C C) := ⟨_, _, _, _, HD.out wc B9.out⟩
              clear HS HD HVn HVo HSl VA SV B4 O4 B5 B6 O6 B7 B8 E8 B9 hHeld
              go_wp2
              go_roundw
              case rel => exact ⟨k + 1, by omega, by go_num, SZ.out⟩
              case measure => simp [Go.RowKit.intOf]; omega
            · go_wp2_with fail
              refine (in_no X0 0 7 _ hp).mono ?_
              rintro e w6 ⟨rfl, rfl⟩
              clear r0 r1 ST hc0
              obtain ⟨r0, r1⟩ := HX.out wr (HM.out 0).on.old
              have HWr : Hid _ := fun (_ : Nat) => writeS_any wr.drew _ g C ((HM.out 0).later (below_drew1 _ _)).on.disk X0 X1
              unfold ptrS toS erS noS at HWr
              rw [if_neg hok, if_neg hok, if_neg hok] at HWr
              go_wp2_with fail
              go_region_held3 (fun w' => w'.cell? ⟨b1, o1, none⟩ = some (.int .i64 X0) ∧ w'.cell? ⟨b1, o1 + 1, none⟩ = some (.int .i64 X1))
                (first | (go_split_ands; exact HX.out _ (HM4.out 0).on.old) | go_keep)
                (first | (go_at_call 9; refine (HWr.out 0).mono ?_; rintro e w4 ⟨rfl, hst4⟩; have HM4 : Hid _ := fun (_ : Nat) => ((HM.out 0).later (below_drew1 _ _)).prog hst4; clear hst4))
              clear r0 r1
              have HEr : Hid _ := fun (_ : Nat) => error_any 1 (1 : Int) w4 (HL.out.later (HM4.out 0).on.old)
              rw [show (((1 : Nat) : Int) == (1 : Int)) = true by simp] at HEr
              go_wp2_with fail
              refine (HEr.out 0).mono ?_
              rintro e w5 ⟨rfl, hb5⟩
              have SE : Hid (∃ vs vo vn C, PlS w w5 g X vs vo vn C C) := ⟨_, _, _, _, (HM4.out 0).later hb5⟩
              clear hb5 HEr HWr HM HM4
              obtain ⟨vs, vo, vn, C, hst⟩ := SE.out
              obtain ⟨⟨a0, cs, rfl⟩, ⟨ao, co, rfl⟩, ⟨an, cn, rfl⟩⟩ := hst.doc.is.form
              have SF : Hid (PlS w w5 g X (.slice a0 16 cs) (.slice ao 8 co) (.slice an 8 cn) C C) := hst
              have HV : Hid _ := fun (_ : Nat) => valuesS_any w5 _ g C SF.out.on.disk
              unfold ptrS at HV
              clear hst SE
              go_wp2_with fail
              refine (HV.out 0).mono ?_
              rintro e wv ⟨A, B, rfl, hA, hB, hb, _, _⟩
              have SV : Hid (PlS w wv g X (.slice a0 16 cs) (.slice ao 8 co) (.slice an 8 cn) C C) := SF.out.later hb
              have VA : Hid (VlI wv A (vlS C 24) ∧ VlI wv B (vlS C 16)) := ⟨hA, hB⟩
              have HS : Hid (∀ W, Below wv.heap.size wv W → (W.cell? ⟨X, 0, none⟩ = some (.slice a0 16 cs) ∧ W.cell? ⟨X, 1, none⟩ = some (.slice ao 8 co) ∧ W.cell? ⟨X, 2, none⟩ = some (.slice an 8 cn)) ∧ Below wv.heap.size wv W) := fun W hW => by
                obtain ⟨x0, x1, x2, _, _, _⟩ := (SV.out.later hW).box.facts
                exact ⟨⟨x0, x1, x2⟩, hW⟩
              have HD : Hid (∀ W, Below wv.heap.size wv W → PlS w W g X (.slice a0 16 cs) (.slice ao 8 co) (.slice an 8 cn) C C) := fun W hW => SV.out.later hW
              have HVn : Hid _ := fun (W : World) (hW : Below wv.heap.size wv W) => r3values_any W _ _ _ _ C (HD.out W hW).doc.is 24 (HD.out W hW).doc.is.n fun i hi => (HD.out W hW).on.disk.good.tabN hi
              have HVo : Hid _ := fun (W : World) (hW : Below wv.heap.size wv W) => r3values_any W _ _ _ _ C (HD.out W hW).doc.is 16 (HD.out W hW).doc.is.o fun i hi => (HD.out W hW).on.disk.good.tabO hi
              have HSl : Hid _ := fun (W : World) (hW : Below wv.heap.size wv W) => slots_any W _ g C (HD.out W hW).on.disk
              unfold ptrS at HSl
              clear hA hB hb HV SF
              go_wp2_with fail
              refine wp_region_held_drew (S := fun w' => (w'.cell? ⟨X, 0, none⟩ = some (.slice a0 16 cs) ∧ w'.cell? ⟨X, 1, none⟩ = some (.slice ao 8 co) ∧ w'.cell? ⟨X, 2, none⟩ = some (.slice an 8 cn)) ∧ Below wv.heap.size wv w') (by kernel_rfl) ?hs (fun hHeld => ?_)
              case hs => exact HS.out _ (below_drew1 _ _)
              refine held_take (i := 0) (v := ?_) rfl rfl (by kernel_rfl) (by kernel_rfl) (by kernel_rfl) (fun _ _ _ h => h) (Or.inl ⟨by rfl, ?_⟩) hHeld ?_
              rotate_left
              · (intro w hSw; (try dsimp only at hSw); go_simp; try with_reducible rfl)
              simp only [Act.put, List.setIfInBounds_toArray, List.set_cons_zero, List.set_cons_succ]
              refine held_take (i := 1) (v := ?_) rfl rfl (by kernel_rfl) (by kernel_rfl) (by kernel_rfl) (fun _ _ _ h => h) (Or.inl ⟨by rfl, ?_⟩) hHeld ?_
              rotate_left
              · (intro w hSw; (try dsimp only at hSw); go_simp; try with_reducible rfl)
              simp only [Act.put, List.setIfInBounds_toArray, List.set_cons_zero, List.set_cons_succ]
              refine held_take (i := 2) (v := ?_) rfl rfl (by kernel_rfl) (by kernel_rfl) (by kernel_rfl) (fun _ _ _ h => h) (Or.inl ⟨by rfl, ?_⟩) hHeld ?_
              rotate_left
              · (intro w hSw; (try dsimp only at hSw); go_simp; try with_reducible rfl)
              simp only [Act.put, List.setIfInBounds_toArray, List.set_cons_zero, List.set_cons_succ]
              refine held_take (i := 3) (v := ?_) rfl rfl (by kernel_rfl) (by kernel_rfl) (by kernel_rfl) (fun _ _ _ h => h) (Or.inl ⟨by rfl, ?_⟩) hHeld ?_
              rotate_left
              · (intro w hSw; (try dsimp only at hSw); go_simp; try with_reducible rfl)
              simp only [Act.put, List.setIfInBounds_toArray, List.set_cons_zero, List.set_cons_succ]
              refine wpAnyH_ready (rs := [4]) (by kernel_rfl) (by simp) ?_
              refine AllReadyH.cons rfl (fun K hK => ?_) AllReadyH.nil
              go_simp
              go_at_call 14
              refine (HVn.out _ hHeld.2).mono ?_
              rintro e w7 ⟨v7, rfl, ho, hb⟩
              have B4 : Hid (Below wv.heap.size wv w7) := Below.next hHeld.2 hb
              have O4 : Hid (SliceIs w7 v7 (lsI (vlS C 24))) := slice_own ho (by unfold maxLen; omega)
              clear ho hb
              go_simp
              refine hK.out _ _ (HS.out _ B4.out) (fun hHeld => ?_)
              clear hK K
              refine wpAnyH_ready (rs := [5]) (by kernel_rfl) (by simp) ?_
              refine AllReadyH.cons rfl (fun K hK => ?_) AllReadyH.nil
              go_simp
              go_at_call 13
              refine (same_lists w7 _ _ _ _ (VA.out.1.later B4.out).is O4.out rfl).mono ?_
              rintro e w8 ⟨rfl, hb⟩
              have B5 : Hid (Below wv.heap.size wv w8) := Below.next B4.out hb
              clear hb
              go_simp
              refine hK.out _ _ (HS.out _ B5.out) (fun hHeld => ?_)
              clear hK K
              refine held_take (i := 6) (v := ?_) rfl rfl (by kernel_rfl) (by kernel_rfl) (by kernel_rfl) (fun _ _ _ h => h) (Or.inl ⟨by rfl, ?_⟩) hHeld ?_
              rotate_left
              · (intro w hSw; (try dsimp only at hSw); go_simp; try with_reducible rfl)
              simp only [Act.put, List.setIfInBounds_toArray, List.set_cons_zero, List.set_cons_succ]
              refine held_take (i := 7) (v := ?_) rfl rfl (by kernel_rfl) (by kernel_rfl) (by kernel_rfl) (fun _ _ _ h => h) (Or.inl ⟨by rfl, ?_⟩) hHeld ?_
              rotate_left
              · (intro w hSw; (try dsimp only at hSw); go_simp; try with_reducible rfl)
              simp only [Act.put, List.setIfInBounds_toArray, List.set_cons_zero, List.set_cons_succ]
              refine held_take (i := 8) (v := ?_) rfl rfl (by kernel_rfl) (by kernel_rfl) (by kernel_rfl) (fun _ _ _ h => h) (Or.inl ⟨by rfl, ?_⟩) hHeld ?_
              rotate_left
              · (intro w hSw; (try dsimp only at hSw); go_simp; try with_reducible rfl)
              simp only [Act.put, List.setIfInBounds_toArray, List.set_cons_zero, List.set_cons_succ]
              refine held_take (i := 9) (v := ?_) rfl rfl (by kernel_rfl) (by kernel_rfl) (by kernel_rfl) (fun _ _ _ h => h) (Or.inl ⟨by rfl, ?_⟩) hHeld ?_
              rotate_left
              · (intro w hSw; (try dsimp only at hSw); go_simp; try with_reducible rfl)
              simp only [Act.put, List.setIfInBounds_toArray, List.set_cons_zero, List.set_cons_succ]
              refine held_take (i := 10) (v := ?_) rfl rfl (by kernel_rfl) (by kernel_rfl) (by kernel_rfl) (fun _ _ _ h => h) (Or.inl ⟨by rfl, ?_⟩) hHeld ?_
              rotate_left
              · (intro w hSw; (try dsimp only at hSw); go_simp; try with_reducible rfl)
              simp only [Act.put, List.setIfInBounds_toArray, List.set_cons_zero, List.set_cons_succ]
              refine held_take (i := 11) (v := ?_) rfl rfl (by kernel_rfl) (by kernel_rfl) (by kernel_rfl) (fun _ _ _ h => h) (Or.inl ⟨by rfl, ?_⟩) hHeld ?_
              rotate_left
              · (intro w hSw; (try dsimp only at hSw); go_simp; try with_reducible rfl)
              simp only [Act.put, List.setIfInBounds_toArray, List.set_cons_zero, List.set_cons_succ]
              refine wpAnyH_ready (rs := [12]) (by kernel_rfl) (by simp) ?_
              refine AllReadyH.cons rfl (fun K hK => ?_) AllReadyH.nil
              go_simp
              go_at_call 14
              refine (HVo.out _ hHeld.2).mono ?_
              rintro e w9 ⟨v9, rfl, ho, hb⟩
              have B6 : Hid (Below wv.heap.size wv w9) := Below.next hHeld.2 hb
              have O6 : Hid (SliceIs w9 v9 (lsI (vlS C 16))) := slice_own ho (by unfold maxLen; omega)
              clear ho hb
              go_simp
              refine hK.out _ _ (HS.out _ B6.out) (fun hHeld => ?_)
              clear hK K
              refine wpAnyH_ready (rs := [13]) (by kernel_rfl) (by simp) ?_
              refine AllReadyH.cons rfl (fun K hK => ?_) AllReadyH.nil
              go_simp
              go_at_call 13
              refine (same_lists w9 _ _ _ _ (VA.out.2.later B6.out).is O6.out rfl).mono ?_
              rintro e wa ⟨rfl, hb⟩
              have B7 : Hid (Below wv.heap.size wv wa) := Below.next B6.out hb
              clear hb
              go_simp
              refine hK.out _ _ (HS.out _ B7.out) (fun hHeld => ?_)
              clear hK K
              refine held_take (i := 14) (v := ?_) rfl rfl (by kernel_rfl) (by kernel_rfl) (by kernel_rfl) (fun _ _ _ h => h) (Or.inl ⟨by rfl, ?_⟩) hHeld ?_
              rotate_left
              · (intro w hSw; (try dsimp only at hSw); go_simp; try with_reducible rfl)
              simp only [Act.put, List.setIfInBounds_toArray, List.set_cons_zero, List.set_cons_succ]
              refine held_take (i := 15) (v := ?_) rfl rfl (by kernel_rfl) (by kernel_rfl) (by kernel_rfl) (fun _ _ _ h => h) (Or.inl ⟨by rfl, ?_⟩) hHeld ?_
              rotate_left
              · (intro w hSw; (try dsimp only at hSw); go_simp; try with_reducible rfl)
              simp only [Act.put, List.setIfInBounds_toArray, List.set_cons_zero, List.set_cons_succ]
              refine held_take (i := 16) (v := ?_) rfl rfl (by kernel_rfl) (by kernel_rfl) (by kernel_rfl) (fun _ _ _ h => h) (Or.inl ⟨by rfl, ?_⟩) hHeld ?_
              rotate_left
              · (intro w hSw; (try dsimp only at hSw); go_simp; try with_reducible rfl)
              simp only [Act.put, List.setIfInBounds_toArray, List.set_cons_zero, List.set_cons_succ]
              refine held_take (i := 17) (v := ?_) rfl rfl (by kernel_rfl) (by kernel_rfl) (by kernel_rfl) (fun _ _ _ h => h) (Or.inl ⟨by rfl, ?_⟩) hHeld ?_
              rotate_left
              · (intro w hSw; (try dsimp only at hSw); go_simp; try with_reducible rfl)
              simp only [Act.put, List.setIfInBounds_toArray, List.set_cons_zero, List.set_cons_succ]
              refine held_take (i := 19) (v := ?_) rfl rfl (by kernel_rfl) (by kernel_rfl) (by kernel_rfl) (fun _ _ _ h => h) (Or.inl ⟨by rfl, ?_⟩) hHeld ?_
              rotate_left
              · (intro w hSw; (try dsimp only at hSw); go_simp; try with_reducible rfl)
              simp only [Act.put, List.setIfInBounds_toArray, List.set_cons_zero, List.set_cons_succ]
              refine held_take (i := 20) (v := ?_) rfl rfl (by kernel_rfl) (by kernel_rfl) (by kernel_rfl) (fun _ _ _ h => h) (Or.inl ⟨by rfl, ?_⟩) hHeld ?_
              rotate_left
              · (intro w hSw; (try dsimp only at hSw); go_simp; try with_reducible rfl)
              simp only [Act.put, List.setIfInBounds_toArray, List.set_cons_zero, List.set_cons_succ]
              refine wpAnyH_ready (rs := [18]) (by kernel_rfl) (by simp) ?_
              refine AllReadyH.cons rfl (fun K hK => ?_) AllReadyH.nil
              go_simp
              go_at_call 15
              refine (HSl.out _ hHeld.2).mono ?_
              rintro e wb ⟨E, rfl, hE, hb, _⟩
              have B8 : Hid (Below wv.heap.size wv wb) := Below.next hHeld.2 hb
              have E8 : Hid (VlI wb E fun i => C (24 + i)) := hE
              clear hE hb
              go_simp
              refine hK.out _ _ (HS.out _ B8.out) (fun hHeld => ?_)
              clear hK K
              refine wpAnyH_ready (rs := [21]) (by kernel_rfl) (by simp) ?_
              refine AllReadyH.cons rfl (fun K hK => ?_) AllReadyH.nil
              go_simp
              go_at_call 13
              refine (same_lists wb _ _ _ _ E8.out.is (HD.out wb B8.out).doc.is.n (lsC_lsI C 24).symm).mono ?_
              rintro e wc ⟨rfl, hb⟩
              have B9 : Hid (Below wv.heap.size wv wc) := Below.next B8.out hb
              clear hb
              go_simp
              refine hK.out _ _ (HS.out _ B9.out) (fun hHeld => ?_)
              clear hK K
              refine held_take (i := 22) (v := ?_) rfl rfl (by kernel_rfl) (by kernel_rfl) (by kernel_rfl) (fun _ _ _ h => h) (Or.inl ⟨by rfl, ?_⟩) hHeld ?_
              rotate_left
              · (intro w hSw; (try dsimp only at hSw); go_simp; try with_reducible rfl)
              simp only [Act.put, List.setIfInBounds_toArray, List.set_cons_zero, List.set_cons_succ]
              refine held_take (i := 23) (v := ?_) rfl rfl (by kernel_rfl) (by kernel_rfl) (by kernel_rfl) (fun _ _ _ h => h) (Or.inl ⟨by rfl, ?_⟩) hHeld ?_
              rotate_left
              · (intro w hSw; (try dsimp only at hSw); go_simp; try with_reducible rfl)
              simp only [Act.put, List.setIfInBounds_toArray, List.set_cons_zero, List.set_cons_succ]
              refine wpAnyH_done (by kernel_rfl) ?_ _
              have SZ : Hid (∃ vs vo vn C, PlS w wc g X vs vo vn C C) := ⟨_, _, _, _, HD.out wc B9.out⟩
              clear HS HD HVn HVo HSl VA SV B4 O4 B5 B6 O6 B7 B8 E8 B9 hHeld
              go_wp2
              go_roundw
              case rel => exact ⟨k + 1, by omega, by go_num, SZ.out⟩
              case measure => simp [Go.RowKit.intOf]; omega
        · obtain ⟨a1, c1, hv1, _, _⟩ := hsk
          rw [hz] at hv1
          subst hv1
          have b2 : ((z : Int) == 2) = false := by simp; omega
          clear hck hz
          by_cases h1 : z = 1
          · subst h1
            obtain ⟨x0, x1, x2, f0, f1, f2⟩ := ST.out.box.facts
            go_wp2
            clear x0 x1 x2 f0 f1 f2 hc0
            go_loopw [7, 8] (fun m i wx => ∃ j : Nat, j ≤ 8 ∧ i = .int .i64 (j : Int) ∧ m = .int .i64 (cnS C j : Int) ∧ PlS w wx g X (.slice a0 16 cs) (.slice ao 8 co) (.slice an 8 cn) C C) (fun _ i _ => 8 - (Go.RowKit.intOf i).toNat)
            case atStart => exact ⟨0, by omega, rfl, rfl, ST.out⟩
            case round =>
              obtain ⟨j, hj, rfl, rfl, hst⟩ := hrel
              rename_i wx _ _
              have SJ : Hid (PlS w _ g X (.slice a0 16 cs) (.slice ao 8 co) (.slice an 8 cn) C C) := hst
              clear hst ST
              have hle := cnS_le C j
              by_cases hj8 : j < 8
              · have hj1 : (j : Int) < 8 := by omega
                obtain ⟨_, x1, x2, _, _, _⟩ := SJ.out.box.facts
                obtain ⟨bo, oo, rfl, hbo, hco⟩ := SJ.out.doc.is.o.cellI (i := 0) (by decide)
                obtain ⟨bn, on, rfl, hbn, hcn⟩ := SJ.out.doc.is.n.cellI (i := 0) (by decide)
                have y1 := hco j hj8
                have y2 := hcn j hj8
                clear hco hcn hbo hbn
                by_cases he : C (24 + j) = C (16 + j)
                · have HC : Hid (cnS C (j + 1) = cnS C j) := by show _ = _; rw [cnS, if_pos he]; rfl
                  rw [he] at y2
                  have hne : (C (16 + j) != C (16 + j)) = false := by simp
                  generalize C (16 + j) = y at y1 y2 hne
                  generalize cnS C j = q at hle HC
                  clear he
                  go_wp2_with fail
                  go_quiet (fail)
                  go_wp2
                  go_roundw
                  case rel => exact ⟨j + 1, by omega, by go_num, by rw [HC.out], SJ.out.later (below_drew _ _ _)⟩
                  case measure => simp [Go.RowKit.intOf]; omega
                · have HC : Hid (cnS C (j + 1) = cnS C j + 1) := by show _ = _; rw [cnS, if_neg he]
                  have hne : (C (24 + j) != C (16 + j)) = true := by simp [he]
                  generalize C (16 + j) = y at y1 hne
                  generalize C (24 + j) = y' at y2 hne
                  generalize cnS C j = q at hle HC
                  clear he
                  go_wp2_with fail
                  go_quiet (fail)
                  go_wp2
                  go_roundw
                  case rel => exact ⟨j + 1, by omega, by go_num, by rw [HC.out]; go_num, SJ.out.later (below_drew _ _ _)⟩
                  case measure => simp [Go.RowKit.intOf]; omega
              · obtain rfl : j = 8 := by omega
                obtain ⟨x0, x1, x2, f0, f1, f2⟩ := SJ.out.box.facts
                have HEn : Hid _ := fun (_ : Nat) => endS_any _ _ g C SJ.out.ends.on.disk
                have HSE : Hid _ := fun (_ : Nat) => SJ.out.ends
                unfold ptrS at HEn
                go_wp2_with fail
                refine (HEn.out 0).mono ?_
                rintro e w5 ⟨rfl, hst5⟩
                have SE : Hid (∃ vs vo vn C, PlS w w5 g X vs vo vn C C) := ⟨_, _, _, _, (HSE.out 0).prog hst5⟩
                clear hst5 HEn HSE x0 x1 x2 f0 f1 f2 SJ
                obtain ⟨vs, vo, vn, C, hst⟩ := SE.out
                obtain ⟨⟨a0, cs, rfl⟩, ⟨ao, co, rfl⟩, ⟨an, cn, rfl⟩⟩ := hst.doc.is.form
                have SF : Hid (PlS w w5 g X (.slice a0 16 cs) (.slice ao 8 co) (.slice an 8 cn) C C) := hst
                have HV : Hid _ := fun (_ : Nat) => valuesS_any w5 _ g C SF.out.on.disk
                unfold ptrS at HV
                clear hst SE
                go_wp2_with fail
                refine (HV.out 0).mono ?_
                rintro e wv ⟨A, B, rfl, hA, hB, hb, _, _⟩
                have SV : Hid (PlS w wv g X (.slice a0 16 cs) (.slice ao 8 co) (.slice an 8 cn) C C) := SF.out.later hb
                have VA : Hid (VlI wv A (vlS C 24) ∧ VlI wv B (vlS C 16)) := ⟨hA, hB⟩
                have HS : Hid (∀ W, Below wv.heap.size wv W → (W.cell? ⟨X, 0, none⟩ = some (.slice a0 16 cs) ∧ W.cell? ⟨X, 1, none⟩ = some (.slice ao 8 co) ∧ W.cell? ⟨X, 2, none⟩ = some (.slice an 8 cn)) ∧ Below wv.heap.size wv W) := fun W hW => by
                  obtain ⟨x0, x1, x2, _, _, _⟩ := (SV.out.later hW).box.facts
                  exact ⟨⟨x0, x1, x2⟩, hW⟩
                have HD : Hid (∀ W, Below wv.heap.size wv W → PlS w W g X (.slice a0 16 cs) (.slice ao 8 co) (.slice an 8 cn) C C) := fun W hW => SV.out.later hW
                have HVn : Hid _ := fun (W : World) (hW : Below wv.heap.size wv W) => r3values_any W _ _ _ _ C (HD.out W hW).doc.is 24 (HD.out W hW).doc.is.n fun i hi => (HD.out W hW).on.disk.good.tabN hi
                have HVo : Hid _ := fun (W : World) (hW : Below wv.heap.size wv W) => r3values_any W _ _ _ _ C (HD.out W hW).doc.is 16 (HD.out W hW).doc.is.o fun i hi => (HD.out W hW).on.disk.good.tabO hi
                have HSl : Hid _ := fun (W : World) (hW : Below wv.heap.size wv W) => slots_any W _ g C (HD.out W hW).on.disk
                unfold ptrS at HSl
                clear hA hB hb HV SF
                go_wp2_with fail
                refine wp_region_held_drew (S := fun w' => (w'.cell? ⟨X, 0, none⟩ = some (.slice a0 16 cs) ∧ w'.cell? ⟨X, 1, none⟩ = some (.slice ao 8 co) ∧ w'.cell? ⟨X, 2, none⟩ = some (.slice an 8 cn)) ∧ Below wv.heap.size wv w') (by kernel_rfl) ?hs (fun hHeld => ?_)
                case hs => exact HS.out _ (below_drew1 _ _)
                refine held_take (i := 0) (v := ?_) rfl rfl (by kernel_rfl) (by kernel_rfl) (by kernel_rfl) (fun _ _ _ h => h) (Or.inl ⟨by rfl, ?_⟩) hHeld ?_
                rotate_left
                · (intro w hSw; (try dsimp only at hSw); go_simp; try with_reducible rfl)
                simp only [Act.put, List.setIfInBounds_toArray, List.set_cons_zero, List.set_cons_succ]
                refine held_take (i := 1) (v := ?_) rfl rfl (by kernel_rfl) (by kernel_rfl) (by kernel_rfl) (fun _ _ _ h => h) (Or.inl ⟨by rfl, ?_⟩) hHeld ?_
                rotate_left
                · (intro w hSw; (try dsimp only at hSw); go_simp; try with_reducible rfl)
                simp only [Act.put, List.setIfInBounds_toArray, List.set_cons_zero, List.set_cons_succ]
                refine held_take (i := 2) (v := ?_) rfl rfl (by kernel_rfl) (by kernel_rfl) (by kernel_rfl) (fun _ _ _ h => h) (Or.inl ⟨by rfl, ?_⟩) hHeld ?_
                rotate_left
                · (intro w hSw; (try dsimp only at hSw); go_simp; try with_reducible rfl)
                simp only [Act.put, List.setIfInBounds_toArray, List.set_cons_zero, List.set_cons_succ]
                refine held_take (i := 3) (v := ?_) rfl rfl (by kernel_rfl) (by kernel_rfl) (by kernel_rfl) (fun _ _ _ h => h) (Or.inl ⟨by rfl, ?_⟩) hHeld ?_
                rotate_left
                · (intro w hSw; (try dsimp only at hSw); go_simp; try with_reducible rfl)
                simp only [Act.put, List.setIfInBounds_toArray, List.set_cons_zero, List.set_cons_succ]
                refine wpAnyH_ready (rs := [4]) (by kernel_rfl) (by simp) ?_
                refine AllReadyH.cons rfl (fun K hK => ?_) AllReadyH.nil
                go_simp
                go_at_call 14
                refine (HVn.out _ hHeld.2).mono ?_
                rintro e w7 ⟨v7, rfl, ho, hb⟩
                have B4 : Hid (Below wv.heap.size wv w7) := Below.next hHeld.2 hb
                have O4 : Hid (SliceIs w7 v7 (lsI (vlS C 24))) := slice_own ho (by unfold maxLen; omega)
                clear ho hb
                go_simp
                refine hK.out _ _ (HS.out _ B4.out) (fun hHeld => ?_)
                clear hK K
                refine wpAnyH_ready (rs := [5]) (by kernel_rfl) (by simp) ?_
                refine AllReadyH.cons rfl (fun K hK => ?_) AllReadyH.nil
                go_simp
                go_at_call 13
                refine (same_lists w7 _ _ _ _ (VA.out.1.later B4.out).is O4.out rfl).mono ?_
                rintro e w8 ⟨rfl, hb⟩
                have B5 : Hid (Below wv.heap.size wv w8) := Below.next B4.out hb
                clear hb
                go_simp
                refine hK.out _ _ (HS.out _ B5.out) (fun hHeld => ?_)
                clear hK K
                refine held_take (i := 6) (v := ?_) rfl rfl (by kernel_rfl) (by kernel_rfl) (by kernel_rfl) (fun _ _ _ h => h) (Or.inl ⟨by rfl, ?_⟩) hHeld ?_
                rotate_left
                · (intro w hSw; (try dsimp only at hSw); go_simp; try with_reducible rfl)
                simp only [Act.put, List.setIfInBounds_toArray, List.set_cons_zero, List.set_cons_succ]
                refine held_take (i := 7) (v := ?_) rfl rfl (by kernel_rfl) (by kernel_rfl) (by kernel_rfl) (fun _ _ _ h => h) (Or.inl ⟨by rfl, ?_⟩) hHeld ?_
                rotate_left
                · (intro w hSw; (try dsimp only at hSw); go_simp; try with_reducible rfl)
                simp only [Act.put, List.setIfInBounds_toArray, List.set_cons_zero, List.set_cons_succ]
                refine held_take (i := 8) (v := ?_) rfl rfl (by kernel_rfl) (by kernel_rfl) (by kernel_rfl) (fun _ _ _ h => h) (Or.inl ⟨by rfl, ?_⟩) hHeld ?_
                rotate_left
                · (intro w hSw; (try dsimp only at hSw); go_simp; try with_reducible rfl)
                simp only [Act.put, List.setIfInBounds_toArray, List.set_cons_zero, List.set_cons_succ]
                refine held_take (i := 9) (v := ?_) rfl rfl (by kernel_rfl) (by kernel_rfl) (by kernel_rfl) (fun _ _ _ h => h) (Or.inl ⟨by rfl, ?_⟩) hHeld ?_
                rotate_left
                · (intro w hSw; (try dsimp only at hSw); go_simp; try with_reducible rfl)
                simp only [Act.put, List.setIfInBounds_toArray, List.set_cons_zero, List.set_cons_succ]
                refine held_take (i := 10) (v := ?_) rfl rfl (by kernel_rfl) (by kernel_rfl) (by kernel_rfl) (fun _ _ _ h => h) (Or.inl ⟨by rfl, ?_⟩) hHeld ?_
                rotate_left
                · (intro w hSw; (try dsimp only at hSw); go_simp; try with_reducible rfl)
                simp only [Act.put, List.setIfInBounds_toArray, List.set_cons_zero, List.set_cons_succ]
                refine held_take (i := 11) (v := ?_) rfl rfl (by kernel_rfl) (by kernel_rfl) (by kernel_rfl) (fun _ _ _ h => h) (Or.inl ⟨by rfl, ?_⟩) hHeld ?_
                rotate_left
                · (intro w hSw; (try dsimp only at hSw); go_simp; try with_reducible rfl)
                simp only [Act.put, List.setIfInBounds_toArray, List.set_cons_zero, List.set_cons_succ]
                refine wpAnyH_ready (rs := [12]) (by kernel_rfl) (by simp) ?_
                refine AllReadyH.cons rfl (fun K hK => ?_) AllReadyH.nil
                go_simp
                go_at_call 14
                refine (HVo.out _ hHeld.2).mono ?_
                rintro e w9 ⟨v9, rfl, ho, hb⟩
                have B6 : Hid (Below wv.heap.size wv w9) := Below.next hHeld.2 hb
                have O6 : Hid (SliceIs w9 v9 (lsI (vlS C 16))) := slice_own ho (by unfold maxLen; omega)
                clear ho hb
                go_simp
                refine hK.out _ _ (HS.out _ B6.out) (fun hHeld => ?_)
                clear hK K
                refine wpAnyH_ready (rs := [13]) (by kernel_rfl) (by simp) ?_
                refine AllReadyH.cons rfl (fun K hK => ?_) AllReadyH.nil
                go_simp
                go_at_call 13
                refine (same_lists w9 _ _ _ _ (VA.out.2.later B6.out).is O6.out rfl).mono ?_
                rintro e wa ⟨rfl, hb⟩
                have B7 : Hid (Below wv.heap.size wv wa) := Below.next B6.out hb
                clear hb
                go_simp
                refine hK.out _ _ (HS.out _ B7.out) (fun hHeld => ?_)
                clear hK K
                refine held_take (i := 14) (v := ?_) rfl rfl (by kernel_rfl) (by kernel_rfl) (by kernel_rfl) (fun _ _ _ h => h) (Or.inl ⟨by rfl, ?_⟩) hHeld ?_
                rotate_left
                · (intro w hSw; (try dsimp only at hSw); go_simp; try with_reducible rfl)
                simp only [Act.put, List.setIfInBounds_toArray, List.set_cons_zero, List.set_cons_succ]
                refine held_take (i := 15) (v := ?_) rfl rfl (by kernel_rfl) (by kernel_rfl) (by kernel_rfl) (fun _ _ _ h => h) (Or.inl ⟨by rfl, ?_⟩) hHeld ?_
                rotate_left
                · (intro w hSw; (try dsimp only at hSw); go_simp; try with_reducible rfl)
                simp only [Act.put, List.setIfInBounds_toArray, List.set_cons_zero, List.set_cons_succ]
                refine held_take (i := 16) (v := ?_) rfl rfl (by kernel_rfl) (by kernel_rfl) (by kernel_rfl) (fun _ _ _ h => h) (Or.inl ⟨by rfl, ?_⟩) hHeld ?_
                rotate_left
                · (intro w hSw; (try dsimp only at hSw); go_simp; try with_reducible rfl)
                simp only [Act.put, List.setIfInBounds_toArray, List.set_cons_zero, List.set_cons_succ]
                refine held_take (i := 17) (v := ?_) rfl rfl (by kernel_rfl) (by kernel_rfl) (by kernel_rfl) (fun _ _ _ h => h) (Or.inl ⟨by rfl, ?_⟩) hHeld ?_
                rotate_left
                · (intro w hSw; (try dsimp only at hSw); go_simp; try with_reducible rfl)
                simp only [Act.put, List.setIfInBounds_toArray, List.set_cons_zero, List.set_cons_succ]
                refine held_take (i := 19) (v := ?_) rfl rfl (by kernel_rfl) (by kernel_rfl) (by kernel_rfl) (fun _ _ _ h => h) (Or.inl ⟨by rfl, ?_⟩) hHeld ?_
                rotate_left
                · (intro w hSw; (try dsimp only at hSw); go_simp; try with_reducible rfl)
                simp only [Act.put, List.setIfInBounds_toArray, List.set_cons_zero, List.set_cons_succ]
                refine held_take (i := 20) (v := ?_) rfl rfl (by kernel_rfl) (by kernel_rfl) (by kernel_rfl) (fun _ _ _ h => h) (Or.inl ⟨by rfl, ?_⟩) hHeld ?_
                rotate_left
                · (intro w hSw; (try dsimp only at hSw); go_simp; try with_reducible rfl)
                simp only [Act.put, List.setIfInBounds_toArray, List.set_cons_zero, List.set_cons_succ]
                refine wpAnyH_ready (rs := [18]) (by kernel_rfl) (by simp) ?_
                refine AllReadyH.cons rfl (fun K hK => ?_) AllReadyH.nil
                go_simp
                go_at_call 15
                refine (HSl.out _ hHeld.2).mono ?_
                rintro e wb ⟨E, rfl, hE, hb, _⟩
                have B8 : Hid (Below wv.heap.size wv wb) := Below.next hHeld.2 hb
                have E8 : Hid (VlI wb E fun i => C (24 + i)) := hE
                clear hE hb
                go_simp
                refine hK.out _ _ (HS.out _ B8.out) (fun hHeld => ?_)
                clear hK K
                refine wpAnyH_ready (rs := [21]) (by kernel_rfl) (by simp) ?_
                refine AllReadyH.cons rfl (fun K hK => ?_) AllReadyH.nil
                go_simp
                go_at_call 13
                refine (same_lists wb _ _ _ _ E8.out.is (HD.out wb B8.out).doc.is.n (lsC_lsI C 24).symm).mono ?_
                rintro e wc ⟨rfl, hb⟩
                have B9 : Hid (Below wv.heap.size wv wc) := Below.next B8.out hb
                clear hb
                go_simp
                refine hK.out _ _ (HS.out _ B9.out) (fun hHeld => ?_)
                clear hK K
                refine held_take (i := 22) (v := ?_) rfl rfl (by kernel_rfl) (by kernel_rfl) (by kernel_rfl) (fun _ _ _ h => h) (Or.inl ⟨by rfl, ?_⟩) hHeld ?_
                rotate_left
                · (intro w hSw; (try dsimp only at hSw); go_simp; try with_reducible rfl)
                simp only [Act.put, List.setIfInBounds_toArray, List.set_cons_zero, List.set_cons_succ]
                refine held_take (i := 23) (v := ?_) rfl rfl (by kernel_rfl) (by kernel_rfl) (by kernel_rfl) (fun _ _ _ h => h) (Or.inl ⟨by rfl, ?_⟩) hHeld ?_
                rotate_left
                · (intro w hSw; (try dsimp only at hSw); go_simp; try with_reducible rfl)
                simp only [Act.put, List.setIfInBounds_toArray, List.set_cons_zero, List.set_cons_succ]
                refine wpAnyH_done (by kernel_rfl) ?_ _
                have SZ : Hid (∃ vs vo vn C, PlS w wc g X vs vo vn C C) := ⟨_, _, _, _, HD.out wc B9.out⟩
                clear HS HD HVn HVo HSl VA SV B4 O4 B5 B6 O6 B7 B8 E8 B9 hHeld
                go_wp2
                go_roundw
                case rel => exact ⟨k + 1, by omega, by go_num, SZ.out⟩
                case measure => simp [Go.RowKit.intOf]; omega
          · have b1 : ((z : Int) == 1) = false := by simp; omega
            by_cases h3 : z = 3
            · subst h3
              obtain ⟨x0, x1, x2, f0, f1, f2⟩ := ST.out.box.facts
              have HEn : Hid _ := fun (_ : Nat) => crashS_any _ _ g C ST.out.crashes.on.disk
              have HSE : Hid _ := fun (_ : Nat) => ST.out.crashes
              unfold ptrS at HEn
              clear ST
              go_wp2_with fail
              refine (HEn.out 0).mono ?_
              rintro e w5 ⟨rfl, hst5⟩
              have SE : Hid (∃ vs vo vn C, PlS w w5 g X vs vo vn C C) := ⟨_, _, _, _, (HSE.out 0).prog hst5⟩
              clear hst5 HEn HSE x0 x1 x2 f0 f1 f2 hc0
              obtain ⟨vs, vo, vn, C, hst⟩ := SE.out
              obtain ⟨⟨a0, cs, rfl⟩, ⟨ao, co, rfl⟩, ⟨an, cn, rfl⟩⟩ := hst.doc.is.form
              have SF : Hid (PlS w w5 g X (.slice a0 16 cs) (.slice ao 8 co) (.slice an 8 cn) C C) := hst
              have HV : Hid _ := fun (_ : Nat) => valuesS_any w5 _ g C SF.out.on.disk
              unfold ptrS at HV
              clear hst SE
              go_wp2_with fail
              refine (HV.out 0).mono ?_
              rintro e wv ⟨A, B, rfl, hA, hB, hb, _, _⟩
              have SV : Hid (PlS w wv g X (.slice a0 16 cs) (.slice ao 8 co) (.slice an 8 cn) C C) := SF.out.later hb
              have VA : Hid (VlI wv A (vlS C 24) ∧ VlI wv B (vlS C 16)) := ⟨hA, hB⟩
              have HS : Hid (∀ W, Below wv.heap.size wv W → (W.cell? ⟨X, 0, none⟩ = some (.slice a0 16 cs) ∧ W.cell? ⟨X, 1, none⟩ = some (.slice ao 8 co) ∧ W.cell? ⟨X, 2, none⟩ = some (.slice an 8 cn)) ∧ Below wv.heap.size wv W) := fun W hW => by
                obtain ⟨x0, x1, x2, _, _, _⟩ := (SV.out.later hW).box.facts
                exact ⟨⟨x0, x1, x2⟩, hW⟩
              have HD : Hid (∀ W, Below wv.heap.size wv W → PlS w W g X (.slice a0 16 cs) (.slice ao 8 co) (.slice an 8 cn) C C) := fun W hW => SV.out.later hW
              have HVn : Hid _ := fun (W : World) (hW : Below wv.heap.size wv W) => r3values_any W _ _ _ _ C (HD.out W hW).doc.is 24 (HD.out W hW).doc.is.n fun i hi => (HD.out W hW).on.disk.good.tabN hi
              have HVo : Hid _ := fun (W : World) (hW : Below wv.heap.size wv W) => r3values_any W _ _ _ _ C (HD.out W hW).doc.is 16 (HD.out W hW).doc.is.o fun i hi => (HD.out W hW).on.disk.good.tabO hi
              have HSl : Hid _ := fun (W : World) (hW : Below wv.heap.size wv W) => slots_any W _ g C (HD.out W hW).on.disk
              unfold ptrS at HSl
              clear hA hB hb HV SF
              go_wp2_with fail
              refine wp_region_held_drew (S := fun w' => (w'.cell? ⟨X, 0, none⟩ = some (.slice a0 16 cs) ∧ w'.cell? ⟨X, 1, none⟩ = some (.slice ao 8 co) ∧ w'.cell? ⟨X, 2, none⟩ = some (.slice an 8 cn)) ∧ Below wv.heap.size wv w') (by kernel_rfl) ?hs (fun hHeld => ?_)
              case hs => exact HS.out _ (below_drew1 _ _)
              refine held_take (i := 0) (v := ?_) rfl rfl (by kernel_rfl) (by kernel_rfl) (by kernel_rfl) (fun _ _ _ h => h) (Or.inl ⟨by rfl, ?_⟩) hHeld ?_
              rotate_left
              · (intro w hSw; (try dsimp only at hSw); go_simp; try with_reducible rfl)
              simp only [Act.put, List.setIfInBounds_toArray, List.set_cons_zero, List.set_cons_succ]
              refine held_take (i := 1) (v := ?_) rfl rfl (by kernel_rfl) (by kernel_rfl) (by kernel_rfl) (fun _ _ _ h => h) (Or.inl ⟨by rfl, ?_⟩) hHeld ?_
              rotate_left
              · (intro w hSw; (try dsimp only at hSw); go_simp; try with_reducible rfl)
              simp only [Act.put, List.setIfInBounds_toArray, List.set_cons_zero, List.set_cons_succ]
              refine held_take (i := 2) (v := ?_) rfl rfl (by kernel_rfl) (by kernel_rfl) (by kernel_rfl) (fun _ _ _ h => h) (Or.inl ⟨by rfl, ?_⟩) hHeld ?_
              rotate_left
              · (intro w hSw; (try dsimp only at hSw); go_simp; try with_reducible rfl)
              simp only [Act.put, List.setIfInBounds_toArray, List.set_cons_zero, List.set_cons_succ]
              refine held_take (i := 3) (v := ?_) rfl rfl (by kernel_rfl) (by kernel_rfl) (by kernel_rfl) (fun _ _ _ h => h) (Or.inl ⟨by rfl, ?_⟩) hHeld ?_
              rotate_left
              · (intro w hSw; (try dsimp only at hSw); go_simp; try with_reducible rfl)
              simp only [Act.put, List.setIfInBounds_toArray, List.set_cons_zero, List.set_cons_succ]
              refine wpAnyH_ready (rs := [4]) (by kernel_rfl) (by simp) ?_
              refine AllReadyH.cons rfl (fun K hK => ?_) AllReadyH.nil
              go_simp
              go_at_call 14
              refine (HVn.out _ hHeld.2).mono ?_
              rintro e w7 ⟨v7, rfl, ho, hb⟩
              have B4 : Hid (Below wv.heap.size wv w7) := Below.next hHeld.2 hb
              have O4 : Hid (SliceIs w7 v7 (lsI (vlS C 24))) := slice_own ho (by unfold maxLen; omega)
              clear ho hb
              go_simp
              refine hK.out _ _ (HS.out _ B4.out) (fun hHeld => ?_)
              clear hK K
              refine wpAnyH_ready (rs := [5]) (by kernel_rfl) (by simp) ?_
              refine AllReadyH.cons rfl (fun K hK => ?_) AllReadyH.nil
              go_simp
              go_at_call 13
              refine (same_lists w7 _ _ _ _ (VA.out.1.later B4.out).is O4.out rfl).mono ?_
              rintro e w8 ⟨rfl, hb⟩
              have B5 : Hid (Below wv.heap.size wv w8) := Below.next B4.out hb
              clear hb
              go_simp
              refine hK.out _ _ (HS.out _ B5.out) (fun hHeld => ?_)
              clear hK K
              refine held_take (i := 6) (v := ?_) rfl rfl (by kernel_rfl) (by kernel_rfl) (by kernel_rfl) (fun _ _ _ h => h) (Or.inl ⟨by rfl, ?_⟩) hHeld ?_
              rotate_left
              · (intro w hSw; (try dsimp only at hSw); go_simp; try with_reducible rfl)
              simp only [Act.put, List.setIfInBounds_toArray, List.set_cons_zero, List.set_cons_succ]
              refine held_take (i := 7) (v := ?_) rfl rfl (by kernel_rfl) (by kernel_rfl) (by kernel_rfl) (fun _ _ _ h => h) (Or.inl ⟨by rfl, ?_⟩) hHeld ?_
              rotate_left
              · (intro w hSw; (try dsimp only at hSw); go_simp; try with_reducible rfl)
              simp only [Act.put, List.setIfInBounds_toArray, List.set_cons_zero, List.set_cons_succ]
              refine held_take (i := 8) (v := ?_) rfl rfl (by kernel_rfl) (by kernel_rfl) (by kernel_rfl) (fun _ _ _ h => h) (Or.inl ⟨by rfl, ?_⟩) hHeld ?_
              rotate_left
              · (intro w hSw; (try dsimp only at hSw); go_simp; try with_reducible rfl)
              simp only [Act.put, List.setIfInBounds_toArray, List.set_cons_zero, List.set_cons_succ]
              refine held_take (i := 9) (v := ?_) rfl rfl (by kernel_rfl) (by kernel_rfl) (by kernel_rfl) (fun _ _ _ h => h) (Or.inl ⟨by rfl, ?_⟩) hHeld ?_
              rotate_left
              · (intro w hSw; (try dsimp only at hSw); go_simp; try with_reducible rfl)
              simp only [Act.put, List.setIfInBounds_toArray, List.set_cons_zero, List.set_cons_succ]
              refine held_take (i := 10) (v := ?_) rfl rfl (by kernel_rfl) (by kernel_rfl) (by kernel_rfl) (fun _ _ _ h => h) (Or.inl ⟨by rfl, ?_⟩) hHeld ?_
              rotate_left
              · (intro w hSw; (try dsimp only at hSw); go_simp; try with_reducible rfl)
              simp only [Act.put, List.setIfInBounds_toArray, List.set_cons_zero, List.set_cons_succ]
              refine held_take (i := 11) (v := ?_) rfl rfl (by kernel_rfl) (by kernel_rfl) (by kernel_rfl) (fun _ _ _ h => h) (Or.inl ⟨by rfl, ?_⟩) hHeld ?_
              rotate_left
              · (intro w hSw; (try dsimp only at hSw); go_simp; try with_reducible rfl)
              simp only [Act.put, List.setIfInBounds_toArray, List.set_cons_zero, List.set_cons_succ]
              refine wpAnyH_ready (rs := [12]) (by kernel_rfl) (by simp) ?_
              refine AllReadyH.cons rfl (fun K hK => ?_) AllReadyH.nil
              go_simp
              go_at_call 14
              refine (HVo.out _ hHeld.2).mono ?_
              rintro e w9 ⟨v9, rfl, ho, hb⟩
              have B6 : Hid (Below wv.heap.size wv w9) := Below.next hHeld.2 hb
              have O6 : Hid (SliceIs w9 v9 (lsI (vlS C 16))) := slice_own ho (by unfold maxLen; omega)
              clear ho hb
              go_simp
              refine hK.out _ _ (HS.out _ B6.out) (fun hHeld => ?_)
              clear hK K
              refine wpAnyH_ready (rs := [13]) (by kernel_rfl) (by simp) ?_
              refine AllReadyH.cons rfl (fun K hK => ?_) AllReadyH.nil
              go_simp
              go_at_call 13
              refine (same_lists w9 _ _ _ _ (VA.out.2.later B6.out).is O6.out rfl).mono ?_
              rintro e wa ⟨rfl, hb⟩
              have B7 : Hid (Below wv.heap.size wv wa) := Below.next B6.out hb
              clear hb
              go_simp
              refine hK.out _ _ (HS.out _ B7.out) (fun hHeld => ?_)
              clear hK K
              refine held_take (i := 14) (v := ?_) rfl rfl (by kernel_rfl) (by kernel_rfl) (by kernel_rfl) (fun _ _ _ h => h) (Or.inl ⟨by rfl, ?_⟩) hHeld ?_
              rotate_left
              · (intro w hSw; (try dsimp only at hSw); go_simp; try with_reducible rfl)
              simp only [Act.put, List.setIfInBounds_toArray, List.set_cons_zero, List.set_cons_succ]
              refine held_take (i := 15) (v := ?_) rfl rfl (by kernel_rfl) (by kernel_rfl) (by kernel_rfl) (fun _ _ _ h => h) (Or.inl ⟨by rfl, ?_⟩) hHeld ?_
              rotate_left
              · (intro w hSw; (try dsimp only at hSw); go_simp; try with_reducible rfl)
              simp only [Act.put, List.setIfInBounds_toArray, List.set_cons_zero, List.set_cons_succ]
              refine held_take (i := 16) (v := ?_) rfl rfl (by kernel_rfl) (by kernel_rfl) (by kernel_rfl) (fun _ _ _ h => h) (Or.inl ⟨by rfl, ?_⟩) hHeld ?_
              rotate_left
              · (intro w hSw; (try dsimp only at hSw); go_simp; try with_reducible rfl)
              simp only [Act.put, List.setIfInBounds_toArray, List.set_cons_zero, List.set_cons_succ]
              refine held_take (i := 17) (v := ?_) rfl rfl (by kernel_rfl) (by kernel_rfl) (by kernel_rfl) (fun _ _ _ h => h) (Or.inl ⟨by rfl, ?_⟩) hHeld ?_
              rotate_left
              · (intro w hSw; (try dsimp only at hSw); go_simp; try with_reducible rfl)
              simp only [Act.put, List.setIfInBounds_toArray, List.set_cons_zero, List.set_cons_succ]
              refine held_take (i := 19) (v := ?_) rfl rfl (by kernel_rfl) (by kernel_rfl) (by kernel_rfl) (fun _ _ _ h => h) (Or.inl ⟨by rfl, ?_⟩) hHeld ?_
              rotate_left
              · (intro w hSw; (try dsimp only at hSw); go_simp; try with_reducible rfl)
              simp only [Act.put, List.setIfInBounds_toArray, List.set_cons_zero, List.set_cons_succ]
              refine held_take (i := 20) (v := ?_) rfl rfl (by kernel_rfl) (by kernel_rfl) (by kernel_rfl) (fun _ _ _ h => h) (Or.inl ⟨by rfl, ?_⟩) hHeld ?_
              rotate_left
              · (intro w hSw; (try dsimp only at hSw); go_simp; try with_reducible rfl)
              simp only [Act.put, List.setIfInBounds_toArray, List.set_cons_zero, List.set_cons_succ]
              refine wpAnyH_ready (rs := [18]) (by kernel_rfl) (by simp) ?_
              refine AllReadyH.cons rfl (fun K hK => ?_) AllReadyH.nil
              go_simp
              go_at_call 15
              refine (HSl.out _ hHeld.2).mono ?_
              rintro e wb ⟨E, rfl, hE, hb, _⟩
              have B8 : Hid (Below wv.heap.size wv wb) := Below.next hHeld.2 hb
              have E8 : Hid (VlI wb E fun i => C (24 + i)) := hE
              clear hE hb
              go_simp
              refine hK.out _ _ (HS.out _ B8.out) (fun hHeld => ?_)
              clear hK K
              refine wpAnyH_ready (rs := [21]) (by kernel_rfl) (by simp) ?_
              refine AllReadyH.cons rfl (fun K hK => ?_) AllReadyH.nil
              go_simp
              go_at_call 13
              refine (same_lists wb _ _ _ _ E8.out.is (HD.out wb B8.out).doc.is.n (lsC_lsI C 24).symm).mono ?_
              rintro e wc ⟨rfl, hb⟩
              have B9 : Hid (Below wv.heap.size wv wc) := Below.next B8.out hb
              clear hb
              go_simp
              refine hK.out _ _ (HS.out _ B9.out) (fun hHeld => ?_)
              clear hK K
              refine held_take (i := 22) (v := ?_) rfl rfl (by kernel_rfl) (by kernel_rfl) (by kernel_rfl) (fun _ _ _ h => h) (Or.inl ⟨by rfl, ?_⟩) hHeld ?_
              rotate_left
              · (intro w hSw; (try dsimp only at hSw); go_simp; try with_reducible rfl)
              simp only [Act.put, List.setIfInBounds_toArray, List.set_cons_zero, List.set_cons_succ]
              refine held_take (i := 23) (v := ?_) rfl rfl (by kernel_rfl) (by kernel_rfl) (by kernel_rfl) (fun _ _ _ h => h) (Or.inl ⟨by rfl, ?_⟩) hHeld ?_
              rotate_left
              · (intro w hSw; (try dsimp only at hSw); go_simp; try with_reducible rfl)
              simp only [Act.put, List.setIfInBounds_toArray, List.set_cons_zero, List.set_cons_succ]
              refine wpAnyH_done (by kernel_rfl) ?_ _
              have SZ : Hid (∃ vs vo vn C, PlS w wc g X vs vo vn C C) := ⟨_, _, _, _, HD.out wc B9.out⟩
              clear HS HD HVn HVo HSl VA SV B4 O4 B5 B6 O6 B7 B8 E8 B9 hHeld
              go_wp2
              go_roundw
              case rel => exact ⟨k + 1, by omega, by go_num, SZ.out⟩
              case measure => simp [Go.RowKit.intOf]; omega
            · have b3 : ((z : Int) == 3) = false := by simp; omega
              have SE : Hid (∃ vs vo vn C, PlS w wr g X vs vo vn C C) := ⟨_, _, _, _, ST.out⟩
              clear ST
              obtain ⟨vs, vo, vn, C, hst⟩ := SE.out
              obtain ⟨⟨a0, cs, rfl⟩, ⟨ao, co, rfl⟩, ⟨an, cn, rfl⟩⟩ := hst.doc.is.form
              have SF : Hid (PlS w wr g X (.slice a0 16 cs) (.slice ao 8 co) (.slice an 8 cn) C C) := hst
              have HV : Hid _ := fun (_ : Nat) => valuesS_any wr _ g C SF.out.on.disk
              unfold ptrS at HV
              clear hst SE
              go_wp2_with fail
              refine (HV.out 0).mono ?_
              rintro e wv ⟨A, B, rfl, hA, hB, hb, _, _⟩
              have SV : Hid (PlS w wv g X (.slice a0 16 cs) (.slice ao 8 co) (.slice an 8 cn) C C) := SF.out.later hb
              have VA : Hid (VlI wv A (vlS C 24) ∧ VlI wv B (vlS C 16)) := ⟨hA, hB⟩
              have HS : Hid (∀ W, Below wv.heap.size wv W → (W.cell? ⟨X, 0, none⟩ = some (.slice a0 16 cs) ∧ W.cell? ⟨X, 1, none⟩ = some (.slice ao 8 co) ∧ W.cell? ⟨X, 2, none⟩ = some (.slice an 8 cn)) ∧ Below wv.heap.size wv W) := fun W hW => by
                obtain ⟨x0, x1, x2, _, _, _⟩ := (SV.out.later hW).box.facts
                exact ⟨⟨x0, x1, x2⟩, hW⟩
              have HD : Hid (∀ W, Below wv.heap.size wv W → PlS w W g X (.slice a0 16 cs) (.slice ao 8 co) (.slice an 8 cn) C C) := fun W hW => SV.out.later hW
              have HVn : Hid _ := fun (W : World) (hW : Below wv.heap.size wv W) => r3values_any W _ _ _ _ C (HD.out W hW).doc.is 24 (HD.out W hW).doc.is.n fun i hi => (HD.out W hW).on.disk.good.tabN hi
              have HVo : Hid _ := fun (W : World) (hW : Below wv.heap.size wv W) => r3values_any W _ _ _ _ C (HD.out W hW).doc.is 16 (HD.out W hW).doc.is.o fun i hi => (HD.out W hW).on.disk.good.tabO hi
              have HSl : Hid _ := fun (W : World) (hW : Below wv.heap.size wv W) => slots_any W _ g C (HD.out W hW).on.disk
              unfold ptrS at HSl
              clear hA hB hb HV SF
              go_wp2_with fail
              refine wp_region_held_drew (S := fun w' => (w'.cell? ⟨X, 0, none⟩ = some (.slice a0 16 cs) ∧ w'.cell? ⟨X, 1, none⟩ = some (.slice ao 8 co) ∧ w'.cell? ⟨X, 2, none⟩ = some (.slice an 8 cn)) ∧ Below wv.heap.size wv w') (by kernel_rfl) ?hs (fun hHeld => ?_)
              case hs => exact HS.out _ (below_drew1 _ _)
              refine held_take (i := 0) (v := ?_) rfl rfl (by kernel_rfl) (by kernel_rfl) (by kernel_rfl) (fun _ _ _ h => h) (Or.inl ⟨by rfl, ?_⟩) hHeld ?_
              rotate_left
              · (intro w hSw; (try dsimp only at hSw); go_simp; try with_reducible rfl)
              simp only [Act.put, List.setIfInBounds_toArray, List.set_cons_zero, List.set_cons_succ]
              refine held_take (i := 1) (v := ?_) rfl rfl (by kernel_rfl) (by kernel_rfl) (by kernel_rfl) (fun _ _ _ h => h) (Or.inl ⟨by rfl, ?_⟩) hHeld ?_
              rotate_left
              · (intro w hSw; (try dsimp only at hSw); go_simp; try with_reducible rfl)
              simp only [Act.put, List.setIfInBounds_toArray, List.set_cons_zero, List.set_cons_succ]
              refine held_take (i := 2) (v := ?_) rfl rfl (by kernel_rfl) (by kernel_rfl) (by kernel_rfl) (fun _ _ _ h => h) (Or.inl ⟨by rfl, ?_⟩) hHeld ?_
              rotate_left
              · (intro w hSw; (try dsimp only at hSw); go_simp; try with_reducible rfl)
              simp only [Act.put, List.setIfInBounds_toArray, List.set_cons_zero, List.set_cons_succ]
              refine held_take (i := 3) (v := ?_) rfl rfl (by kernel_rfl) (by kernel_rfl) (by kernel_rfl) (fun _ _ _ h => h) (Or.inl ⟨by rfl, ?_⟩) hHeld ?_
              rotate_left
              · (intro w hSw; (try dsimp only at hSw); go_simp; try with_reducible rfl)
              simp only [Act.put, List.setIfInBounds_toArray, List.set_cons_zero, List.set_cons_succ]
              refine wpAnyH_ready (rs := [4]) (by kernel_rfl) (by simp) ?_
              refine AllReadyH.cons rfl (fun K hK => ?_) AllReadyH.nil
              go_simp
              go_at_call 14
              refine (HVn.out _ hHeld.2).mono ?_
              rintro e w7 ⟨v7, rfl, ho, hb⟩
              have B4 : Hid (Below wv.heap.size wv w7) := Below.next hHeld.2 hb
              have O4 : Hid (SliceIs w7 v7 (lsI (vlS C 24))) := slice_own ho (by unfold maxLen; omega)
              clear ho hb
              go_simp
              refine hK.out _ _ (HS.out _ B4.out) (fun hHeld => ?_)
              clear hK K
              refine wpAnyH_ready (rs := [5]) (by kernel_rfl) (by simp) ?_
              refine AllReadyH.cons rfl (fun K hK => ?_) AllReadyH.nil
              go_simp
              go_at_call 13
              refine (same_lists w7 _ _ _ _ (VA.out.1.later B4.out).is O4.out rfl).mono ?_
              rintro e w8 ⟨rfl, hb⟩
              have B5 : Hid (Below wv.heap.size wv w8) := Below.next B4.out hb
              clear hb
              go_simp
              refine hK.out _ _ (HS.out _ B5.out) (fun hHeld => ?_)
              clear hK K
              refine held_take (i := 6) (v := ?_) rfl rfl (by kernel_rfl) (by kernel_rfl) (by kernel_rfl) (fun _ _ _ h => h) (Or.inl ⟨by rfl, ?_⟩) hHeld ?_
              rotate_left
              · (intro w hSw; (try dsimp only at hSw); go_simp; try with_reducible rfl)
              simp only [Act.put, List.setIfInBounds_toArray, List.set_cons_zero, List.set_cons_succ]
              refine held_take (i := 7) (v := ?_) rfl rfl (by kernel_rfl) (by kernel_rfl) (by kernel_rfl) (fun _ _ _ h => h) (Or.inl ⟨by rfl, ?_⟩) hHeld ?_
              rotate_left
              · (intro w hSw; (try dsimp only at hSw); go_simp; try with_reducible rfl)
              simp only [Act.put, List.setIfInBounds_toArray, List.set_cons_zero, List.set_cons_succ]
              refine held_take (i := 8) (v := ?_) rfl rfl (by kernel_rfl) (by kernel_rfl) (by kernel_rfl) (fun _ _ _ h => h) (Or.inl ⟨by rfl, ?_⟩) hHeld ?_
              rotate_left
              · (intro w hSw; (try dsimp only at hSw); go_simp; try with_reducible rfl)
              simp only [Act.put, List.setIfInBounds_toArray, List.set_cons_zero, List.set_cons_succ]
              refine held_take (i := 9) (v := ?_) rfl rfl (by kernel_rfl) (by kernel_rfl) (by kernel_rfl) (fun _ _ _ h => h) (Or.inl ⟨by rfl, ?_⟩) hHeld ?_
              rotate_left
              · (intro w hSw; (try dsimp only at hSw); go_simp; try with_reducible rfl)
              simp only [Act.put, List.setIfInBounds_toArray, List.set_cons_zero, List.set_cons_succ]
              refine held_take (i := 10) (v := ?_) rfl rfl (by kernel_rfl) (by kernel_rfl) (by kernel_rfl) (fun _ _ _ h => h) (Or.inl ⟨by rfl, ?_⟩) hHeld ?_
              rotate_left
              · (intro w hSw; (try dsimp only at hSw); go_simp; try with_reducible rfl)
              simp only [Act.put, List.setIfInBounds_toArray, List.set_cons_zero, List.set_cons_succ]
              refine held_take (i := 11) (v := ?_) rfl rfl (by kernel_rfl) (by kernel_rfl) (by kernel_rfl) (fun _ _ _ h => h) (Or.inl ⟨by rfl, ?_⟩) hHeld ?_
              rotate_left
              · (intro w hSw; (try dsimp only at hSw); go_simp; try with_reducible rfl)
              simp only [Act.put, List.setIfInBounds_toArray, List.set_cons_zero, List.set_cons_succ]
              refine wpAnyH_ready (rs := [12]) (by kernel_rfl) (by simp) ?_
              refine AllReadyH.cons rfl (fun K hK => ?_) AllReadyH.nil
              go_simp
              go_at_call 14
              refine (HVo.out _ hHeld.2).mono ?_
              rintro e w9 ⟨v9, rfl, ho, hb⟩
              have B6 : Hid (Below wv.heap.size wv w9) := Below.next hHeld.2 hb
              have O6 : Hid (SliceIs w9 v9 (lsI (vlS C 16))) := slice_own ho (by unfold maxLen; omega)
              clear ho hb
              go_simp
              refine hK.out _ _ (HS.out _ B6.out) (fun hHeld => ?_)
              clear hK K
              refine wpAnyH_ready (rs := [13]) (by kernel_rfl) (by simp) ?_
              refine AllReadyH.cons rfl (fun K hK => ?_) AllReadyH.nil
              go_simp
              go_at_call 13
              refine (same_lists w9 _ _ _ _ (VA.out.2.later B6.out).is O6.out rfl).mono ?_
              rintro e wa ⟨rfl, hb⟩
              have B7 : Hid (Below wv.heap.size wv wa) := Below.next B6.out hb
              clear hb
              go_simp
              refine hK.out _ _ (HS.out _ B7.out) (fun hHeld => ?_)
              clear hK K
              refine held_take (i := 14) (v := ?_) rfl rfl (by kernel_rfl) (by kernel_rfl) (by kernel_rfl) (fun _ _ _ h => h) (Or.inl ⟨by rfl, ?_⟩) hHeld ?_
              rotate_left
              · (intro w hSw; (try dsimp only at hSw); go_simp; try with_reducible rfl)
              simp only [Act.put, List.setIfInBounds_toArray, List.set_cons_zero, List.set_cons_succ]
              refine held_take (i := 15) (v := ?_) rfl rfl (by kernel_rfl) (by kernel_rfl) (by kernel_rfl) (fun _ _ _ h => h) (Or.inl ⟨by rfl, ?_⟩) hHeld ?_
              rotate_left
              · (intro w hSw; (try dsimp only at hSw); go_simp; try with_reducible rfl)
              simp only [Act.put, List.setIfInBounds_toArray, List.set_cons_zero, List.set_cons_succ]
              refine held_take (i := 16) (v := ?_) rfl rfl (by kernel_rfl) (by kernel_rfl) (by kernel_rfl) (fun _ _ _ h => h) (Or.inl ⟨by rfl, ?_⟩) hHeld ?_
              rotate_left
              · (intro w hSw; (try dsimp only at hSw); go_simp; try with_reducible rfl)
              simp only [Act.put, List.setIfInBounds_toArray, List.set_cons_zero, List.set_cons_succ]
              refine held_take (i := 17) (v := ?_) rfl rfl (by kernel_rfl) (by kernel_rfl) (by kernel_rfl) (fun _ _ _ h => h) (Or.inl ⟨by rfl, ?_⟩) hHeld ?_
              rotate_left
              · (intro w hSw; (try dsimp only at hSw); go_simp; try with_reducible rfl)
              simp only [Act.put, List.setIfInBounds_toArray, List.set_cons_zero, List.set_cons_succ]
              refine held_take (i := 19) (v := ?_) rfl rfl (by kernel_rfl) (by kernel_rfl) (by kernel_rfl) (fun _ _ _ h => h) (Or.inl ⟨by rfl, ?_⟩) hHeld ?_
              rotate_left
              · (intro w hSw; (try dsimp only at hSw); go_simp; try with_reducible rfl)
              simp only [Act.put, List.setIfInBounds_toArray, List.set_cons_zero, List.set_cons_succ]
              refine held_take (i := 20) (v := ?_) rfl rfl (by kernel_rfl) (by kernel_rfl) (by kernel_rfl) (fun _ _ _ h => h) (Or.inl ⟨by rfl, ?_⟩) hHeld ?_
              rotate_left
              · (intro w hSw; (try dsimp only at hSw); go_simp; try with_reducible rfl)
              simp only [Act.put, List.setIfInBounds_toArray, List.set_cons_zero, List.set_cons_succ]
              refine wpAnyH_ready (rs := [18]) (by kernel_rfl) (by simp) ?_
              refine AllReadyH.cons rfl (fun K hK => ?_) AllReadyH.nil
              go_simp
              go_at_call 15
              refine (HSl.out _ hHeld.2).mono ?_
              rintro e wb ⟨E, rfl, hE, hb, _⟩
              have B8 : Hid (Below wv.heap.size wv wb) := Below.next hHeld.2 hb
              have E8 : Hid (VlI wb E fun i => C (24 + i)) := hE
              clear hE hb
              go_simp
              refine hK.out _ _ (HS.out _ B8.out) (fun hHeld => ?_)
              clear hK K
              refine wpAnyH_ready (rs := [21]) (by kernel_rfl) (by simp) ?_
              refine AllReadyH.cons rfl (fun K hK => ?_) AllReadyH.nil
              go_simp
              go_at_call 13
              refine (same_lists wb _ _ _ _ E8.out.is (HD.out wb B8.out).doc.is.n (lsC_lsI C 24).symm).mono ?_
              rintro e wc ⟨rfl, hb⟩
              have B9 : Hid (Below wv.heap.size wv wc) := Below.next B8.out hb
              clear hb
              go_simp
              refine hK.out _ _ (HS.out _ B9.out) (fun hHeld => ?_)
              clear hK K
              refine held_take (i := 22) (v := ?_) rfl rfl (by kernel_rfl) (by kernel_rfl) (by kernel_rfl) (fun _ _ _ h => h) (Or.inl ⟨by rfl, ?_⟩) hHeld ?_
              rotate_left
              · (intro w hSw; (try dsimp only at hSw); go_simp; try with_reducible rfl)
              simp only [Act.put, List.setIfInBounds_toArray, List.set_cons_zero, List.set_cons_succ]
              refine held_take (i := 23) (v := ?_) rfl rfl (by kernel_rfl) (by kernel_rfl) (by kernel_rfl) (fun _ _ _ h => h) (Or.inl ⟨by rfl, ?_⟩) hHeld ?_
              rotate_left
              · (intro w hSw; (try dsimp only at hSw); go_simp; try with_reducible rfl)
              simp only [Act.put, List.setIfInBounds_toArray, List.set_cons_zero, List.set_cons_succ]
              refine wpAnyH_done (by kernel_rfl) ?_ _
              have SZ : Hid (∃ vs vo vn C, PlS w wc g X vs vo vn C C) := ⟨_, _, _, _, HD.out wc B9.out⟩
              clear HS HD HVn HVo HSl VA SV B4 O4 B5 B6 O6 B7 B8 E8 B9 hHeld
              go_wp2
              go_roundw
              case rel => exact ⟨k + 1, by omega, by go_num, SZ.out⟩
              case measure => simp [Go.RowKit.intOf]; omega
      · have hs1 : ¬ (k : Int) < 60 := by omega
        go_wp2
        go_ret
        exact ⟨rfl, ST.out.on.old⟩
    · have hl1 : ¬ (k : Int) < (n : Int) := by omega
      go_wp2
      go_ret
      exact ⟨rfl, ST.out.on.old⟩

end Go.Proofs.YthgbknfdbobmiaaDoor
