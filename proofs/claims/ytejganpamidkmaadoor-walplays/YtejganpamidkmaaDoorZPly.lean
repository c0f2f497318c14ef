/- This text proves that platterholdlaw2.WalPlays returns true for any rows, and lets all old memory be; the conditions: the rows lie there, and the library's variable errors.errorType holds what the program's own text lays. -/
import Derived.Test.YtejganpamidkmaaDoorZD6
import Derived.Test.YtejganpamidkmaaDoorHl
import Derived.Deep.DeepCutAuto
import Derived.Deep.CutBlock
import Derived.Laws.OwnMore
namespace Go.Proofs.YtejganpamidkmaaDoor
open Go.RowKit Go.Deep Go.Maps

theorem NewLog.form {w w' : World} {vl vl' : Value} {L L' : List Rc} (h : NewLog w w' vl vl' L L') {a : Option Addr} {n c : Nat} (hv : vl = .slice a n c) : ∃ a' n' c', vl' = .slice a' n' c' := by
  rcases h with ⟨rfl, _⟩ | k
  · exact ⟨a, n, c, hv⟩
  · obtain ⟨a', c', rfl⟩ := rown_form k
    exact ⟨a', _, c', rfl⟩
theorem NewLog.or3 {w w' : World} {vl vl' : Value} {L L' : List Rc} (h : NewLog w w' vl vl' L L') : (vl' = vl ∧ L' = L) ∨ (vl' = .slice none 0 0 ∧ L' = []) ∨ w'.ownsRow w.heap.size 35 3 vl' L'.length (plc L') := h.elim .inl fun k => .inr (.inr k)

theorem home_or {w w' : World} {vh vl vh' vl' : Value} {s s' : Nat} {d : Dk} (hd : s = d.s) (h : (opn d.L = true ∧ vh' = vh ∧ vl' = vl ∧ s' = s) ∨ (opn d.L = false ∧ vl' = .slice none 0 0 ∧ s' = 0 ∧ Out w w' vh d.H vh' (vals d.L d.H))) :
    s' = (hoD d).s ∧ ((vh' = vh ∧ lst (hoD d).H = lst d.H) ∨ w'.ownsRow w.heap.size 3 1 vh' 8 (cellsOf (lst (hoD d).H))) ∧ ((vl' = vl ∧ (hoD d).L = d.L) ∨ (vl' = .slice none 0 0 ∧ (hoD d).L = []) ∨ w'.ownsRow w.heap.size 35 3 vl' (hoD d).L.length (plc (hoD d).L)) ∧
    (∀ a c, vh = .slice a 8 c → ∃ a' c', vh' = .slice a' 8 c') ∧ (∀ a n c, vl = .slice a n c → ∃ a' n' c', vl' = .slice a' n' c') := by
  rcases h with ⟨ho, rfl, rfl, rfl⟩ | ⟨ho, rfl, rfl, h⟩
  · have e : hoD d = d := if_neg (by rw [show hoE d.L = 7 from if_pos ho]; decide)
    rw [e]
    exact ⟨hd, .inl ⟨rfl, rfl⟩, .inl ⟨rfl, rfl⟩, fun a c e => ⟨a, c, e⟩, fun a n c e => ⟨a, n, c, e⟩⟩
  · have e : hoD d = ⟨vals d.L d.H, [], 0⟩ := if_pos (if_neg (by rw [ho]; decide))
    rw [e]
    refine ⟨rfl, h.or', .inr (.inl ⟨rfl, rfl⟩), fun a c e => ?_, fun _ _ _ _ => ⟨none, 0, 0, rfl⟩⟩
    obtain ⟨a', c', hv, _, _⟩ := h.is
    rw [lst_len] at hv
    exact ⟨a', c', hv⟩
theorem crD_H (d : Dk) (n : Int) : (crD d n).H = d.H := by unfold crD; split <;> rfl

set_option maxHeartbeats 64000000 in
set_option maxRecDepth 100000 in
theorem walPlays_any (w : World) (v0 : Value) (rs : List (List Int)) (hr : RowsIs w v0 rs) (hL : Laid w) :
    Calls Tryd.prog 3 #[v0] w fun e w' => e = .returned (.bool true) ∧ Below w.heap.size w w' := by
  have HR : Hid (RowsIs w v0 rs) := hr
  have HL : Hid (Laid w) := hL
  obtain ⟨a, c, hv, hl, _⟩ := hr
  obtain ⟨n, hn⟩ : ∃ n, n = rs.length := ⟨_, rfl⟩
  rw [← hn] at hv hl
  unfold maxLen at hl
  subst hv
  clear hn hL
  go_enter Tryd.func3, Tryd.ntmps3
  go_wp2_with fail
  refine (new_any _).mono ?_
  rintro e w1 ⟨rfl, hT, hb⟩
  have ST0 : Hid (OnD w w1 w.heap.size (.slice none 0 0) dk0) := ⟨hT, hb⟩
  clear hT hb
  unfold ptrD
  go_wp2_with fail
  refine (r2new_any w1).mono ?_
  rintro e w2 ⟨vh0, rfl, hD2, hb2⟩
  have ST1 : Hid _ := fun (_ : Nat) => PlW.new ST0.out hD2 hb2
  obtain ⟨a0, c0, rfl⟩ := rown_form hD2
  clear hD2 hb2
  go_wp2
  generalize w2.alloc _ = w3 at ST1 ⊢
  generalize w2.heap.size = X at ST1 ⊢
  generalize w.heap.size = g at ST1 ⊢
  have ST2 : Hid (∃ v vh vl d, PlW w w3 g v X vh vl d d) := ⟨_, _, _, _, ST1.out 0⟩
  clear ST0 ST1
  go_loopw [5] (fun i wr => ∃ k, k ≤ 80 ∧ i = .int .i64 ((k : Nat) : Int) ∧ ∃ v vh vl d, PlW w wr g v X vh vl d d) (fun i _ => 80 - (Go.RowKit.intOf i).toNat)
  case atStart => exact ⟨0, by omega, rfl, ST2.out⟩
  case round =>
    obtain ⟨k, hk, rfl, v, vh, vl, d, hst⟩ := hrel
    have ST : Hid (PlW w wr g v X vh vl d d) := hst
    clear hst ST2
    by_cases hlt : k < n
    · have hl1 : (k : Int) < (n : Int) := by omega
      by_cases hs : k < 80
      · have hs1 : (k : Int) < 80 := by omega
        obtain ⟨bb, o, vr, ha, hbs, hck, hsk⟩ := HR.out.row k hlt
        subst ha
        have HSK : Hid (SliceIs w vr (rowAt rs k)) := hsk
        have hc0 : wr.cell? ⟨bb, o + k, none⟩ = some vr := by rw [ST.out.on.old.cell (p := ⟨bb, o + k, none⟩) hbs]; exact hck
        obtain ⟨a1, c1, hv1, _, _⟩ := hsk
        obtain ⟨z, hz⟩ : ∃ z, z = (rowAt rs k).length := ⟨_, rfl⟩
        have HZ : Hid (z = (rowAt rs k).length) := hz
        rw [← hz] at hv1
        subst hv1
        clear hck hz
        have hbox := ST.out.box
        obtain ⟨ah, ch, hvh, _, _⟩ := ST.out.home.is
        obtain ⟨al, cl, hvl, _, _, _⟩ := ST.out.log.is
        rw [lst_len] at hvh
        subst hvh
        subst hvl
        obtain ⟨x0, x1, x2, f0, f1, f2⟩ := hbox.facts
        have HB0 : Hid (Box3 wr X (.slice ah 8 ch) (.slice al d.L.length cl) (.int .i64 (d.s : Int))) := hbox
        have h60 : d.L.length ≤ 60 := ST.out.on.disk.fine.len
        obtain ⟨NL, hNL⟩ : ∃ NL, NL = d.L.length := ⟨_, rfl⟩
        have HNL : Hid (NL = d.L.length) := hNL
        rw [← hNL] at ST HB0 x1 h60
        obtain ⟨sd, hsd⟩ : ∃ sd, sd = d.s := ⟨_, rfl⟩
        have HSD : Hid (sd = d.s) := hsd
        rw [← hsd] at HB0 x2
        clear hbox hNL hsd
        go_upto_block 2 with fail
        go_cut [7, 8] (fun e err wx => ∃ (c : Nat) (v' vh' vl' : Value) (d' : Dk), e = .int .i64 (c : Int) ∧ err = errV c ∧ PlW w wx g v' X vh' vl' d' d')
        case first =>
          by_cases h1 : z = 1
          · subst h1
            obtain ⟨b1, o1, c2, hv2, hb1, hx⟩ := row_cells HSK.out HZ.out.symm (by omega)
            cases hv2
            have HX : Hid (∀ w2, Below w.heap.size w w2 → w2.cell? ⟨b1, o1, none⟩ = some (.int .i64 (nth (rowAt rs k) 0))) := fun w2 h => by rw [h.cell (p := ⟨b1, o1, none⟩) hb1]; exact hx 0 (by omega)
            clear hx hc0
            generalize nth (rowAt rs k) 0 = X0 at HX
            have r0 := HX.out wr ST.out.on.old
            have STd : Hid (PlW w wr.drew g v X (.slice ah 8 ch) (.slice al NL cl) d d) := ST.out.later (below_drew1 _ _)
            have HRo : Hid _ := fun (_ : Nat) => r2down_any wr.drew ah ch _ (sd : Int) d.L STd.out.log.is (by rw [← HNL.out]; exact h60) X0 0 0 true
            go_wp2_with fail
            refine wp_region_held_drew (S := fun w' => w'.cell? ⟨b1, o1, none⟩ = some (.int .i64 X0)) (by kernel_rfl) ?hs (fun hHeld => ?_)
            case hs => exact r0
            refine held_take (i := 1) (v := ?_) rfl rfl (by kernel_rfl) (by kernel_rfl) (by kernel_rfl) (fun _ _ _ h => h) (Or.inl ⟨by rfl, ?_⟩) hHeld ?_
            rotate_left
            · (intro w hSw; (try dsimp only at hSw); go_simp; try with_reducible rfl)
            simp only [Act.put, List.setIfInBounds_toArray, List.set_cons_zero, List.set_cons_succ]
            refine held_take (i := 2) (v := ?_) rfl rfl (by kernel_rfl) (by kernel_rfl) (by kernel_rfl) (fun _ _ _ h => h) (Or.inl ⟨by rfl, ?_⟩) hHeld ?_
            rotate_left
            · (intro w hSw; (try dsimp only at hSw); go_simp; try with_reducible rfl)
            simp only [Act.put, List.setIfInBounds_toArray, List.set_cons_zero, List.set_cons_succ]
            refine held_take (i := 3) (v := ?_) rfl rfl (by kernel_rfl) (by kernel_rfl) (by kernel_rfl) (fun _ _ _ h => h) (Or.inl ⟨by rfl, ?_⟩) hHeld ?_
            rotate_left
            · (intro w hSw; (try dsimp only at hSw); go_simp; try with_reducible rfl)
            simp only [Act.put, List.setIfInBounds_toArray, List.set_cons_zero, List.set_cons_succ]
            refine held_take (i := 4) (v := ?_) rfl rfl (by kernel_rfl) (by kernel_rfl) (by kernel_rfl) (fun _ _ _ h => h) (Or.inl ⟨by rfl, ?_⟩) hHeld ?_
            rotate_left
            · (intro w hSw; (try dsimp only at hSw); go_simp; try with_reducible rfl)
            simp only [Act.put, List.setIfInBounds_toArray, List.set_cons_zero, List.set_cons_succ]
            refine wpAnyH_ready (rs := [0]) (by kernel_rfl) (by simp) ?_
            refine AllReadyH.cons rfl (fun K hK => ?_) AllReadyH.nil
            go_simp
            refine hK.out _ _ (hHeld) (fun hHeld => ?_)
            clear hK K
            refine wpAnyH_ready (rs := [5]) (by kernel_rfl) (by simp) ?_
            refine AllReadyH.cons rfl (fun K hK => ?_) AllReadyH.nil
            go_simp
            go_at_call 6
            refine (HRo.out 0).mono ?_
            rintro e w2 ⟨vl', rfl, hnl, hb2⟩
            obtain ⟨al', nl', cl', rfl⟩ := hnl.form rfl
            have hBx := (HB0.out.later (below_drew1 _ _)).later hb2
            obtain ⟨q0, q1, q2, g0, g1, g2⟩ := hBx.facts
            have hM2 := STd.out.doc (q' := enD d X0) hb2 (.inl ⟨rfl, rfl⟩) hnl.or3
            rw [show (enD d X0).s = sd from HSD.out.symm] at hM2
            go_simp
            refine hK.out _ _ (HX.out _ (STd.out.later hb2).on.old) (fun hHeld => ?_)
            clear hK K
            refine held_take (i := 6) (v := ?_) rfl rfl (by kernel_rfl) (by kernel_rfl) (by kernel_rfl) (fun _ _ _ h => h) (Or.inl ⟨by rfl, ?_⟩) hHeld ?_
            rotate_left
            · (intro w hSw; (try dsimp only at hSw); go_simp; try with_reducible rfl)
            simp only [Act.put, List.setIfInBounds_toArray, List.set_cons_zero, List.set_cons_succ]
            refine held_take (i := 7) (v := ?_) rfl rfl (by kernel_rfl) (by kernel_rfl) (by kernel_rfl) (fun _ _ _ h => h) (Or.inl ⟨by rfl, ?_⟩) hHeld ?_
            rotate_left
            · (intro w hSw; (try dsimp only at hSw); go_simp; try with_reducible rfl)
            simp only [Act.put, List.setIfInBounds_toArray, List.set_cons_zero, List.set_cons_succ]
            refine held_take (i := 8) (v := ?_) rfl rfl (by kernel_rfl) (by kernel_rfl) (by kernel_rfl) (fun _ _ _ h => h) (Or.inl ⟨by rfl, ?_⟩) hHeld ?_
            rotate_left
            · (intro w hSw; (try dsimp only at hSw); go_simp; try with_reducible rfl)
            simp only [Act.put, List.setIfInBounds_toArray, List.set_cons_zero, List.set_cons_succ]
            refine wpAnyH_ready (rs := [9]) (by kernel_rfl) (by simp) ?_
            refine AllReadyH.cons rfl (fun K hK => ?_) AllReadyH.nil
            go_simp
            refine hK.out _ _ (HX.out _ hM2.on.old) (fun hHeld => ?_)
            clear hK K
            refine held_take (i := 10) (v := ?_) rfl rfl (by kernel_rfl) (by kernel_rfl) (by kernel_rfl) (fun _ _ _ h => h) (Or.inl ⟨by rfl, ?_⟩) hHeld ?_
            rotate_left
            · (intro w hSw; (try dsimp only at hSw); go_simp; try with_reducible rfl)
            simp only [Act.put, List.setIfInBounds_toArray, List.set_cons_zero, List.set_cons_succ]
            refine wpAnyH_done (by kernel_rfl) ?_ _
            have HM3 : Hid _ := fun (_ : Nat) => hM2
            clear hM2 hBx hnl hb2 q0 q1 q2 g0 g1 g2 x0 x1 x2 f0 f1 f2 r0
            generalize ((w2.setCell ⟨X, 0, none⟩ (.slice ah 8 ch)).setCell ⟨X, 1, none⟩ (.slice al' nl' cl')).setCell ⟨X, 2, none⟩ (.int .i64 (sd : Int)) = w3 at HM3 ⊢
            have r3 := HX.out w3 (HM3.out 0).on.old
            have HCu : Hid _ := fun (_ : Nat) => end_any w3 _ g v d (HM3.out 0).on.disk X0
            unfold ptrD at HCu
            clear hHeld
            go_wp2_with (first
              | (go_at_call 7; refine (HCu.out 0).mono ?_; rintro e w4 ⟨rfl, v4, hst4⟩; have HM4 : Hid _ := fun (_ : Nat) => (HM3.out 0).prog hst4; clear hst4))
            go_meet
            case rel => exact ⟨enE d.L X0, _, _, _, enD d X0, rfl, rfl, HM4.out 0⟩
          · have b1 : ((z : Int) == 1) = false := by simp; omega
            by_cases h2 : z = 2
            · subst h2
              obtain ⟨b1, o1, c2, hv2, hb1, hx⟩ := row_cells HSK.out HZ.out.symm (by omega)
              cases hv2
              have HX : Hid (∀ w2, Below w.heap.size w w2 → w2.cell? ⟨b1, o1, none⟩ = some (.int .i64 (nth (rowAt rs k) 0))) := fun w2 h => by rw [h.cell (p := ⟨b1, o1, none⟩) hb1]; exact hx 0 (by omega)
              clear hx hc0
              generalize nth (rowAt rs k) 0 = X0 at HX
              have r0 := HX.out wr ST.out.on.old
              have STd : Hid (PlW w wr.drew g v X (.slice ah 8 ch) (.slice al NL cl) d d) := ST.out.later (below_drew1 _ _)
              have HRo : Hid _ := fun (_ : Nat) => r2crash_any wr.drew ah ch _ d.H sd d.L STd.out.log.is (by rw [← HNL.out]; exact h60) X0
              go_wp2_with fail
              refine wp_region_held_drew (S := fun w' => w'.cell? ⟨b1, o1, none⟩ = some (.int .i64 X0)) (by kernel_rfl) ?hs (fun hHeld => ?_)
              case hs => exact r0
              refine held_take (i := 1) (v := ?_) rfl rfl (by kernel_rfl) (by kernel_rfl) (by kernel_rfl) (fun _ _ _ h => h) (Or.inl ⟨by rfl, ?_⟩) hHeld ?_
              rotate_left
              · (intro w hSw; (try dsimp only at hSw); go_simp; try with_reducible rfl)
              simp only [Act.put, List.setIfInBounds_toArray, List.set_cons_zero, List.set_cons_succ]
              refine held_take (i := 2) (v := ?_) rfl rfl (by kernel_rfl) (by kernel_rfl) (by kernel_rfl) (fun _ _ _ h => h) (Or.inl ⟨by rfl, ?_⟩) hHeld ?_
              rotate_left
              · (intro w hSw; (try dsimp only at hSw); go_simp; try with_reducible rfl)
              simp only [Act.put, List.setIfInBounds_toArray, List.set_cons_zero, List.set_cons_succ]
              refine held_take (i := 3) (v := ?_) rfl rfl (by kernel_rfl) (by kernel_rfl) (by kernel_rfl) (fun _ _ _ h => h) (Or.inl ⟨by rfl, ?_⟩) hHeld ?_
              rotate_left
              · (intro w hSw; (try dsimp only at hSw); go_simp; try with_reducible rfl)
              simp only [Act.put, List.setIfInBounds_toArray, List.set_cons_zero, List.set_cons_succ]
              refine wpAnyH_ready (rs := [0]) (by kernel_rfl) (by simp) ?_
              refine AllReadyH.cons rfl (fun K hK => ?_) AllReadyH.nil
              go_simp
              refine hK.out _ _ (hHeld) (fun hHeld => ?_)
              clear hK K
              refine wpAnyH_ready (rs := [4]) (by kernel_rfl) (by simp) ?_
              refine AllReadyH.cons rfl (fun K hK => ?_) AllReadyH.nil
              go_simp
              go_at_call 8
              refine (HRo.out 0).mono ?_
              rintro e w2 ⟨vl', rfl, hnl, hb2⟩
              obtain ⟨al', nl', cl', rfl⟩ := hnl.form rfl
              have hBx := (HB0.out.later (below_drew1 _ _)).later hb2
              obtain ⟨q0, q1, q2, g0, g1, g2⟩ := hBx.facts
              have hM2 := STd.out.doc (q' := crD ⟨d.H, d.L, sd⟩ X0) hb2 (.inl ⟨rfl, by rw [crD_H]⟩) hnl.or3
              go_simp
              refine hK.out _ _ (HX.out _ (STd.out.later hb2).on.old) (fun hHeld => ?_)
              clear hK K
              refine held_take (i := 5) (v := ?_) rfl rfl (by kernel_rfl) (by kernel_rfl) (by kernel_rfl) (fun _ _ _ h => h) (Or.inl ⟨by rfl, ?_⟩) hHeld ?_
              rotate_left
              · (intro w hSw; (try dsimp only at hSw); go_simp; try with_reducible rfl)
              simp only [Act.put, List.setIfInBounds_toArray, List.set_cons_zero, List.set_cons_succ]
              refine held_take (i := 6) (v := ?_) rfl rfl (by kernel_rfl) (by kernel_rfl) (by kernel_rfl) (fun _ _ _ h => h) (Or.inl ⟨by rfl, ?_⟩) hHeld ?_
              rotate_left
              · (intro w hSw; (try dsimp only at hSw); go_simp; try with_reducible rfl)
              simp only [Act.put, List.setIfInBounds_toArray, List.set_cons_zero, List.set_cons_succ]
              refine held_take (i := 7) (v := ?_) rfl rfl (by kernel_rfl) (by kernel_rfl) (by kernel_rfl) (fun _ _ _ h => h) (Or.inl ⟨by rfl, ?_⟩) hHeld ?_
              rotate_left
              · (intro w hSw; (try dsimp only at hSw); go_simp; try with_reducible rfl)
              simp only [Act.put, List.setIfInBounds_toArray, List.set_cons_zero, List.set_cons_succ]
              refine wpAnyH_ready (rs := [8]) (by kernel_rfl) (by simp) ?_
              refine AllReadyH.cons rfl (fun K hK => ?_) AllReadyH.nil
              go_simp
              refine hK.out _ _ (HX.out _ hM2.on.old) (fun hHeld => ?_)
              clear hK K
              refine held_take (i := 9) (v := ?_) rfl rfl (by kernel_rfl) (by kernel_rfl) (by kernel_rfl) (fun _ _ _ h => h) (Or.inl ⟨by rfl, ?_⟩) hHeld ?_
              rotate_left
              · (intro w hSw; (try dsimp only at hSw); go_simp; try with_reducible rfl)
              simp only [Act.put, List.setIfInBounds_toArray, List.set_cons_zero, List.set_cons_succ]
              refine wpAnyH_done (by kernel_rfl) ?_ _
              have HM3 : Hid _ := fun (_ : Nat) => hM2
              clear hM2 hBx hnl hb2 q0 q1 q2 g0 g1 g2 x0 x1 x2 f0 f1 f2 r0
              generalize World.setCell _ _ _ = w3 at HM3 ⊢
              have r3 := HX.out w3 (HM3.out 0).on.old
              have HCu : Hid _ := fun (_ : Nat) => crash_any w3 _ g v d (HM3.out 0).on.disk X0
              unfold ptrD at HCu
              clear hHeld
              go_wp2_with (first
                | (go_at_call 9; refine (HCu.out 0).mono ?_; rintro e w4 ⟨rfl, v4, hst4⟩; have HM4 : Hid _ := fun (_ : Nat) => (HM3.out 0).prog hst4; clear hst4))
              go_meet
              case rel => exact ⟨crE d X0, _, _, _, crD d X0, by rw [HSD.out], rfl, by have h4 := HM4.out 0; rw [HSD.out] at h4; exact h4⟩
            · have b2 : ((z : Int) == 2) = false := by simp; omega
              by_cases h3 : z = 3
              · subst h3
                obtain ⟨b1, o1, c2, hv2, hb1, hx⟩ := row_cells HSK.out HZ.out.symm (by omega)
                cases hv2
                have HX : Hid (∀ w2, Below w.heap.size w w2 → w2.cell? ⟨b1, o1, none⟩ = some (.int .i64 (nth (rowAt rs k) 0)) ∧ w2.cell? ⟨b1, o1 + 1, none⟩ = some (.int .i64 (nth (rowAt rs k) 1)) ∧ w2.cell? ⟨b1, o1 + 2, none⟩ = some (.int .i64 (nth (rowAt rs k) 2))) := fun w2 h => ⟨by rw [h.cell (p := ⟨b1, o1, none⟩) hb1]; exact hx 0 (by omega), by rw [h.cell (p := ⟨b1, o1 + 1, none⟩) hb1]; exact hx 1 (by omega), by rw [h.cell (p := ⟨b1, o1 + 2, none⟩) hb1]; exact hx 2 (by omega)⟩
                clear hx hc0
                generalize nth (rowAt rs k) 0 = X0 at HX
                generalize nth (rowAt rs k) 1 = X1 at HX
                generalize nth (rowAt rs k) 2 = X2 at HX
                obtain ⟨r0, r1, r2⟩ := HX.out wr ST.out.on.old
                have HXa : Hid (∀ o, (wr.drew.alloc o).cell? ⟨b1, o1, none⟩ = some (.int .i64 X0) ∧ (wr.drew.alloc o).cell? ⟨b1, o1 + 1, none⟩ = some (.int .i64 X1) ∧ (wr.drew.alloc o).cell? ⟨b1, o1 + 2, none⟩ = some (.int .i64 X2)) := fun o => HX.out _ (((ST.out.later (below_drew1 _ _)).later (below_one _ _)).on.old)
                have STa : Hid _ := fun (o : Obj) => (ST.out.later (below_drew1 _ _)).later (below_one _ o)
                go_wp2_with fail
                go_region_held3 (fun w' => w'.cell? ⟨b1, o1, none⟩ = some (.int .i64 X0) ∧ w'.cell? ⟨b1, o1 + 1, none⟩ = some (.int .i64 X1) ∧ w'.cell? ⟨b1, o1 + 2, none⟩ = some (.int .i64 X2))
                  (first | (go_split_ands; exact HXa.out _) | go_keep)
                  (fail)
                have ST1 : Hid _ := fun (_ : Nat) => (ST.out.later (below_one wr (.cells #[.int .i64 X0, .int .i64 X1, .int .i64 X2] 35))).later (below_drew1 _ _)
                have hPX : ¬ wr.heap.size = X := by have := ST.out.box.lt; omega
                have hXP : ¬ X = wr.heap.size := fun e => hPX e.symm
                have HPn : Hid (∀ W, Below (wr.alloc (.cells #[.int .i64 X0, .int .i64 X1, .int .i64 X2] 35)).drew.heap.size (wr.alloc (.cells #[.int .i64 X0, .int .i64 X1, .int .i64 X2] 35)).drew W → W.cell? ⟨wr.heap.size, 0, none⟩ = some (.int .i64 X0) ∧ W.cell? ⟨wr.heap.size, 1, none⟩ = some (.int .i64 X1) ∧ W.cell? ⟨wr.heap.size, 2, none⟩ = some (.int .i64 X2)) := fun W hW => ⟨by rw [(undrew1 hW).cell (p := ⟨wr.heap.size, 0, none⟩) (by show _ < (wr.alloc _).heap.size; simp)]; exact cell_new _ _ _ _, by rw [(undrew1 hW).cell (p := ⟨wr.heap.size, 1, none⟩) (by show _ < (wr.alloc _).heap.size; simp)]; exact cell_new _ _ _ _, by rw [(undrew1 hW).cell (p := ⟨wr.heap.size, 2, none⟩) (by show _ < (wr.alloc _).heap.size; simp)]; exact cell_new _ _ _ _⟩
                clear x0 x1 x2 f0 f1 f2 r0 r1 r2 HXa STa
                generalize (wr.alloc _).drew = W1 at ST1 HPn ⊢
                generalize wr.heap.size = P at HPn hPX hXP ⊢
                obtain ⟨p0, p1, p2⟩ := HPn.out W1 (Below.refl _ _)
                obtain ⟨x0, x1, x2, f0, f1, f2⟩ := (ST1.out 0).box.facts
                rw [← HSD.out] at x2
                have HRo : Hid _ := fun (_ : Nat) => r2down_any W1 ah ch _ (sd : Int) d.L (ST1.out 0).log.is (by rw [← HNL.out]; exact h60) X0 X1 X2 false
                have HWr : Hid _ := fun (W : World) (vh vl : Value) (q : Dk) (h : PlW w W g v X vh vl d q) => write_any W _ g v d h.on.disk X0 X1 X2
                unfold ptrD at HWr
                go_wp2_with (first
                  | (go_at_call 6; refine (HRo.out 0).mono ?_; rintro e w2 ⟨vl', rfl, hnl, hb2⟩; obtain ⟨al', nl', cl', rfl⟩ := hnl.form rfl; have hBx := (ST1.out 0).box.later hb2; rw [← HSD.out] at hBx; obtain ⟨q0, q1, q2, g0, g1, g2⟩ := hBx.facts; obtain ⟨s0, s1, s2⟩ := HPn.out w2 hb2; have hM2 := (ST1.out 0).doc (q' := wrD d X0 X1 X2) hb2 (.inl ⟨rfl, rfl⟩) hnl.or3; rw [show (wrD d X0 X1 X2).s = sd from HSD.out.symm] at hM2; have HM2 : Hid _ := fun (_ : Nat) => hM2; clear hM2 hBx hnl hb2 x0 x1 x2 f0 f1 f2 p0 p1 p2)
                  | (go_at_call 10; refine (HWr.out _ _ _ _ (HM2.out 0)).mono ?_; rintro e w4 ⟨rfl, v4, hst4⟩; have HM4 : Hid _ := fun (_ : Nat) => (HM2.out 0).prog hst4; clear hst4))
                go_meet
                case rel => exact ⟨wrE d.L X0 X1 X2, _, _, _, wrD d X0 X1 X2, rfl, rfl, HM4.out 0⟩
              · have b3 : ((z : Int) == 3) = false := by simp; omega
                by_cases h4 : z = 4
                · subst h4
                  clear h1 h2 h3 b1 b2 b3
                  go_wp2_with fail
                  have HS1 : Hid _ := fun (_ : Nat) => ST.out.syn NL
                  clear x0 x1 x2 f0 f1 f2 hc0
                  generalize World.setCell _ _ _ = w2 at HS1 ⊢
                  have x2 := (HS1.out 0).box.facts.2.2.1
                  have HSd : Hid _ := fun (_ : Nat) => (HS1.out 0).later (below_drew1 _ _)
                  have HSy : Hid _ := fun (_ : Nat) => sync_any w2.drew _ g v d (HSd.out 0).on.disk
                  rw [← HNL.out] at HSy
                  unfold ptrD at HSy
                  go_region_held3 (fun w' => w'.cell? ⟨X, 2, none⟩ = some (.int .i64 (NL : Int)))
                    (first | exact (HM4.out 0).box.facts.2.2.1 | go_keep)
                    (first | (go_at_call 11; refine (HSy.out 0).mono ?_; rintro e w4 ⟨rfl, hd4, hs4⟩; have HM4 : Hid _ := fun (_ : Nat) => (HSd.out 0).sync hd4 hs4; clear hd4 hs4))
                  clear x2
                  go_wp2
                  go_meet
                  case rel => exact ⟨0, _, _, _, syD d, rfl, rfl, by have h4 := HM4.out 0; rw [HNL.out] at h4; exact h4⟩
                · have b4 : ((z : Int) == 4) = false := by simp; omega
                  by_cases h5 : z = 5
                  · subst h5
                    clear h1 h2 h3 h4 b1 b2 b3 b4
                    have HRo : Hid _ := fun (_ : Nat) => r2home_any wr ah ch _ sd d.H d.L ST.out.home.is ST.out.log.is ⟨ST.out.on.disk.fine.one, ST.out.on.disk.fine.two, ST.out.on.disk.fine.len⟩
                    have HHo : Hid _ := fun (W : World) (vh vl : Value) (q : Dk) (h : PlW w W g v X vh vl d q) => home_any W _ g v d h.on.disk
                    unfold ptrD at HHo
                    clear hc0
                    go_wp2_with (first
                      | (go_at_call 12; refine (HRo.out 0).mono ?_; rintro e w2 ⟨vh', vl', s', rfl, hor, hb2⟩; obtain ⟨hsq, hhq, hlq, hf1, hf2⟩ := home_or HSD.out hor; obtain ⟨ah', ch', rfl⟩ := hf1 ah ch rfl; obtain ⟨al', nl', cl', rfl⟩ := hf2 al NL cl rfl; have hBx := HB0.out.later hb2; obtain ⟨q0, q1, q2, g0, g1, g2⟩ := hBx.facts; have hM2 := ST.out.doc (q' := hoD d) hb2 hhq hlq; rw [← hsq] at hM2; have HM2 : Hid _ := fun (_ : Nat) => hM2; clear hM2 hBx hb2 hor hsq hhq hlq hf1 hf2 x0 x1 x2 f0 f1 f2)
                      | (go_at_call 13; refine (HHo.out _ _ _ _ (HM2.out 0)).mono ?_; rintro e w4 ⟨rfl, v4, hst4⟩; have HM4 : Hid _ := fun (_ : Nat) => (HM2.out 0).prog hst4; clear hst4))
                    go_meet
                    case rel => exact ⟨hoE d.L, _, _, _, hoD d, rfl, rfl, HM4.out 0⟩
                  · have b5 : ((z : Int) == 5) = false := by simp; omega
                    clear h1 h2 h3 h4 h5
                    go_wp2
                    go_meet
                    case rel => exact ⟨0, _, _, _, d, rfl, rfl, ST.out⟩
        case rest =>
        obtain ⟨E, v, vh, vl, d, rfl, rfl, hP⟩ := hcut
        rename World => w6
        clear ST HB0 HNL HSD x0 x1 x2 f0 f1 f2 h60 hc0
        obtain ⟨ah, ch, hvh, _, _⟩ := hP.home.is
        obtain ⟨al, cl, hvl, _, _, _⟩ := hP.log.is
        rw [lst_len] at hvh
        subst hvh
        subst hvl
        have h60 : d.L.length ≤ 60 := hP.on.disk.fine.len
        have HFi : Hid (Fine ⟨d.H, d.L, 0⟩) := ⟨hP.on.disk.fine.one, hP.on.disk.fine.two, hP.on.disk.fine.len⟩
        have HM6 : Hid _ := fun (_ : Nat) => hP
        have HLg : Hid _ := fun (_ : Nat) => log_any w6 _ g v d hP.on.disk
        have HBf : Hid (∀ W, PlW w W g v X (.slice ah 8 ch) (.slice al d.L.length cl) d d → W.cell? ⟨X, 0, none⟩ = some (.slice ah 8 ch) ∧ W.cell? ⟨X, 1, none⟩ = some (.slice al d.L.length cl) ∧ W.cell? ⟨X, 2, none⟩ = some (.int .i64 (d.s : Int))) := fun W h => ⟨h.box.facts.1, h.box.facts.2.1, h.box.facts.2.2.1⟩
        have HVa : Hid _ := fun (W : World) (h : PlW w W g v X (.slice ah 8 ch) (.slice al d.L.length cl) d d) => values_any W _ g v d h.on.disk
        have HXv : Hid _ := fun (W : World) (h : PlW w W g v X (.slice ah 8 ch) (.slice al d.L.length cl) d d) => r2values_any W (.slice ah 8 ch) _ (d.s : Int) d.H d.L h.home.is h.log.is HFi.out
        have HEr : Hid _ := fun (wz : World) (h : Below w.heap.size w wz) => error_any E (E : Int) wz (HL.out.later h)
        rw [show (((E : Nat) : Int) == (E : Int)) = true by simp] at HEr
        generalize errV E = EV at *
        obtain ⟨NL, hNL⟩ : ∃ NL, NL = d.L.length := ⟨_, rfl⟩
        rw [← hNL] at h60 HBf HVa HXv HLg HM6 hP
        obtain ⟨sd, hsd⟩ : ∃ sd, sd = d.s := ⟨_, rfl⟩
        rw [← hsd] at HBf HXv HLg
        clear hNL hsd hP
        unfold ptrD at HVa HLg
        go_wp2_with fail
        refine (HLg.out 0).mono ?_
        rintro e w7 ⟨rfl, hb7⟩
        have HM7 : Hid _ := fun (_ : Nat) => (HM6.out 0).later hb7
        have HMd : Hid _ := fun (_ : Nat) => (HM7.out 0).later (below_drew1 _ _)
        obtain ⟨x0, x1, x2⟩ := HBf.out w7 (HM7.out 0)
        clear hb7 HM6 HLg
        go_wp2_with fail
        go_region_held3 (fun w' => w'.cell? ⟨X, 0, none⟩ = some (.slice ah 8 ch) ∧ w'.cell? ⟨X, 1, none⟩ = some (.slice al NL cl) ∧ w'.cell? ⟨X, 2, none⟩ = some (.int .i64 (sd : Int)))
          (first | (go_split_ands; exact HBf.out _ (HMI.out 0)) | (go_split_ands; exact HBf.out _ (HMY.out 0)) | (go_split_ands; exact HBf.out _ (HMV.out 0)) | (go_split_ands; exact HBf.out _ (HM8.out 0)) | go_keep)
          (first
            | (go_at_call 15; refine (HEr.out _ (HMd.out 0).on.old).mono ?_; rintro e w8 ⟨rfl, hb8⟩; have HM8 : Hid _ := fun (_ : Nat) => (HMd.out 0).later hb8; clear hb8)
            | (go_at_call 17; refine (HVa.out _ (HMY.out 0)).mono ?_; rintro e wV ⟨rfl, hv, hb⟩; have HVs : Hid _ := fun (_ : Nat) => hv.is; have HYs2 : Hid _ := fun (_ : Nat) => (HYs.out 0).later hb; have HMV : Hid _ := fun (_ : Nat) => (HMY.out 0).later hb; clear hv hb)
            | (go_at_call 17; refine (HVa.out _ (HM8.out 0)).mono ?_; rintro e wV ⟨rfl, hv, hb⟩; have HVs : Hid _ := fun (_ : Nat) => hv.is; have HMV : Hid _ := fun (_ : Nat) => (HM8.out 0).later hb; clear hv hb)
            | (go_at_call 18; refine (HXv.out _ (HMV.out 0)).mono ?_; rintro e wY ⟨vY, rfl, hO⟩; have HYs : Hid _ := fun (_ : Nat) => hO.is; have HVs2 : Hid _ := fun (_ : Nat) => (HVs.out 0).later hO.old; have HMY : Hid _ := fun (_ : Nat) => (HMV.out 0).later hO.old; clear hO)
            | (go_at_call 18; refine (HXv.out _ (HM8.out 0)).mono ?_; rintro e wY ⟨vY, rfl, hO⟩; have HYs : Hid _ := fun (_ : Nat) => hO.is; have HMY : Hid _ := fun (_ : Nat) => (HM8.out 0).later hO.old; clear hO)
            | (go_at_call 16; refine (same_lists wY _ _ _ _ (HVs2.out 0) (HYs.out 0) rfl).mono ?_; rintro e wI ⟨rfl, hb⟩; have HMI : Hid _ := fun (_ : Nat) => (HMY.out 0).later hb; clear hb)
            | (go_at_call 16; refine (same_lists wV _ _ _ _ (HVs.out 0) (HYs2.out 0) rfl).mono ?_; rintro e wI ⟨rfl, hb⟩; have HMI : Hid _ := fun (_ : Nat) => (HMV.out 0).later hb; clear hb))
        all_goals
          clear x0 x1 x2
          go_wp2
          go_roundw
          case rel => exact ⟨k + 1, by omega, by go_num, _, _, _, _, HMI.out 0⟩
          case measure => simp [Go.RowKit.intOf]; omega
      · have hs1 : ¬ (k : Int) < 80 := by omega
        go_wp2
        go_ret
        exact ⟨rfl, ST.out.on.old⟩
    · have hl1 : ¬ (k : Int) < (n : Int) := by omega
      go_wp2
      go_ret
      exact ⟨rfl, ST.out.on.old⟩

end Go.Proofs.YtejganpamidkmaaDoor
