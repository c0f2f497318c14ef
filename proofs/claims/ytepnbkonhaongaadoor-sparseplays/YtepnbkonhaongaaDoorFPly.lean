/- This text proves that platterholdlaw2.SparsePlays returns true for any rows and any two numbers, and lets all old memory be; the conditions: the rows lie there and have room, and the library's variable errors.errorType holds what the program's own text lays. -/
import Derived.Test.YtepnbkonhaongaaDoorF18
import Derived.Test.YtepnbkonhaongaaDoorF9q
import Derived.Test.YtepnbkonhaongaaDoorIn2
import Derived.Deep.DeepCutAuto
import Derived.Deep.CutBlock
import Derived.Laws.OwnMore
namespace Go.Proofs.YtepnbkonhaongaaDoor
open Go.RowKit Go.Deep Go.Maps

set_option maxHeartbeats 64000000 in
set_option maxRecDepth 100000 in
theorem sparsePlays_any (w : World) (v : Value) (rs : List (List Int)) (hr : RowsC w v rs) (pa pn : Int) (hL : Laid w) :
    Calls Tryd.prog 3 #[v, .int .i64 pa, .int .i64 pn] w fun e w' => e = .returned (.bool true) ∧ Below w.heap.size w w' := by
  have HR : Hid (RowsC w v rs) := hr
  have HL : Hid (Laid w) := hL
  obtain ⟨a, c, hv, hl, _⟩ := hr
  obtain ⟨n, hn⟩ : ∃ n, n = rs.length := ⟨_, rfl⟩
  rw [← hn] at hv hl
  unfold maxLen at hl
  subst hv
  clear hn hL
  go_enter Tryd.func3, Tryd.ntmps3
  go_wp2_with fail
  refine (sp_new _).mono ?_
  rintro e w1 ⟨g, b, rfl, hF, hg, hb, hB⟩
  have ST0 : Hid (OnF w w1 g b fil0) := ⟨hF, wel0, ⟨hg, hb⟩, hB⟩
  clear hF hg hb hB
  unfold ptrF
  go_wp2_with fail
  refine (r2new_any (Two g b) w1 (by rintro x (rfl | rfl); exact ST0.out.fil.lt.1; exact ST0.out.fil.lt.2)).mono ?_
  rintro e w2 ⟨vb0, vk0, rfl, hD2, hb2⟩
  have ST1 : Hid _ := PlM.new ST0.out hD2 hb2
  obtain ⟨_, _, _, _, rfl, _, rfl, _⟩ := hD2.form
  clear hD2 hb2
  go_wp2
  generalize w2.alloc _ = w3 at ST1 ⊢
  generalize w2.heap.size = X at ST1 ⊢
  have ST2 : Hid (∃ vb vk f, PlM w w3 g b X vb vk f f) := ⟨_, _, _, ST1.out⟩
  clear ST0 ST1
  go_loopw [9, 10, 11, 12, 13, 14, 15] (fun i _ _ _ _ _ _ wr => ∃ k, k ≤ 40 ∧ i = .int .i64 ((k : Nat) : Int) ∧ ∃ vb vk f, PlM w wr g b X vb vk f f) (fun i _ _ _ _ _ _ _ => 40 - (Go.RowKit.intOf i).toNat)
  case atStart => exact ⟨0, by omega, rfl, ST2.out⟩
  case round =>
    obtain ⟨k, hk, rfl, vb, vk, f, hst⟩ := hrel
    have ST : Hid (PlM w wr g b X vb vk f f) := hst
    clear hst ST2
    by_cases hlt : k < n
    · have hl1 : (k : Int) < (n : Int) := by omega
      by_cases hs : k < 40
      · have hs1 : (k : Int) < 40 := by omega
        obtain ⟨bb, o, vr, ha, hbs, hck, hsk⟩ := HR.out.row k hlt
        subst ha
        have HK : Hid (∀ {w'}, Below w.heap.size w w' → w'.cell? ⟨bb, o + k, none⟩ = some vr) := fun h => by rw [h.cell (p := ⟨bb, o + k, none⟩) hbs]; exact hck
        have HSK : Hid (SliceC w vr (rowAt rs k)) := hsk
        have hc0 := HK.out ST.out.on.old
        obtain ⟨a1, c1, hv1, _, _⟩ := hsk
        obtain ⟨z, hz⟩ : ∃ z, z = (rowAt rs k).length := ⟨_, rfl⟩
        have HZ : Hid (z = (rowAt rs k).length) := hz
        rw [← hz] at hv1
        subst hv1
        clear hck hz
        go_upto_if 37 with fail
        go_cut [11] (fun _ wx => ∃ vb' vk' f', PlM w wx g b X vb' vk' f' f')
        case first =>
          by_cases h0 : z = 0
          · have hz1 : ((z : Int) == 1) = false := by rw [h0]; rfl
            have hz2 : ¬ (1 : Int) < (z : Int) := by omega
            clear h0
            go_wp2_with fail
            go_meet
            case rel => exact ⟨_, _, _, ST.out⟩
          · obtain ⟨b1, o1, c2, hv2, hzc, hzm, hb1, hx, ht⟩ := row_some HSK.out HZ.out.symm (by omega)
            cases hv2
            have HX : Hid (∀ {w'}, Below w.heap.size w w' → w'.cell? ⟨b1, o1, none⟩ = some (.int .i64 (nth (rowAt rs k) 0))) := fun h => by rw [h.cell (p := ⟨b1, o1, none⟩) hb1]; exact hx
            have hx0 := HX.out ST.out.on.old
            clear hx hc0
            generalize nth (rowAt rs k) 0 = x at HX hx0
            have hbox := ST.out.box
            obtain ⟨ab, cb, ak, ck, rfl, _, rfl, _⟩ := ST.out.doc.form
            have HB0 : Hid (Box3 wr X (.slice ab 64 cb) (.int .i64 (f.s : Int)) (.slice ak 16 ck)) := hbox
            obtain ⟨x0, x1, x2, f0, f1, f2⟩ := hbox.facts
            have H64 : Hid (f.s ≤ 64) := ST.out.on.wel.big
            clear hbox
            by_cases h1 : z = 1
            · subst h1
              clear h0 ht
              have HRo : Hid _ := fun (_ : Nat) => r2cut_any (Thr g b X) wr.drew ST.out.lt _ _ f (ST.out.later (below_drew1 _ _)).doc x
              generalize hfn : ctoF f x = fn at HRo
              have HFn : Hid (ctoF f x = fn) := hfn
              clear hfn
              go_wp2_with fail
              refine wp_region_held_drew (S := fun w' => w'.cell? ⟨b1, o1, none⟩ = some (.int .i64 x)) (by kernel_rfl) ?hs (fun hHeld => ?_)
              case hs => exact hx0
              refine held_take (i := 1) (v := ?_) rfl rfl (by kernel_rfl) (by kernel_rfl) (by kernel_rfl) (fun _ _ _ h => h) (Or.inl ⟨by rfl, ?_⟩) hHeld ?_
              rotate_left
              · (intro w hSw; (try dsimp only at hSw); go_simp; try with_reducible rfl)
              simp only [Act.put, List.setIfInBounds_toArray, List.set_cons_zero, List.set_cons_succ]
              refine held_take (i := 2) (v := ?_) rfl rfl (by kernel_rfl) (by kernel_rfl) (by kernel_rfl) (fun _ _ _ h => h) (Or.inl ⟨by rfl, ?_⟩) hHeld ?_
              rotate_left
              · (intro w hSw; (try dsimp only at hSw); go_simp; try with_reducible rfl)
              simp only [Act.put, List.setIfInBounds_toArray, List.set_cons_zero, List.set_cons_succ]
              refine held_take (i := 3) (v := ?_) rfl rfl (by kernel_rfl) (by kernel_rfl) (by kernel_rfl) (fun _ _ _ h => h) (Or.inl ⟨by rfl, ?_⟩) hHeld ?_
              rotate_left
              · (intro w hSw; (try dsimp only at hSw); go_simp; try with_reducible rfl)
              simp only [Act.put, List.setIfInBounds_toArray, List.set_cons_zero, List.set_cons_succ]
              refine wpAnyH_ready (rs := [0]) (by kernel_rfl) (by simp) ?_
              refine AllReadyH.cons rfl (fun K hK => ?_) AllReadyH.nil
              go_simp
              refine hK.out _ _ (hHeld) (fun hHeld => ?_)
              clear hK K
              refine wpAnyH_ready (rs := [4]) (by kernel_rfl) (by simp) ?_
              refine AllReadyH.cons rfl (fun K hK => ?_) AllReadyH.nil
              go_simp
              go_at_call 7
              refine (HRo.out 0).mono ?_
              rintro e w2 ⟨vb', vk', rfl, hd2, hb2⟩
              obtain ⟨ab', cb', ak', ck', rfl, _, rfl, _⟩ := hd2.form
              have hBx := (HB0.out.later (below_drew1 _ _)).later hb2
              obtain ⟨q0, q1, q2, g0, g1, g2⟩ := hBx.facts
              have hM2 := (ST.out.later (below_drew1 _ _)).turn hd2 hb2
              go_simp
              refine hK.out _ _ (HX.out ((ST.out.later (below_drew1 _ _)).later hb2).on.old) (fun hHeld => ?_)
              clear hK K
              refine held_take (i := 5) (v := ?_) rfl rfl (by kernel_rfl) (by kernel_rfl) (by kernel_rfl) (fun _ _ _ h => h) (Or.inl ⟨by rfl, ?_⟩) hHeld ?_
              rotate_left
              · (intro w hSw; (try dsimp only at hSw); go_simp; try with_reducible rfl)
              simp only [Act.put, List.setIfInBounds_toArray, List.set_cons_zero, List.set_cons_succ]
              refine held_take (i := 6) (v := ?_) rfl rfl (by kernel_rfl) (by kernel_rfl) (by kernel_rfl) (fun _ _ _ h => h) (Or.inl ⟨by rfl, ?_⟩) hHeld ?_
              rotate_left
              · (intro w hSw; (try dsimp only at hSw); go_simp; try with_reducible rfl)
              simp only [Act.put, List.setIfInBounds_toArray, List.set_cons_zero, List.set_cons_succ]
              refine held_take (i := 7) (v := ?_) rfl rfl (by kernel_rfl) (by kernel_rfl) (by kernel_rfl) (fun _ _ _ h => h) (Or.inl ⟨by rfl, ?_⟩) hHeld ?_
              rotate_left
              · (intro w hSw; (try dsimp only at hSw); go_simp; try with_reducible rfl)
              simp only [Act.put, List.setIfInBounds_toArray, List.set_cons_zero, List.set_cons_succ]
              refine wpAnyH_ready (rs := [8]) (by kernel_rfl) (by simp) ?_
              refine AllReadyH.cons rfl (fun K hK => ?_) AllReadyH.nil
              go_simp
              refine hK.out _ _ (HX.out hM2.on.old) (fun hHeld => ?_)
              clear hK K
              refine held_take (i := 9) (v := ?_) rfl rfl (by kernel_rfl) (by kernel_rfl) (by kernel_rfl) (fun _ _ _ h => h) (Or.inl ⟨by rfl, ?_⟩) hHeld ?_
              rotate_left
              · (intro w hSw; (try dsimp only at hSw); go_simp; try with_reducible rfl)
              simp only [Act.put, List.setIfInBounds_toArray, List.set_cons_zero, List.set_cons_succ]
              refine wpAnyH_done (by kernel_rfl) ?_ _
              have HM3 : Hid _ := hM2
              clear hM2 hBx hd2 hb2 q0 q1 q2 g0 g1 g2 x0 x1 x2 f0 f1 f2 hx0
              generalize ((w2.setCell ⟨X, 0, none⟩ (.slice ab' 64 cb')).setCell ⟨X, 1, none⟩ (.int .i64 (fn.s : Int))).setCell ⟨X, 2, none⟩ (.slice ak' 16 ck') = w3 at HM3 ⊢
              have hx3 := HX.out HM3.out.on.old
              have HCu : Hid _ := fun (_ : Nat) => sp_cut w3 g b f HM3.out.on.fil HM3.out.on.wel x
              have HWl : Hid (Wel fn) := by rw [← HFn.out]; exact ctoF_wel HM3.out.on.wel x
              rw [HFn.out] at HCu
              have HEr : Hid _ := fun (wz : World) (h : Below w.heap.size w wz) => error_any (ctE x) (ctE x : Int) wz (HL.out.later h)
              have HEq : Hid (((ctE x : Int) == (ctE x : Int)) = true) := by show ((ctE x : Int) == (ctE x : Int)) = true; simp
              generalize ctE x = E at *
              unfold ptrF at HCu
              clear hHeld
              go_wp2_with (first
                | (go_at_call 9; refine (HCu.out 0).mono ?_; rintro e w4 ⟨rfl, hf4, hs4⟩; have HM4 : Hid _ := HM3.out.prog hf4 HWl.out hs4; clear hf4 hs4)
                | (go_at_call 8; refine (HEr.out _ HM4.out.on.old).mono ?_; rintro e w5 ⟨rfl, hb5⟩; rw [HEq.out]; have HM5 : Hid _ := HM4.out.later hb5; clear hb5))
              go_meet
              case rel => exact ⟨_, _, _, HM5.out⟩
            · have hz1 : ¬ z = 1 := by omega
              have HT : Hid (SliceIs w (.slice (some ⟨b1, o1 + 1, none⟩) (z - 1) (c1 - 1)) ((rowAt rs k).drop 1)) := ht (by omega)
              generalize (rowAt rs k).drop 1 = xs at HT
              have n2 : (1 : Int) < (z : Int) := by omega
              have n3 : (1 : Int) ≤ (z : Int) := by omega
              have n0 : 0 < z := by omega
              have n4 : (z : Int) ≤ (c1 : Int) := by omega
              have n5 : ¬ c1 = 1 := by omega
              unfold maxLen at hzm
              clear h0 h1 ht
              have HRo : Hid _ := fun (_ : Nat) => r2write_any (Thr g b X) wr.drew ST.out.lt _ _ f (ST.out.later (below_drew1 _ _)).doc H64.out x _ xs (HT.out.later (ST.out.later (below_drew1 _ _)).on.old)
              generalize hfn : wroF f x xs = fn at HRo
              have HFn : Hid (wroF f x xs = fn) := hfn
              clear hfn
              go_wp2_with fail
              refine wp_region_held_drew (S := fun w' => w'.cell? ⟨b1, o1, none⟩ = some (.int .i64 x)) (by kernel_rfl) ?hs (fun hHeld => ?_)
              case hs => exact hx0
              refine held_take (i := 1) (v := ?_) rfl rfl (by kernel_rfl) (by kernel_rfl) (by kernel_rfl) (fun _ _ _ h => h) (Or.inl ⟨by rfl, ?_⟩) hHeld ?_
              rotate_left
              · (intro w hSw; (try dsimp only at hSw); go_simp; try with_reducible rfl)
              simp only [Act.put, List.setIfInBounds_toArray, List.set_cons_zero, List.set_cons_succ]
              refine held_take (i := 2) (v := ?_) rfl rfl (by kernel_rfl) (by kernel_rfl) (by kernel_rfl) (fun _ _ _ h => h) (Or.inl ⟨by rfl, ?_⟩) hHeld ?_
              rotate_left
              · (intro w hSw; (try dsimp only at hSw); go_simp; try with_reducible rfl)
              simp only [Act.put, List.setIfInBounds_toArray, List.set_cons_zero, List.set_cons_succ]
              refine held_take (i := 3) (v := ?_) rfl rfl (by kernel_rfl) (by kernel_rfl) (by kernel_rfl) (fun _ _ _ h => h) (Or.inl ⟨by rfl, ?_⟩) hHeld ?_
              rotate_left
              · (intro w hSw; (try dsimp only at hSw); go_simp; try with_reducible rfl)
              simp only [Act.put, List.setIfInBounds_toArray, List.set_cons_zero, List.set_cons_succ]
              refine held_take (i := 4) (v := ?_) rfl rfl (by kernel_rfl) (by kernel_rfl) (by kernel_rfl) (fun _ _ _ h => h) (Or.inl ⟨by rfl, ?_⟩) hHeld ?_
              rotate_left
              · (intro w hSw; (try dsimp only at hSw); go_simp; try with_reducible rfl)
              simp only [Act.put, List.setIfInBounds_toArray, List.set_cons_zero, List.set_cons_succ]
              refine held_take (i := 5) (v := ?_) rfl rfl (by kernel_rfl) (by kernel_rfl) (by kernel_rfl) (fun _ _ _ h => h) (Or.inl ⟨by rfl, ?_⟩) hHeld ?_
              rotate_left
              · (intro w hSw; (try dsimp only at hSw); go_simp; try with_reducible rfl)
              simp only [Act.put, List.setIfInBounds_toArray, List.set_cons_zero, List.set_cons_succ]
              refine wpAnyH_ready (rs := [0]) (by kernel_rfl) (by simp) ?_
              refine AllReadyH.cons rfl (fun K hK => ?_) AllReadyH.nil
              go_simp
              refine hK.out _ _ (hHeld) (fun hHeld => ?_)
              clear hK K
              refine wpAnyH_ready (rs := [6]) (by kernel_rfl) (by simp) ?_
              refine AllReadyH.cons rfl (fun K hK => ?_) AllReadyH.nil
              go_simp
              go_at_call 10
              refine (HRo.out 0).mono ?_
              rintro e w2 ⟨vb', vk', rfl, hd2, hb2⟩
              obtain ⟨ab', cb', ak', ck', rfl, _, rfl, _⟩ := hd2.form
              have hBx := (HB0.out.later (below_drew1 _ _)).later hb2
              obtain ⟨q0, q1, q2, g0, g1, g2⟩ := hBx.facts
              have hM2 := (ST.out.later (below_drew1 _ _)).turn hd2 hb2
              go_simp
              refine hK.out _ _ (HX.out ((ST.out.later (below_drew1 _ _)).later hb2).on.old) (fun hHeld => ?_)
              clear hK K
              refine held_take (i := 7) (v := ?_) rfl rfl (by kernel_rfl) (by kernel_rfl) (by kernel_rfl) (fun _ _ _ h => h) (Or.inl ⟨by rfl, ?_⟩) hHeld ?_
              rotate_left
              · (intro w hSw; (try dsimp only at hSw); go_simp; try with_reducible rfl)
              simp only [Act.put, List.setIfInBounds_toArray, List.set_cons_zero, List.set_cons_succ]
              refine held_take (i := 8) (v := ?_) rfl rfl (by kernel_rfl) (by kernel_rfl) (by kernel_rfl) (fun _ _ _ h => h) (Or.inl ⟨by rfl, ?_⟩) hHeld ?_
              rotate_left
              · (intro w hSw; (try dsimp only at hSw); go_simp; try with_reducible rfl)
              simp only [Act.put, List.setIfInBounds_toArray, List.set_cons_zero, List.set_cons_succ]
              refine held_take (i := 9) (v := ?_) rfl rfl (by kernel_rfl) (by kernel_rfl) (by kernel_rfl) (fun _ _ _ h => h) (Or.inl ⟨by rfl, ?_⟩) hHeld ?_
              rotate_left
              · (intro w hSw; (try dsimp only at hSw); go_simp; try with_reducible rfl)
              simp only [Act.put, List.setIfInBounds_toArray, List.set_cons_zero, List.set_cons_succ]
              refine wpAnyH_ready (rs := [10]) (by kernel_rfl) (by simp) ?_
              refine AllReadyH.cons rfl (fun K hK => ?_) AllReadyH.nil
              go_simp
              refine hK.out _ _ (HX.out hM2.on.old) (fun hHeld => ?_)
              clear hK K
              refine held_take (i := 11) (v := ?_) rfl rfl (by kernel_rfl) (by kernel_rfl) (by kernel_rfl) (fun _ _ _ h => h) (Or.inl ⟨by rfl, ?_⟩) hHeld ?_
              rotate_left
              · (intro w hSw; (try dsimp only at hSw); go_simp; try with_reducible rfl)
              simp only [Act.put, List.setIfInBounds_toArray, List.set_cons_zero, List.set_cons_succ]
              refine wpAnyH_done (by kernel_rfl) ?_ _
              have HM3 : Hid _ := hM2
              clear hM2 hBx hd2 hb2 q0 q1 q2 g0 g1 g2 x0 x1 x2 f0 f1 f2 hx0
              generalize ((w2.setCell ⟨X, 0, none⟩ (.slice ab' 64 cb')).setCell ⟨X, 1, none⟩ (.int .i64 (fn.s : Int))).setCell ⟨X, 2, none⟩ (.slice ak' 16 ck') = w3 at HM3 ⊢
              have hx3 := HX.out HM3.out.on.old
              have HCu : Hid _ := fun (_ : Nat) => sp_write w3.drew g b f (HM3.out.later (below_drew1 _ _)).on.fil x _ xs (keeps_old (HM3.out.later (below_drew1 _ _)).on.old HM3.out.on.low.1 HM3.out.on.low.2 HT.out)
              have HWl : Hid (Wel fn) := by rw [← HFn.out]; exact wroF_wel HM3.out.on.wel x xs
              rw [HFn.out] at HCu
              have HEr : Hid _ := fun (wz : World) (h : Below w.heap.size w wz) => error_any (wrE x xs) (wrE x xs : Int) wz (HL.out.later h)
              have HEq : Hid (((wrE x xs : Int) == (wrE x xs : Int)) = true) := by show ((wrE x xs : Int) == (wrE x xs : Int)) = true; simp
              generalize wrE x xs = E at *
              rw [HEq.out] at HEr
              unfold ptrF at HCu
              clear hHeld
              go_wp2_with fail
              go_region_held3 (fun w' => w'.cell? ⟨b1, o1, none⟩ = some (.int .i64 x))
                (first | go_keep | exact HX.out HM5.out.on.old | exact HX.out HM4.out.on.old | exact HX.out HM3.out.on.old)
                (first
                  | (go_at_call 11; refine (HCu.out 0).mono ?_; rintro e w4 ⟨rfl, hf4, hs4⟩; have HM4 : Hid _ := (HM3.out.later (below_drew1 _ _)).prog hf4 HWl.out hs4; clear hf4 hs4)
                  | (go_at_call 8; refine (HEr.out _ HM4.out.on.old).mono ?_; rintro e w5 ⟨rfl, hb5⟩; have HM5 : Hid _ := HM4.out.later hb5; clear hb5))
              go_wp2_with fail
              go_meet
              case rel => exact ⟨_, _, _, HM5.out⟩
        case rest =>
        obtain ⟨vb', vk', f', hP⟩ := hcut
        rename World => w6
        have HM6 : Hid (PlM w w6 g b X vb' vk' f' f') := hP
        clear hP hc0
        obtain ⟨gb, ob, cb, gk, ok, ck, rfl, hcb, rfl, hck, hgb, hby, hbk⟩ := HM6.out.doc.cells
        have HBy : Hid (∀ w', Stay (Thr g b X) w6 w' → ∀ i, i < 64 → w'.cell? ⟨gb, ob + i, none⟩ = some (.int .i64 (f'.c i))) := hby
        have HBk : Hid (∀ w', Stay (Thr g b X) w6 w' → ∀ i, i < 16 → w'.cell? ⟨gk, ok + i, none⟩ = some (.int .i64 (if f'.h i = true then 1 else 0))) := hbk
        have HGb : Hid (gb < w6.heap.size ∧ 64 ≤ cb) := ⟨hgb, hcb⟩
        have HRd : Hid _ := fun (_ : Nat) => read_all w6 g b f' HM6.out.on.fil HM6.out.on.wel
        unfold ptrF at HRd
        clear hby hbk hgb hcb hck
        go_wp2_with fail
        refine Calls.mono (HRd.out 0) ?_
        rintro e w7 ⟨v7, rfl, h7, hb7⟩
        have HV7 : Hid (SliceIs w7 v7 (rdL f' 0 64)) := h7
        have HB7 : Hid (Below w6.heap.size w6 w7) := hb7
        clear h7 hb7 HRd
        obtain ⟨t3, ht3, y30, y31, y32⟩ := info_parts Tryd.info3
        go_wp2_with fail
        go_loopw [14, 15] (fun v i wr => ∃ j : Nat, j ≤ 16 ∧ i = .int .i64 (j : Int) ∧ wr.ownsRow w7.heap.size 3 1 v (blK f'.h j).length (cellsOf (blK f'.h j)) ∧ Below w7.heap.size w7 wr) (fun _ i _ => 16 - (Go.RowKit.intOf i).toNat)
        case atStart => exact ⟨0, by omega, rfl, World.ownsRow_nil _ _ _ _, Below.refl _ _⟩
        case round =>
          obtain ⟨j, hj, rfl, hown, hbel⟩ := hrel
          rename World => w8
          have HO : Hid (w8.ownsRow w7.heap.size 3 1 u14 (blK f'.h j).length (cellsOf (blK f'.h j))) := hown
          have HB : Hid (Below w7.heap.size w7 w8) := hbel
          have HM8 : Hid (PlM w w8 g b X _ _ f' f') := (HM6.out.later HB7.out).later hbel
          clear hown hbel
          obtain ⟨x0, x1, x2, f0, f1, f2⟩ := HM8.out.box.facts
          clear f0 f1 f2
          by_cases hlt : j < 16
          · have hlt' : (j : Int) < 16 := by omega
            have hbj := HBk.out w8 ((Stay.of HB7.out).trans (Stay.of HB.out)) j hlt
            have HLe : Hid ((blK f'.h j).length ≤ j) := blK_le f'.h j
            cases hh : f'.h j with
            | true =>
              rw [hh, if_pos rfl] at hbj
              have HS : Hid (cellsOf (blK f'.h j) ++ [.int .i64 (j : Int)] = cellsOf (blK f'.h (j + 1)) ∧ (blK f'.h j).length + 1 = (blK f'.h (j + 1)).length) := by
                have := blK_yes hh
                refine ⟨this, ?_⟩
                have h2 := congrArg List.length this
                simpa [cellsOf_len] using h2
              clear hh
              go_wp2_with (at_builtin; refine wpList_append_own _ rfl (.tmp 92) (.tmp 94) 25 rfl w7.heap.size 3 t3 (.int .i64 0) 1 8 Tryd.underlying25 ht3 y30 y31 y32 rfl (by decide) u14 (blK f'.h j).length (cellsOf (blK f'.h j)) rfl (HO.out.alloc _) ⟨w8.heap.size, 0, none⟩ 1 1 [.int .i64 (j : Int)] rfl rfl (news_one w8 _ 3) (ones_int _) ?q1 ?q2 ?q3 ?q4)
              case q1 => have := HLe.out; unfold maxLen; omega
              case q2 => have := HLe.out; omega
              case q3 => have := HB.out.size; simp; omega
              case q4 =>
                intro v1 w9 hown hgr _
                rw [HS.out.1, HS.out.2] at hown
                have HO1 : Hid (w9.ownsRow w7.heap.size 3 1 v1 (blK f'.h (j + 1)).length (cellsOf (blK f'.h (j + 1)))) := hown
                have HB2 : Hid (Below w7.heap.size w7 w9) := (HB.out.alloc HB.out.size _).grown hgr (by have := HB.out.size; simp; omega) (fun k e => (HO.out.lt k e).1)
                clear hown hgr x0 x1 x2 hbj
                go_wp2
                go_roundw
                case rel => exact ⟨j + 1, by omega, by go_num, HO1.out, HB2.out⟩
                case measure => simp [Go.RowKit.intOf]; omega
            | false =>
              rw [hh, if_neg (by decide)] at hbj
              have HS : Hid (blK f'.h j = blK f'.h (j + 1)) := blK_no hh
              clear hh
              go_wp2
              go_roundw
              case rel => exact ⟨j + 1, by omega, by go_num, by rw [← HS.out]; exact HO.out, HB.out⟩
              case measure => simp [Go.RowKit.intOf]; omega
          · obtain rfl : j = 16 := by omega
            have HV : Hid (SliceIs w8 u14 (blL f')) := by
              have := HO.out
              rw [blK_end] at this
              exact slice_own this (by rw [blL_len]; have := blN_le f'; unfold maxLen; omega)
            have HBs : Hid (Below w6.heap.size w6 w8) := HB7.out.trans (HB.out.mono HB7.out.size)
            have HLn : Hid ((rdL f' 0 64).length = f'.s) := rdL_all HM6.out.on.wel
            have HSi : Hid _ := fun (wz : World) (h : Below w8.heap.size w8 wz) => size_later HM8.out.on.fil h
            have HBl : Hid _ := fun (wz : World) (h : Below w8.heap.size w8 wz) => blocks_later HM8.out.on.fil HM8.out.on.wel h
            obtain ⟨s, hs⟩ : ∃ s, s = f'.s := ⟨_, rfl⟩
            have h64 : s ≤ 64 := by rw [hs]; exact HM8.out.on.wel.big
            have HI1 : Hid (∀ wz, Below w8.heap.size w8 wz → Calls Tryd.prog 14 #[v7, .slice (some ⟨gb, ob, none⟩) s cb] wz fun e w' => e = .returned (.bool true) ∧ Below w8.heap.size w8 w') := fun wz h =>
              ints_later h ((HV7.out.later HB.out).later h) (byC_part (f := f') (a := 0) (A := 0) (o := ob) (fun i hi => HBy.out wz ((Stay.of HBs.out).trans (Stay.of h)) i hi) (Nat.lt_of_lt_of_le HGb.out.1 (Nat.le_trans HBs.out.size h.size)) (by rw [hs]; exact HLn.out) rfl (by omega))
            have HI2 : Hid (∀ wz v, Below w8.heap.size w8 wz → SliceIs wz v (blL f') → Calls Tryd.prog 14 #[v, u14] wz fun e w' => e = .returned (.bool true) ∧ Below w8.heap.size w8 w') := fun wz v h hv => ints_later h hv (HV.out.later h)
            have HCe : Hid (∀ wz, Below w8.heap.size w8 wz → wz.cell? ⟨X, 0, none⟩ = some (.slice (some ⟨gb, ob, none⟩) 64 cb) ∧ wz.cell? ⟨X, 1, none⟩ = some (.int .i64 (s : Int))) := fun wz h => by
              have hbx := (HM8.out.later h).box.facts
              exact ⟨hbx.1, by rw [hbx.2.1, hs]⟩
            have hc1 := HGb.out.2
            have hc2 : (s : Int) ≤ (cb : Int) := by omega
            rw [← hs] at x1 HSi
            unfold ptrF at HSi HBl
            clear x2 hs hj hlt
            go_wp2_with fail
            go_region_held3 (fun w' => w'.cell? ⟨X, 0, none⟩ = some (.slice (some ⟨gb, ob, none⟩) 64 cb) ∧ w'.cell? ⟨X, 1, none⟩ = some (.int .i64 (s : Int)))
              (first | go_keep | exact HCe.out _ HB12.out | exact HCe.out _ HB11.out | exact HCe.out _ HB10.out | exact HCe.out _ HB9.out)
              (first
                | (go_at_call 13; refine (HSi.out _ (below_drew1 _ _)).mono ?_; rintro e w9 ⟨rfl, hb9⟩; have HB9 : Hid (Below w8.heap.size w8 w9) := hb9; clear hb9)
                | (go_at_call_of 14 v7; refine (HI1.out _ HB9.out).mono ?_; rintro e w10 ⟨rfl, hb10⟩; have HB10 : Hid (Below w8.heap.size w8 w10) := hb10; clear hb10)
                | (go_at_call 15; refine (HBl.out _ HB10.out).mono ?_; rintro e w11 ⟨v11, rfl, hv11, hb11⟩; have HV11 : Hid (SliceIs w11 v11 (blL f')) := hv11; have HB11 : Hid (Below w8.heap.size w8 w11) := hb11; clear hv11 hb11)
                | (go_at_call 14; refine (HI2.out _ _ HB11.out HV11.out).mono ?_; rintro e w12 ⟨rfl, hb12⟩; have HB12 : Hid (Below w8.heap.size w8 w12) := hb12; clear hb12))
            clear x0 x1
            go_wp2_with fail
            go_roundw
            case rel => exact ⟨k + 1, by omega, by go_num, _, _, _, HM8.out.later HB12.out⟩
            case measure => simp [Go.RowKit.intOf]; omega
      · have hs1 : ¬ (k : Int) < 40 := by omega
        cases hSa : isS pa with
        | false =>
          have HIn : Hid _ := fun (W : World) => in_no pa 0 64 W (by have := isS_not.1 hSa; omega)
          have HRd : Hid _ := fun (_ : Nat) => read_not wr g b f ST.out.on.fil ST.out.on.wel pa pn (.inl hSa)
          have HEr : Hid _ := fun (wz : World) (h : Below w.heap.size w wz) => error_one wz (HL.out.later h)
          generalize errV 1 = V1 at *
          unfold ptrF at HRd
          clear hSa
          go_wp2_with fail
          refine Calls.mono (HRd.out 0) ?_
          rintro e w7 ⟨a7, c7, rfl, hb7⟩
          have HB7 : Hid (Below w.heap.size w w7) := (ST.out.later hb7).on.old
          clear hb7
          go_wp2_with (first
            | (go_at_call 16; refine (HIn.out _).mono ?_; rintro e wi ⟨rfl, rfl⟩)
            | (go_at_call 8; refine (HEr.out _ HB7.out).mono ?_; rintro e w8 ⟨rfl, hb8⟩; have HB8 : Hid (Below w.heap.size w w8) := Below.next HB7.out hb8; clear hb8))
          go_ret
          exact ⟨rfl, HB8.out⟩
        | true =>
          have HIa : Hid _ := fun (W : World) => in_yes pa 0 64 W (isS_iff.1 hSa)
          cases hSn : isS pn with
          | false =>
            have HIn : Hid _ := fun (W : World) => in_no pn 0 64 W (by have := isS_not.1 hSn; omega)
            have HRd : Hid _ := fun (_ : Nat) => read_not wr g b f ST.out.on.fil ST.out.on.wel pa pn (.inr hSn)
            have HEr : Hid _ := fun (wz : World) (h : Below w.heap.size w wz) => error_one wz (HL.out.later h)
            generalize errV 1 = V1 at *
            unfold ptrF at HRd
            clear hSa hSn
            go_wp2_with fail
            refine Calls.mono (HRd.out 0) ?_
            rintro e w7 ⟨a7, c7, rfl, hb7⟩
            have HB7 : Hid (Below w.heap.size w w7) := (ST.out.later hb7).on.old
            clear hb7
            go_wp2_with (first
              | (go_at_call_of 16 pa; refine (HIa.out _).mono ?_; rintro e wi ⟨rfl, rfl⟩)
              | (go_at_call_of 16 pn; refine (HIn.out _).mono ?_; rintro e wi ⟨rfl, rfl⟩)
              | (go_at_call 8; refine (HEr.out _ HB7.out).mono ?_; rintro e w8 ⟨rfl, hb8⟩; have HB8 : Hid (Below w.heap.size w w8) := Below.next HB7.out hb8; clear hb8))
            go_ret
            exact ⟨rfl, HB8.out⟩
          | true =>
            obtain ⟨hA0, hA1⟩ := isS_iff.1 hSa
            obtain ⟨hN0, hN1⟩ := isS_iff.1 hSn
            obtain ⟨A, rfl⟩ : ∃ A : Nat, pa = (A : Int) := ⟨pa.toNat, by omega⟩
            obtain ⟨N, rfl⟩ : ∃ N : Nat, pn = (N : Int) := ⟨pn.toNat, by omega⟩
            have HIn : Hid _ := fun (W : World) => in_yes (N : Int) 0 64 W ⟨hN0, hN1⟩
            have hA : A ≤ 64 := by omega
            have hN : N ≤ 64 := by omega
            have HRd : Hid _ := fun (_ : Nat) => read_yes wr g b f ST.out.on.fil ST.out.on.wel A N hA hN
            have HLen : Hid ((rdL f A N).length = min (A + N) f.s - A) := rdL_len f A N
            obtain ⟨L, hL⟩ : ∃ L, L = (rdL f A N).length := ⟨_, rfl⟩
            have HLe : Hid (L = (rdL f A N).length) := hL
            rw [← hL] at HRd HLen
            unfold ptrF at HRd
            clear hSa hSn hA0 hA1 hN0 hN1 hL
            obtain ⟨gb, ob, cb, gk, ok, ck, rfl, hcb, rfl, _, hgb, hby, _⟩ := ST.out.doc.cells
            have HBy : Hid (∀ w', Stay (Thr g b X) wr w' → ∀ i, i < 64 → w'.cell? ⟨gb, ob + i, none⟩ = some (.int .i64 (f.c i))) := hby
            have HGb : Hid (gb < wr.heap.size ∧ 64 ≤ cb) := ⟨hgb, hcb⟩
            clear hby hgb hcb
            go_wp2_with fail
            refine Calls.mono (HRd.out 0) ?_
            rintro e w7 ⟨a7, c7, rfl, hv7, hb7⟩
            have HV7 : Hid (SliceIs w7 (.slice a7 L c7) (rdL f A N)) := hv7
            have HB7 : Hid (Below wr.heap.size wr w7) := hb7
            have HM7 : Hid (PlM w w7 g b X _ _ f f) := ST.out.later hb7
            clear hv7 hb7
            obtain ⟨x0, x1, _, _, _, _⟩ := HM7.out.box.facts
            obtain ⟨s, hs⟩ : ∃ s, s = f.s := ⟨_, rfl⟩
            have h64 : s ≤ 64 := by rw [hs]; exact HM7.out.on.wel.big
            rw [← hs] at x1 HLen
            have hLen := HLen.out
            have HI : Hid (∀ T wz, Below w7.heap.size w7 wz → L = T - A → T ≤ 64 → A ≤ T → Calls Tryd.prog 14 #[.slice a7 L c7, .slice (some ⟨gb, ob + A, none⟩) (T - A) (cb - A)] wz fun e w' => e = .returned (.bool true) ∧ Below w7.heap.size w7 w') := fun T wz h hT hT2 hT3 =>
              ints_later h (HV7.out.later h) (byC_part (f := f) (a := A) (A := A) (n := N) (o := ob) (fun i hi => HBy.out wz ((Stay.of HB7.out).trans (Stay.of h)) i hi) (Nat.lt_of_lt_of_le HGb.out.1 (Nat.le_trans HB7.out.size h.size)) (by rw [← hT]; exact HLe.out.symm) rfl (by omega))
            have hc1 := HGb.out.2
            clear hs
            by_cases c1 : s < A + N
            · have c1' : (s : Int) < (A : Int) + (N : Int) := by omega
              by_cases c2 : s ≤ A
              · have c2' : (s : Int) ≤ (A : Int) := by omega
                obtain rfl : L = 0 := by omega
                clear c1 c2 hLen
                go_wp2_with (first
                  | (go_at_call_of 16 A; refine (HIa.out _).mono ?_; rintro e wi ⟨rfl, rfl⟩)
                  | (go_at_call_of 16 N; refine (HIn.out _).mono ?_; rintro e wi ⟨rfl, rfl⟩))
                go_ret
                exact ⟨rfl, HM7.out.on.old⟩
              · have c2' : ¬ (s : Int) ≤ (A : Int) := by omega
                have HLs : Hid (L = s - A) := by show L = s - A; omega
                have hAs : (A : Int) ≤ (s : Int) := by omega
                have hsc : (s : Int) ≤ (cb : Int) := by omega
                have HLz : Hid (s ≤ 64 ∧ A ≤ s) := ⟨h64, by omega⟩
                clear c1 c2 hLen
                go_wp2_with (first
                  | (go_at_call_of 16 A; refine (HIa.out _).mono ?_; rintro e wi ⟨rfl, rfl⟩)
                  | (go_at_call_of 16 N; refine (HIn.out _).mono ?_; rintro e wi ⟨rfl, rfl⟩)
                  | (go_at_call 14; refine (HI.out s _ (Below.refl _ _) HLs.out HLz.out.1 HLz.out.2).mono ?_; rintro e w8 ⟨rfl, hb8⟩; have HB8 : Hid (Below w.heap.size w w8) := Below.next HM7.out.on.old hb8; clear hb8))
                go_ret
                exact ⟨rfl, HB8.out⟩
            · have c1' : ¬ (s : Int) < (A : Int) + (N : Int) := by omega
              obtain ⟨T, hT⟩ : ∃ T, T = A + N := ⟨_, rfl⟩
              have hT' : (A : Int) + (N : Int) = (T : Int) := by omega
              rw [hT'] at c1'
              have hT8 : T ≤ 128 := by omega
              by_cases c2 : T ≤ A
              · have c2' : (T : Int) ≤ (A : Int) := by omega
                obtain rfl : L = 0 := by omega
                clear c1 c2 hLen hT
                go_wp2_with (first
                  | (go_at_call_of 16 A; refine (HIa.out _).mono ?_; rintro e wi ⟨rfl, rfl⟩)
                  | (go_at_call_of 16 N; refine (HIn.out _).mono ?_; rintro e wi ⟨rfl, rfl⟩))
                go_ret
                exact ⟨rfl, HM7.out.on.old⟩
              · have c2' : ¬ (T : Int) ≤ (A : Int) := by omega
                have HLs : Hid (L = T - A) := by show L = T - A; omega
                have hAs : (A : Int) ≤ (T : Int) := by omega
                have hsc : (T : Int) ≤ (cb : Int) := by omega
                have HLz : Hid (T ≤ 64 ∧ A ≤ T) := ⟨by omega, by omega⟩
                clear c1 c2 hLen hT
                go_wp2_with (first
                  | (go_at_call_of 16 A; refine (HIa.out _).mono ?_; rintro e wi ⟨rfl, rfl⟩)
                  | (go_at_call_of 16 N; refine (HIn.out _).mono ?_; rintro e wi ⟨rfl, rfl⟩)
                  | (go_at_call 14; refine (HI.out T _ (Below.refl _ _) HLs.out HLz.out.1 HLz.out.2).mono ?_; rintro e w8 ⟨rfl, hb8⟩; have HB8 : Hid (Below w.heap.size w w8) := Below.next HM7.out.on.old hb8; clear hb8))
                go_ret
                exact ⟨rfl, HB8.out⟩
    · have hl1 : ¬ (k : Int) < (n : Int) := by omega
      cases hSa : isS pa with
      | false =>
        have HIn : Hid _ := fun (W : World) => in_no pa 0 64 W (by have := isS_not.1 hSa; omega)
        have HRd : Hid _ := fun (_ : Nat) => read_not wr g b f ST.out.on.fil ST.out.on.wel pa pn (.inl hSa)
        have HEr : Hid _ := fun (wz : World) (h : Below w.heap.size w wz) => error_one wz (HL.out.later h)
        generalize errV 1 = V1 at *
        unfold ptrF at HRd
        clear hSa
        go_wp2_with fail
        refine Calls.mono (HRd.out 0) ?_
        rintro e w7 ⟨a7, c7, rfl, hb7⟩
        have HB7 : Hid (Below w.heap.size w w7) := (ST.out.later hb7).on.old
        clear hb7
        go_wp2_with (first
          | (go_at_call 16; refine (HIn.out _).mono ?_; rintro e wi ⟨rfl, rfl⟩)
          | (go_at_call 8; refine (HEr.out _ HB7.out).mono ?_; rintro e w8 ⟨rfl, hb8⟩; have HB8 : Hid (Below w.heap.size w w8) := Below.next HB7.out hb8; clear hb8))
        go_ret
        exact ⟨rfl, HB8.out⟩
      | true =>
        have HIa : Hid _ := fun (W : World) => in_yes pa 0 64 W (isS_iff.1 hSa)
        cases hSn : isS pn with
        | false =>
          have HIn : Hid _ := fun (W : World) => in_no pn 0 64 W (by have := isS_not.1 hSn; omega)
          have HRd : Hid _ := fun (_ : Nat) => read_not wr g b f ST.out.on.fil ST.out.on.wel pa pn (.inr hSn)
          have HEr : Hid _ := fun (wz : World) (h : Below w.heap.size w wz) => error_one wz (HL.out.later h)
          generalize errV 1 = V1 at *
          unfold ptrF at HRd
          clear hSa hSn
          go_wp2_with fail
          refine Calls.mono (HRd.out 0) ?_
          rintro e w7 ⟨a7, c7, rfl, hb7⟩
          have HB7 : Hid (Below w.heap.size w w7) := (ST.out.later hb7).on.old
          clear hb7
          go_wp2_with (first
            | (go_at_call_of 16 pa; refine (HIa.out _).mono ?_; rintro e wi ⟨rfl, rfl⟩)
            | (go_at_call_of 16 pn; refine (HIn.out _).mono ?_; rintro e wi ⟨rfl, rfl⟩)
            | (go_at_call 8; refine (HEr.out _ HB7.out).mono ?_; rintro e w8 ⟨rfl, hb8⟩; have HB8 : Hid (Below w.heap.size w w8) := Below.next HB7.out hb8; clear hb8))
          go_ret
          exact ⟨rfl, HB8.out⟩
        | true =>
          obtain ⟨hA0, hA1⟩ := isS_iff.1 hSa
          obtain ⟨hN0, hN1⟩ := isS_iff.1 hSn
          obtain ⟨A, rfl⟩ : ∃ A : Nat, pa = (A : Int) := ⟨pa.toNat, by omega⟩
          obtain ⟨N, rfl⟩ : ∃ N : Nat, pn = (N : Int) := ⟨pn.toNat, by omega⟩
          have HIn : Hid _ := fun (W : World) => in_yes (N : Int) 0 64 W ⟨hN0, hN1⟩
          have hA : A ≤ 64 := by omega
          have hN : N ≤ 64 := by omega
          have HRd : Hid _ := fun (_ : Nat) => read_yes wr g b f ST.out.on.fil ST.out.on.wel A N hA hN
          have HLen : Hid ((rdL f A N).length = min (A + N) f.s - A) := rdL_len f A N
          obtain ⟨L, hL⟩ : ∃ L, L = (rdL f A N).length := ⟨_, rfl⟩
          have HLe : Hid (L = (rdL f A N).length) := hL
          rw [← hL] at HRd HLen
          unfold ptrF at HRd
          clear hSa hSn hA0 hA1 hN0 hN1 hL
          obtain ⟨gb, ob, cb, gk, ok, ck, rfl, hcb, rfl, _, hgb, hby, _⟩ := ST.out.doc.cells
          have HBy : Hid (∀ w', Stay (Thr g b X) wr w' → ∀ i, i < 64 → w'.cell? ⟨gb, ob + i, none⟩ = some (.int .i64 (f.c i))) := hby
          have HGb : Hid (gb < wr.heap.size ∧ 64 ≤ cb) := ⟨hgb, hcb⟩
          clear hby hgb hcb
          go_wp2_with fail
          refine Calls.mono (HRd.out 0) ?_
          rintro e w7 ⟨a7, c7, rfl, hv7, hb7⟩
          have HV7 : Hid (SliceIs w7 (.slice a7 L c7) (rdL f A N)) := hv7
          have HB7 : Hid (Below wr.heap.size wr w7) := hb7
          have HM7 : Hid (PlM w w7 g b X _ _ f f) := ST.out.later hb7
          clear hv7 hb7
          obtain ⟨x0, x1, _, _, _, _⟩ := HM7.out.box.facts
          obtain ⟨s, hs⟩ : ∃ s, s = f.s := ⟨_, rfl⟩
          have h64 : s ≤ 64 := by rw [hs]; exact HM7.out.on.wel.big
          rw [← hs] at x1 HLen
          have hLen := HLen.out
          have HI : Hid (∀ T wz, Below w7.heap.size w7 wz → L = T - A → T ≤ 64 → A ≤ T → Calls Tryd.prog 14 #[.slice a7 L c7, .slice (some ⟨gb, ob + A, none⟩) (T - A) (cb - A)] wz fun e w' => e = .returned (.bool true) ∧ Below w7.heap.size w7 w') := fun T wz h hT hT2 hT3 =>
            ints_later h (HV7.out.later h) (byC_part (f := f) (a := A) (A := A) (n := N) (o := ob) (fun i hi => HBy.out wz ((Stay.of HB7.out).trans (Stay.of h)) i hi) (Nat.lt_of_lt_of_le HGb.out.1 (Nat.le_trans HB7.out.size h.size)) (by rw [← hT]; exact HLe.out.symm) rfl (by omega))
          have hc1 := HGb.out.2
          clear hs
          by_cases c1 : s < A + N
          · have c1' : (s : Int) < (A : Int) + (N : Int) := by omega
            by_cases c2 : s ≤ A
            · have c2' : (s : Int) ≤ (A : Int) := by omega
              obtain rfl : L = 0 := by omega
              clear c1 c2 hLen
              go_wp2_with (first
                | (go_at_call_of 16 A; refine (HIa.out _).mono ?_; rintro e wi ⟨rfl, rfl⟩)
                | (go_at_call_of 16 N; refine (HIn.out _).mono ?_; rintro e wi ⟨rfl, rfl⟩))
              go_ret
              exact ⟨rfl, HM7.out.on.old⟩
            · have c2' : ¬ (s : Int) ≤ (A : Int) := by omega
              have HLs : Hid (L = s - A) := by show L = s - A; omega
              have hAs : (A : Int) ≤ (s : Int) := by omega
              have hsc : (s : Int) ≤ (cb : Int) := by omega
              have HLz : Hid (s ≤ 64 ∧ A ≤ s) := ⟨h64, by omega⟩
              clear c1 c2 hLen
              go_wp2_with (first
                | (go_at_call_of 16 A; refine (HIa.out _).mono ?_; rintro e wi ⟨rfl, rfl⟩)
                | (go_at_call_of 16 N; refine (HIn.out _).mono ?_; rintro e wi ⟨rfl, rfl⟩)
                | (go_at_call 14; refine (HI.out s _ (Below.refl _ _) HLs.out HLz.out.1 HLz.out.2).mono ?_; rintro e w8 ⟨rfl, hb8⟩; have HB8 : Hid (Below w.heap.size w w8) := Below.next HM7.out.on.old hb8; clear hb8))
              go_ret
              exact ⟨rfl, HB8.out⟩
          · have c1' : ¬ (s : Int) < (A : Int) + (N : Int) := by omega
            obtain ⟨T, hT⟩ : ∃ T, T = A + N := ⟨_, rfl⟩
            have hT' : (A : Int) + (N : Int) = (T : Int) := by omega
            rw [hT'] at c1'
            have hT8 : T ≤ 128 := by omega
            by_cases c2 : T ≤ A
            · have c2' : (T : Int) ≤ (A : Int) := by omega
              obtain rfl : L = 0 := by omega
              clear c1 c2 hLen hT
              go_wp2_with (first
                | (go_at_call_of 16 A; refine (HIa.out _).mono ?_; rintro e wi ⟨rfl, rfl⟩)
                | (go_at_call_of 16 N; refine (HIn.out _).mono ?_; rintro e wi ⟨rfl, rfl⟩))
              go_ret
              exact ⟨rfl, HM7.out.on.old⟩
            · have c2' : ¬ (T : Int) ≤ (A : Int) := by omega
              have HLs : Hid (L = T - A) := by show L = T - A; omega
              have hAs : (A : Int) ≤ (T : Int) := by omega
              have hsc : (T : Int) ≤ (cb : Int) := by omega
              have HLz : Hid (T ≤ 64 ∧ A ≤ T) := ⟨by omega, by omega⟩
              clear c1 c2 hLen hT
              go_wp2_with (first
                | (go_at_call_of 16 A; refine (HIa.out _).mono ?_; rintro e wi ⟨rfl, rfl⟩)
                | (go_at_call_of 16 N; refine (HIn.out _).mono ?_; rintro e wi ⟨rfl, rfl⟩)
                | (go_at_call 14; refine (HI.out T _ (Below.refl _ _) HLs.out HLz.out.1 HLz.out.2).mono ?_; rintro e w8 ⟨rfl, hb8⟩; have HB8 : Hid (Below w.heap.size w w8) := Below.next HM7.out.on.old hb8; clear hb8))
              go_ret
              exact ⟨rfl, HB8.out⟩

end Go.Proofs.YtepnbkonhaongaaDoor
