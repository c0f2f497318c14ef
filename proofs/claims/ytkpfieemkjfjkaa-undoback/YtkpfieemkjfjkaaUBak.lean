/- This text proves that platterholdlaw2.UndoBack returns true: what is undone was never done, whoever else wrote meanwhile; old memory is as it was; the condition is that the steps' rows lie there. -/
import Derived.Test.YtkpfieemkjfjkaaW12
import Derived.Deep.RegionWith
namespace Go.Proofs.Ytkpfieemkjfjkaa
open Go.RowKit Go.Deep

/-- What is as if a turn had not written, step by step. -/
theorem un_en (d : Ud) {a t : Int} (h : a ≠ t) : enD (unD d t) a = unD (enD d a) t := by
  have e1 : cut a (cut t d.L) = cut t (cut a d.L) := by
    unfold cut
    rw [List.filter_filter, List.filter_filter]
    exact List.filter_congr fun x _ => Bool.and_comm _ _
  have e2 : udo (ofT t) (cut a d.L) d.H = udo (ofT t) d.L d.H := udo_filter d.H fun x _ hx => by
    rw [ofT_no.2 (by rw [ofT_iff.1 hx]; exact fun e => h e.symm)]
    rfl
  show (⟨udo (ofT t) d.L d.H, cut a (cut t d.L)⟩ : Ud) = ⟨udo (ofT t) (cut a d.L) d.H, cut t (cut a d.L)⟩
  rw [e1, e2]
theorem un_own {d : Ud} {t b v : Int} (h : wrE d.L t b v = 0) : unD (wrD d t b v) t = unD d t := by
  obtain ⟨T, B, V, rfl, rfl, rfl, hT, hB, hV, ho, hl⟩ := wr_nat h
  rw [wrD_yes h, Int.toNat_natCast, Int.toNat_natCast, Int.toNat_natCast]
  have hx : ofT (T : Int) ⟨T, B, d.H B⟩ = true := ofT_iff.2 rfl
  show (⟨udo (ofT (T : Int)) (d.L ++ [⟨T, B, d.H B⟩]) (putV d.H B V), cut (T : Int) (d.L ++ [⟨T, B, d.H B⟩])⟩ : Ud) = _
  rw [udo_wr _ _ _ _ _ _ hx]
  unfold cut unD
  rw [List.filter_append, List.filter_cons_of_neg (by rw [hx]; decide), List.filter_nil, List.append_nil]
  rfl
theorem un_other {d : Ud} (hg : GoodU d) {a t b v : Int} (h : wrE d.L a b v = 0) (ha : a ≠ t) : wrE (unD d t).L a b v = 0 ∧ wrD (unD d t) a b v = unD (wrD d a b v) t := by
  have hok := (wrE_zero h).1
  obtain ⟨T, B, V, rfl, rfl, rfl, hT, hB, hV, ho, hl⟩ := wr_nat h
  have hnt : ∀ y ∈ d.L, ofT t y = true → y.b ≠ B := fun y hy hyt e => by
    have h1 := hg.sole.own hy
    rw [e] at h1
    have h2 := ofT_iff.1 hyt
    rcases ho with k | k
    · rw [k] at h1; omega
    · rw [k] at h1; exact ha (by omega)
  have h0 : wrE (unD d t).L (T : Int) (B : Int) (V : Int) = 0 := by
    refine wrE_nul hok ?_ ?_
    · rw [Int.toNat_natCast]
      show own (cut t d.L) B = -1 ∨ own (cut t d.L) B = (T : Int)
      rw [own_cut hg.sole]
      by_cases e : own d.L B = t
      · rw [if_pos e]; exact .inl rfl
      · rw [if_neg e]; exact ho
    · have h1 := hg.len
      have h2 : (cut t d.L).length ≤ d.L.length := List.length_filter_le _ _
      show (cut t d.L).length ≠ 60
      omega
  refine ⟨h0, ?_⟩
  rw [wrD_yes h, wrD_yes h0, Int.toNat_natCast, Int.toNat_natCast, Int.toNat_natCast]
  have hx : ofT t ⟨T, B, d.H B⟩ = false := ofT_no.2 ha
  have e3 : udo (ofT t) d.L d.H B = d.H B := by
    rw [udo_at]
    exact wat_none hnt
  show (⟨putV (udo (ofT t) d.L d.H) B V, cut t d.L ++ [⟨T, B, udo (ofT t) d.L d.H B⟩]⟩ : Ud) = ⟨udo (ofT t) (d.L ++ [⟨T, B, d.H B⟩]) (putV d.H B V), cut t (d.L ++ [⟨T, B, d.H B⟩])⟩
  rw [udo_other (ofT t) d.L d.H ⟨T, B, d.H B⟩ B V hx hnt, e3]
  unfold cut
  rw [List.filter_append, List.filter_cons_of_pos (by rw [hx]; rfl), List.filter_nil]

/-- Two disks in memory, apart. -/
structure TwoU (w wr : World) (g : Nat) (v : Value) (d : Ud) (z : Nat) (u : Value) (e : Ud) : Prop where
  one : OnU w wr g v d
  two : OnU w wr z u e
  ap : ∀ y, Up g v y → ¬ Up z u y
theorem TwoU.later {w wr w' : World} {g z : Nat} {v u : Value} {d e : Ud} (h : TwoU w wr g v d z u e) (hb : Below wr.heap.size wr w') : TwoU w w' g v d z u e := ⟨h.one.later hb, h.two.later hb, h.ap⟩
theorem TwoU.left {w wr w' : World} {g z : Nat} {v v' u : Value} {d d' e : Ud} (h : TwoU w wr g v d z u e) (hs : Turn wr w' w.heap.size g v v' d') : TwoU w w' g v' d' z u e :=
  ⟨h.one.step hs, ⟨h.two.disk.stay hs.stay fun y hy k => h.ap y k hy, (h.one.step hs).old⟩, fun y hy k => by
    rcases hs.fp y hy with m | m
    · exact h.ap y m k
    · have := (h.two.disk.fp k).2; omega⟩
theorem TwoU.right {w wr w' : World} {g z : Nat} {v u u' : Value} {d e e' : Ud} (h : TwoU w wr g v d z u e) (hs : Turn wr w' w.heap.size z u u' e') : TwoU w w' g v d z u' e' :=
  ⟨⟨h.one.disk.stay hs.stay fun y hy k => h.ap y hy k, (h.two.step hs).old⟩, h.two.step hs, fun y hy k => by
    rcases hs.fp y k with m | m
    · exact h.ap y hy m
    · have := (h.one.disk.fp hy).2; omega⟩

set_option maxHeartbeats 1000000 in
set_option maxRecDepth 100000 in
theorem undoBack_any (w : World) (v : Value) (rs : List (List Int)) (hr : RowsIs w v rs) (t : Int) :
    Calls Try.prog 3 #[v, .int .i64 t] w fun e w' => e = .returned (.bool true) ∧ Below w.heap.size w w' := by
  have HR : Hid (RowsIs w v rs) := hr
  obtain ⟨a, c, hv, hl, _⟩ := hr
  obtain ⟨n, hn⟩ : ∃ n, n = rs.length := ⟨_, rfl⟩
  rw [← hn] at hv hl
  have HN : Hid (n = rs.length) := hn
  unfold maxLen at hl
  subst hv
  clear hn
  go_enter Try.func3, Try.ntmps3
  go_wp2_with fail
  refine (fact_any w).mono ?_
  rintro e w0 ⟨rfl, hb⟩
  have HB0 : Hid (Below w.heap.size w w0) := hb
  have HR0 : Hid (RowsIs w0 (.slice a n c) rs) := HR.out.later hb
  clear hb HR
  go_wp2_with fail
  refine (new_any _).mono ?_
  rintro e w1 ⟨rfl, hT, hb⟩
  have HS1 : Hid (OnU w0 w1 w0.heap.size (.slice none 0 0) ud0) := ⟨hT, hb⟩
  clear hT hb
  unfold ptrU
  go_wp2_with fail
  refine (new_any _).mono ?_
  rintro e w2 ⟨rfl, hT, hb⟩
  have HS2 : Hid (∃ g z v d u, TwoU w0 w2 g v d z u (unD d t) ∧ g = w0.heap.size ∧ z = w1.heap.size) := by
    have hz : UndoM w2 w0.heap.size w1.heap.size (.slice none 0 0) (unD ud0 t) := ⟨hT.cells, World.ownsRow_nil _ _ _ _, (fun e => by cases e), good0, HS1.out.old.size⟩
    refine ⟨_, _, _, _, _, ⟨HS1.out.later hb, ⟨hz, HS1.out.old.trans (hb.mono HS1.out.old.size)⟩, fun y hy k => ?_⟩, rfl, rfl⟩
    rcases k with rfl | k
    · have := (HS1.out.disk.fp hy).2; omega
    · cases k
  have HGZ : Hid (w0.heap.size < w1.heap.size) := HS1.out.disk.lt
  clear hT hb HS1
  unfold ptrU
  obtain ⟨g, hG⟩ : ∃ g, g = w0.heap.size := ⟨_, rfl⟩
  obtain ⟨z, hZ⟩ : ∃ z, z = w1.heap.size := ⟨_, rfl⟩
  rw [← hG, ← hZ] at HS2 ⊢
  clear hG hZ HGZ
  go_wp2
  go_loopw [8] (fun i wr => ∃ k v d u, k ≤ n ∧ k ≤ 40 ∧ i = .int .i64 ((k : Nat) : Int) ∧ TwoU w0 wr g v d z u (unD d t)) (fun i _ => 40 - (Go.RowKit.intOf i).toNat)
  case atStart =>
    obtain ⟨g', z', v, d, u, h, rfl, rfl⟩ := HS2.out
    exact ⟨0, v, d, u, Nat.zero_le _, by omega, rfl, h⟩
  case round =>
    obtain ⟨k, v, d, u, hkn, hk, rfl, hst⟩ := hrel
    have ST : Hid (TwoU w0 wr g v d z u (unD d t)) := hst
    clear hst HS2
    by_cases hlt : k < n
    · have hl1 : (k : Int) < (n : Int) := by omega
      by_cases hs : k < 40
      · have hs1 : (k : Int) < 40 := by omega
        obtain ⟨b, o, vk, ha, hbs, hck, hsk⟩ := HR0.out.row k hlt
        subst ha
        have hc0 : wr.cell? ⟨b, o + k, none⟩ = some vk := by rw [ST.out.one.old.cell (p := ⟨b, o + k, none⟩) hbs]; exact hck
        clear hck
        obtain ⟨q, hq⟩ : ∃ q, (rowAt rs k).length = q := ⟨_, rfl⟩
        by_cases h1 : q = 1
        · subst h1
          obtain ⟨b1, o1, c1, rfl, hb1, hx⟩ := row_cells hsk hq (by omega)
          have HXs : Hid (∀ w2, Below w0.heap.size w0 w2 → w2.cell? ⟨b1, o1, none⟩ = some (.int .i64 (nth (rowAt rs k) 0))) := fun w2 h => by rw [h.cell (p := ⟨b1, o1, none⟩) hb1]; exact hx 0 (by omega)
          generalize nth (rowAt rs k) 0 = X0 at HXs
          have x0 := HXs.out wr ST.out.one.old
          clear hx hsk hq
          by_cases hXt : X0 = t
          · subst hXt
            go_wp2
            go_roundw
            case rel => exact ⟨k + 1, v, d, u, by omega, by omega, by go_num, ST.out⟩
            case measure => simp [Go.RowKit.intOf]; omega
          · have hXb : (X0 != t) = true := by simp [hXt]
            have HUE : Hid (enD (unD d t) X0 = unD (enD d X0) t) := un_en d hXt
            have HEd : Hid _ := fun (_ : Nat) => end_any wr w0.heap.size g v _ ST.out.one.disk X0
            have HEx : Hid _ := fun w2 v' (h : TwoU w0 w2 g v' (enD d X0) z u (unD d t)) => end_any w2 w0.heap.size z u _ h.two.disk X0
            unfold ptrU at HEd HEx
            clear hXt
            go_wp2_with fail
            refine (HEd.out 0).mono ?_
            rintro e w3 ⟨rfl, v3, hst3⟩
            have S3 : Hid (TwoU w0 w3 g v3 (enD d X0) z u (unD d t)) := ST.out.left hst3
            have x3 := HXs.out w3 S3.out.one.old
            clear hst3 HEd
            go_wp2_with fail
            refine (HEx.out w3 v3 S3.out).mono ?_
            rintro e w4 ⟨rfl, u4, hst4⟩
            have S4 : Hid (TwoU w0 w4 g v3 (enD d X0) z u4 (unD (enD d X0) t)) := by
              rw [← HUE.out]
              exact S3.out.right hst4
            clear hst4 HEx
            go_wp2
            go_roundw
            case rel => exact ⟨k + 1, v3, _, u4, by omega, by omega, by go_num, S4.out⟩
            case measure => simp [Go.RowKit.intOf]; omega
        · by_cases h3 : q = 3
          · subst h3
            obtain ⟨b1, o1, c1, rfl, hb1, hx⟩ := row_cells hsk hq (by omega)
            have HXs : Hid (∀ w2, Below w0.heap.size w0 w2 → w2.cell? ⟨b1, o1, none⟩ = some (.int .i64 (nth (rowAt rs k) 0)) ∧ w2.cell? ⟨b1, o1 + 1, none⟩ = some (.int .i64 (nth (rowAt rs k) 1)) ∧ w2.cell? ⟨b1, o1 + 2, none⟩ = some (.int .i64 (nth (rowAt rs k) 2))) := fun w2 h =>
              ⟨by rw [h.cell (p := ⟨b1, o1, none⟩) hb1]; exact hx 0 (by omega), by rw [h.cell (p := ⟨b1, o1 + 1, none⟩) hb1]; exact hx 1 (by omega), by rw [h.cell (p := ⟨b1, o1 + 2, none⟩) hb1]; exact hx 2 (by omega)⟩
            generalize nth (rowAt rs k) 0 = X0 at HXs
            generalize nth (rowAt rs k) 1 = X1 at HXs
            generalize nth (rowAt rs k) 2 = X2 at HXs
            obtain ⟨x0, x1, x2⟩ := HXs.out wr ST.out.one.old
            clear hx hsk hq
            go_wp2_with fail
            refine wp_region_last (S := fun w' => w'.cell? ⟨b1, o1, none⟩ = some (.int .i64 X0) ∧ w'.cell? ⟨b1, o1 + 1, none⟩ = some (.int .i64 X1) ∧ w'.cell? ⟨b1, o1 + 2, none⟩ = some (.int .i64 X2)) 11 (by kernel_rfl) (by kernel_rfl) ?hs (fun hHeld => ?_)
            case hs => exact ⟨x0, x1, x2⟩
            refine held_take (i := 0) (v := ?_) rfl rfl (by kernel_rfl) (by kernel_rfl) (by kernel_rfl) (fun _ _ _ h => h) (Or.inl ⟨by rfl, ?_⟩) hHeld ?_
            rotate_left
            · (intro w hSw; (try dsimp only at hSw); go_simp; try with_reducible rfl)
            simp only [Act.put, List.setIfInBounds_toArray, List.set_cons_zero, List.set_cons_succ]
            refine held_take (i := 1) (v := ?_) rfl rfl (by kernel_rfl) (by kernel_rfl) (by kernel_rfl) (fun _ _ _ h => h) (Or.inl ⟨by rfl, ?_⟩) hHeld ?_
            rotate_left
            · (intro w hSw; (try dsimp only at hSw); go_simp; try with_reducible rfl)
            simp only [Act.put, List.setIfInBounds_toArray, List.set_cons_zero, List.set_cons_succ]
            refine held_take (i := 2) (v := ?_) rfl rfl (by kernel_rfl) (by kernel_rfl) (by kernel_rfl) (fun _ _ _ h => h) (Or.inl ⟨by rfl, ?_⟩) hHeld ?_
            rotate_left
            · (intro w hSw; (try dsimp only at hSw); go_simp; try with_reducible rfl)
            simp only [Act.put, List.setIfInBounds_toArray, List.set_cons_zero, List.set_cons_succ]
            refine held_take (i := 3) (v := ?_) rfl rfl (by kernel_rfl) (by kernel_rfl) (by kernel_rfl) (fun _ _ _ h => h) (Or.inl ⟨by rfl, ?_⟩) hHeld ?_
            rotate_left
            · (intro w hSw; (try dsimp only at hSw); go_simp; try with_reducible rfl)
            simp only [Act.put, List.setIfInBounds_toArray, List.set_cons_zero, List.set_cons_succ]
            refine held_take (i := 4) (v := ?_) rfl rfl (by kernel_rfl) (by kernel_rfl) (by kernel_rfl) (fun _ _ _ h => h) (Or.inl ⟨by rfl, ?_⟩) hHeld ?_
            rotate_left
            · (intro w hSw; (try dsimp only at hSw); go_simp; try with_reducible rfl)
            simp only [Act.put, List.setIfInBounds_toArray, List.set_cons_zero, List.set_cons_succ]
            refine held_take (i := 5) (v := ?_) rfl rfl (by kernel_rfl) (by kernel_rfl) (by kernel_rfl) (fun _ _ _ h => h) (Or.inl ⟨by rfl, ?_⟩) hHeld ?_
            rotate_left
            · (intro w hSw; (try dsimp only at hSw); go_simp; try with_reducible rfl)
            simp only [Act.put, List.setIfInBounds_toArray, List.set_cons_zero, List.set_cons_succ]
            refine held_take (i := 6) (v := ?_) rfl rfl (by kernel_rfl) (by kernel_rfl) (by kernel_rfl) (fun _ _ _ h => h) (Or.inl ⟨by rfl, ?_⟩) hHeld ?_
            rotate_left
            · (intro w hSw; (try dsimp only at hSw); go_simp; try with_reducible rfl)
            simp only [Act.put, List.setIfInBounds_toArray, List.set_cons_zero, List.set_cons_succ]
            refine held_take (i := 7) (v := ?_) rfl rfl (by kernel_rfl) (by kernel_rfl) (by kernel_rfl) (fun _ _ _ h => h) (Or.inl ⟨by rfl, ?_⟩) hHeld ?_
            rotate_left
            · (intro w hSw; (try dsimp only at hSw); go_simp; try with_reducible rfl)
            simp only [Act.put, List.setIfInBounds_toArray, List.set_cons_zero, List.set_cons_succ]
            refine held_take (i := 8) (v := ?_) rfl rfl (by kernel_rfl) (by kernel_rfl) (by kernel_rfl) (fun _ _ _ h => h) (Or.inl ⟨by rfl, ?_⟩) hHeld ?_
            rotate_left
            · (intro w hSw; (try dsimp only at hSw); go_simp; try with_reducible rfl)
            simp only [Act.put, List.setIfInBounds_toArray, List.set_cons_zero, List.set_cons_succ]
            refine held_take (i := 9) (v := ?_) rfl rfl (by kernel_rfl) (by kernel_rfl) (by kernel_rfl) (fun _ _ _ h => h) (Or.inl ⟨by rfl, ?_⟩) hHeld ?_
            rotate_left
            · (intro w hSw; (try dsimp only at hSw); go_simp; try with_reducible rfl)
            simp only [Act.put, List.setIfInBounds_toArray, List.set_cons_zero, List.set_cons_succ]
            refine wpAnyH_ready (rs := [10]) (by kernel_rfl) (by simp) ?_
            refine AllReadyH.cons rfl (fun K hK => ?_) AllReadyH.nil
            go_simp
            refine hK.out _ _ (HXs.out _ (ST.out.one.old.trans ((below_drew1 _ _).trans ((below_one wr.drew _).mono ST.out.one.old.size)))) (fun hHeld => ?_)
            clear hK K
            refine wpAnyH_done (by kernel_rfl) ?_ _
            refine last_step rfl (fun K hK => ?_)
            go_simp
            refine hK _ _ ?_
            clear hK K
            have hw1 : Below wr.heap.size wr (wr.alloc (.cells #[.int .i64 X0, .int .i64 X1, .int .i64 X2] 31)).drew := (below_one wr _).trans (below_drew1 _ _)
            have S1 : Hid (TwoU w0 (wr.alloc (.cells #[.int .i64 X0, .int .i64 X1, .int .i64 X2] 31)).drew g v d z u (unD d t)) := ST.out.later hw1
            have HPc : Hid (∀ w3 : World, w3.heap[wr.heap.size]? = (wr.alloc (.cells #[.int .i64 X0, .int .i64 X1, .int .i64 X2] 31)).drew.heap[wr.heap.size]? → w3.cell? ⟨wr.heap.size, 0, none⟩ = some (.int .i64 X0) ∧ w3.cell? ⟨wr.heap.size, 1, none⟩ = some (.int .i64 X1) ∧ w3.cell? ⟨wr.heap.size, 2, none⟩ = some (.int .i64 X2)) := fun w3 e => by
              have hc : w3.heap[wr.heap.size]? = some (.cells #[.int .i64 X0, .int .i64 X1, .int .i64 X2] 31 (0, 0)) := e.trans (blk_alloc_new wr _)
              exact ⟨(cell_in hc 0).1, (cell_in hc 1).1, (cell_in hc 2).1⟩
            have hPu : ¬ Up g v wr.heap.size := fun e => by have := (ST.out.one.disk.fp e).2; omega
            have hPl : wr.heap.size < (wr.alloc (.cells #[.int .i64 X0, .int .i64 X1, .int .i64 X2] 31)).drew.heap.size := by show wr.heap.size < (wr.alloc _).heap.size; simp
            clear hHeld x0 x1 x2 hc0 hw1
            obtain ⟨p0, p1, p2⟩ := HPc.out _ rfl
            generalize (wr.alloc (.cells #[.int .i64 X0, .int .i64 X1, .int .i64 X2] 31)).drew = W1 at S1 HPc hPl p0 p1 p2 ⊢
            generalize wr.heap.size = P at HPc hPu hPl p0 p1 p2 ⊢
            have HWd : Hid _ := fun (_ : Nat) => write_any W1 w0.heap.size g v d S1.out.one.disk X0 X1 X2
            unfold ptrU at HWd
            by_cases e0 : wrE d.L X0 X1 X2 = 0
            · rw [e0, errV_zero] at HWd
              by_cases hXt : X0 = t
              · have HUO : Hid (unD (wrD d X0 X1 X2) t = unD d t) := by rw [← hXt]; exact un_own e0
                subst hXt
                go_wp2_with fail
                refine (HWd.out 0).mono ?_
                rintro e w3 ⟨rfl, v3, hst⟩
                have S3 : Hid (TwoU w0 w3 g v3 (wrD d X0 X1 X2) z u (unD (wrD d X0 X1 X2) X0)) := by
                  rw [HUO.out]
                  exact S1.out.left hst
                obtain ⟨x0, x1, x2⟩ := HXs.out w3 S3.out.one.old
                clear hst HWd p0 p1 p2
                go_wp2
                go_roundw
                case rel => exact ⟨k + 1, v3, _, u, by omega, by omega, by go_num, S3.out⟩
                case measure => simp [Go.RowKit.intOf]; omega
              · have HUX : Hid _ := un_other S1.out.one.disk.good e0 hXt
                have HWx : Hid _ := fun w2 v' (h : TwoU w0 w2 g v' (wrD d X0 X1 X2) z u (unD d t)) => write_any w2 w0.heap.size z u (unD d t) h.two.disk X0 X1 X2
                rw [HUX.out.1, HUX.out.2, errV_zero] at HWx
                unfold ptrU at HWx
                have hXb : (X0 != t) = true := by simp [hXt]
                clear hXt e0
                go_wp2_with fail
                refine (HWd.out 0).mono ?_
                rintro e w3 ⟨rfl, v3, hst⟩
                have S3 : Hid (TwoU w0 w3 g v3 (wrD d X0 X1 X2) z u (unD d t)) := S1.out.left hst
                obtain ⟨x0, x1, x2⟩ := HXs.out w3 S3.out.one.old
                obtain ⟨y0, y1, y2⟩ := HPc.out w3 (hst.stay.block P hPl hPu)
                clear hst HWd p0 p1 p2
                go_wp2_with fail
                refine (HWx.out w3 v3 S3.out).mono ?_
                rintro e w4 ⟨rfl, u4, hst⟩
                have S4 : Hid (TwoU w0 w4 g v3 (wrD d X0 X1 X2) z u4 (unD (wrD d X0 X1 X2) t)) := S3.out.right hst
                clear hst HWx y0 y1 y2 x0 x1 x2
                go_wp2
                go_roundw
                case rel => exact ⟨k + 1, v3, _, u4, by omega, by omega, by go_num, S4.out⟩
                case measure => simp [Go.RowKit.intOf]; omega
            · rw [wrD_no e0, errV_pos e0] at HWd
              generalize ((wrE d.L X0 X1 X2 : Nat) : Int) = en at HWd
              go_wp2_with fail
              refine (HWd.out 0).mono ?_
              rintro e w3 ⟨rfl, v3, hst⟩
              have S3 : Hid (TwoU w0 w3 g v3 d z u (unD d t)) := S1.out.left hst
              clear hst HWd p0 p1 p2
              go_wp2
              go_roundw
              case rel => exact ⟨k + 1, v3, _, u, by omega, by omega, by go_num, S3.out⟩
              case measure => simp [Go.RowKit.intOf]; omega
          · obtain ⟨a1, c1, hv1, _, _⟩ := hsk
            rw [hq] at hv1
            subst hv1
            have b1 : ((q : Int) == 1) = false := by simp; omega
            have b3 : ((q : Int) == 3) = false := by simp; omega
            clear hq
            go_wp2
            go_roundw
            case rel => exact ⟨k + 1, v, d, u, by omega, by omega, by go_num, ST.out⟩
            case measure => simp [Go.RowKit.intOf]; omega
      · have hs1 : ¬ (k : Int) < 40 := by omega
        have HUn : Hid _ := fun (_ : Nat) => undo_any wr w0.heap.size g v d ST.out.one.disk t
        unfold ptrU at HUn
        by_cases e0 : enE t = 0
        · rw [e0, errV_zero] at HUn
          have HVx : Hid _ := fun w2 v' (h : TwoU w0 w2 g v' (unD d t) z u (unD d t)) => values_any w2 w0.heap.size z u _ h.two.disk
          unfold ptrU at HVx
          go_wp2_with fail
          refine (HUn.out 0).mono ?_
          rintro e w3 ⟨rfl, v3, hst⟩
          have S3 : Hid (TwoU w0 w3 g v3 (unD d t) z u (unD d t)) := ST.out.left hst
          clear hst HUn
          have HVd : Hid _ := fun (_ : Nat) => values_any w3 w0.heap.size g v3 _ S3.out.one.disk
          unfold ptrU at HVd
          go_wp2_with fail
          refine (HVd.out 0).mono ?_
          rintro e w4 ⟨rfl, hv4, hb4⟩
          have V4 : Hid (VlU w4 w3.heap.size (unD d t).H) := hv4
          have S4 : Hid (TwoU w0 w4 g v3 (unD d t) z u (unD d t)) := S3.out.later hb4
          clear hv4 hb4 HVd
          go_wp2_with fail
          refine (HVx.out w4 v3 S4.out).mono ?_
          rintro e w5 ⟨rfl, hv5, hb5⟩
          have V5 : Hid (VlU w5 w4.heap.size (unD d t).H) := hv5
          have V45 : Hid (VlU w5 w3.heap.size (unD d t).H) := V4.out.later hb5
          have S5 : Hid (TwoU w0 w5 g v3 (unD d t) z u (unD d t)) := S4.out.later hb5
          clear hv5 hb5 HVx
          go_wp2_with fail
          refine (sameU_any w5 _ _ _ _ V45.out.is V5.out.is (fun _ _ => rfl)).mono ?_
          rintro e w6 ⟨rfl, hb6⟩
          have S6 : Hid (TwoU w0 w6 g v3 (unD d t) z u (unD d t)) := S5.out.later hb6
          go_wp2
          go_ret
          exact ⟨rfl, Below.next HB0.out S6.out.one.old⟩
        · have hn0 : ¬ (0 ≤ t ∧ t ≤ 19) := fun h => e0 (if_pos (by omega))
          rw [errV_pos e0] at HUn
          generalize ((enE t : Nat) : Int) = en at HUn
          go_wp2_with fail
          refine (HUn.out 0).mono ?_
          rintro e w3 ⟨rfl, v3, hst⟩
          have S3 : Hid (TwoU w0 w3 g v3 (unD d t) z u (unD d t)) := ST.out.left hst
          clear hst HUn
          go_wp2_with fail
          refine (in_no t 0 19 w3 hn0).mono ?_
          rintro e w4 ⟨rfl, rfl⟩
          go_wp2
          go_ret
          exact ⟨rfl, Below.next HB0.out S3.out.one.old⟩
    · have hl1 : ¬ (k : Int) < (n : Int) := by omega
      have HUn : Hid _ := fun (_ : Nat) => undo_any wr w0.heap.size g v d ST.out.one.disk t
      unfold ptrU at HUn
      by_cases e0 : enE t = 0
      · rw [e0, errV_zero] at HUn
        have HVx : Hid _ := fun w2 v' (h : TwoU w0 w2 g v' (unD d t) z u (unD d t)) => values_any w2 w0.heap.size z u _ h.two.disk
        unfold ptrU at HVx
        go_wp2_with fail
        refine (HUn.out 0).mono ?_
        rintro e w3 ⟨rfl, v3, hst⟩
        have S3 : Hid (TwoU w0 w3 g v3 (unD d t) z u (unD d t)) := ST.out.left hst
        clear hst HUn
        have HVd : Hid _ := fun (_ : Nat) => values_any w3 w0.heap.size g v3 _ S3.out.one.disk
        unfold ptrU at HVd
        go_wp2_with fail
        refine (HVd.out 0).mono ?_
        rintro e w4 ⟨rfl, hv4, hb4⟩
        have V4 : Hid (VlU w4 w3.heap.size (unD d t).H) := hv4
        have S4 : Hid (TwoU w0 w4 g v3 (unD d t) z u (unD d t)) := S3.out.later hb4
        clear hv4 hb4 HVd
        go_wp2_with fail
        refine (HVx.out w4 v3 S4.out).mono ?_
        rintro e w5 ⟨rfl, hv5, hb5⟩
        have V5 : Hid (VlU w5 w4.heap.size (unD d t).H) := hv5
        have V45 : Hid (VlU w5 w3.heap.size (unD d t).H) := V4.out.later hb5
        have S5 : Hid (TwoU w0 w5 g v3 (unD d t) z u (unD d t)) := S4.out.later hb5
        clear hv5 hb5 HVx
        go_wp2_with fail
        refine (sameU_any w5 _ _ _ _ V45.out.is V5.out.is (fun _ _ => rfl)).mono ?_
        rintro e w6 ⟨rfl, hb6⟩
        have S6 : Hid (TwoU w0 w6 g v3 (unD d t) z u (unD d t)) := S5.out.later hb6
        go_wp2
        go_ret
        exact ⟨rfl, Below.next HB0.out S6.out.one.old⟩
      · have hn0 : ¬ (0 ≤ t ∧ t ≤ 19) := fun h => e0 (if_pos (by omega))
        rw [errV_pos e0] at HUn
        generalize ((enE t : Nat) : Int) = en at HUn
        go_wp2_with fail
        refine (HUn.out 0).mono ?_
        rintro e w3 ⟨rfl, v3, hst⟩
        have S3 : Hid (TwoU w0 w3 g v3 (unD d t) z u (unD d t)) := ST.out.left hst
        clear hst HUn
        go_wp2_with fail
        refine (in_no t 0 19 w3 hn0).mono ?_
        rintro e w4 ⟨rfl, rfl⟩
        go_wp2
        go_ret
        exact ⟨rfl, Below.next HB0.out S3.out.one.old⟩

end Go.Proofs.Ytkpfieemkjfjkaa
