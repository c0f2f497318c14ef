/- This text proves that platterholdlaw1.BitmapPlays returns true for any rows, and lets all old memory be; the conditions: the rows lie there, and the library's variable errors.errorType holds what the program's own text lays. -/
import Derived.Test.YtgkmgcmppkdbgaaDoorV4
import Derived.Test.YtgkmgcmppkdbgaaDoorV5
import Derived.Test.YtgkmgcmppkdbgaaDoorV7
import Derived.Test.YtgkmgcmppkdbgaaDoorIn
import Derived.Deep.DeepCutAuto
import Derived.Laws.OwnMore
namespace Go.Proofs.YtgkmgcmppkdbgaaDoor
open Go.RowKit Go.Deep

/-- A call that leaves the world as it was, as a quiet region takes it. -/
theorem quiet_at {P : Program} {f : FuncId} {args : Array Value} {w : World} {q n : Nat} {v : Value}
    (h : Calls P f args (w.drewN (q + n)) fun e w' => e = .returned v ∧ w.drewN (q + n) = w') : Calls P f args (w.drewN (q + n)) fun e w'' => e = .returned v ∧ ∃ m, w'' = w.drewN (q + m) :=
  h.mono fun _ _ ⟨he, hm⟩ => ⟨he, n, hm.symm⟩
theorem quiet0 {P : Program} {f : FuncId} {args : Array Value} {w : World} {n : Nat} {v : Value}
    (h : Calls P f args (w.drewN n) fun e w' => e = .returned v ∧ w.drewN n = w') : Calls P f args (w.drewN n) fun e w'' => e = .returned v ∧ ∃ m, w'' = w.drewN m :=
  h.mono fun _ _ ⟨he, hm⟩ => ⟨he, n, hm.symm⟩

theorem made_own (w : World) : (w.alloc (.cells (madeCells #[.int .i64 0] 32) 3)).ownsRow w.heap.size 3 1 (.slice (some ⟨w.heap.size, 0, none⟩) 32 32) 32 (cellsOf (bl 0)) :=
  ⟨by rw [cellsOf_len, bl_len], .inr ⟨w.heap.size, 32, madeCells #[.int .i64 0] 32, rfl, Nat.le_refl _, blk_alloc_new _ _, by decide, by decide, size_madeCells _ _, by rw [toList_madeCells_one]; kernel_rfl⟩⟩
theorem alloc_size (w : World) (o : Obj) : (w.alloc o).heap.size = w.heap.size + 1 := by simp

/-- The state of a play: the map at block G has the word m, and the list of the law's own holds the places of l. -/
structure PlSt (w wr : World) (G m l : Nat) (x : Value) : Prop where
  map : MapAt wr G m
  own : wr.ownsRow (G + 1) 3 1 x 32 (cellsOf (bl l))
  old : Below G w wr

theorem PlSt.later {w wr w' : World} {G m l : Nat} {x : Value} (h : PlSt w wr G m l x) (hb : Below wr.heap.size wr w') : PlSt w w' G m l x :=
  ⟨h.map.later hb, own_still h.own hb, h.old.trans (hb.mono (Nat.le_of_lt h.map.inside))⟩
theorem PlSt.chg {w wr w' : World} {G m m' l : Nat} {x : Value} (h : PlSt w wr G m l x) (hm : MapAt w' G m') (hc : Chg G wr w') : PlSt w w' G m' l x :=
  ⟨hm, hc.own (Nat.lt_succ_self _) h.own, below_chg h.old (Nat.le_refl _) hc⟩
theorem PlSt.fill {w wr w' : World} {G m l l' : Nat} {x x' : Value} (h : PlSt w wr G m l x) (ho : w'.ownsRow (G + 1) 3 1 x' 32 (cellsOf (bl l'))) (hb : Below wr.heap.size wr w') : PlSt w w' G m l' x' :=
  ⟨h.map.later hb, ho, h.old.trans (hb.mono (Nat.le_of_lt h.map.inside))⟩
theorem PlSt.laid {w wr : World} {G m l : Nat} {x : Value} (h : PlSt w wr G m l x) (hG : G = w.heap.size) (hL : Laid w) : Laid wr := hL.later (by rw [← hG]; exact h.old)
theorem PlSt.size {w wr : World} {G m l : Nat} {x : Value} (h : PlSt w wr G m l x) : G + 1 ≤ wr.heap.size := h.map.inside
theorem PlSt.drew {w wr : World} {G m l : Nat} {x : Value} (h : PlSt w wr G m l x) (q : Nat) : PlSt w (wr.drewN q) G m l x := h.later (below_drew _ _ _)
theorem PlSt.drew1 {w wr : World} {G m l : Nat} {x : Value} (h : PlSt w wr G m l x) : PlSt w wr.drew G m l x := h.later (below_drew1 _ _)
theorem PlSt.is {w wr : World} {G m l : Nat} {x : Value} (h : PlSt w wr G m l x) : SliceIs wr x (bl l) := slice_own h.own (by decide)

/-- There is one first place alone. -/
theorem first_one {m j K L : Nat} (h1 : fr m K j) (h2 : ∀ a, a < K → ¬ fr m a j) (h3 : fr m L j) (h4 : ∀ a, a < L → ¬ fr m a j) : K = L := by
  rcases Nat.lt_trichotomy K L with h | h | h
  · exact absurd h1 (h4 K h)
  · exact h
  · exact absurd h3 (h2 L h)
theorem tk_found {m j K : Nat} (h1 : 1 ≤ j) (h2 : K + j ≤ 32) (h3 : fr m K j) (h4 : ∀ a, a < K → ¬ fr m a j) : tkE m (j : Int) = 0 ∧ tkAt m (j : Int) = K ∧ tkM m (j : Int) = put m K j := by
  rcases tk_in m j h1 (by omega) with ⟨_, _, _, k⟩ | ⟨k1, k2, k3, k4, k5⟩
  · exact absurd h3 (k K h2)
  · have e := first_one h3 h4 k4 k5
    exact ⟨k1, e.symm, by rw [k2, ← e]⟩
theorem tk_lost {m j : Nat} (h1 : 1 ≤ j) (h2 : j ≤ 32) (h : ∀ a, a + j ≤ 32 → ¬ fr m a j) : tkE m (j : Int) = 4 ∧ tkAt m (j : Int) = 0 ∧ tkM m (j : Int) = m := by
  rcases tk_in m j h1 h2 with ⟨k1, k2, k3, _⟩ | ⟨_, _, k3, k4, _⟩
  · exact ⟨k1, k2, k3⟩
  · exact absurd k4 (h _ k3)

set_option maxHeartbeats 64000000 in
set_option maxRecDepth 100000 in
theorem bitmapPlays_any (w : World) (v : Value) (rs : List (List Int)) (hr : RowsIs w v rs) (hL : Laid w) :
    Calls Tryd.prog 5 #[v] w fun e w' => e = .returned (.bool true) ∧ Below w.heap.size w w' := by
  have HR : Hid (RowsIs w v rs) := hr
  have HL : Hid (Laid w) := hL
  obtain ⟨a, c, hv, hl, _⟩ := hr
  obtain ⟨n, hn⟩ : ∃ n, n = rs.length := ⟨_, rfl⟩
  rw [← hn] at hv hl
  unfold maxLen at hl
  subst hv
  clear hn hL
  obtain ⟨G, hG⟩ : ∃ G, G = w.heap.size := ⟨_, rfl⟩
  go_enter Tryd.func5, Tryd.ntmps5
  go_wp2_with fail
  refine (new_any _).mono ?_
  rintro e w1 ⟨rfl, rfl⟩
  have HM : Hid (MapAt (w.alloc (.cells #[.int .u32 0] 46)) G 0) := by rw [hG]; exact map_new w
  have HB : Hid (Below G w (w.alloc (.cells #[.int .u32 0] 46))) := by rw [hG]; exact below_alloc _ _
  have HS : Hid ((w.alloc (.cells #[.int .u32 0] 46)).heap.size = G + 1) := by rw [hG]; exact alloc_size _ _
  generalize w.alloc (.cells #[.int .u32 0] 46) = w1 at HM HB HS ⊢
  rw [← hG]
  have HG : Hid (G = w.heap.size) := hG
  clear hG
  have hmk : ∀ w, (Instr.makeSlice 39 (.int .i64 32) (.int .i64 32)).run Tryd.prog w = .ok (.slice (some ⟨w.heap.size, 0, none⟩) 32 32) (w.alloc (.cells (madeCells #[.int .i64 0] 32) 3)) :=
    run_make_row' (P := Tryd.prog) 39 3 (.int .i64 0) 8 Tryd.underlying39 Tryd.info3 rfl .i64 .i64 32 (by omega) (by omega)
  go_wp2
  clear hmk
  have HP : Hid (PlSt w (w1.alloc (.cells (madeCells #[.int .i64 0] 32) 3)) G 0 0 (.slice (some ⟨w1.heap.size, 0, none⟩) 32 32)) :=
    ⟨HM.out.later (below_alloc _ _), own_down (made_own w1) (by rw [HS.out]; exact Nat.le_refl _), HB.out.trans ((below_alloc _ _).mono (by rw [HS.out]; omega))⟩
  generalize w1.alloc (.cells (madeCells #[.int .i64 0] 32) 3) = w2 at HP ⊢
  generalize Value.slice (some ⟨w1.heap.size, 0, none⟩) 32 32 = x0 at HP ⊢
  clear HM HB HS
  go_loopw [2, 4, 5, 6, 7, 8, 9, 10, 11, 12, 13, 14, 15, 16, 17] (fun _ x i _ _ _ _ _ _ _ _ _ _ _ _ wr => ∃ k m : Nat, k ≤ 60 ∧ i = .int .i64 (k : Int) ∧ PlSt w wr G m m x) (fun _ _ i _ _ _ _ _ _ _ _ _ _ _ _ _ => 60 - (intOf i).toNat)
  case atStart => exact ⟨0, 0, by omega, rfl, HP.out⟩
  case round =>
    obtain ⟨k, m, hk, rfl, hst⟩ := hrel
    have ST : Hid (PlSt w wr G m m u4) := hst
    clear hst
    by_cases hlt : k < n
    · have hl1 : (k : Int) < (n : Int) := by omega
      by_cases hs : k < 60
      · have hs1 : (k : Int) < 60 := by omega
        obtain ⟨b, o, vk, ha, hbs, hck, hsk⟩ := HR.out.row k hlt
        subst ha
        have HK : Hid (∀ {w'}, Below G w w' → w'.cell? ⟨b, o + k, none⟩ = some vk) := fun h => by rw [h.cell (p := ⟨b, o + k, none⟩) (by rw [HG.out]; exact hbs)]; exact hck
        have HSK : Hid (SliceIs w vk (rowAt rs k)) := hsk
        have hc0 := HK.out ST.out.old
        obtain ⟨a1, c1, hv1, hl1', _⟩ := hsk
        obtain ⟨z, hz⟩ : ∃ z, z = (rowAt rs k).length := ⟨_, rfl⟩
        have HZ : Hid (z = (rowAt rs k).length) := hz
        rw [← hz] at hv1
        subst hv1
        clear hck hz hl1'
        go_upto_if 36 with fail
        go_cut [4, 7] (fun s4 s7 wx => ∃ m1 : Nat, ∃ e1 : Int, s7 = .int .i64 e1 ∧ (z ≠ 1 → e1 = 0) ∧ PlSt w wx G m1 m1 s4)
        case first =>
          by_cases h1 : z = 1
          · subst h1
            obtain ⟨b1, o1, c2, hv2, hb1, hx⟩ := row_one HSK.out HZ.out.symm
            cases hv2
            have HX : Hid (∀ {w'}, Below G w w' → w'.cell? ⟨b1, o1, none⟩ = some (.int .i64 (nth (rowAt rs k) 0))) := fun h => by rw [h.cell (p := ⟨b1, o1, none⟩) (by rw [HG.out]; exact hb1)]; exact hx
            have hx0 := HX.out ST.out.old
            clear hx hc0
            generalize nth (rowAt rs k) 0 = x at HX hx0
            go_wp2_with fail
            refine (in_any _ _ _ _).mono ?_
            rintro e w' ⟨rfl, rfl⟩
            by_cases hn1 : 1 ≤ x ∧ x ≤ 32
            · rw [decide_eq_true hn1]
              obtain ⟨j, rfl⟩ : ∃ j : Nat, x = (j : Int) := ⟨x.toNat, by omega⟩
              rename World => wr0
              go_wp2
              go_loopw [4, 7, 8, 9] (fun s4 s7 s8 s9 wv => (∃ A : Nat, A + j ≤ 33 ∧ s9 = .int .i64 (A : Int) ∧ s7 = .int .i64 4 ∧ s8 = .int .i64 0 ∧ (∀ a, a < A → ¬ fr m a j) ∧ PlSt w wv G m m s4) ∨
                  (∃ K : Nat, K + j ≤ 32 ∧ s9 = .int .i64 ((K : Int) + 1) ∧ s7 = .int .i64 0 ∧ s8 = .int .i64 (K : Int) ∧ fr m K j ∧ (∀ a, a < K → ¬ fr m a j) ∧ PlSt w wv G m (put m K j) s4)) (fun _ _ _ s9 _ => 40 - (intOf s9).toNat)
              case atStart => exact .inl ⟨0, by omega, rfl, rfl, rfl, fun a ha => absurd ha (by omega), ST.out⟩
              case round =>
                rcases hrel with ⟨A, hA, rfl, rfl, rfl, hno, hst⟩ | ⟨K, hK, rfl, rfl, rfl, hf, hno, hst⟩
                · have ST1 : Hid (PlSt w wr G m m u4) := hst
                  have HNo : Hid (∀ a, a < A → ¬ fr m a j) := hno
                  have hx1 := HX.out ST1.out.old
                  clear hst hno hx0
                  by_cases hA2 : A + j ≤ 32
                  · have hl2 : (A : Int) + (j : Int) ≤ 32 := by omega
                    go_wp2_with fail
                    refine (beside_any wr _ (bl m) A j 0 ST1.out.is (by rw [bl_len]; exact hA2) (by rw [bl_len]; decide)).mono ?_
                    rintro e w' ⟨rfl, rfl⟩
                    cases hbb : bsB (bl m) A 0 j with
                    | true =>
                      have HF : Hid (fr m A j) := (bsB_free hA2).1 hbb
                      clear hbb
                      go_wp2_with fail
                      refine (fill_any wr _ (bl m) A j (G + 1) 1 ST1.out.own ST1.out.size hA2).mono ?_
                      rintro e w3 ⟨v3, rfl, ho, hb⟩
                      rw [fill_put hA2] at ho
                      have ST3 : Hid (PlSt w w3 G m (put m A j) v3) := ST1.out.fill ho hb
                      clear ho hb
                      go_wp2
                      go_roundw
                      case rel => exact .inr ⟨A, hA2, rfl, rfl, rfl, HF.out, HNo.out, ST3.out⟩
                      case measure => simp [intOf]; omega
                    | false =>
                      have HF : Hid (¬ fr m A j) := fun h => by rw [(bsB_free hA2).2 h] at hbb; cases hbb
                      clear hbb
                      go_wp2
                      go_roundw
                      case rel =>
                        refine .inl ⟨A + 1, by omega, by go_num, rfl, rfl, fun a ha => ?_, ST1.out⟩
                        by_cases e : a = A
                        · rw [e]; exact HF.out
                        · exact HNo.out a (by omega)
                      case measure => simp [intOf]; omega
                  · have hl2 : ¬ (A : Int) + (j : Int) ≤ 32 := by omega
                    obtain ⟨t1, t2, t3⟩ := tk_lost (m := m) (j := j) (by omega) (by omega) (fun a ha => HNo.out a (by omega))
                    go_wp2_with fail
                    refine (take_any G m (j : Int) wr ST1.out.map).mono ?_
                    rintro e w3 ⟨rfl, hm, hc⟩
                    rw [t3] at hm
                    rw [t1, t2]
                    have ST3 : Hid (PlSt w w3 G m m u4) := ST1.out.chg hm hc
                    clear hm hc t1 t2 t3
                    go_wp2_with fail
                    refine (error_any (4) (4) _ (ST3.out.laid HG.out HL.out)).mono ?_
                    rintro e w4 ⟨rfl, hb⟩
                    rw [show (((4 : Nat) : Int) == (4)) = true from rfl]
                    have ST4 : Hid (PlSt w w4 G m m u4) := ST3.out.later hb
                    clear hb
                    go_wp2_with fail
                    go_meet
                    case rel => exact ⟨m, 4, rfl, fun h => absurd rfl h, ST4.out⟩
                · have ST1 : Hid (PlSt w wr G m (put m K j) u4) := hst
                  have hx1 := HX.out ST1.out.old
                  obtain ⟨t1, t2, t3⟩ := tk_found (by omega) hK hf hno
                  clear hst hno hf hx0
                  by_cases hl2 : (K : Int) + 1 + (j : Int) ≤ 32
                  all_goals
                    go_wp2_with fail
                    refine (take_any G m (j : Int) wr ST1.out.map).mono ?_
                    rintro e w3 ⟨rfl, hm, hc⟩
                    rw [t3] at hm
                    rw [t1, t2]
                    have ST3 : Hid (PlSt w w3 G (put m K j) (put m K j) u4) := ST1.out.chg hm hc
                    clear hm hc t1 t2 t3
                    go_wp2_with fail
                    refine (error_any (0) (0) _ (ST3.out.laid HG.out HL.out)).mono ?_
                    rintro e w4 ⟨rfl, hb⟩
                    rw [show (((0 : Nat) : Int) == (0)) = true from rfl]
                    have ST4 : Hid (PlSt w w4 G (put m K j) (put m K j) u4) := ST3.out.later hb
                    clear hb
                    go_wp2_with fail
                    go_meet
                    case rel => exact ⟨put m K j, 0, rfl, fun h => absurd rfl h, ST4.out⟩
            · rw [decide_eq_false hn1]
              obtain ⟨t1, t2, t3⟩ := tk_range (m := m) hn1
              go_wp2_with fail
              refine (take_any G m x wr ST.out.map).mono ?_
              rintro e w3 ⟨rfl, hm, hc⟩
              rw [t3] at hm
              rw [t1, t2]
              have ST3 : Hid (PlSt w w3 G m m u4) := ST.out.chg hm hc
              clear hm hc t1 t2 t3
              go_wp2_with fail
              refine (error_any (1) (1) _ (ST3.out.laid HG.out HL.out)).mono ?_
              rintro e w4 ⟨rfl, hb⟩
              rw [show (((1 : Nat) : Int) == (1)) = true from rfl]
              have ST4 : Hid (PlSt w w4 G m m u4) := ST3.out.later hb
              clear hb
              go_wp2_with fail
              go_meet
              case rel => exact ⟨m, 1, rfl, fun h => absurd rfl h, ST4.out⟩
          · have h1' : ¬ (z : Int) = 1 := by omega
            go_wp2_with fail
            go_meet
            case rel => exact ⟨m, 0, rfl, fun _ => rfl, ST.out⟩
        case rest =>
        obtain ⟨m1, e1, rfl, he1, hst⟩ := hcut
        have HE1 : Hid (z ≠ 1 → e1 = 0) := he1
        have ST1 : Hid (PlSt w wc G m1 m1 u4) := hst
        clear hst he1 hc0 ST
        go_upto_if 86 with fail
        go_cut [4] (fun s4 wx => ∃ m2 : Nat, PlSt w wx G m2 m2 s4)
        case first =>
          by_cases h1 : z = 2
          · subst h1
            obtain rfl := HE1.out (by decide)
            obtain ⟨b1, o1, c2, hv2, hb1, hx, hy⟩ := row_two HSK.out HZ.out.symm
            cases hv2
            have HX : Hid (∀ {w'}, Below G w w' → w'.cell? ⟨b1, o1, none⟩ = some (.int .i64 (nth (rowAt rs k) 0))) := fun h => by rw [h.cell (p := ⟨b1, o1, none⟩) (by rw [HG.out]; exact hb1)]; exact hx
            have HY : Hid (∀ {w'}, Below G w w' → w'.cell? ⟨b1, o1 + 1, none⟩ = some (.int .i64 (nth (rowAt rs k) 1))) := fun h => by rw [h.cell (p := ⟨b1, o1 + 1, none⟩) (by rw [HG.out]; exact hb1)]; exact hy
            have hx0 := HX.out ST1.out.old
            have hy0 := HY.out ST1.out.old
            clear hx hy
            generalize nth (rowAt rs k) 0 = x at HX hx0
            generalize nth (rowAt rs k) 1 = y at HY hy0
            by_cases hn1 : 1 ≤ y ∧ y ≤ 32
            · by_cases hn2 : 0 ≤ x ∧ x ≤ 32 - y
              · obtain ⟨X, rfl⟩ : ∃ X : Nat, x = (X : Int) := ⟨x.toNat, by omega⟩
                obtain ⟨J, rfl⟩ : ∃ J : Nat, y = (J : Int) := ⟨y.toNat, by omega⟩
                have hXJ : X + J ≤ 32 := by omega
                go_wp2_with fail
                go_quiet (first | (go_at_call_of 11 X; exact quiet0 (in_yes (X : Int) 0 (32 - (J : Int)) _ hn2)) | (go_at_call 11; exact quiet0 (in_yes (J : Int) 1 32 _ hn1)))
                have STd : Hid (PlSt w (wc.drewN nq) G m1 m1 u4) := ST1.out.drew nq
                generalize wc.drewN nq = wd at STd ⊢
                have hxd := HX.out STd.out.old
                have hyd := HY.out STd.out.old
                clear hx0 hy0
                go_wp2_with fail
                go_quiet (first | (go_at_call 15; exact quiet0 (beside_any _ _ (bl m1) X J 1 (STd.out.drew _).is (by rw [bl_len]; exact hXJ) (by rw [bl_len]; decide))))
                have STd : Hid _ := STd.out.drew nq
                rename World => wd0
                generalize wd0.drewN nq = wd at STd ⊢
                have hxd := HX.out STd.out.old
                have hyd := HY.out STd.out.old
                cases hbb : bsB (bl m1) X 1 J with
                | true =>
                  obtain ⟨t1, t2⟩ : bkE m1 (X : Int) (J : Int) = 0 ∧ bkM m1 (X : Int) (J : Int) = cut m1 X J := by
                    rcases bk_in m1 X J (by omega) hXJ with ⟨_, k1, k2⟩ | ⟨k0, _⟩
                    · exact ⟨k1, k2⟩
                    · exact absurd ((bsB_taken hXJ).1 hbb) k0
                  have HCU : Hid (fillL (bl m1) X 0 J = bl (cut m1 X J)) := fill_cut ST1.out.map.lt hXJ
                  clear hbb
                  go_wp2_with fail
                  go_region_held3 (fun w' => w'.cell? ⟨b1, o1, none⟩ = some (.int .i64 (X : Int)) ∧ w'.cell? ⟨b1, o1 + 1, none⟩ = some (.int .i64 (J : Int)))
                    (first | go_keep | (go_split_ands; exact ⟨HX.out STg.out.old, HY.out STg.out.old⟩))
                    (first
                      | (go_at_call 16; refine (fill_any _ _ (bl m1) X J (G + 1) 0 STd.out.drew1.own STd.out.drew1.size hXJ).mono ?_; rintro e w3 ⟨v3, rfl, ho, hb⟩; rw [HCU.out] at ho; have STg : Hid (PlSt w w3 G m1 (cut m1 X J) v3) := STd.out.drew1.fill ho hb))
                  clear ho hb hxd hyd STd
                  have STd : Hid _ := STg.out
                  clear STg
                  have hxd := HX.out STd.out.old
                  have hyd := HY.out STd.out.old
                  go_wp2_with fail
                  go_region_held3 (fun w' => w'.cell? ⟨b1, o1, none⟩ = some (.int .i64 (X : Int)) ∧ w'.cell? ⟨b1, o1 + 1, none⟩ = some (.int .i64 (J : Int)))
                    (first | go_keep | (go_split_ands; exact ⟨HX.out STf.out.old, HY.out STf.out.old⟩) | (go_split_ands; exact ⟨HX.out STe.out.old, HY.out STe.out.old⟩))
                    (first
                      | (go_at_call 13; refine (back_any G m1 (X : Int) (J : Int) _ STd.out.drew1.map).mono ?_; rintro e w4 ⟨rfl, hm, hc⟩; rw [t2] at hm; rw [t1]; have STe : Hid (PlSt w w4 G (cut m1 X J) (cut m1 X J) _) := STd.out.drew1.chg hm hc)
                      | (go_at_call 12; refine (error_any (0) (0) _ (STe.out.laid HG.out HL.out)).mono ?_; rintro e w5 ⟨rfl, hb⟩; rw [show (((0 : Nat) : Int) == (0)) = true from rfl]; have STf : Hid (PlSt w w5 G (cut m1 X J) (cut m1 X J) _) := STe.out.later hb))
                  clear hm hc hb
                  go_wp2_with fail
                  go_meet
                  case rel => exact ⟨(cut m1 X J), STf.out⟩
                | false =>
                  obtain ⟨t1, t2⟩ : bkE m1 (X : Int) (J : Int) = 5 ∧ bkM m1 (X : Int) (J : Int) = m1 := by
                    rcases bk_in m1 X J (by omega) hXJ with ⟨k0, _⟩ | ⟨_, k1, k2⟩
                    · rw [(bsB_taken hXJ).2 k0] at hbb; cases hbb
                    · exact ⟨k1, k2⟩
                  clear hbb
                  go_wp2_with fail
                  go_region_held3 (fun w' => w'.cell? ⟨b1, o1, none⟩ = some (.int .i64 (X : Int)) ∧ w'.cell? ⟨b1, o1 + 1, none⟩ = some (.int .i64 (J : Int)))
                    (first | go_keep | (go_split_ands; exact ⟨HX.out STf.out.old, HY.out STf.out.old⟩) | (go_split_ands; exact ⟨HX.out STe.out.old, HY.out STe.out.old⟩))
                    (first
                      | (go_at_call 13; refine (back_any G m1 (X : Int) (J : Int) _ STd.out.drew1.map).mono ?_; rintro e w4 ⟨rfl, hm, hc⟩; rw [t2] at hm; rw [t1]; have STe : Hid (PlSt w w4 G m1 m1 _) := STd.out.drew1.chg hm hc)
                      | (go_at_call 12; refine (error_any (5) (5) _ (STe.out.laid HG.out HL.out)).mono ?_; rintro e w5 ⟨rfl, hb⟩; rw [show (((5 : Nat) : Int) == (5)) = true from rfl]; have STf : Hid (PlSt w w5 G m1 m1 _) := STe.out.later hb))
                  clear hm hc hb
                  go_wp2_with fail
                  go_meet
                  case rel => exact ⟨m1, STf.out⟩
              · obtain ⟨t1, t2⟩ := bk_range (m := m1) (a := x) (n := y) (fun h => hn2 h.2.2)
                go_wp2_with fail
                go_quiet (first | (go_at_call_of 11 x; exact quiet0 (in_no x 0 (32 - y) _ hn2)) | (go_at_call 11; exact quiet0 (in_yes y 1 32 _ hn1)))
                have STd : Hid (PlSt w (wc.drewN nq) G m1 m1 u4) := ST1.out.drew nq
                generalize wc.drewN nq = wd at STd ⊢
                have hxd := HX.out STd.out.old
                have hyd := HY.out STd.out.old
                clear hx0 hy0

                go_wp2_with fail
                go_region_held3 (fun w' => w'.cell? ⟨b1, o1, none⟩ = some (.int .i64 x) ∧ w'.cell? ⟨b1, o1 + 1, none⟩ = some (.int .i64 y))
                  (first | go_keep | (go_split_ands; exact ⟨HX.out STf.out.old, HY.out STf.out.old⟩) | (go_split_ands; exact ⟨HX.out STe.out.old, HY.out STe.out.old⟩))
                  (first
                    | (go_at_call 13; refine (back_any G m1 x y _ STd.out.drew1.map).mono ?_; rintro e w4 ⟨rfl, hm, hc⟩; rw [t2] at hm; rw [t1]; have STe : Hid (PlSt w w4 G m1 m1 _) := STd.out.drew1.chg hm hc)
                    | (go_at_call 12; refine (error_any (1) (1) _ (STe.out.laid HG.out HL.out)).mono ?_; rintro e w5 ⟨rfl, hb⟩; rw [show (((1 : Nat) : Int) == (1)) = true from rfl]; have STf : Hid (PlSt w w5 G m1 m1 _) := STe.out.later hb))
                clear hm hc hb
                go_wp2_with fail
                go_meet
                case rel => exact ⟨m1, STf.out⟩
            · obtain ⟨t1, t2⟩ := bk_range (m := m1) (a := x) (n := y) (fun h => hn1 ⟨h.1, h.2.1⟩)
              go_wp2_with fail
              go_quiet (first | (go_at_call 11; exact quiet0 (in_no y 1 32 _ hn1)))
              have STd : Hid (PlSt w (wc.drewN nq) G m1 m1 u4) := ST1.out.drew nq
              generalize wc.drewN nq = wd at STd ⊢
              have hxd := HX.out STd.out.old
              have hyd := HY.out STd.out.old
              clear hx0 hy0

              go_wp2_with fail
              go_region_held3 (fun w' => w'.cell? ⟨b1, o1, none⟩ = some (.int .i64 x) ∧ w'.cell? ⟨b1, o1 + 1, none⟩ = some (.int .i64 y))
                (first | go_keep | (go_split_ands; exact ⟨HX.out STf.out.old, HY.out STf.out.old⟩) | (go_split_ands; exact ⟨HX.out STe.out.old, HY.out STe.out.old⟩))
                (first
                  | (go_at_call 13; refine (back_any G m1 x y _ STd.out.drew1.map).mono ?_; rintro e w4 ⟨rfl, hm, hc⟩; rw [t2] at hm; rw [t1]; have STe : Hid (PlSt w w4 G m1 m1 _) := STd.out.drew1.chg hm hc)
                  | (go_at_call 12; refine (error_any (1) (1) _ (STe.out.laid HG.out HL.out)).mono ?_; rintro e w5 ⟨rfl, hb⟩; rw [show (((1 : Nat) : Int) == (1)) = true from rfl]; have STf : Hid (PlSt w w5 G m1 m1 _) := STe.out.later hb))
              clear hm hc hb
              go_wp2_with fail
              go_meet
              case rel => exact ⟨m1, STf.out⟩
          · have h1' : ¬ (z : Int) = 2 := by omega
            go_wp2_with fail
            go_meet
            case rel => exact ⟨m1, ST1.out⟩
        case rest =>
        obtain ⟨m2, hst⟩ := hcut
        have ST2 : Hid (PlSt w wc G m2 m2 u4) := hst
        clear hst ST1 HE1
        obtain ⟨gx, cx, hu4, hg1, hg2⟩ := own_where ST2.out.own (by decide)
        subst hu4
        have HC : Hid (∀ i, i < 32 → wc.cell? ⟨gx, i, none⟩ = some (.int .i64 ((m2.testBit i).toNat : Int))) := fun i hi => by
          have := ST2.out.own.cellAt i hi
          rw [cellsOf_get (by rw [bl_len]; exact hi), bl_nth hi] at this
          exact this
        clear hg1 hg2
        rename World => wd
        go_wp2
        go_loopw [12, 13, 14, 15] (fun al mo he i wv => ∃ t : Nat, t ≤ 32 ∧ i = .int .i64 (t : Int) ∧ al = .int .i64 ((t : Int) - (cnt m2 t : Int)) ∧ mo = .int .i64 (ms m2 t : Int) ∧ he = .int .i64 (gp m2 t : Int) ∧ ∃ q, wv = wd.drewN q) (fun _ _ _ i _ => 32 - (intOf i).toNat)
        case atStart => exact ⟨0, by omega, rfl, rfl, rfl, rfl, 0, rfl⟩
        case round =>
          obtain ⟨t, ht, rfl, rfl, rfl, rfl, q, rfl⟩ := hrel
          by_cases ht2 : t < 32
          · have hl2 : (t : Int) < 32 := by omega
            have hc := HC.out t ht2
            have l1 := ms_le m2 t
            have l2 := gp_le m2 t
            have l3 := cnt_le m2 t
            cases hb : m2.testBit t with
            | true =>
              rw [hb] at hc
              have HBt : Hid (m2.testBit t = true) := hb
              have HG1 : Hid (gp m2 (t + 1) = 0) := by show gp m2 (t + 1) = 0; simp [gp, hb]
              have HS1 : Hid (ms m2 (t + 1) = ms m2 t) := by show ms m2 (t + 1) = ms m2 t; simp [ms, hb]
              have HC1 : Hid (cnt m2 (t + 1) = cnt m2 t + 1) := by show cnt m2 (t + 1) = cnt m2 t + 1; simp [cnt, hb]
              have hm0 : ¬ ((ms m2 t : Nat) : Int) < 0 := by omega
              have hc : wd.cell? ⟨gx, t, none⟩ = some (.int .i64 1) := hc
              clear hb
              go_wp2_with fail
              go_quiet (first | (go_at_call 9; exact quiet_at (has_in G m2 t _ ST2.out.map.lt ht2 (ST2.out.map.drew _).cell)))
              rw [HBt.out]
              go_wp2
              go_roundw
              case rel => exact ⟨t + 1, by omega, by go_num, by rw [HC1.out]; exact congrArg (Value.int IntKind.i64) (by omega), by rw [HS1.out], by rw [HG1.out]; rfl, q + nq, rfl⟩
              case measure => simp [intOf]; omega
            | false =>
              rw [hb] at hc
              have HBt : Hid (m2.testBit t = false) := hb
              have HG1 : Hid (gp m2 (t + 1) = gp m2 t + 1) := by show gp m2 (t + 1) = gp m2 t + 1; simp [gp, hb]
              have HS1 : Hid (ms m2 (t + 1) = max (ms m2 t) (gp m2 t + 1)) := by show ms m2 (t + 1) = max (ms m2 t) (gp m2 t + 1); simp [ms, hb]
              have HC1 : Hid (cnt m2 (t + 1) = cnt m2 t) := by show cnt m2 (t + 1) = cnt m2 t; simp [cnt, hb]
              have hc : wd.cell? ⟨gx, t, none⟩ = some (.int .i64 0) := hc
              clear hb
              by_cases hmx : ((ms m2 t : Nat) : Int) < ((gp m2 t : Nat) : Int) + 1
              · have HS2 : Hid (ms m2 (t + 1) = gp m2 t + 1) := by rw [HS1.out]; show max (ms m2 t) (gp m2 t + 1) = gp m2 t + 1; omega
                go_wp2_with fail
                go_quiet (first | (go_at_call 9; exact quiet_at (has_in G m2 t _ ST2.out.map.lt ht2 (ST2.out.map.drew _).cell)))
                rw [HBt.out]
                go_wp2
                go_roundw
                case rel => exact ⟨t + 1, by omega, by go_num, by rw [HC1.out]; exact congrArg (Value.int IntKind.i64) (by omega), by rw [HS2.out]; rfl, by rw [HG1.out]; rfl, q + nq, rfl⟩
                case measure => simp [intOf]; omega
              · have HS2 : Hid (ms m2 (t + 1) = ms m2 t) := by rw [HS1.out]; show max (ms m2 t) (gp m2 t + 1) = ms m2 t; omega
                go_wp2_with fail
                go_quiet (first | (go_at_call 9; exact quiet_at (has_in G m2 t _ ST2.out.map.lt ht2 (ST2.out.map.drew _).cell)))
                rw [HBt.out]
                go_wp2
                go_roundw
                case rel => exact ⟨t + 1, by omega, by go_num, by rw [HC1.out]; exact congrArg (Value.int IntKind.i64) (by omega), by rw [HS2.out], by rw [HG1.out]; rfl, q + nq, rfl⟩
                case measure => simp [intOf]; omega
          · obtain rfl : t = 32 := by omega
            have l3 := cnt_le m2 32
            go_wp2_with fail
            refine (free_any G m2 _ (ST2.out.map.drew q)).mono ?_
            rintro e w9 ⟨rfl, q9, rfl⟩
            have ST9 : Hid (PlSt w ((wd.drewN q).drewN q9) G m2 m2 (.slice (some ⟨gx, 0, none⟩) 32 cx)) := (ST2.out.drew q).drew q9
            generalize (wd.drewN q).drewN q9 = w9 at ST9 ⊢
            go_wp2
            go_roundw
            case rel => exact ⟨k + 1, m2, by omega, by go_num, ST9.out⟩
            case measure => simp [intOf]; omega
      · have hs1 : ¬ (k : Int) < 60 := by omega
        go_wp2_with fail
        refine (has_out _ _ _ (.inl (by decide))).mono ?_
        rintro e w' ⟨rfl, rfl⟩
        go_wp2_with fail
        refine (has_out _ _ _ (.inr (by decide))).mono ?_
        rintro e w' ⟨rfl, rfl⟩
        go_wp2
        go_ret
        exact ⟨rfl, by rw [← HG.out]; exact ST.out.old⟩
    · have hl1 : ¬ (k : Int) < (n : Int) := by omega
      go_wp2_with fail
      refine (has_out _ _ _ (.inl (by decide))).mono ?_
      rintro e w' ⟨rfl, rfl⟩
      go_wp2_with fail
      refine (has_out _ _ _ (.inr (by decide))).mono ?_
      rintro e w' ⟨rfl, rfl⟩
      go_wp2
      go_ret
      exact ⟨rfl, by rw [← HG.out]; exact ST.out.old⟩

end Go.Proofs.YtgkmgcmppkdbgaaDoor
