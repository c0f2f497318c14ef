/- This text proves that the law TopBlocks returns true for any steps and any place: blocks that are taken are a set of places; the only condition is that the rows lie there. -/
import Derived.Test.YtihefpnagdacpaaX7
import Derived.Test.YtihefpnagdacpaaXt
import Derived.Deep.RegionHeld3
namespace Go.Proofs.Ytihefpnagdacpaa
open Go.RowKit Go.Deep

theorem has_bits (g m : Nat) (p : Int) (w : World) (h : MapAt w g m) :
    Calls Try.prog 17 #[.pointer (some ⟨g, 0, none⟩), .int .i64 p] w fun e w' => e = .returned (.bool (bitP m p)) ∧ w = w' := by
  unfold bitP
  by_cases hp : 0 ≤ p ∧ p < 32
  · obtain ⟨i, rfl⟩ : ∃ i : Nat, p = (i : Int) := ⟨p.toNat, by omega⟩
    rw [decide_eq_true hp, Bool.true_and, Int.toNat_natCast]
    exact has_in g m i w h.lt (by omega) h.cell
  · rw [decide_eq_false hp, Bool.false_and]
    exact has_out _ p w (by omega)

/-- What lies in memory while steps are gone. -/
structure TbSt (w wr : World) (G m : Nat) (lv : Value) (l : List Rn) : Prop where
  map : MapAt wr G m
  runs : RunsIs wr lv l
  both : Both m l
  old : Below w.heap.size w wr

theorem TbSt.later {w wr w' : World} {G m : Nat} {lv : Value} {l : List Rn} (h : TbSt w wr G m lv l) (hb : Below wr.heap.size wr w') : TbSt w w' G m lv l :=
  ⟨h.map.later hb, h.runs.later hb, h.both, Below.next h.old hb⟩

theorem TbSt.drew1 {w wr : World} {G m : Nat} {lv : Value} {l : List Rn} (h : TbSt w wr G m lv l) : TbSt w wr.drew G m lv l := h.later (undrew2 (Below.refl _ _))

set_option maxHeartbeats 8000000 in
set_option maxRecDepth 100000 in
theorem topBlocks_any (w : World) (v : Value) (p : Int) (rs : List (List Int)) (hr : RowsIs w v rs) :
    Calls Try.prog 6 #[v, .int .i64 p] w fun e w' => e = .returned (.bool true) ∧ Below w.heap.size w w' := by
  have HR : Hid (RowsIs w v rs) := hr
  obtain ⟨a, c, hv, hl, _⟩ := hr
  obtain ⟨n, hn⟩ : ∃ n, n = rs.length := ⟨_, rfl⟩
  rw [← hn] at hv hl
  unfold maxLen at hl
  subst hv
  clear hn
  have HA : Hid (tkAt 0 2 = 0 ∧ tkE 0 2 = 0 ∧ tkM 0 2 = 3 ∧ bitP 3 1 = true) := by show tkAt 0 2 = 0 ∧ tkE 0 2 = 0 ∧ tkM 0 2 = 3 ∧ bitP 3 1 = true; decide +kernel
  go_enter Try.func6, Try.ntmps6
  go_wp2_with fail
  refine (new_any _).mono ?_
  rintro e w1 ⟨rfl, rfl⟩
  have HM : Hid (MapAt (w.alloc (.cells #[.int .u32 0] 56)) w.heap.size 0) := map_new w
  have HL : Hid (Below w.heap.size w (w.alloc (.cells #[.int .u32 0] 56))) := below_alloc _ _
  generalize w.alloc (.cells #[.int .u32 0] 56) = w1 at HM HL ⊢
  go_wp2_with fail
  refine (take_any w.heap.size 0 2 _ HM.out).mono ?_
  rintro e w2 ⟨rfl, hm, hc⟩
  rw [HA.out.1, HA.out.2.1]
  rw [HA.out.2.2.1] at hm
  have HM2 : Hid (MapAt w2 w.heap.size 3) := hm
  have HL2 : Hid (Below w.heap.size w w2) := below_chg HL.out (Nat.le_refl _) hc
  rw [errV_zero]
  clear hm hc
  go_wp2_with fail
  refine (has_bits w.heap.size 3 1 _ HM2.out).mono ?_
  rintro e w3 ⟨rfl, rfl⟩
  rw [HA.out.2.2.2]
  go_wp2_with fail
  refine (new_any _).mono ?_
  rintro e w3 ⟨rfl, rfl⟩
  have HST : Hid (TbSt w (w2.alloc (.cells #[.int .u32 0] 56)) w2.heap.size 0 (.slice none 0 0) []) := ⟨map_new w2, runs_nil _, Both.start, Below.next HL2.out (below_alloc _ _)⟩
  have HGB : Hid (w.heap.size ≤ w2.heap.size) := HL2.out.size
  generalize w2.alloc (.cells #[.int .u32 0] 56) = w3 at HST ⊢
  generalize w2.heap.size = G at HST HGB ⊢
  clear HM HL HM2 HL2
  go_wp2
  go_loopw [4, 9, 10, 11, 12, 13, 14, 15, 16] (fun _ lv i _ _ _ _ _ _ wr => ∃ (k m : Nat) (l : List Rn), k ≤ 60 ∧ i = .int .i64 (k : Int) ∧ TbSt w wr G m lv l) (fun _ _ i _ _ _ _ _ _ _ => 60 - (intOf i).toNat)
  case atStart => exact ⟨0, 0, [], by omega, rfl, HST.out⟩
  case round =>
    obtain ⟨k, m, l, hk, rfl, hst⟩ := hrel
    have HS : Hid (TbSt w wr G m u9 l) := hst
    clear hst HST
    by_cases hlt : k < n
    · have hl1 : (k : Int) < (n : Int) := by omega
      by_cases hs : k < 60
      · have hs1 : (k : Int) < 60 := by omega
        obtain ⟨b, o, vk, ha, hbs, hck, hsk⟩ := HR.out.row k hlt
        subst ha
        have HK : Hid (∀ {w'}, Below w.heap.size w w' → w'.cell? ⟨b, o + k, none⟩ = some vk) := fun h => by rw [h.cell (p := ⟨b, o + k, none⟩) hbs]; exact hck
        have hc0 := HK.out HS.out.old
        clear hck
        by_cases h1 : (rowAt rs k).length = 1
        · obtain ⟨b1, o1, c1, hv1, hb1, hx⟩ := row_one hsk h1
          subst hv1
          have HX : Hid (∀ {w'}, Below w.heap.size w w' → w'.cell? ⟨b1, o1, none⟩ = some (.int .i64 (nth (rowAt rs k) 0))) := fun h => by rw [h.cell (p := ⟨b1, o1, none⟩) hb1]; exact hx
          have hx0 := HX.out HS.out.old
          clear hx h1 hsk
          generalize nth (rowAt rs k) 0 = x at HX hx0
          by_cases ht : tkE m x = 0
          · obtain ⟨j, hj, hj1, hj2⟩ : ∃ j : Nat, x = (j : Int) ∧ 1 ≤ j ∧ j ≤ 32 := by
              by_cases hx1 : 1 ≤ x ∧ x ≤ 32
              · exact ⟨x.toNat, by omega, by omega, by omega⟩
              · have := (tk_range (m := m) hx1).1
                omega
            subst hj
            obtain ⟨A, hA, t2, t3, t4⟩ : ∃ A : Nat, tkAt m (j : Int) = A ∧ tkM m (j : Int) = put m A j ∧ A + j ≤ 32 ∧ True := by
              rcases tk_in m j hj1 hj2 with ⟨h, _⟩ | ⟨_, h2, h3, _⟩
              · omega
              · exact ⟨_, rfl, h2, h3, trivial⟩
            have HT : Hid (tkE m (j : Int) = 0 ∧ tkAt m (j : Int) = A ∧ tkM m (j : Int) = put m A j) := ⟨ht, hA, t2⟩
            have HBo : Hid (chgE orB l ((A : Int), (j : Int)) = 0 ∧ Both (put m A j) (chgL orB l ((A : Int), (j : Int)))) := HS.out.both.add hj1 t3
            clear ht hA t2 t4
            go_wp2_with fail
            refine (take_any G m (j : Int) _ HS.out.map).mono ?_
            rintro e w4 ⟨rfl, hm, hc⟩
            rw [HT.out.2.2] at hm
            rw [HT.out.1, HT.out.2.1, errV_zero]
            have HM4 : Hid (MapAt w4 G (put m A j)) := hm
            have HR4 : Hid (RunsIs w4 u9 l) := HS.out.runs.chg HS.out.map hc
            have HB4 : Hid (Below w.heap.size w w4) := below_chg HS.out.old HGB.out hc
            have hc4 := HK.out HB4.out
            have hx4 := HX.out HB4.out
            clear hm hc hc0 hx0
            go_wp2_with fail
            refine (add_any _ _ l ((A : Int), (j : Int)) HR4.out).mono ?_
            rintro e w5 ⟨v5, rfl, hr5, hb5⟩
            rw [HBo.out.1, errV_zero]
            have HS5 : Hid (TbSt w w5 G (put m A j) v5 (chgL orB l ((A : Int), (j : Int)))) := ⟨HM4.out.later hb5, hr5, HBo.out.2, Below.next HB4.out hb5⟩
            have hc5 := HK.out HS5.out.old
            clear hr5 hb5 hc4 hx4
            go_wp2_with fail
            go_region
            go_wp2
            go_roundw
            case rel => exact ⟨k + 1, put m A j, chgL orB l ((A : Int), (j : Int)), by omega, by go_num, HS5.out.drew1⟩
            case measure => simp [intOf]; omega
          · have HE : Hid (errV (tkE m x) = .iface 52 (.int .i64 ((tkE m x : Nat) : Int))) := errV_pos ht
            have HTM : Hid (tkM m x = m) := by
              show tkM m x = m
              by_cases hx1 : 1 ≤ x ∧ x ≤ 32
              · obtain ⟨j, rfl⟩ : ∃ j : Nat, x = (j : Int) := ⟨x.toNat, by omega⟩
                rcases tk_in m j (by omega) (by omega) with ⟨_, _, h, _⟩ | ⟨h, _⟩
                · exact h
                · exact absurd h ht
              · exact (tk_range hx1).2.2
            clear ht
            go_wp2_with fail
            refine (take_any G m x _ HS.out.map).mono ?_
            rintro e w4 ⟨rfl, hm, hc⟩
            rw [HTM.out] at hm
            have HS4 : Hid (TbSt w w4 G m u9 l) := ⟨hm, HS.out.runs.chg HS.out.map hc, HS.out.both, below_chg HS.out.old HGB.out hc⟩
            have hc4 := HK.out HS4.out.old
            rw [HE.out]
            generalize ((tkE m x : Nat) : Int) = z
            generalize ((tkAt m x : Nat) : Int) = at1
            clear hm hc hc0 hx0
            go_wp2_with fail
            go_region
            go_wp2
            go_roundw
            case rel => exact ⟨k + 1, m, l, by omega, by go_num, HS4.out.drew1⟩
            case measure => simp [intOf]; omega
        · by_cases h2 : (rowAt rs k).length = 2
          · obtain ⟨b1, o1, c1, hv1, hb1, hx, hy⟩ := row_two hsk h2
            subst hv1
            have HX : Hid (∀ {w'}, Below w.heap.size w w' → w'.cell? ⟨b1, o1, none⟩ = some (.int .i64 (nth (rowAt rs k) 0))) := fun h => by rw [h.cell (p := ⟨b1, o1, none⟩) hb1]; exact hx
            have HY : Hid (∀ {w'}, Below w.heap.size w w' → w'.cell? ⟨b1, o1 + 1, none⟩ = some (.int .i64 (nth (rowAt rs k) 1))) := fun h => by rw [h.cell (p := ⟨b1, o1 + 1, none⟩) hb1]; exact hy
            have hx0 := HX.out HS.out.old
            have hy0 := HY.out HS.out.old
            clear hx hy h1 h2 hsk
            generalize nth (rowAt rs k) 0 = x at HX hx0
            generalize nth (rowAt rs k) 1 = y at HY hy0
            by_cases ht : bkE m x y = 0
            · obtain ⟨q, j, hq, hj, hj1, hj2⟩ : ∃ q j : Nat, x = (q : Int) ∧ y = (j : Int) ∧ 1 ≤ j ∧ q + j ≤ 32 := by
                by_cases hx1 : 1 ≤ y ∧ y ≤ 32 ∧ 0 ≤ x ∧ x ≤ 32 - y
                · exact ⟨x.toNat, y.toNat, by omega, by omega, by omega, by omega⟩
                · have := (bk_range (m := m) hx1).1
                  omega
              subst hq hj
              have t2 : bkM m (q : Int) (j : Int) = cut m q j := by
                rcases bk_in m q j hj1 hj2 with ⟨_, _, h⟩ | ⟨_, h, _⟩
                · exact h
                · omega
              have HT : Hid (bkE m (q : Int) (j : Int) = 0 ∧ bkM m (q : Int) (j : Int) = cut m q j) := ⟨ht, t2⟩
              have HBo : Hid (chgE cutB l ((q : Int), (j : Int)) = 0 ∧ Both (cut m q j) (chgL cutB l ((q : Int), (j : Int)))) := HS.out.both.cut HS.out.map.lt hj1 hj2
              clear ht t2
              go_wp2_with fail
              go_region_held3 (fun w' => w'.cell? ⟨b, o + k, none⟩ = some (.slice (some ⟨b1, o1, none⟩) 2 c1) ∧ w'.cell? ⟨b1, o1, none⟩ = some (.int .i64 (q : Int)) ∧ w'.cell? ⟨b1, o1 + 1, none⟩ = some (.int .i64 (j : Int)))
                (first | go_keep | (go_split_ands; exact ⟨HK.out HB4.out, HX.out HB4.out, HY.out HB4.out⟩))
                (first | (go_at_call 18; refine (back_any G m (q : Int) (j : Int) _ HS.out.drew1.map).mono ?_; rintro e w4 ⟨rfl, hm, hc⟩; rw [HT.out.2] at hm; rw [HT.out.1, errV_zero]; have HB4 : Hid (Below w.heap.size w w4) := below_chg HS.out.drew1.old HGB.out hc))
              have HM4 : Hid (MapAt w4 G (cut m q j)) := hm
              have HR4 : Hid (RunsIs w4 u9 l) := HS.out.drew1.runs.chg HS.out.drew1.map hc
              have hc4 := HK.out HB4.out
              have hx4 := HX.out HB4.out
              have hy4 := HY.out HB4.out
              clear hm hc hc0 hx0 hy0
              go_wp2_with fail
              go_region_held3 (fun w' => w'.cell? ⟨b, o + k, none⟩ = some (.slice (some ⟨b1, o1, none⟩) 2 c1) ∧ w'.cell? ⟨b1, o1, none⟩ = some (.int .i64 (q : Int)) ∧ w'.cell? ⟨b1, o1 + 1, none⟩ = some (.int .i64 (j : Int)))
                (first | go_keep | (go_split_ands; exact ⟨HK.out HB5.out, HX.out HB5.out, HY.out HB5.out⟩))
                (first | (go_at_call 11; refine (cut_any _ _ l ((q : Int), (j : Int)) (HR4.out.later (undrew2 (Below.refl _ _)))).mono ?_; rintro e w5 ⟨v5, rfl, hr5, hb5⟩; rw [HBo.out.1, errV_zero]; have HB5 : Hid (Below w.heap.size w w5) := Below.next HB4.out (undrew1 hb5)))
              have HS5 : Hid (TbSt w w5 G (cut m q j) v5 (chgL cutB l ((q : Int), (j : Int)))) := ⟨HM4.out.later (undrew1 hb5), hr5, HBo.out.2, HB5.out⟩
              clear hr5 hb5 hc4 hx4 hy4
              go_wp2
              go_roundw
              case rel => exact ⟨k + 1, cut m q j, chgL cutB l ((q : Int), (j : Int)), by omega, by go_num, HS5.out⟩
              case measure => simp [intOf]; omega
            · have HE : Hid (errV (bkE m x y) = .iface 52 (.int .i64 ((bkE m x y : Nat) : Int))) := errV_pos ht
              have HTM : Hid (bkM m x y = m) := by
                show bkM m x y = m
                by_cases hx1 : 1 ≤ y ∧ y ≤ 32 ∧ 0 ≤ x ∧ x ≤ 32 - y
                · obtain ⟨j, rfl⟩ : ∃ j : Nat, y = (j : Int) := ⟨y.toNat, by omega⟩
                  obtain ⟨q, rfl⟩ : ∃ q : Nat, x = (q : Int) := ⟨x.toNat, by omega⟩
                  rcases bk_in m q j (by omega) (by omega) with ⟨_, h, _⟩ | ⟨_, _, h⟩
                  · exact absurd h ht
                  · exact h
                · exact (bk_range hx1).2
              clear ht
              go_wp2_with fail
              go_region_held3 (fun w' => w'.cell? ⟨b, o + k, none⟩ = some (.slice (some ⟨b1, o1, none⟩) 2 c1) ∧ w'.cell? ⟨b1, o1, none⟩ = some (.int .i64 x) ∧ w'.cell? ⟨b1, o1 + 1, none⟩ = some (.int .i64 y))
                (first | go_keep | (go_split_ands; exact ⟨HK.out HB4.out, HX.out HB4.out, HY.out HB4.out⟩))
                (first | (go_at_call 18; refine (back_any G m x y _ HS.out.drew1.map).mono ?_; rintro e w4 ⟨rfl, hm, hc⟩; rw [HTM.out] at hm; rw [HE.out]; have HB4 : Hid (Below w.heap.size w w4) := below_chg HS.out.drew1.old HGB.out hc))
              have HS4 : Hid (TbSt w w4 G m u9 l) := ⟨hm, HS.out.drew1.runs.chg HS.out.drew1.map hc, HS.out.both, HB4.out⟩
              generalize ((bkE m x y : Nat) : Int) = z
              clear hm hc hc0 hx0 hy0
              go_wp2
              go_roundw
              case rel => exact ⟨k + 1, m, l, by omega, by go_num, HS4.out⟩
              case measure => simp [intOf]; omega
          · obtain ⟨a1, c1, hv1, _, _⟩ := hsk
            subst hv1
            generalize (rowAt rs k).length = z at h1 h2 hc0 HK
            have h1' : ((z : Int) == 1) = false := by simp; omega
            have h2' : ((z : Int) == 2) = false := by simp; omega
            go_wp2_with fail
            go_region
            go_wp2
            go_roundw
            case rel => exact ⟨k + 1, m, l, by omega, by go_num, HS.out.drew1⟩
            case measure => simp [intOf]; omega
      · have hs1 : ¬ (k : Int) < 60 := by omega
        go_wp2_with fail
        refine (has_any _ _ l p HS.out.runs).mono ?_
        rintro e w4 ⟨rfl, hb4⟩
        rw [HS.out.both.ok, errV_zero, HS.out.both.mem]
        have HS4 : Hid (TbSt w w4 G m u9 l) := HS.out.later hb4
        clear hb4
        rw [show (decide ((0 : Nat) = 0) && bitP m p) = bitP m p by simp]
        go_wp2_with fail
        refine (size_any _ _ l HS4.out.runs).mono ?_
        rintro e w5 ⟨rfl, hb5⟩
        rw [HS4.out.both.ok, errV_zero, if_pos rfl, HS4.out.both.size]
        have HS5 : Hid (TbSt w w5 G m u9 l) := HS4.out.later hb5
        clear hb5
        go_wp2_with fail
        refine (free_any G m _ HS5.out.map).mono ?_
        rintro e w6 ⟨rfl, q6, rfl⟩
        have HS6 : Hid (TbSt w (w5.drewN q6) G m u9 l) := HS5.out.later (below_drew _ _ _)
        have hcl := cnt_le m 32
        generalize cnt m 32 = C at hcl ⊢
        generalize ms m 32 = D
        have hcc : ((C : Int) == 32 - (32 - (C : Int))) = true := by simp; omega
        go_wp2_with fail
        refine (has_bits G m p _ HS6.out.map).mono ?_
        rintro e w7 ⟨rfl, rfl⟩
        generalize bitP m p = B
        have hBB : (B == B) = true := by simp
        go_wp2
        go_ret
        exact ⟨rfl, HS6.out.old⟩
    · have hl1 : ¬ (k : Int) < (n : Int) := by omega
      go_wp2_with fail
      refine (has_any _ _ l p HS.out.runs).mono ?_
      rintro e w4 ⟨rfl, hb4⟩
      rw [HS.out.both.ok, errV_zero, HS.out.both.mem]
      have HS4 : Hid (TbSt w w4 G m u9 l) := HS.out.later hb4
      clear hb4
      rw [show (decide ((0 : Nat) = 0) && bitP m p) = bitP m p by simp]
      go_wp2_with fail
      refine (size_any _ _ l HS4.out.runs).mono ?_
      rintro e w5 ⟨rfl, hb5⟩
      rw [HS4.out.both.ok, errV_zero, if_pos rfl, HS4.out.both.size]
      have HS5 : Hid (TbSt w w5 G m u9 l) := HS4.out.later hb5
      clear hb5
      go_wp2_with fail
      refine (free_any G m _ HS5.out.map).mono ?_
      rintro e w6 ⟨rfl, q6, rfl⟩
      have HS6 : Hid (TbSt w (w5.drewN q6) G m u9 l) := HS5.out.later (below_drew _ _ _)
      have hcl := cnt_le m 32
      generalize cnt m 32 = C at hcl ⊢
      generalize ms m 32 = D
      have hcc : ((C : Int) == 32 - (32 - (C : Int))) = true := by simp; omega
      go_wp2_with fail
      refine (has_bits G m p _ HS6.out.map).mono ?_
      rintro e w7 ⟨rfl, rfl⟩
      generalize bitP m p = B
      have hBB : (B == B) = true := by simp
      go_wp2
      go_ret
      exact ⟨rfl, HS6.out.old⟩

end Go.Proofs.Ytihefpnagdacpaa
