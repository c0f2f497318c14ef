/- This text proves that platterholdlaw1.bitmapFact returns true, and that platterholdlaw1.taken returns a map of its own; all old memory is as it was; the only condition is that the rows lie there. -/
import Derived.Test.YtgkmgcmppkdbgaaDoorV3
import Derived.Deep.RegionHeld3
namespace Go.Proofs.YtgkmgcmppkdbgaaDoor
open Go.RowKit Go.Deep

theorem MapAt.drew1 {w : World} {g m : Nat} (h : MapAt w g m) : MapAt w.drew g m := ⟨h.blk, h.lt⟩
theorem below_drew1 (B : Nat) (w : World) : Below B w w.drew := ⟨rfl, rfl, rfl, Nat.le_refl _, fun _ _ => rfl⟩
theorem below_chg {B g : Nat} {a w w' : World} (h : Below B a w) (hB : B ≤ g) (hc : Chg g w w') : Below B a w' := h.trans (hc.below hB)

set_option maxHeartbeats 4000000 in
set_option maxRecDepth 100000 in
theorem bitmapFact_any (w : World) :
    Calls Tryd.prog 6 #[] w fun e w' => e = .returned (.bool true) ∧ Below w.heap.size w w' := by
  have HA : Hid (tkAt 0 3 = 0 ∧ tkE 0 3 = 0 ∧ tkM 0 3 = 7) := by show tkAt 0 3 = 0 ∧ tkE 0 3 = 0 ∧ tkM 0 3 = 7; decide +kernel
  have HB : Hid (tkAt 7 2 = 3 ∧ tkE 7 2 = 0 ∧ tkM 7 2 = 31) := by show tkAt 7 2 = 3 ∧ tkE 7 2 = 0 ∧ tkM 7 2 = 31; decide +kernel
  have HC : Hid (cnt 31 32 = 5 ∧ ms 31 32 = 27 ∧ Nat.testBit 31 4 = true ∧ Nat.testBit 31 5 = false) := by show cnt 31 32 = 5 ∧ ms 31 32 = 27 ∧ Nat.testBit 31 4 = true ∧ Nat.testBit 31 5 = false; decide +kernel
  go_enter Tryd.func6, Tryd.ntmps6
  go_wp2_with fail
  refine (new_any _).mono ?_
  rintro e w1 ⟨rfl, rfl⟩
  have HM : Hid (MapAt (w.alloc (.cells #[.int .u32 0] 46)) w.heap.size 0) := map_new w
  have HL : Hid (Below w.heap.size w (w.alloc (.cells #[.int .u32 0] 46))) := below_alloc _ _
  generalize w.alloc (.cells #[.int .u32 0] 46) = w1 at HM HL ⊢
  go_wp2_with fail
  refine (take_any w.heap.size 0 3 _ HM.out).mono ?_
  rintro e w2 ⟨rfl, hm, hc⟩
  rw [HA.out.1, HA.out.2.1]
  rw [HA.out.2.2] at hm
  have HM2 : Hid (MapAt w2 w.heap.size 7) := hm
  have HL2 : Hid (Below w.heap.size w w2) := below_chg HL.out (Nat.le_refl _) hc
  rw [errV_zero]
  clear hm hc
  go_wp2_with fail
  refine (take_any w.heap.size 7 2 _ HM2.out).mono ?_
  rintro e w3 ⟨rfl, hm, hc⟩
  rw [HB.out.1, HB.out.2.1]
  rw [HB.out.2.2] at hm
  have HM3 : Hid (MapAt w3 w.heap.size 31) := hm
  have HL3 : Hid (Below w.heap.size w w3) := below_chg HL2.out (Nat.le_refl _) hc
  rw [errV_zero]
  clear hm hc
  go_wp2_with fail
  refine (free_any w.heap.size 31 _ HM3.out).mono ?_
  rintro e w4 ⟨rfl, q, rfl⟩
  rw [HC.out.1, HC.out.2.1]
  go_wp2_with fail
  refine (has_in w.heap.size 31 4 _ HM3.out.lt (by decide) (HM3.out.drew q).cell).mono ?_
  rintro e w' ⟨rfl, rfl⟩
  rw [HC.out.2.2.1]
  go_wp2_with fail
  refine (has_in w.heap.size 31 5 _ HM3.out.lt (by decide) (HM3.out.drew q).cell).mono ?_
  rintro e w' ⟨rfl, rfl⟩
  rw [HC.out.2.2.2]
  go_wp2
  go_ret
  exact ⟨rfl, HL3.out.trans (below_drew _ _ _)⟩

/-- Where a row's slice lies. -/
theorem RowsIs.row {w : World} {a : Option Addr} {n c : Nat} {rs : List (List Int)} (h : RowsIs w (.slice a n c) rs) (i : Nat) (hi : i < n) :
    ∃ b o v, a = some ⟨b, o, none⟩ ∧ b < w.heap.size ∧ w.cell? ⟨b, o + i, none⟩ = some v ∧ SliceIs w v (rowAt rs i) := by
  obtain ⟨a', c', e, hl, hx⟩ := h
  cases e
  obtain ⟨b, o, ha, hb, hc⟩ := hx (fun e => by rw [e] at hi; simp at hi)
  obtain ⟨v, h1, h2⟩ := hc i hi
  exact ⟨b, o, v, ha, hb, h1, h2⟩

/-- A row of one number, and of two. -/
theorem row_one {w : World} {v : Value} {xs : List Int} (h : SliceIs w v xs) (hl : xs.length = 1) : ∃ b o c, v = .slice (some ⟨b, o, none⟩) 1 c ∧ b < w.heap.size ∧ w.cell? ⟨b, o, none⟩ = some (.int .i64 (nth xs 0)) := by
  obtain ⟨a, c, rfl, _, hx⟩ := h
  obtain ⟨b, o, ha, hb, hc⟩ := hx (fun e => by rw [e] at hl; simp at hl)
  subst ha
  exact ⟨b, o, c, by rw [hl], hb, hc 0 (by omega)⟩
theorem row_two {w : World} {v : Value} {xs : List Int} (h : SliceIs w v xs) (hl : xs.length = 2) : ∃ b o c, v = .slice (some ⟨b, o, none⟩) 2 c ∧ b < w.heap.size ∧ w.cell? ⟨b, o, none⟩ = some (.int .i64 (nth xs 0)) ∧ w.cell? ⟨b, o + 1, none⟩ = some (.int .i64 (nth xs 1)) := by
  obtain ⟨a, c, rfl, _, hx⟩ := h
  obtain ⟨b, o, ha, hb, hc⟩ := hx (fun e => by rw [e] at hl; simp at hl)
  subst ha
  exact ⟨b, o, c, by rw [hl], hb, hc 0 (by omega), hc 1 (by omega)⟩

set_option maxHeartbeats 8000000 in
set_option maxRecDepth 100000 in
theorem taken_any (w : World) (v : Value) (rs : List (List Int)) (hr : RowsIs w v rs) :
    Calls Tryd.prog 7 #[v] w fun e w' => e = .returned (.pointer (some ⟨w.heap.size, 0, none⟩)) ∧ Below w.heap.size w w' ∧ ∃ m, MapAt w' w.heap.size m := by
  have HR : Hid (RowsIs w v rs) := hr
  obtain ⟨a, c, hv, hl, _⟩ := hr
  obtain ⟨n, hn⟩ : ∃ n, n = rs.length := ⟨_, rfl⟩
  rw [← hn] at hv hl
  unfold maxLen at hl
  subst hv
  clear hn
  obtain ⟨G, hG⟩ : ∃ G, G = w.heap.size := ⟨_, rfl⟩
  go_enter Tryd.func7, Tryd.ntmps7
  go_wp2_with fail
  refine (new_any _).mono ?_
  rintro e w1 ⟨rfl, rfl⟩
  have HM : Hid (MapAt (w.alloc (.cells #[.int .u32 0] 46)) G 0) := by rw [hG]; exact map_new w
  have HL : Hid (Below G w (w.alloc (.cells #[.int .u32 0] 46))) := by rw [hG]; exact below_alloc _ _
  generalize w.alloc (.cells #[.int .u32 0] 46) = w1 at HM HL ⊢
  rw [← hG]
  have HG : Hid (G = w.heap.size) := hG
  clear hG
  go_wp2
  go_loopw [4] (fun i wr => ∃ k m : Nat, k ≤ 60 ∧ i = .int .i64 (k : Int) ∧ MapAt wr G m ∧ Below G w wr) (fun i _ => 60 - (intOf i).toNat)
  case atStart => exact ⟨0, 0, by omega, rfl, HM.out, HL.out⟩
  case round =>
    obtain ⟨k, m, hk, rfl, hm, hb⟩ := hrel
    have HMr : Hid (MapAt wr G m) := hm
    have HBr : Hid (Below G w wr) := hb
    clear hm hb
    by_cases hlt : k < n
    · have hl1 : (k : Int) < (n : Int) := by omega
      by_cases hs : k < 60
      · have hs1 : (k : Int) < 60 := by omega
        obtain ⟨b, o, vk, ha, hbs, hck, hsk⟩ := HR.out.row k hlt
        subst ha
        have hbl : ∀ {w'}, Below G w w' → w'.cell? ⟨b, o + k, none⟩ = some vk := fun h => by rw [h.cell (p := ⟨b, o + k, none⟩) (by rw [HG.out]; exact hbs)]; exact hck
        have HK : Hid (∀ {w'}, Below G w w' → w'.cell? ⟨b, o + k, none⟩ = some vk) := hbl
        have hc0 := HK.out HBr.out
        clear hck hbl
        by_cases h1 : (rowAt rs k).length = 1
        · obtain ⟨b1, o1, c1, hv1, hb1, hx⟩ := row_one hsk h1
          subst hv1
          have HX : Hid (∀ {w'}, Below G w w' → w'.cell? ⟨b1, o1, none⟩ = some (.int .i64 (nth (rowAt rs k) 0))) := fun h => by rw [h.cell (p := ⟨b1, o1, none⟩) (by rw [HG.out]; exact hb1)]; exact hx
          have hx0 := HX.out HBr.out
          clear hx h1 hsk
          generalize nth (rowAt rs k) 0 = x at HX hx0
          go_wp2_with fail
          refine (take_any G m x _ HMr.out).mono ?_
          rintro e w2 ⟨rfl, hm, hc⟩
          have HM2 : Hid (MapAt w2 G (tkM m x)) := hm
          have HB2 : Hid (Below G w w2) := below_chg HBr.out (Nat.le_refl _) hc
          have hc2 := HK.out HB2.out
          clear hm hc hc0 hx0
          go_wp2
          go_roundw
          case rel => exact ⟨k + 1, tkM m x, by omega, by go_num, HM2.out, HB2.out⟩
          case measure => simp [intOf]; omega
        · by_cases h2 : (rowAt rs k).length = 2
          · obtain ⟨b1, o1, c1, hv1, hb1, hx, hy⟩ := row_two hsk h2
            subst hv1
            have HX : Hid (∀ {w'}, Below G w w' → w'.cell? ⟨b1, o1, none⟩ = some (.int .i64 (nth (rowAt rs k) 0))) := fun h => by rw [h.cell (p := ⟨b1, o1, none⟩) (by rw [HG.out]; exact hb1)]; exact hx
            have HY : Hid (∀ {w'}, Below G w w' → w'.cell? ⟨b1, o1 + 1, none⟩ = some (.int .i64 (nth (rowAt rs k) 1))) := fun h => by rw [h.cell (p := ⟨b1, o1 + 1, none⟩) (by rw [HG.out]; exact hb1)]; exact hy
            have hx0 := HX.out HBr.out
            have hy0 := HY.out HBr.out
            clear hx hy h1 h2 hsk
            generalize nth (rowAt rs k) 0 = x at HX hx0
            generalize nth (rowAt rs k) 1 = y at HY hy0
            go_wp2_with fail
            go_region_held3 (fun w' => w'.cell? ⟨b, o + k, none⟩ = some (.slice (some ⟨b1, o1, none⟩) 2 c1) ∧ w'.cell? ⟨b1, o1, none⟩ = some (.int .i64 x) ∧ w'.cell? ⟨b1, o1 + 1, none⟩ = some (.int .i64 y))
              (first | go_keep | (go_split_ands; exact ⟨HK.out HBc.out, HX.out HBc.out, HY.out HBc.out⟩))
              (first | (go_at_call 13; refine (back_any G m x y _ HMr.out.drew1).mono ?_; rintro e w2 ⟨rfl, hm, hc⟩; have HBc : Hid (Below G w w2) := below_chg (HBr.out.trans (below_drew1 _ _)) (Nat.le_refl _) hc))
            have HM2 : Hid (MapAt w2 G (bkM m x y)) := hm
            clear hm hc hc0 hx0 hy0
            go_wp2
            go_roundw
            case rel => exact ⟨k + 1, bkM m x y, by omega, by go_num, HM2.out, HBc.out⟩
            case measure => simp [intOf]; omega
          · obtain ⟨a1, c1, hv1, _, _⟩ := hsk
            subst hv1
            generalize (rowAt rs k).length = z at h1 h2 hc0 HK
            go_wp2
            go_roundw
            case rel => exact ⟨k + 1, m, by omega, by go_num, HMr.out, HBr.out⟩
            case measure => simp [intOf]; omega
      · have hs1 : ¬ (k : Int) < 60 := by omega
        go_wp2
        go_ret
        exact ⟨by rw [← HG.out]; rfl, by rw [← HG.out]; exact HBr.out, m, by rw [← HG.out]; exact HMr.out⟩
    · have hl1 : ¬ (k : Int) < (n : Int) := by omega
      go_wp2
      go_ret
      exact ⟨by rw [← HG.out]; rfl, by rw [← HG.out]; exact HBr.out, m, by rw [← HG.out]; exact HMr.out⟩

end Go.Proofs.YtgkmgcmppkdbgaaDoor
