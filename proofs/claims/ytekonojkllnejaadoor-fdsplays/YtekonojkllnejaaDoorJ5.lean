/- This text proves what the law's opened returns: numbers with which something was done, that lie in memory of its own; old memory is as it was; the condition is that the rows lie there. -/
import Derived.Test.YtekonojkllnejaaDoorJ4
import Derived.Deep.RegionHeld3
namespace Go.Proofs.YtekonojkllnejaaDoor
open Go.RowKit Go.Deep

theorem below_drew1 (B : Nat) (w : World) : Below B w w.drew := ⟨rfl, rfl, rfl, Nat.le_refl _, fun _ _ => rfl⟩

/-- Where a row's slice lies. -/
theorem RowsIs.row {w : World} {a : Option Addr} {n c : Nat} {rs : List (List Int)} (h : RowsIs w (.slice a n c) rs) (i : Nat) (hi : i < n) :
    ∃ b o v, a = some ⟨b, o, none⟩ ∧ b < w.heap.size ∧ w.cell? ⟨b, o + i, none⟩ = some v ∧ SliceIs w v (rowAt rs i) := by
  obtain ⟨a', c', e, hl, hx⟩ := h
  cases e
  obtain ⟨b, o, ha, hb, hc⟩ := hx (fun e => by rw [e] at hi; simp at hi)
  obtain ⟨v, h1, h2⟩ := hc i hi
  exact ⟨b, o, v, ha, hb, h1, h2⟩
theorem row_some {w : World} {v : Value} {xs : List Int} {z : Nat} (h : SliceIs w v xs) (hl : xs.length = z) (hz : 0 < z) : ∃ b o c, v = .slice (some ⟨b, o, none⟩) z c ∧ b < w.heap.size ∧ w.cell? ⟨b, o, none⟩ = some (.int .i64 (nth xs 0)) ∧ (1 < z → w.cell? ⟨b, o + 1, none⟩ = some (.int .i64 (nth xs 1))) := by
  obtain ⟨a, c, rfl, _, hx⟩ := h
  obtain ⟨b, o, ha, hb, hc⟩ := hx (fun e => by rw [e] at hl; simp at hl; omega)
  subst ha
  exact ⟨b, o, c, by rw [hl], hb, hc 0 (by omega), fun h1 => hc 1 (by omega)⟩

/-- The numbers lie there, and old memory is as it was. -/
def OnT (w wr : World) (G : Nat) (F : Nat → Option Nat) (Z : Nat → Nat × Nat) : Prop := TabAt wr G G F Z ∧ Below G w wr
theorem OnT.stp {w wr w' : World} {G : Nat} {F F' : Nat → Option Nat} {Z Z' : Nat → Nat × Nat} (h : OnT w wr G F Z) (hs : Stp wr w' G G F F' Z') : OnT w w' G F' Z' := ⟨hs.at', h.2.trans (hs.below h.1)⟩
theorem OnT.drew1 {w wr : World} {G : Nat} {F : Nat → Option Nat} {Z : Nat → Nat × Nat} (h : OnT w wr G F Z) : OnT w wr.drew G F Z := ⟨h.1.later (below_drew1 _ _), h.2.trans (below_drew1 _ _)⟩

set_option maxHeartbeats 8000000 in
set_option maxRecDepth 100000 in
theorem did_any (w : World) (v : Value) (rs : List (List Int)) (hr : RowsIs w v rs) :
    Calls Tryd.prog 6 #[v] w fun e w' => e = .returned (.pointer (some ⟨w.heap.size, 0, none⟩)) ∧ ∃ F Z, OnT w w' w.heap.size F Z := by
  have HR : Hid (RowsIs w v rs) := hr
  obtain ⟨a, c, hv, hl, _⟩ := hr
  obtain ⟨n, hn⟩ : ∃ n, n = rs.length := ⟨_, rfl⟩
  rw [← hn] at hv hl
  unfold maxLen at hl
  subst hv
  clear hn
  obtain ⟨G, hG⟩ : ∃ G, G = w.heap.size := ⟨_, rfl⟩
  go_enter Tryd.func6, Tryd.ntmps6
  go_wp2_with fail
  refine (new_any _).mono ?_
  rintro e w1 ⟨rfl, hT, hb⟩
  have HS : Hid (OnT w w1 G (fun _ => none) (fun _ => (0, 0))) := by rw [hG]; exact ⟨hT, hb⟩
  rw [← hG]
  have HG : Hid (G = w.heap.size) := hG
  clear hG hT hb
  go_wp2
  go_loopw [4] (fun i wr => ∃ k F Z, k ≤ 60 ∧ i = .int .i64 ((k : Nat) : Int) ∧ OnT w wr G F Z) (fun i _ => 60 - (intOf i).toNat)
  case atStart => exact ⟨0, _, _, by omega, rfl, HS.out⟩
  case round =>
    obtain ⟨k, F, Z, hk, rfl, hst⟩ := hrel
    have ST : Hid (OnT w wr G F Z) := hst
    clear hst
    by_cases hlt : k < n
    · have hl1 : (k : Int) < (n : Int) := by omega
      by_cases hs : k < 60
      · have hs1 : (k : Int) < 60 := by omega
        obtain ⟨b, o, vk, ha, hbs, hck, hsk⟩ := HR.out.row k hlt
        subst ha
        have hbl : ∀ {w'}, Below G w w' → w'.cell? ⟨b, o + k, none⟩ = some vk := fun h => by rw [h.cell (p := ⟨b, o + k, none⟩) (by rw [HG.out]; exact hbs)]; exact hck
        have HK : Hid (∀ {w'}, Below G w w' → w'.cell? ⟨b, o + k, none⟩ = some vk) := hbl
        have hc0 := HK.out ST.out.2
        obtain ⟨z, hz⟩ : ∃ z, (rowAt rs k).length = z := ⟨_, rfl⟩
        clear hck hbl
        by_cases h0 : 1 ≤ z ∧ z ≤ 4
        · obtain ⟨b1, o1, c1, hv1, hb1, hx, hy⟩ := row_some hsk hz (by omega)
          subst hv1
          have HX : Hid (∀ {w'}, Below G w w' → w'.cell? ⟨b1, o1, none⟩ = some (.int .i64 (nth (rowAt rs k) 0))) := fun h => by rw [h.cell (p := ⟨b1, o1, none⟩) (by rw [HG.out]; exact hb1)]; exact hx
          have HY : Hid (1 < z → ∀ {w'}, Below G w w' → w'.cell? ⟨b1, o1 + 1, none⟩ = some (.int .i64 (nth (rowAt rs k) 1))) := fun h1 w' h => by rw [h.cell (p := ⟨b1, o1 + 1, none⟩) (by rw [HG.out]; exact hb1)]; exact hy h1
          have hx0 := HX.out ST.out.2
          clear hx hy hsk hz
          generalize nth (rowAt rs k) 0 = x at HX hx0
          generalize nth (rowAt rs k) 1 = y at HY
          rcases (show z = 1 ∨ z = 2 ∨ z = 3 ∨ z = 4 by omega) with rfl | rfl | rfl | rfl
          · clear h0 HY
            go_wp2_with fail
            refine (open_any _ G G F Z ST.out.1 x).mono ?_
            rintro e w2 ⟨rfl, hs2⟩
            have ST2 : Hid (OnT w w2 G _ _) := ST.out.stp hs2
            clear hs2 hc0 hx0
            go_wp2
            go_roundw
            case rel => exact ⟨k + 1, _, _, by omega, by go_num, ST2.out⟩
            case measure => simp [intOf]; omega
          · clear h0 HY
            go_wp2_with fail
            refine (dup_any _ G G F Z ST.out.1 x).mono ?_
            rintro e w2 ⟨rfl, hs2⟩
            have ST2 : Hid (OnT w w2 G _ _) := ST.out.stp hs2
            clear hs2 hc0 hx0
            go_wp2
            go_roundw
            case rel => exact ⟨k + 1, _, _, by omega, by go_num, ST2.out⟩
            case measure => simp [intOf]; omega
          · clear h0 HY
            go_wp2_with fail
            refine (close_stp _ G G F Z ST.out.1 x).mono ?_
            rintro e w2 ⟨rfl, hs2⟩
            have ST2 : Hid (OnT w w2 G _ _) := ST.out.stp hs2
            clear hs2 hc0 hx0
            go_wp2
            go_roundw
            case rel => exact ⟨k + 1, _, _, by omega, by go_num, ST2.out⟩
            case measure => simp [intOf]; omega
          · have HY : Hid (∀ {w'}, Below G w w' → w'.cell? ⟨b1, o1 + 1, none⟩ = some (.int .i64 y)) := HY.out (by decide)
            have hy0 := HY.out ST.out.2
            clear h0
            go_wp2_with fail
            go_region_held3 (fun w' => w'.cell? ⟨b, o + k, none⟩ = some (.slice (some ⟨b1, o1, none⟩) 4 c1) ∧ w'.cell? ⟨b1, o1, none⟩ = some (.int .i64 x) ∧ w'.cell? ⟨b1, o1 + 1, none⟩ = some (.int .i64 y))
              (first | go_keep | (go_split_ands; exact ⟨HK.out ST2.out.2, HX.out ST2.out.2, HY.out ST2.out.2⟩))
              (first | (go_at_call 20; refine (move_any _ G G F Z ST.out.drew1.1 x y).mono ?_; rintro e w2 ⟨rfl, hs2⟩; have ST2 : Hid (OnT w w2 G _ _) := ST.out.drew1.stp hs2))
            clear hs2 hc0 hx0 hy0
            go_wp2
            go_roundw
            case rel => exact ⟨k + 1, _, _, by omega, by go_num, ST2.out⟩
            case measure => simp [intOf]; omega
        · obtain ⟨a1, c1, hv1, _, _⟩ := hsk
          rw [hz] at hv1
          subst hv1
          have n1 : ¬ z = 1 := by omega
          have n2 : ¬ z = 2 := by omega
          have n3 : ¬ z = 3 := by omega
          have n4 : ¬ z = 4 := by omega
          clear h0 hz
          go_wp2
          go_roundw
          case rel => exact ⟨k + 1, _, _, by omega, by go_num, ST.out⟩
          case measure => simp [intOf]; omega
      · have hs1 : ¬ (k : Int) < 60 := by omega
        go_wp2
        go_ret
        exact ⟨by rw [← HG.out]; rfl, F, Z, by rw [← HG.out]; exact ST.out⟩
    · have hl1 : ¬ (k : Int) < (n : Int) := by omega
      go_wp2
      go_ret
      exact ⟨by rw [← HG.out]; rfl, F, Z, by rw [← HG.out]; exact ST.out⟩

set_option maxHeartbeats 8000000 in
set_option maxRecDepth 100000 in
theorem fact_any (w : World) : Calls Tryd.prog 5 #[] w fun e w' => e = .returned (.bool true) ∧ Below w.heap.size w w' := by
  obtain ⟨G, hG⟩ : ∃ G, G = w.heap.size := ⟨_, rfl⟩
  go_enter Tryd.func5, Tryd.ntmps5
  go_wp2_with fail
  refine (new_any _).mono ?_
  rintro e w1 ⟨rfl, hT, hb⟩
  have ST : Hid (OnT w w1 G (fun _ => none) (fun _ => (0, 0))) := by rw [hG]; exact ⟨hT, hb⟩
  rw [← hG]
  have HG : Hid (G = w.heap.size) := hG
  clear hG hT hb
  go_wp2_with fail
  refine (open_any _ G G _ _ ST.out.1 9).mono ?_
  rintro e w2 ⟨rfl, hs2⟩
  have ST2 : Hid (OnT w w2 G _ _) := ST.out.stp hs2
  generalize hQ : w1.heap.size = q at hs2 ST2
  have HF2 : onF (fun _ => none) 9 q = upd (fun _ => none) 0 (some q) := rfl
  have HZ2 : onZ (fun _ => (0, 0)) 9 q = upd (fun _ => (0, 0)) q (9, 0) := rfl
  rw [HF2, HZ2] at ST2
  rw [show onN (fun _ => none) 9 = 0 from rfl, show onE (fun _ => none) 9 = 0 from rfl, errV_zero]
  clear hs2 HF2 HZ2 hQ
  go_wp2_with fail
  refine (dup_any _ G G _ _ ST2.out.1 0).mono ?_
  rintro e w3 ⟨rfl, hs3⟩
  have ST3 : Hid (OnT w w3 G _ _) := ST2.out.stp hs3
  rw [show dpN (upd (fun _ => none) 0 (some q)) 0 = 1 from rfl, show dpE (upd (fun _ => none) 0 (some q)) 0 = 0 from rfl, errV_zero]
  rw [show dpF (upd (fun _ => none) 0 (some q)) 0 = upd (upd (fun _ => none) 0 (some q)) 1 (some q) from rfl] at ST3
  clear hs3
  go_wp2_with fail
  refine (move_any _ G G _ _ ST3.out.1 1 4).mono ?_
  rintro e w4 ⟨rfl, hs4⟩
  have ST4 : Hid (OnT w w4 G _ _) := ST3.out.stp hs4
  have hz : upd (fun _ => (0, 0)) q (9, 0) q = ((9, 0) : Nat × Nat) := upd_self _ _ _
  have hf1 : fo (upd (upd (fun _ => none) 0 (some q)) 1 (some q)) 1 = some q := rfl
  have hf0 : fo (upd (upd (fun _ => none) 0 (some q)) 1 (some q)) 0 = some q := rfl
  have e1 : mvN (upd (upd (fun _ => none) 0 (some q)) 1 (some q)) (upd (fun _ => (0, 0)) q (9, 0)) 1 4 = 4 := by unfold mvN; rw [hf1]; simp only [hz]; rfl
  have e2 : mvE (upd (upd (fun _ => none) 0 (some q)) 1 (some q)) (upd (fun _ => (0, 0)) q (9, 0)) 1 4 = 0 := by unfold mvE; rw [hf1]; simp only [hz]; rfl
  have e3 : mvZ (upd (upd (fun _ => none) 0 (some q)) 1 (some q)) (upd (fun _ => (0, 0)) q (9, 0)) 1 4 = upd (upd (fun _ => (0, 0)) q (9, 0)) q (9, 4) := by unfold mvZ; rw [hf1]; simp only [hz]; rfl
  have HE : Hid (atZ (upd (upd (fun _ => none) 0 (some q)) 1 (some q)) (upd (upd (fun _ => (0, 0)) q (9, 0)) q (9, 4)) 0 = 4) := by
    show atZ (upd (upd (fun _ => none) 0 (some q)) 1 (some q)) (upd (upd (fun _ => (0, 0)) q (9, 0)) q (9, 4)) 0 = 4
    rw [atZ_some hf0, upd_self]; rfl
  rw [e3] at ST4
  rw [e1, e2, errV_zero]
  clear hs4 hz hf1 hf0 e1 e2 e3
  go_wp2_with (go_at_call 7; refine (at_any _ G G _ _ ST4.out.1 0).mono ?_; rintro e w5 ⟨rfl, rfl⟩; rw [HE.out])
  go_ret
  exact ⟨rfl, by rw [← HG.out]; exact ST4.out.2⟩

end Go.Proofs.YtekonojkllnejaaDoor
