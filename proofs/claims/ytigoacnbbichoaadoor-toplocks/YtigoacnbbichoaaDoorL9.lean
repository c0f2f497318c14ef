/- This text proves what the law's lockOf and locked return: the lock that a row tells, and a table with which something was done, that lies in memory of its own; old memory is as it was; the conditions: the rows lie there, and their numbers fit their kind. -/
import Derived.Test.YtigoacnbbichoaaDoorL8
namespace Go.Proofs.YtigoacnbbichoaaDoor
open Go.RowKit Go.Deep

/-- Rows whose numbers fit their kind. -/
def RowsW (w : World) (v : Value) (rs : List (List Int)) : Prop := RowsIs w v rs ∧ ∀ i j, i < rs.length → j < (rowAt rs i).length → Fit (nth (rowAt rs i) j)

/-- Where a row's slice lies. -/
theorem RowsIs.row {w : World} {a : Option Addr} {n c : Nat} {rs : List (List Int)} (h : RowsIs w (.slice a n c) rs) (i : Nat) (hi : i < n) :
    ∃ b o v, a = some ⟨b, o, none⟩ ∧ b < w.heap.size ∧ w.cell? ⟨b, o + i, none⟩ = some v ∧ SliceIs w v (rowAt rs i) := by
  obtain ⟨a', c', e, hl, hx⟩ := h
  cases e
  obtain ⟨b, o, ha, hb, hc⟩ := hx (fun e => by rw [e] at hi; simp at hi)
  obtain ⟨v, h1, h2⟩ := hc i hi
  exact ⟨b, o, v, ha, hb, h1, h2⟩
theorem row_three {w : World} {v : Value} {xs : List Int} {z : Nat} (h : SliceIs w v xs) (hl : xs.length = z) (hz : 3 ≤ z) :
    ∃ b o c, v = .slice (some ⟨b, o, none⟩) z c ∧ b < w.heap.size ∧ w.cell? ⟨b, o, none⟩ = some (.int .i64 (nth xs 0)) ∧ w.cell? ⟨b, o + 1, none⟩ = some (.int .i64 (nth xs 1)) ∧ w.cell? ⟨b, o + 2, none⟩ = some (.int .i64 (nth xs 2)) := by
  obtain ⟨a, c, rfl, _, hx⟩ := h
  obtain ⟨b, o, ha, hb, hc⟩ := hx (fun e => by rw [e] at hl; simp at hl; omega)
  subst ha
  exact ⟨b, o, c, by rw [hl], hb, hc 0 (by omega), hc 1 (by omega), hc 2 (by omega)⟩

theorem results_cell1 {fn : Func} {p : Tmp} {ty : TypeId} (h : fn.results = #[.cell p ty]) (tmps : Array Value) (P : Program) (w : World) :
    (results fn tmps).run P w = ((asAddr (tmps.getD p undef)).run P w).andThen fun a w₁ => (loadVar ty a).run P w₁ := by
  simp only [results, h]
  simp [Sem.run_bind, Result.andThen]

set_option maxHeartbeats 4000000 in
set_option maxRecDepth 100000 in
theorem lockOf_any (w : World) (v : Value) (xs : List Int) (z : Nat) (h : SliceIs w v xs) (hl : xs.length = z) (hz : 3 ≤ z) :
    Calls Tryd.prog 20 #[v] w fun e w' => e = .returned (lkV (nth xs 0) (nth xs 1) (nth xs 2) (z == 4)) ∧ Below w.heap.size w w' := by
  obtain ⟨b, o, c, rfl, hb, c0, c1, c2⟩ := row_three h hl hz
  unfold lkV
  generalize nth xs 0 = x0 at c0 ⊢
  generalize nth xs 1 = x1 at c1 ⊢
  generalize nth xs 2 = x2 at c2 ⊢
  obtain ⟨B, hB⟩ : ∃ B, ((z : Int) == 4) = B := ⟨_, rfl⟩
  have HB : Hid ((z == 4) = B) := by
    show _ = _
    rw [← hB]
    by_cases e : z = 4
    · subst e; rfl
    · rw [show (z == 4) = false by simp [e]]; symm; simp; omega
  rw [HB.out]
  have hz0 : 0 < z := by omega
  have hz1 : (1 : Int) < (z : Int) := by omega
  have hz2 : (2 : Int) < (z : Int) := by omega
  have HK : Hid (∀ w', Below w.heap.size w w' → w'.cell? ⟨b, o, none⟩ = some (.int .i64 x0) ∧ w'.cell? ⟨b, o + 1, none⟩ = some (.int .i64 x1) ∧ w'.cell? ⟨b, o + 2, none⟩ = some (.int .i64 x2)) := fun w' h =>
    ⟨by rw [h.cell (p := ⟨b, o, none⟩) hb]; exact c0, by rw [h.cell (p := ⟨b, o + 1, none⟩) hb]; exact c1, by rw [h.cell (p := ⟨b, o + 2, none⟩) hb]; exact c2⟩
  go_enter Tryd.func20, Tryd.ntmps20
  go_wp2_with fail
  go_region_held3 (fun w' => w'.cell? ⟨b, o, none⟩ = some (.int .i64 x0) ∧ w'.cell? ⟨b, o + 1, none⟩ = some (.int .i64 x1) ∧ w'.cell? ⟨b, o + 2, none⟩ = some (.int .i64 x2))
    (first | go_keep)
    (fail)
  go_wp2
  refine bodyPost_ret (v := .agg #[.int .i64 x0, .int .i64 x1, .int .i64 x2, .bool B]) ?_ rfl ?_
  · rw [results_cell1 rfl]
    go_simp
  · exact ⟨rfl, Below.next (below_one _ _) (below_drew1 _ _)⟩

/-- A table in memory of its own, and old memory is as it was. -/
def OnT (w wr : World) (G : Nat) (S : Nat → Nat) : Prop := TabAt wr G S ∧ Good S ∧ Below G w wr
theorem OnT.tch {w wr w' : World} {G : Nat} {S S' : Nat → Nat} (h : OnT w wr G S) (ht : TabAt w' G S') (hg : Good S') (hc : Tch G wr w') : OnT w w' G S' :=
  ⟨ht, hg, h.2.2.trans (hc.below (Nat.le_refl _) (Nat.le_of_lt h.1.lt))⟩
theorem OnT.later {w wr w' : World} {G : Nat} {S : Nat → Nat} (h : OnT w wr G S) (hb : Below wr.heap.size wr w') : OnT w w' G S :=
  ⟨h.1.later hb, h.2.1, h.2.2.trans (hb.mono (Nat.le_of_lt h.1.lt))⟩

set_option maxHeartbeats 8000000 in
set_option maxRecDepth 100000 in
theorem locked_any (w : World) (v : Value) (rs : List (List Int)) (hr : RowsW w v rs) :
    Calls Tryd.prog 8 #[v] w fun e w' => e = .returned (.pointer (some ⟨w.heap.size, 0, none⟩)) ∧ ∃ S, OnT w w' w.heap.size S := by
  have HR : Hid (RowsIs w v rs) := hr.1
  have HFt : Hid _ := hr.2
  obtain ⟨a, c, hv, hl, _⟩ := hr.1
  obtain ⟨n, hn⟩ : ∃ n, n = rs.length := ⟨_, rfl⟩
  rw [← hn] at hv hl HFt
  unfold maxLen at hl
  subst hv
  clear hn hr
  obtain ⟨G, hG⟩ : ∃ G, G = w.heap.size := ⟨_, rfl⟩
  go_enter Tryd.func8, Tryd.ntmps8
  go_wp2_with fail
  refine (new_tab _).mono ?_
  rintro e w1 ⟨rfl, hT, hb⟩
  have HS : Hid (OnT w w1 G nS) := by rw [hG]; exact ⟨hT, good_n, hb⟩
  rw [← hG]
  have HG : Hid (G = w.heap.size) := hG
  clear hG hT hb
  go_wp2
  go_loopw [4] (fun i wr => ∃ k S, k ≤ 40 ∧ i = .int .i64 ((k : Nat) : Int) ∧ OnT w wr G S) (fun i _ => 40 - (intOf i).toNat)
  case atStart => exact ⟨0, _, by omega, rfl, HS.out⟩
  case round =>
    obtain ⟨k, S, hk, rfl, hst⟩ := hrel
    have ST : Hid (OnT w wr G S) := hst
    clear hst HS
    by_cases hlt : k < n
    · have hl1 : (k : Int) < (n : Int) := by omega
      by_cases hs : k < 40
      · have hs1 : (k : Int) < 40 := by omega
        obtain ⟨b, o, vk, ha, hbs, hck, hsk⟩ := HR.out.row k hlt
        subst ha
        have HK : Hid (∀ {w'}, Below G w w' → w'.cell? ⟨b, o + k, none⟩ = some vk) := fun h => by rw [h.cell (p := ⟨b, o + k, none⟩) (by rw [HG.out]; exact hbs)]; exact hck
        have hc0 := HK.out ST.out.2.2
        obtain ⟨z, hz⟩ : ∃ z, (rowAt rs k).length = z := ⟨_, rfl⟩
        clear hck
        by_cases h0 : 3 ≤ z ∧ z ≤ 5
        · have hfit : Fit (nth (rowAt rs k) 1) := HFt.out k 1 hlt (by omega)
          have HLo : Hid _ := fun (w' : World) (hb : Below G w w') => lockOf_any w' vk (rowAt rs k) z (hsk.later (by rw [← HG.out]; exact hb)) hz (by omega)
          have HSe : Hid _ := fun (w' : World) (h : OnT w w' G S) => set_any w' G S (nth (rowAt rs k) 0) (nth (rowAt rs k) 1) (nth (rowAt rs k) 2) (z == 4) h.1 h.2.1.bd hfit
          have HFr : Hid _ := fun (w' : World) (h : OnT w w' G S) => free_any w' G S (nth (rowAt rs k) 0) (nth (rowAt rs k) 1) (nth (rowAt rs k) 2) (z == 4) h.1 h.2.1.bd hfit
          obtain ⟨a5, c5, hvk, _, _⟩ := hsk
          rw [hz] at hvk
          subst hvk
          generalize nth (rowAt rs k) 0 = x0 at HLo HSe HFr
          generalize nth (rowAt rs k) 1 = x1 at HLo HSe HFr hfit
          generalize nth (rowAt rs k) 2 = x2 at HLo HSe HFr
          generalize (z == 4) = B at HLo HSe HFr
          clear hz hfit
          rcases (show z = 3 ∨ z = 4 ∨ z = 5 by omega) with rfl | rfl | rfl
          · clear h0
            go_wp2_with (first
              | (go_at_call 20; refine (HLo.out _ ST.out.2.2).mono ?_; rintro e w2 ⟨rfl, hb2⟩; have ST2 : Hid (OnT w w2 G S) := ST.out.later hb2)
              | (go_at_call 14; refine (HSe.out _ ST2.out).mono ?_; rintro e w3 ⟨rfl, ht3, hc3⟩; have ST3 : Hid (OnT w w3 G _) := ST2.out.tch ht3 (good_st ST2.out.2.1 _ _ _ _) hc3))
            go_roundw
            case rel => exact ⟨k + 1, _, by omega, by go_num, ST3.out⟩
            case measure => simp [intOf]; omega
          · clear h0
            go_wp2_with (first
              | (go_at_call 20; refine (HLo.out _ ST.out.2.2).mono ?_; rintro e w2 ⟨rfl, hb2⟩; have ST2 : Hid (OnT w w2 G S) := ST.out.later hb2)
              | (go_at_call 14; refine (HSe.out _ ST2.out).mono ?_; rintro e w3 ⟨rfl, ht3, hc3⟩; have ST3 : Hid (OnT w w3 G _) := ST2.out.tch ht3 (good_st ST2.out.2.1 _ _ _ _) hc3))
            go_roundw
            case rel => exact ⟨k + 1, _, by omega, by go_num, ST3.out⟩
            case measure => simp [intOf]; omega
          · clear h0
            go_wp2_with (first
              | (go_at_call 20; refine (HLo.out _ ST.out.2.2).mono ?_; rintro e w2 ⟨rfl, hb2⟩; have ST2 : Hid (OnT w w2 G S) := ST.out.later hb2)
              | (go_at_call 11; refine (HFr.out _ ST2.out).mono ?_; rintro e w3 ⟨rfl, ht3, hc3⟩; have ST3 : Hid (OnT w w3 G _) := ST2.out.tch ht3 (good_fr ST2.out.2.1 _ _ _) hc3))
            go_roundw
            case rel => exact ⟨k + 1, _, by omega, by go_num, ST3.out⟩
            case measure => simp [intOf]; omega
        · obtain ⟨a1, c1, hv1, _, _⟩ := hsk
          rw [hz] at hv1
          subst hv1
          have n5 : ¬ z = 5 := by omega
          have b3 : ((z : Int) == 3) = false := by simp; omega
          have b4 : ((z : Int) == 4) = false := by simp; omega
          clear h0 hz
          go_wp2
          go_roundw
          case rel => exact ⟨k + 1, _, by omega, by go_num, ST.out⟩
          case measure => simp [intOf]; omega
      · have hs1 : ¬ (k : Int) < 40 := by omega
        go_wp2
        go_ret
        exact ⟨by rw [← HG.out]; rfl, S, by rw [← HG.out]; exact ST.out⟩
    · have hl1 : ¬ (k : Int) < (n : Int) := by omega
      go_wp2
      go_ret
      exact ⟨by rw [← HG.out]; rfl, S, by rw [← HG.out]; exact ST.out⟩

end Go.Proofs.YtigoacnbbichoaaDoor
