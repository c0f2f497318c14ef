/- This text proves what New of package shadow lays, and what Write tells and stores; nothing is turned but the disk's block; the condition is that the disk lies there. -/
import Derived.Test.YthgbknfdbobmiaaS2
import Derived.Test.YthgbknfdbobmiaaHl
import Derived.Deep.WholeRow
namespace Go.Proofs.Ythgbknfdbobmiaa
open Go.RowKit Go.Deep

/-- What New has laid ahead of a place. -/
def nwF (k : Nat) : Nat → Int := fun i => if i < k then -1 else 0
theorem nwF_set (k : Nat) : putI (nwF k) k (-1) = nwF (k + 1) := by
  funext i
  unfold putI nwF
  by_cases e : i = k
  · rw [if_pos e, if_pos (by omega)]
  · rw [if_neg e]
    by_cases e2 : i < k
    · rw [if_pos e2, if_pos (by omega)]
    · rw [if_neg e2, if_neg (by omega)]

set_option maxHeartbeats 4000000 in
set_option maxRecDepth 100000 in
theorem new_shadow (w : World) : Calls Try.prog 18 #[] w fun e w' => ∃ g, e = .returned (ptrS g) ∧ ShaM w' w.heap.size g sh0 ∧ Below w.heap.size w w' := by
  obtain ⟨P, hP⟩ : ∃ P, w.heap.size = P := ⟨_, rfl⟩
  have H0 : Hid ((w.alloc (.cells #[.int .i64 0, .int .i64 0, .int .i64 0, .int .i64 0, .int .i64 0, .int .i64 0, .int .i64 0, .int .i64 0] 52)).heap[P]? = some (.cells (celI (nwF 0) 8) 52 (0, 0)) ∧ Below P w (w.alloc (.cells #[.int .i64 0, .int .i64 0, .int .i64 0, .int .i64 0, .int .i64 0, .int .i64 0, .int .i64 0, .int .i64 0] 52))) := by
    subst hP
    exact ⟨blk_alloc_new _ _, below_one _ _⟩
  have HPe : Hid (w.heap.size = P) := hP
  have HF : Hid (∀ wr : World, Below P w wr → ∃ g, wr.heap.size = g ∧ ShaM (wr.alloc (.cells #[.int .i64 0, .int .i64 0, .int .i64 0, .int .i64 0, .int .i64 0, .int .i64 0, .int .i64 0, .int .i64 0, .int .i64 0, .int .i64 0, .int .i64 0, .int .i64 0, .int .i64 0, .int .i64 0, .int .i64 0, .int .i64 0,
      .int .i64 (-1), .int .i64 (-1), .int .i64 (-1), .int .i64 (-1), .int .i64 (-1), .int .i64 (-1), .int .i64 (-1), .int .i64 (-1), .int .i64 (-1), .int .i64 (-1), .int .i64 (-1), .int .i64 (-1), .int .i64 (-1), .int .i64 (-1), .int .i64 (-1), .int .i64 (-1)] 54)) P g sh0) := fun wr hb =>
    ⟨_, rfl, blk_alloc_new _ _, goodS0, by rw [← hP]; exact hb.size⟩
  clear hP
  go_enter Try.func18, Try.ntmps18
  go_wp2_with fail
  obtain ⟨h1, h2⟩ := H0.out
  rw [HPe.out]
  generalize w.alloc _ = W1 at h1 h2
  go_loopw [2, 3] (fun _ i wr => ∃ k : Nat, k ≤ 8 ∧ i = .int .i64 (k : Int) ∧ wr.heap[P]? = some (.cells (celI (nwF k) 8) 52 (0, 0)) ∧ Below P w wr) (fun _ i _ => 8 - (Go.RowKit.intOf i).toNat)
  case atStart => exact ⟨0, by omega, rfl, h1, h2⟩
  case round =>
    obtain ⟨k, hk, rfl, h3, h4⟩ := hrel
    by_cases hlt : k < 8
    · obtain ⟨q1, q2⟩ := cell_in h3 k
      rw [celI_get hlt] at q1
      have HN : Hid ((wr.setCell ⟨P, k, none⟩ (.int .i64 (-1))).heap[P]? = some (.cells (celI (nwF (k + 1)) 8) 52 (0, 0)) ∧ Below P w (wr.setCell ⟨P, k, none⟩ (.int .i64 (-1)))) := by
        refine ⟨by rw [heap_set h3, celI_set, nwF_set], h4.trans ⟨rfl, rfl, rfl, by simp [World.setCell], fun b hb => Below.heap_setCell wr _ _ b (fun e => by subst e; exact Nat.lt_irrefl _ hb)⟩⟩
      clear h1 h2 h3 h4
      go_wp2
      go_roundw
      case rel => exact ⟨k + 1, by omega, by go_num, HN.out⟩
      case measure => simp [Go.RowKit.intOf]; omega
    · obtain rfl : k = 8 := by omega
      have m0 : wr.cell? ⟨P, 0, none⟩ = some (.int .i64 (-1)) := (cell_in h3 0).1.trans rfl
      have m1 : wr.cell? ⟨P, 1, none⟩ = some (.int .i64 (-1)) := (cell_in h3 1).1.trans rfl
      have m2 : wr.cell? ⟨P, 2, none⟩ = some (.int .i64 (-1)) := (cell_in h3 2).1.trans rfl
      have m3 : wr.cell? ⟨P, 3, none⟩ = some (.int .i64 (-1)) := (cell_in h3 3).1.trans rfl
      have m4 : wr.cell? ⟨P, 4, none⟩ = some (.int .i64 (-1)) := (cell_in h3 4).1.trans rfl
      have m5 : wr.cell? ⟨P, 5, none⟩ = some (.int .i64 (-1)) := (cell_in h3 5).1.trans rfl
      have m6 : wr.cell? ⟨P, 6, none⟩ = some (.int .i64 (-1)) := (cell_in h3 6).1.trans rfl
      have m7 : wr.cell? ⟨P, 7, none⟩ = some (.int .i64 (-1)) := (cell_in h3 7).1.trans rfl
      obtain ⟨g, hg, hm⟩ := HF.out wr h4
      have HM : Hid _ := hm
      have HB : Hid (Below P w wr) := h4
      clear h1 h2 h3 h4 hm HF
      go_wp2
      go_ret
      have e := HPe.out
      subst e
      exact ⟨g, rfl, HM.out, HB.out.alloc HB.out.size _⟩

/-- May a page be written so? -/
def okS (p v : Int) : Prop := 0 ≤ p ∧ p < 8 ∧ 0 ≤ v ∧ v ≤ 1000
/-- What is told, and what is left. -/
def toS (C : Nat → Int) (p v : Int) : Nat := if 0 ≤ p ∧ p < 8 ∧ 0 ≤ v ∧ v ≤ 1000 then atS C p.toNat else 0
def erS (p v : Int) : Nat := if 0 ≤ p ∧ p < 8 ∧ 0 ≤ v ∧ v ≤ 1000 then 0 else 1
def noS (C : Nat → Int) (p v : Int) : Nat → Int := if 0 ≤ p ∧ p < 8 ∧ 0 ≤ v ∧ v ≤ 1000 then wrS C p.toNat v else C
/-- What a step leaves of a disk. -/
structure TurnS (w w' : World) (base g : Nat) (C : Nat → Int) : Prop where
  disk : ShaM w' base g C
  stay : Stay (fun x => x = g) w w'
theorem ShaM.set2 {w : World} {base g : Nat} {C : Nat → Int} (h : ShaM w base g C) {i j : Nat} {s u : Int} {D : Nat → Int} (e : putI (putI C i s) j u = D) (hd : GoodS D) :
    TurnS w ((w.setCell ⟨g, i, none⟩ (.int .i64 s)).setCell ⟨g, j, none⟩ (.int .i64 u)) base g D :=
  ⟨⟨by rw [sha_set (sha_set h.cells i s), e], hd, h.low⟩, (Stay.set (S := fun x => x = g) _ _ rfl).trans (Stay.set (S := fun x => x = g) _ _ rfl)⟩
theorem ShaM.set1 {w : World} {base g : Nat} {C : Nat → Int} (h : ShaM w base g C) {j : Nat} {u : Int} {D : Nat → Int} (e : putI C j u = D) (hd : GoodS D) :
    TurnS w (w.setCell ⟨g, j, none⟩ (.int .i64 u)) base g D :=
  ⟨⟨by rw [sha_set h.cells, e], hd, h.low⟩, Stay.set _ _ rfl⟩
theorem TurnS.ahead {w w1 w' : World} {base g : Nat} {C : Nat → Int} (hb : Below w.heap.size w w1) (h : TurnS w1 w' base g C) : TurnS w w' base g C := ⟨h.disk, (Stay.of hb).trans h.stay⟩
theorem TurnS.none' {w w' : World} {base g : Nat} {C : Nat → Int} (h : ShaM w base g C) (hb : Below w.heap.size w w') : TurnS w w' base g C := ⟨h.later hb, Stay.of hb⟩

set_option maxHeartbeats 1000000 in
theorem writeS_bad (w : World) (g : Nat) (p v : Int) (h : ¬ (0 ≤ p ∧ p < 8 ∧ 0 ≤ v ∧ v ≤ 1000)) :
    Calls Try.prog 10 #[ptrS g, .int .i64 p, .int .i64 v] w fun e w' => e = .returned (.tuple #[.int .i64 0, errV 1]) ∧ w = w' := by
  unfold ptrS
  rw [errV_pos (by decide)]
  by_cases h1 : p < 0
  · go_enter Try.func10, Try.ntmps10
    go_wp2
    go_ret2
    exact ⟨rfl, rfl⟩
  · by_cases h2 : 8 ≤ p
    · go_enter Try.func10, Try.ntmps10
      go_wp2
      go_ret2
      exact ⟨rfl, rfl⟩
    · by_cases h3 : v < 0
      · go_enter Try.func10, Try.ntmps10
        go_wp2
        go_ret2
        exact ⟨rfl, rfl⟩
      · have h4 : 1000 < v := by omega
        go_enter Try.func10, Try.ntmps10
        go_wp2
        go_ret2
        exact ⟨rfl, rfl⟩

set_option maxHeartbeats 8000000 in
set_option maxRecDepth 100000 in
theorem write_new (w : World) (base g : Nat) (C : Nat → Int) (h : ShaM w base g C) (p : Nat) (v : Int) (hp : p < 8) (hv0 : 0 ≤ v) (hv1 : v ≤ 1000) (he : C (24 + p) = C (16 + p)) :
    Calls Try.prog 10 #[ptrS g, .int .i64 (p : Int), .int .i64 v] w fun e w' => e = .returned (.tuple #[.int .i64 (atS C p : Int), errV 0]) ∧ TurnS w w' base g (wrS C p v) := by
  have e1 : atS C p = lfS C := by unfold atS; rw [if_pos he]
  obtain ⟨hl, _, _⟩ := lfS_some hp he
  obtain ⟨m, hm⟩ : ∃ m, lfS C = m := ⟨_, rfl⟩
  have HE : Hid (atS C p = m) := e1.trans hm
  have HF : Hid (∀ w2, Below w.heap.size w w2 → TurnS w ((w2.setCell ⟨g, 24 + p, none⟩ (.int .i64 (m : Int))).setCell ⟨g, m, none⟩ (.int .i64 v)) base g (wrS C p v)) := fun w2 hb =>
    .ahead hb ((h.later hb).set2 (by unfold wrS tbS; rw [if_pos he, e1, hm]) (h.good.write hp v))
  have HX : Hid (∀ w2, Below w.heap.size w w2 → w2.cell? ⟨g, 24 + p, none⟩ = some (.int .i64 (C (24 + p))) ∧ w2.frozen? ⟨g, 24 + p, none⟩ = false) := fun w2 hb => ⟨(h.later hb).cell (by omega), (h.later hb).free _⟩
  have HY : Hid (∀ w2, Below w.heap.size w w2 → (w2.setCell ⟨g, 24 + p, none⟩ (.int .i64 (m : Int))).cell? ⟨g, 24 + p, none⟩ = some (.int .i64 (m : Int)) ∧
      (w2.setCell ⟨g, 24 + p, none⟩ (.int .i64 (m : Int))).cell? ⟨g, m, none⟩ = some (.int .i64 (C m)) ∧ (w2.setCell ⟨g, 24 + p, none⟩ (.int .i64 (m : Int))).frozen? ⟨g, m, none⟩ = false) := fun w2 hb => by
    have k := sha_set (h.later hb).cells (24 + p) (m : Int)
    refine ⟨?_, ?_, (cell_in k m).2⟩
    · rw [(cell_in k _).1, celI_get (by omega), putI_same]
    · rw [(cell_in k _).1, celI_get (by omega), putI_off _ _ (by omega)]
  have HL : Hid _ := fun (w2 : World) (hb : Below w.heap.size w w2) => least_any w2 base g C (h.later hb) p hp he
  rw [hm] at HL hl
  rw [HE.out]
  have c1 := h.cell (i := 24 + p) (by omega)
  have c2 := h.cell (i := 16 + p) (by omega)
  rw [← he] at c2
  generalize hY : C (24 + p) = y at c1 c2
  have HYe : Hid (C (24 + p) = y) := hY
  clear h e1 he hm hY
  unfold ptrS at *
  rw [errV_zero]
  go_enter Try.func10, Try.ntmps10
  go_wp2_with fail
  go_region
  go_wp2_with fail
  refine wp_region_last (S := fun w' => Below w.heap.size w w') 7 (by kernel_rfl) (by kernel_rfl) ?hs (fun hHeld => ?_)
  case hs => exact (below_drew1 _ _).trans (below_drew1 _ _)
  refine held_take (i := 0) (v := ?_) rfl rfl (by kernel_rfl) (by kernel_rfl) (by kernel_rfl) (fun _ _ _ h => h) (Or.inl ⟨by rfl, ?_⟩) hHeld ?_
  rotate_left
  · (intro w hSw; (try dsimp only at hSw); go_simp; try with_reducible rfl)
  simp only [Act.put, List.setIfInBounds_toArray, List.set_cons_zero, List.set_cons_succ]
  refine held_take (i := 1) (v := ?_) rfl rfl (by kernel_rfl) (by kernel_rfl) (by kernel_rfl) (fun _ _ _ h => h) (Or.inl ⟨by rfl, ?_⟩) hHeld ?_
  rotate_left
  · (intro w hSw; (try dsimp only at hSw); go_simp; try with_reducible rfl)
  simp only [Act.put, List.setIfInBounds_toArray, List.set_cons_zero, List.set_cons_succ]
  refine held_take (i := 2) (v := ?_) rfl rfl (by kernel_rfl) (by kernel_rfl) (by kernel_rfl) (fun _ _ _ h => h) (Or.inl ⟨by rfl, ?_⟩) hHeld ?_
  rotate_left
  · (intro w hSw; (try dsimp only at hSw); go_simp; try with_reducible rfl)
  simp only [Act.put, List.setIfInBounds_toArray, List.set_cons_zero, List.set_cons_succ]
  refine held_take (i := 4) (v := ?_) rfl rfl (by kernel_rfl) (by kernel_rfl) (by kernel_rfl) (fun _ _ _ h => h) (Or.inl ⟨by rfl, ?_⟩) hHeld ?_
  rotate_left
  · (intro w hSw; (try dsimp only at hSw); go_simp; try with_reducible rfl)
  simp only [Act.put, List.setIfInBounds_toArray, List.set_cons_zero, List.set_cons_succ]
  refine held_take (i := 5) (v := ?_) rfl rfl (by kernel_rfl) (by kernel_rfl) (by kernel_rfl) (fun _ _ _ h => h) (Or.inl ⟨by rfl, ?_⟩) hHeld ?_
  rotate_left
  · (intro w hSw; (try dsimp only at hSw); go_simp; try with_reducible rfl)
  simp only [Act.put, List.setIfInBounds_toArray, List.set_cons_zero, List.set_cons_succ]
  refine wpAnyH_ready (rs := [3]) (by kernel_rfl) (by simp) ?_
  refine AllReadyH.cons rfl (fun K hK => ?_) AllReadyH.nil
  go_simp
  go_at_call 27
  refine (HL.out _ hHeld).mono ?_
  rintro e w2 ⟨rfl, hb2⟩
  have HB2 : Hid (Below w.heap.size w w2) := Below.next hHeld hb2
  clear hb2
  go_simp
  refine hK.out _ _ (HB2.out) (fun hHeld => ?_)
  clear hK K
  have HT : Hid _ := HF.out w2 HB2.out
  obtain ⟨d1, d2⟩ := HX.out w2 HB2.out
  obtain ⟨d3, d4, d5⟩ := HY.out w2 HB2.out
  clear HL HX HY HF c1 c2
  refine held_take (i := 6) (v := ?_) rfl rfl (by kernel_rfl) (by kernel_rfl) (by kernel_rfl) (fun _ _ _ h => h) (Or.inl ⟨by rfl, ?_⟩) hHeld ?_
  rotate_left
  · (intro w hSw; (try dsimp only at hSw); go_simp; try with_reducible rfl)
  simp only [Act.put, List.setIfInBounds_toArray, List.set_cons_zero, List.set_cons_succ]
  clear hHeld
  refine wpAnyH_done (by kernel_rfl) ?_ _
  refine last_step rfl (fun K hK => ?_)
  go_simp
  refine hK _ _ ?_
  clear hK K
  go_wp2
  go_ret2
  exact ⟨rfl, HT.out⟩

set_option maxHeartbeats 4000000 in
set_option maxRecDepth 100000 in
theorem write_again (w : World) (base g : Nat) (C : Nat → Int) (h : ShaM w base g C) (p : Nat) (v : Int) (hp : p < 8) (hv0 : 0 ≤ v) (hv1 : v ≤ 1000) (he : C (24 + p) ≠ C (16 + p)) :
    Calls Try.prog 10 #[ptrS g, .int .i64 (p : Int), .int .i64 v] w fun e w' => e = .returned (.tuple #[.int .i64 (atS C p : Int), errV 0]) ∧ TurnS w w' base g (wrS C p v) := by
  have h0 := (h.good.wr p hp).resolve_left he
  have h1 := (h.good.tabN hp).2
  have e1 : atS C p = (C (24 + p)).toNat := by unfold atS; rw [if_neg he]
  obtain ⟨m, hm⟩ : ∃ m : Nat, C (24 + p) = (m : Int) := ⟨_, (Int.toNat_of_nonneg h0).symm⟩
  have hl : m < 16 := by omega
  have HE : Hid (atS C p = m) := by show _ = _; rw [e1, hm]; rfl
  have HT : Hid (TurnS w (w.drew.setCell ⟨g, m, none⟩ (.int .i64 v)) base g (wrS C p v)) :=
    .ahead (below_drew1 _ _) ((h.later (below_drew1 _ _)).set1 (by unfold wrS tbS; rw [if_neg he, HE.out]) (h.good.write hp v))
  rw [HE.out]
  have c1 := h.cell (i := 24 + p) (by omega)
  have c2 := h.cell (i := 16 + p) (by omega)
  have c3 := h.cell (i := m) (by omega)
  have c4 := h.free m
  have hne : ((m : Int) == C (16 + p)) = false := by simp; exact fun e => he (hm.trans e)
  rw [hm] at c1
  generalize C (16 + p) = z at c2 hne
  clear h e1 he hm h0 h1
  unfold ptrS at *
  rw [errV_zero]
  go_enter Try.func10, Try.ntmps10
  go_wp2_with fail
  go_region
  go_wp2
  go_ret2
  exact ⟨rfl, HT.out⟩

theorem writeS_any (w : World) (base g : Nat) (C : Nat → Int) (h : ShaM w base g C) (p v : Int) :
    Calls Try.prog 10 #[ptrS g, .int .i64 p, .int .i64 v] w fun e w' => e = .returned (.tuple #[.int .i64 (toS C p v : Int), errV (erS p v)]) ∧ TurnS w w' base g (noS C p v) := by
  unfold toS erS noS
  by_cases hk : 0 ≤ p ∧ p < 8 ∧ 0 ≤ v ∧ v ≤ 1000
  · obtain ⟨h0, h1, h2, h3⟩ := hk
    rw [if_pos ⟨h0, h1, h2, h3⟩, if_pos ⟨h0, h1, h2, h3⟩, if_pos ⟨h0, h1, h2, h3⟩]
    obtain ⟨q, rfl⟩ : ∃ q : Nat, p = (q : Int) := ⟨_, (Int.toNat_of_nonneg h0).symm⟩
    rw [Int.toNat_natCast]
    by_cases he : C (24 + q) = C (16 + q)
    · exact write_new w base g C h q v (by omega) h2 h3 he
    · exact write_again w base g C h q v (by omega) h2 h3 he
  · rw [if_neg hk, if_neg hk, if_neg hk]
    refine (writeS_bad w g p v hk).mono ?_
    rintro e w' ⟨rfl, rfl⟩
    exact ⟨rfl, .none' h (Below.refl _ _)⟩

end Go.Proofs.Ythgbknfdbobmiaa
