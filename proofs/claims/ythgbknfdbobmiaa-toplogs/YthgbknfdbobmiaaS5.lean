/- This text proves what Values and Slots of package shadow tell: eight numbers each, in blocks of their own; nothing is turned; the condition is that the disk lies there. -/
import Derived.Test.YthgbknfdbobmiaaS4
namespace Go.Proofs.Ythgbknfdbobmiaa
open Go.RowKit Go.Deep

/-- What is told ahead of a place. -/
def vpS (C : Nat → Int) (z k : Nat) : Nat → Int := fun i => if i < k then vlS C z i else 0
theorem vpS_next (C : Nat → Int) (z k : Nat) : putI (vpS C z k) k (vlS C z k) = vpS C z (k + 1) := by
  funext i
  unfold putI vpS
  by_cases e : i = k
  · subst e; rw [if_pos rfl, if_pos (by omega)]
  · rw [if_neg e]
    by_cases e2 : i < k
    · rw [if_pos e2, if_pos (by omega)]
    · rw [if_neg e2, if_neg (by omega)]
theorem vpS_same (C : Nat → Int) (z k : Nat) (h : vlS C z k = 0) : vpS C z k = vpS C z (k + 1) := by
  funext i
  unfold vpS
  by_cases e : i = k
  · subst e; rw [if_neg (by omega), if_pos (by omega), h]
  · by_cases e2 : i < k
    · rw [if_pos e2, if_pos (by omega)]
    · rw [if_neg e2, if_neg (by omega)]

set_option maxHeartbeats 8000000 in
set_option maxRecDepth 100000 in
theorem valuesBy_any (w : World) (base g : Nat) (C : Nat → Int) (h : ShaM w base g C) (z : Nat) (hz : z = 16 ∨ z = 24) :
    Calls Try.prog 26 #[ptrS g, tbV fun i => C (z + i)] w fun e w' => ∃ B, e = .returned (.slice (some ⟨B, 0, none⟩) 8 8) ∧ VlI w' B (vlS C z) ∧ Below w.heap.size w w' ∧ w.heap.size ≤ B := by
  have HZt : Hid (∀ k, k < 8 → -1 ≤ C (z + k) ∧ C (z + k) ≤ 15) := fun k hk => by
    rcases hz with rfl | rfl
    · exact h.good.tabO hk
    · exact h.good.tabN hk
  have HC : Hid (∀ wr, Below w.heap.size w wr → ∀ k, k < 16 → wr.cell? ⟨g, k, none⟩ = some (.int .i64 (C k))) := fun wr hb k hk => (h.later hb).cell (by omega)
  have HA : Hid _ := tb_at (fun i => C (z + i))
  obtain ⟨P, hP⟩ : ∃ P, w.heap.size = P := ⟨_, rfl⟩
  have hgP : g < P := by rw [← hP]; exact h.lt
  obtain ⟨q0, e0⟩ : ∃ q, C (z + 0) = q := ⟨_, rfl⟩
  obtain ⟨q1, e1⟩ : ∃ q, C (z + 1) = q := ⟨_, rfl⟩
  obtain ⟨q2, e2⟩ : ∃ q, C (z + 2) = q := ⟨_, rfl⟩
  obtain ⟨q3, e3⟩ : ∃ q, C (z + 3) = q := ⟨_, rfl⟩
  obtain ⟨q4, e4⟩ : ∃ q, C (z + 4) = q := ⟨_, rfl⟩
  obtain ⟨q5, e5⟩ : ∃ q, C (z + 5) = q := ⟨_, rfl⟩
  obtain ⟨q6, e6⟩ : ∃ q, C (z + 6) = q := ⟨_, rfl⟩
  obtain ⟨q7, e7⟩ : ∃ q, C (z + 7) = q := ⟨_, rfl⟩
  have et : (tbV fun i => C (z + i)) = .agg #[.int .i64 q0, .int .i64 q1, .int .i64 q2, .int .i64 q3, .int .i64 q4, .int .i64 q5, .int .i64 q6, .int .i64 q7] := by
    unfold tbV; simp only [e0, e1, e2, e3, e4, e5, e6, e7]
  rw [et]
  simp only [e0, e1, e2, e3, e4, e5, e6, e7] at HA
  have H0 : Hid (((w.alloc (.cells #[.int .i64 q0, .int .i64 q1, .int .i64 q2, .int .i64 q3, .int .i64 q4, .int .i64 q5, .int .i64 q6, .int .i64 q7] 52)).alloc (.cells #[.int .i64 0, .int .i64 0, .int .i64 0, .int .i64 0, .int .i64 0, .int .i64 0, .int .i64 0, .int .i64 0] 51)).heap[P + 1]? = some (.cells (celI (vpS C z 0) 8) 51 (0, 0)) ∧
      Below w.heap.size w ((w.alloc (.cells #[.int .i64 q0, .int .i64 q1, .int .i64 q2, .int .i64 q3, .int .i64 q4, .int .i64 q5, .int .i64 q6, .int .i64 q7] 52)).alloc (.cells #[.int .i64 0, .int .i64 0, .int .i64 0, .int .i64 0, .int .i64 0, .int .i64 0, .int .i64 0, .int .i64 0] 51))) := by
    refine ⟨?_, ?_⟩
    · have := blk_alloc_new (w.alloc (.cells #[.int .i64 q0, .int .i64 q1, .int .i64 q2, .int .i64 q3, .int .i64 q4, .int .i64 q5, .int .i64 q6, .int .i64 q7] 52)) (.cells #[.int .i64 0, .int .i64 0, .int .i64 0, .int .i64 0, .int .i64 0, .int .i64 0, .int .i64 0, .int .i64 0] 51)
      rw [show (w.alloc (.cells #[.int .i64 q0, .int .i64 q1, .int .i64 q2, .int .i64 q3, .int .i64 q4, .int .i64 q5, .int .i64 q6, .int .i64 q7] 52)).heap.size = P + 1 by rw [← hP]; simp] at this
      exact this
    · exact (below_one _ _).trans ((below_one _ _).mono (by simp))
  have H1 : Hid (((w.alloc (.cells #[.int .i64 q0, .int .i64 q1, .int .i64 q2, .int .i64 q3, .int .i64 q4, .int .i64 q5, .int .i64 q6, .int .i64 q7] 52)).heap.size = P + 1)) := by
    show _ = _
    rw [← hP]; simp
  have HPe : Hid (w.heap.size = P) := hP
  clear h hP et e0 e1 e2 e3 e4 e5 e6 e7 hz
  unfold ptrS
  go_enter Try.func26, Try.ntmps26
  go_wp2_with fail
  rw [HPe.out]
  obtain ⟨h1, h2⟩ := H0.out
  clear H0 H1
  generalize (w.alloc _).alloc _ = W1 at h1 h2 ⊢
  go_loopw [6, 7, 9] (fun _ _ i wr => ∃ k : Nat, k ≤ 8 ∧ i = .int .i64 (k : Int) ∧ wr.heap[P + 1]? = some (.cells (celI (vpS C z k) 8) 51 (0, 0)) ∧ Below w.heap.size w wr) (fun _ _ i _ => 8 - (Go.RowKit.intOf i).toNat)
  case atStart => exact ⟨0, by omega, rfl, h1, h2⟩
  case round =>
    obtain ⟨k, hk, rfl, h3, h4⟩ := hrel
    by_cases hlt : k < 8
    · have hx := HA.out k wr hlt
      obtain ⟨t0, t1⟩ := HZt.out k hlt
      have HV : Hid (vlS C z k = if C (z + k) = -1 then 0 else C (C (z + k)).toNat) := rfl
      by_cases he : C (z + k) = -1
      · have HN : Hid (wr.heap[P + 1]? = some (.cells (celI (vpS C z (k + 1)) 8) 51 (0, 0)) ∧ Below w.heap.size w wr) := ⟨by rw [← vpS_same C z k (by rw [HV.out, if_pos he])]; exact h3, h4⟩
        rw [he] at hx
        clear h1 h2 h3 h4 he t0 t1
        go_wp2
        go_roundw
        case rel => exact ⟨k + 1, by omega, by go_num, HN.out⟩
        case measure => simp [Go.RowKit.intOf]; omega
      · obtain ⟨m, hm⟩ : ∃ m : Nat, C (z + k) = (m : Int) := ⟨_, (Int.toNat_of_nonneg (by omega)).symm⟩
        have hm16 : m < 16 := by omega
        have hc := HC.out wr h4 m hm16
        obtain ⟨d1, d2⟩ := cell_in h3 k
        rw [celI_get hlt] at d1
        have hne : ((m : Int) != -1) = true := by simp <;> omega
        have HN : Hid ((wr.setCell ⟨P + 1, k, none⟩ (.int .i64 (C m))).heap[P + 1]? = some (.cells (celI (vpS C z (k + 1)) 8) 51 (0, 0)) ∧ Below w.heap.size w (wr.setCell ⟨P + 1, k, none⟩ (.int .i64 (C m)))) := by
          refine ⟨?_, h4.trans ⟨rfl, rfl, rfl, by simp [World.setCell], fun b hb => Below.heap_setCell wr _ _ b (fun e => by subst e; have := HPe.out; simp at hb; omega)⟩⟩
          rw [heap_set h3, celI_set, ← vpS_next, HV.out, if_neg he, hm, Int.toNat_natCast]
        rw [hm] at hx
        generalize C m = y at hc HN
        generalize vpS C z k k = y2 at d1
        clear h1 h2 h3 h4 he t0 t1 hm
        go_wp2
        go_roundw
        case rel => exact ⟨k + 1, by omega, by go_num, HN.out⟩
        case measure => simp [Go.RowKit.intOf]; omega
    · obtain rfl : k = 8 := by omega
      have HV : Hid (VlI wr (P + 1) (vlS C z)) := ⟨_, by rw [← celI_same (C := vpS C z 8) (fun i hi => by unfold vpS; rw [if_pos hi])]; exact h3⟩
      have HB : Hid _ := h4
      clear h1 h2 h3 h4
      go_wp2
      go_ret
      exact ⟨P + 1, rfl, HV.out, HB.out, by have := HPe.out; omega⟩

set_option maxHeartbeats 1000000 in
set_option maxRecDepth 100000 in
theorem slots_any (w : World) (base g : Nat) (C : Nat → Int) (h : ShaM w base g C) :
    Calls Try.prog 15 #[ptrS g] w fun e w' => ∃ B, e = .returned (.slice (some ⟨B, 0, none⟩) 8 8) ∧ VlI w' B (fun i => C (24 + i)) ∧ Below w.heap.size w w' ∧ w.heap.size ≤ B := by
  obtain ⟨c0, c1, c2, c3, c4, c5, c6, c7⟩ := h.tabs 24 (by decide)
  simp only [Nat.add_zero, Nat.reduceAdd] at c0 c1 c2 c3 c4 c5 c6 c7
  have HV : Hid (∀ q0 q1 q2 q3 q4 q5 q6 q7, q0 = C 24 → q1 = C 25 → q2 = C 26 → q3 = C 27 → q4 = C 28 → q5 = C 29 → q6 = C 30 → q7 = C 31 →
      VlI (w.alloc (.cells #[.int .i64 q0, .int .i64 q1, .int .i64 q2, .int .i64 q3, .int .i64 q4, .int .i64 q5, .int .i64 q6, .int .i64 q7] 52)) w.heap.size fun i => C (24 + i)) := by
    rintro _ _ _ _ _ _ _ _ rfl rfl rfl rfl rfl rfl rfl rfl
    refine ⟨52, ?_⟩
    rw [celI8]
    exact blk_alloc_new _ _
  clear h
  unfold ptrS
  go_enter Try.func15, Try.ntmps15
  go_wp2
  go_ret
  exact ⟨w.heap.size, rfl, HV.out _ _ _ _ _ _ _ _ rfl rfl rfl rfl rfl rfl rfl rfl, below_one _ _, Nat.le_refl _⟩

set_option maxHeartbeats 8000000 in
set_option maxRecDepth 100000 in
theorem valuesS_any (w : World) (base g : Nat) (C : Nat → Int) (h : ShaM w base g C) :
    Calls Try.prog 9 #[ptrS g] w fun e w' => ∃ A B, e = .returned (.tuple #[.slice (some ⟨A, 0, none⟩) 8 8, .slice (some ⟨B, 0, none⟩) 8 8]) ∧
      VlI w' A (vlS C 24) ∧ VlI w' B (vlS C 16) ∧ Below w.heap.size w w' ∧ w.heap.size ≤ A ∧ w.heap.size ≤ B := by
  have HS : Hid (∀ w' : World, Below w.heap.size w w' → (w'.cell? ⟨g, 24, none⟩ = some (.int .i64 (C 24)) ∧ w'.cell? ⟨g, 25, none⟩ = some (.int .i64 (C 25)) ∧ w'.cell? ⟨g, 26, none⟩ = some (.int .i64 (C 26)) ∧ w'.cell? ⟨g, 27, none⟩ = some (.int .i64 (C 27)) ∧ w'.cell? ⟨g, 28, none⟩ = some (.int .i64 (C 28)) ∧ w'.cell? ⟨g, 29, none⟩ = some (.int .i64 (C 29)) ∧ w'.cell? ⟨g, 30, none⟩ = some (.int .i64 (C 30)) ∧ w'.cell? ⟨g, 31, none⟩ = some (.int .i64 (C 31)) ∧ w'.cell? ⟨g, 16, none⟩ = some (.int .i64 (C 16)) ∧ w'.cell? ⟨g, 17, none⟩ = some (.int .i64 (C 17)) ∧ w'.cell? ⟨g, 18, none⟩ = some (.int .i64 (C 18)) ∧ w'.cell? ⟨g, 19, none⟩ = some (.int .i64 (C 19)) ∧ w'.cell? ⟨g, 20, none⟩ = some (.int .i64 (C 20)) ∧ w'.cell? ⟨g, 21, none⟩ = some (.int .i64 (C 21)) ∧ w'.cell? ⟨g, 22, none⟩ = some (.int .i64 (C 22)) ∧ w'.cell? ⟨g, 23, none⟩ = some (.int .i64 (C 23))) ∧ Below w.heap.size w w') := fun w' hb => by
    obtain ⟨c0, c1, c2, c3, c4, c5, c6, c7⟩ := (h.later hb).tabs 24 (by decide)
    obtain ⟨d0, d1, d2, d3, d4, d5, d6, d7⟩ := (h.later hb).tabs 16 (by decide)
    exact ⟨⟨c0, c1, c2, c3, c4, c5, c6, c7, d0, d1, d2, d3, d4, d5, d6, d7⟩, hb⟩
  have HN : Hid _ := fun (w2 : World) (hb : Below w.heap.size w w2) => valuesBy_any w2 base g C (h.later hb) 24 (.inr rfl)
  have HO : Hid _ := fun (w2 : World) (hb : Below w.heap.size w w2) => valuesBy_any w2 base g C (h.later hb) 16 (.inl rfl)
  clear h
  unfold ptrS at *
  go_enter Try.func9, Try.ntmps9
  go_wp2_with fail
  refine wp_region_held_drew (S := fun w' => (w'.cell? ⟨g, 24, none⟩ = some (.int .i64 (C 24)) ∧ w'.cell? ⟨g, 25, none⟩ = some (.int .i64 (C 25)) ∧ w'.cell? ⟨g, 26, none⟩ = some (.int .i64 (C 26)) ∧ w'.cell? ⟨g, 27, none⟩ = some (.int .i64 (C 27)) ∧ w'.cell? ⟨g, 28, none⟩ = some (.int .i64 (C 28)) ∧ w'.cell? ⟨g, 29, none⟩ = some (.int .i64 (C 29)) ∧ w'.cell? ⟨g, 30, none⟩ = some (.int .i64 (C 30)) ∧ w'.cell? ⟨g, 31, none⟩ = some (.int .i64 (C 31)) ∧ w'.cell? ⟨g, 16, none⟩ = some (.int .i64 (C 16)) ∧ w'.cell? ⟨g, 17, none⟩ = some (.int .i64 (C 17)) ∧ w'.cell? ⟨g, 18, none⟩ = some (.int .i64 (C 18)) ∧ w'.cell? ⟨g, 19, none⟩ = some (.int .i64 (C 19)) ∧ w'.cell? ⟨g, 20, none⟩ = some (.int .i64 (C 20)) ∧ w'.cell? ⟨g, 21, none⟩ = some (.int .i64 (C 21)) ∧ w'.cell? ⟨g, 22, none⟩ = some (.int .i64 (C 22)) ∧ w'.cell? ⟨g, 23, none⟩ = some (.int .i64 (C 23))) ∧ Below w.heap.size w w') (by kernel_rfl) ?hs (fun hHeld => ?_)
  case hs => exact HS.out _ (below_drew1 _ _)
  refine held_take (i := 0) (v := ?_) rfl rfl (by kernel_rfl) (by kernel_rfl) (by kernel_rfl) (fun _ _ _ h => h) (Or.inl ⟨by rfl, ?_⟩) hHeld ?_
  rotate_left
  · (intro w hSw; (try dsimp only at hSw); go_simp; try with_reducible rfl)
  simp only [Act.put, List.setIfInBounds_toArray, List.set_cons_zero, List.set_cons_succ]
  refine held_take (i := 1) (v := ?_) rfl rfl (by kernel_rfl) (by kernel_rfl) (by kernel_rfl) (fun _ _ _ h => h) (Or.inl ⟨by rfl, ?_⟩) hHeld ?_
  rotate_left
  · (intro w hSw; (try dsimp only at hSw); go_simp; try with_reducible rfl)
  simp only [Act.put, List.setIfInBounds_toArray, List.set_cons_zero, List.set_cons_succ]
  refine held_take (i := 2) (v := ?_) rfl rfl (by kernel_rfl) (by kernel_rfl) (by kernel_rfl) (fun _ _ _ h => h) (Or.inl ⟨by rfl, ?_⟩) hHeld ?_
  rotate_left
  · (intro w hSw; (try dsimp only at hSw); go_simp; try with_reducible rfl)
  simp only [Act.put, List.setIfInBounds_toArray, List.set_cons_zero, List.set_cons_succ]
  refine held_take (i := 3) (v := ?_) rfl rfl (by kernel_rfl) (by kernel_rfl) (by kernel_rfl) (fun _ _ _ h => h) (Or.inl ⟨by rfl, ?_⟩) hHeld ?_
  rotate_left
  · (intro w hSw; (try dsimp only at hSw); go_simp; try with_reducible rfl)
  simp only [Act.put, List.setIfInBounds_toArray, List.set_cons_zero, List.set_cons_succ]
  refine held_take (i := 4) (v := ?_) rfl rfl (by kernel_rfl) (by kernel_rfl) (by kernel_rfl) (fun _ _ _ h => h) (Or.inl ⟨by rfl, ?_⟩) hHeld ?_
  rotate_left
  · (intro w hSw; (try dsimp only at hSw); go_simp; try with_reducible rfl)
  simp only [Act.put, List.setIfInBounds_toArray, List.set_cons_zero, List.set_cons_succ]
  refine held_take (i := 6) (v := ?_) rfl rfl (by kernel_rfl) (by kernel_rfl) (by kernel_rfl) (fun _ _ _ h => h) (Or.inl ⟨by rfl, ?_⟩) hHeld ?_
  rotate_left
  · (intro w hSw; (try dsimp only at hSw); go_simp; try with_reducible rfl)
  simp only [Act.put, List.setIfInBounds_toArray, List.set_cons_zero, List.set_cons_succ]
  refine held_take (i := 7) (v := ?_) rfl rfl (by kernel_rfl) (by kernel_rfl) (by kernel_rfl) (fun _ _ _ h => h) (Or.inl ⟨by rfl, ?_⟩) hHeld ?_
  rotate_left
  · (intro w hSw; (try dsimp only at hSw); go_simp; try with_reducible rfl)
  simp only [Act.put, List.setIfInBounds_toArray, List.set_cons_zero, List.set_cons_succ]
  refine held_take (i := 8) (v := ?_) rfl rfl (by kernel_rfl) (by kernel_rfl) (by kernel_rfl) (fun _ _ _ h => h) (Or.inl ⟨by rfl, ?_⟩) hHeld ?_
  rotate_left
  · (intro w hSw; (try dsimp only at hSw); go_simp; try with_reducible rfl)
  simp only [Act.put, List.setIfInBounds_toArray, List.set_cons_zero, List.set_cons_succ]
  refine held_take (i := 9) (v := ?_) rfl rfl (by kernel_rfl) (by kernel_rfl) (by kernel_rfl) (fun _ _ _ h => h) (Or.inl ⟨by rfl, ?_⟩) hHeld ?_
  rotate_left
  · (intro w hSw; (try dsimp only at hSw); go_simp; try with_reducible rfl)
  simp only [Act.put, List.setIfInBounds_toArray, List.set_cons_zero, List.set_cons_succ]
  refine held_take (i := 10) (v := ?_) rfl rfl (by kernel_rfl) (by kernel_rfl) (by kernel_rfl) (fun _ _ _ h => h) (Or.inl ⟨by rfl, ?_⟩) hHeld ?_
  rotate_left
  · (intro w hSw; (try dsimp only at hSw); go_simp; try with_reducible rfl)
  simp only [Act.put, List.setIfInBounds_toArray, List.set_cons_zero, List.set_cons_succ]
  refine wpAnyH_ready (rs := [5]) (by kernel_rfl) (by simp) ?_
  refine AllReadyH.cons rfl (fun K hK => ?_) AllReadyH.nil
  go_simp
  go_at_call 26
  refine (HN.out _ hHeld.2).mono ?_
  rintro e w2 ⟨A, rfl, hv, hb, hA⟩
  have B2 : Hid (Below w.heap.size w w2) := Below.next hHeld.2 hb
  have V2 : Hid (VlI w2 A (vlS C 24)) := hv
  have A2 : Hid (w.heap.size ≤ A) := Nat.le_trans hHeld.2.size hA
  clear hv hb hA
  go_simp
  refine hK.out _ _ (HS.out _ B2.out) (fun hHeld => ?_)
  clear hK K
  refine wpAnyH_ready (rs := [11]) (by kernel_rfl) (by simp) ?_
  refine AllReadyH.cons rfl (fun K hK => ?_) AllReadyH.nil
  go_simp
  go_at_call 26
  refine (HO.out _ hHeld.2).mono ?_
  rintro e w3 ⟨B, rfl, hv, hb, hA⟩
  have B3 : Hid (Below w.heap.size w w3) := Below.next hHeld.2 hb
  have V3 : Hid (VlI w3 B (vlS C 16) ∧ VlI w3 A (vlS C 24)) := ⟨hv, V2.out.later hb⟩
  have A3 : Hid (w.heap.size ≤ B) := Nat.le_trans hHeld.2.size hA
  clear hv hb hA
  go_simp
  refine hK.out _ _ (HS.out _ B3.out) (fun hHeld => ?_)
  clear hK K
  refine held_take (i := 12) (v := ?_) rfl rfl (by kernel_rfl) (by kernel_rfl) (by kernel_rfl) (fun _ _ _ h => h) (Or.inl ⟨by rfl, ?_⟩) hHeld ?_
  rotate_left
  · (intro w hSw; (try dsimp only at hSw); go_simp; try with_reducible rfl)
  simp only [Act.put, List.setIfInBounds_toArray, List.set_cons_zero, List.set_cons_succ]
  refine held_take (i := 13) (v := ?_) rfl rfl (by kernel_rfl) (by kernel_rfl) (by kernel_rfl) (fun _ _ _ h => h) (Or.inl ⟨by rfl, ?_⟩) hHeld ?_
  rotate_left
  · (intro w hSw; (try dsimp only at hSw); go_simp; try with_reducible rfl)
  simp only [Act.put, List.setIfInBounds_toArray, List.set_cons_zero, List.set_cons_succ]
  refine wpAnyH_done (by kernel_rfl) ?_ _
  go_wp2
  go_ret2
  exact ⟨A, B, rfl, V3.out.2, V3.out.1, B3.out, A2.out, A3.out⟩

end Go.Proofs.Ythgbknfdbobmiaa
