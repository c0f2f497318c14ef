/- This text proves what Write of package undo tells, and what the disk is behind it, where it stores a value and a note, and in one form; nothing is turned but the disk's block and its notes'; the condition is that the disk lies there. -/
import Derived.Test.YthgbknfdbobmiaaW7
import Derived.Test.YthgbknfdbobmiaaHl
namespace Go.Proofs.Ythgbknfdbobmiaa
open Go.RowKit Go.Deep

set_option maxHeartbeats 8000000 in
set_option maxRecDepth 100000 in
theorem write_good (w : World) (base g : Nat) (v : Value) (d : Ud) (h : UndoM w base g v d) (T B X : Nat) (hT : T < 20) (hB : B < 8) (hX : X ≤ 1000) (h1 : own d.L B = -1 ∨ own d.L B = (T : Int)) (hl : d.L.length ≠ 60) (hg2 : GoodU ⟨d.H, d.L ++ [⟨T, B, d.H B⟩]⟩) :
    Calls Try.prog 20 #[ptrU g, .agg #[.int .i64 (T : Int), .int .i64 (B : Int), .int .i64 (X : Int)]] w fun e w' => e = .returned (errV 0) ∧ ∃ v', Turn w w' base g v v' ⟨putV d.H B X, d.L ++ [⟨T, B, d.H B⟩]⟩ := by
  have HB1 : Hid (Below w.heap.size w (w.alloc (.cells #[.int .i64 (T : Int), .int .i64 (B : Int), .int .i64 (X : Int)] 46))) := below_one _ _
  have HT : Hid _ := fun (w2 : World) => turn_any w2 (T : Int)
  have e1 : decide (0 ≤ (T : Int) ∧ (T : Int) < 20) = true := by simp; omega
  rw [e1] at HT
  have HBu : Hid _ := fun (_ : Nat) => busy_any _ base g v d (h.later HB1.out) (B : Int)
  rw [ownI_nat] at HBu
  have HM : Hid (UndoM w base g v d) := h
  have HGo : Hid (GoodU ⟨d.H, d.L ++ [⟨T, B, d.H B⟩]⟩) := hg2
  obtain ⟨n, hn⟩ : ∃ n, d.L.length = n := ⟨_, rfl⟩
  have HN : Hid (d.L.length = n) := hn
  have h60 := h.good.len
  have hgl := h.lt
  have HZ : Hid (base ≤ w.heap.size) := Nat.le_trans h.low (Nat.le_of_lt h.lt)
  obtain ⟨y, hy⟩ : ∃ y, d.H B = y := ⟨_, rfl⟩
  have HP : Hid (∀ w2, Below (w.alloc (.cells #[.int .i64 (T : Int), .int .i64 (B : Int), .int .i64 (X : Int)] 46)).heap.size (w.alloc (.cells #[.int .i64 (T : Int), .int .i64 (B : Int), .int .i64 (X : Int)] 46)) w2 → UndoM w2 base g v d ∧ Below w.heap.size w w2 ∧ w.heap.size < w2.heap.size ∧ w2.drew.ownsRow base 69 3 v n (ntc d.L) ∧
      ∀ w3 : World, w3.heap[g]? = w2.heap[g]? → w3.heap[w.heap.size]? = w2.heap[w.heap.size]? → (w3.cell? ⟨w.heap.size, 0, none⟩ = some (.int .i64 (T : Int)) ∧ w3.cell? ⟨w.heap.size, 1, none⟩ = some (.int .i64 (B : Int)) ∧ w3.cell? ⟨w.heap.size, 2, none⟩ = some (.int .i64 (X : Int)) ∧ w3.cell? ⟨g, 8, none⟩ = some v ∧ w3.frozen? ⟨g, 8, none⟩ = false ∧ w3.cell? ⟨g, B, none⟩ = some (.int .i64 (y : Int)))) := fun w2 hb => by
    have hbb : Below w.heap.size w w2 := Below.next HB1.out hb
    have hm2 := h.later hbb
    refine ⟨hm2, hbb, by have := hb.size; simp at this; omega, ?_, fun w3 eg eP => ?_⟩
    · rw [← hn]
      exact xown_later hm2.log (below_drew1 _ _)
    · have k : ∀ j, w3.cell? ⟨w.heap.size, j, none⟩ = #[Value.int .i64 (T : Int), .int .i64 (B : Int), .int .i64 (X : Int)][j]? := fun j => by
        rw [World.cell?_of_block (w := w2) (a := ⟨w.heap.size, j, none⟩) eP, hb.cell (p := ⟨w.heap.size, j, none⟩) (by simp)]
        exact cell_new _ _ _ _
      refine ⟨k 0, k 1, k 2, (cell_in (eg.trans hm2.cells) 8).1.trans (udC_log d v), (cell_in (eg.trans hm2.cells) 8).2, ?_⟩
      rw [← hy]
      exact (cell_in (eg.trans hm2.cells) B).1.trans (udC_val d v hB)
  obtain ⟨ti, hti, hy0, hy1, hy2⟩ := info_parts Try.info69
  rw [hy] at HGo
  rw [hy]
  obtain ⟨a, c, hv⟩ := rown_form h.log
  rw [hn] at hv
  subst hv
  rw [hn] at hl h60
  have hl1 : ((n : Int) == 60) = false := by simp; omega
  have HUp : Hid (¬ Up g (.slice a n c) w.heap.size) := fun e => by have := (HM.out.fp e).2; omega
  have HV : Hid (d.H B = y) := hy
  clear h hg2 e1 hn hy
  unfold ptrU at *
  obtain ⟨o, ho⟩ : ∃ o, own d.L B = o := ⟨_, rfl⟩
  rw [ho] at HBu h1
  clear ho
  rcases h1 with rfl | rfl
  · go_enter Try.func20, Try.ntmps20
    go_wp2_with (first
      | (go_at_call 30; refine (HT.out _).mono ?_; rintro e w2 ⟨rfl, rfl⟩)
      | (go_at_call 31; refine (HBu.out 0).mono ?_; rintro e w3 ⟨rfl, hb3⟩; obtain ⟨hm3, hb3b, hsz, hown3, hsx⟩ := HP.out w3 hb3; have p0 := (hsx w3 rfl rfl).1; have p8 := (hsx w3 rfl rfl).2.2.2.1; have HB3 : Hid (Below w.heap.size w w3) := hb3b; have HO : Hid (w3.drew.ownsRow base 69 3 (.slice a n c) n (ntc d.L)) := hown3; have HSx : Hid _ := hsx; clear hb3 hb3b hown3 hsx))
    generalize hPP : w.heap.size = P at p0 hsz HUp HZ hgl HSx ⊢
    have HPe : Hid (w.heap.size = P) := hPP
    have HZ3 : Hid (base ≤ w3.heap.size) := by have := HZ.out; show base ≤ w3.heap.size; omega
    have hgw : g < w3.heap.size := by omega
    have HSd := HSx.out w3.drew rfl rfl
    have HM3 : Hid (UndoM w3 base g (.slice a n c) d) := hm3
    clear hPP HP HT HBu HB1 hm3 p0 p8
    refine wp_region_last (S := fun w' => w'.cell? ⟨P, 0, none⟩ = some (.int .i64 (T : Int)) ∧ w'.cell? ⟨P, 1, none⟩ = some (.int .i64 (B : Int)) ∧ w'.cell? ⟨P, 2, none⟩ = some (.int .i64 (X : Int)) ∧ w'.cell? ⟨g, 8, none⟩ = some (.slice a n c) ∧ w'.frozen? ⟨g, 8, none⟩ = false ∧ w'.cell? ⟨g, B, none⟩ = some (.int .i64 (y : Int))) 21 (by kernel_rfl) (by kernel_rfl) ?hs (fun hHeld => ?_)
    case hs => exact HSd
    clear HSd
    refine held_take (i := 0) (v := ?_) rfl rfl (by kernel_rfl) (by kernel_rfl) (by kernel_rfl) (fun _ _ _ h => h) (Or.inl ⟨by rfl, ?_⟩) hHeld ?_
    rotate_left
    · (intro w hSw; (try dsimp only at hSw); go_simp; try with_reducible rfl)
    simp only [Act.put, List.setIfInBounds_toArray, List.set_cons_zero, List.set_cons_succ]
    refine held_take (i := 1) (v := ?_) rfl rfl (by kernel_rfl) (by kernel_rfl) (by kernel_rfl) (fun _ _ _ h => h) (Or.inl ⟨by rfl, ?_⟩) hHeld ?_
    rotate_left
    · (intro w hSw; (try dsimp only at hSw); go_simp; try with_reducible rfl)
    simp only [Act.put, List.setIfInBounds_toArray, List.set_cons_zero, List.set_cons_succ]
    refine held_take (i := 2) (v := ?_) rfl rfl (by kernel_rfl) (by kernel_rfl) (by kernel_rfl) (fun _ _ _ h => h) (Or.inl ⟨by rfl, ?_⟩) hHeld ?_
    rotate_left
    · (intro w hSw; (try dsimp only at hSw); go_simp; try with_reducible rfl)
    simp only [Act.put, List.setIfInBounds_toArray, List.set_cons_zero, List.set_cons_succ]
    refine held_take (i := 3) (v := ?_) rfl rfl (by kernel_rfl) (by kernel_rfl) (by kernel_rfl) (fun _ _ _ h => h) (Or.inl ⟨by rfl, ?_⟩) hHeld ?_
    rotate_left
    · (intro w hSw; (try dsimp only at hSw); go_simp; try with_reducible rfl)
    simp only [Act.put, List.setIfInBounds_toArray, List.set_cons_zero, List.set_cons_succ]
    refine held_take (i := 4) (v := ?_) rfl rfl (by kernel_rfl) (by kernel_rfl) (by kernel_rfl) (fun _ _ _ h => h) (Or.inl ⟨by rfl, ?_⟩) hHeld ?_
    rotate_left
    · (intro w hSw; (try dsimp only at hSw); go_simp; try with_reducible rfl)
    simp only [Act.put, List.setIfInBounds_toArray, List.set_cons_zero, List.set_cons_succ]
    refine held_take (i := 5) (v := ?_) rfl rfl (by kernel_rfl) (by kernel_rfl) (by kernel_rfl) (fun _ _ _ h => h) (Or.inl ⟨by rfl, ?_⟩) hHeld ?_
    rotate_left
    · (intro w hSw; (try dsimp only at hSw); go_simp; try with_reducible rfl)
    simp only [Act.put, List.setIfInBounds_toArray, List.set_cons_zero, List.set_cons_succ]
    refine held_take (i := 6) (v := ?_) rfl rfl (by kernel_rfl) (by kernel_rfl) (by kernel_rfl) (fun _ _ _ h => h) (Or.inl ⟨by rfl, ?_⟩) hHeld ?_
    rotate_left
    · (intro w hSw; (try dsimp only at hSw); go_simp; try with_reducible rfl)
    simp only [Act.put, List.setIfInBounds_toArray, List.set_cons_zero, List.set_cons_succ]
    refine held_take (i := 7) (v := ?_) rfl rfl (by kernel_rfl) (by kernel_rfl) (by kernel_rfl) (fun _ _ _ h => h) (Or.inl ⟨by rfl, ?_⟩) hHeld ?_
    rotate_left
    · (intro w hSw; (try dsimp only at hSw); go_simp; try with_reducible rfl)
    simp only [Act.put, List.setIfInBounds_toArray, List.set_cons_zero, List.set_cons_succ]
    refine held_take (i := 8) (v := ?_) rfl rfl (by kernel_rfl) (by kernel_rfl) (by kernel_rfl) (fun _ _ _ h => h) (Or.inl ⟨by rfl, ?_⟩) hHeld ?_
    rotate_left
    · (intro w hSw; (try dsimp only at hSw); go_simp; try with_reducible rfl)
    simp only [Act.put, List.setIfInBounds_toArray, List.set_cons_zero, List.set_cons_succ]
    refine held_take (i := 9) (v := ?_) rfl rfl (by kernel_rfl) (by kernel_rfl) (by kernel_rfl) (fun _ _ _ h => h) (Or.inl ⟨by rfl, ?_⟩) hHeld ?_
    rotate_left
    · (intro w hSw; (try dsimp only at hSw); go_simp; try with_reducible rfl)
    simp only [Act.put, List.setIfInBounds_toArray, List.set_cons_zero, List.set_cons_succ]
    refine held_take (i := 10) (v := ?_) rfl rfl (by kernel_rfl) (by kernel_rfl) (by kernel_rfl) (fun _ _ _ h => h) (Or.inl ⟨by rfl, ?_⟩) hHeld ?_
    rotate_left
    · (intro w hSw; (try dsimp only at hSw); go_simp; try with_reducible rfl)
    simp only [Act.put, List.setIfInBounds_toArray, List.set_cons_zero, List.set_cons_succ]
    refine held_take (i := 11) (v := ?_) rfl rfl (by kernel_rfl) (by kernel_rfl) (by kernel_rfl) (fun _ _ _ h => h) (Or.inl ⟨by rfl, ?_⟩) hHeld ?_
    rotate_left
    · (intro w hSw; (try dsimp only at hSw); go_simp; try with_reducible rfl)
    simp only [Act.put, List.setIfInBounds_toArray, List.set_cons_zero, List.set_cons_succ]
    refine held_take (i := 12) (v := ?_) rfl rfl (by kernel_rfl) (by kernel_rfl) (by kernel_rfl) (fun _ _ _ h => h) (Or.inl ⟨by rfl, ?_⟩) hHeld ?_
    rotate_left
    · (intro w hSw; (try dsimp only at hSw); go_simp; try with_reducible rfl)
    simp only [Act.put, List.setIfInBounds_toArray, List.set_cons_zero, List.set_cons_succ]
    refine held_take (i := 13) (v := ?_) rfl rfl (by kernel_rfl) (by kernel_rfl) (by kernel_rfl) (fun _ _ _ h => h) (Or.inl ⟨by rfl, ?_⟩) hHeld ?_
    rotate_left
    · (intro w hSw; (try dsimp only at hSw); go_simp; try with_reducible rfl)
    simp only [Act.put, List.setIfInBounds_toArray, List.set_cons_zero, List.set_cons_succ]
    refine held_take (i := 14) (v := ?_) rfl rfl (by kernel_rfl) (by kernel_rfl) (by kernel_rfl) (fun _ _ _ h => h) (Or.inl ⟨by rfl, ?_⟩) hHeld ?_
    rotate_left
    · (intro w hSw; (try dsimp only at hSw); go_simp; try with_reducible rfl)
    simp only [Act.put, List.setIfInBounds_toArray, List.set_cons_zero, List.set_cons_succ]
    refine held_take (i := 15) (v := ?_) rfl rfl (by kernel_rfl) (by kernel_rfl) (by kernel_rfl) (fun _ _ _ h => h) (Or.inl ⟨by rfl, ?_⟩) hHeld ?_
    rotate_left
    · (intro w hSw; (try dsimp only at hSw); go_simp; try with_reducible rfl)
    simp only [Act.put, List.setIfInBounds_toArray, List.set_cons_zero, List.set_cons_succ]
    refine held_take (i := 16) (v := ?_) rfl rfl (by kernel_rfl) (by kernel_rfl) (by kernel_rfl) (fun _ _ _ h => h) (Or.inl ⟨by rfl, ?_⟩) hHeld ?_
    rotate_left
    · (intro w hSw; (try dsimp only at hSw); go_simp; try with_reducible rfl)
    simp only [Act.put, List.setIfInBounds_toArray, List.set_cons_zero, List.set_cons_succ]
    refine wpAnyH_ready (rs := [17]) (by kernel_rfl) (by simp) ?_
    refine AllReadyH.cons rfl (fun K hK => ?_) AllReadyH.nil
    go_simp
    refine hK.out _ _ (HSx.out _ ((below_one w3.drew _).block g hgw) ((below_one w3.drew _).block P hsz)) (fun hHeld => ?_)
    clear hK K
    refine wpAnyH_ready (rs := [18]) (by kernel_rfl) (by simp) ?_
    refine AllReadyH.cons rfl (fun K hK => ?_) AllReadyH.nil
    refine step_append_lies _ (by rfl) (.tmp 55) (.tmp 68) 60 (by rfl) base 69 ti (.agg #[.int .i64 0, .int .i64 0, .int .i64 0]) 3 24 Try.underlying60 hti hy0 hy1 hy2 rfl (by decide) (.slice a n c) n (ntc d.L) (by rfl) (HO.out.alloc _) ⟨w3.heap.size, 0, none⟩ 1 1 [.int .i64 (T : Int), .int .i64 (B : Int), .int .i64 (y : Int)] (by rfl) rfl (news_three w3.drew _ _ _ 69) (ones_three _ _ _) (by decide) (by unfold maxLen; omega) (by omega) (by have := HZ3.out; simp; omega) _ rfl ?_
    intro g2 cap2 w5 hown hgr hat hlt
    have HQ := noteu_mem HM.out (Below.next (HB3.out.trans (below_drew1 _ _)) (below_one _ _)) ⟨T, B, y⟩ HN.out hown hgr hat HGo.out
    obtain ⟨⟨e8, ef⟩, hst, hke⟩ := HQ
    have HS : Hid _ := hst
    have HKe := hke P (by simp; omega) HUp.out
    have e5g := hgr.block g (by simp; omega) (fun e => HM.out.ap e.symm)
    have e5P := hgr.block P (by simp; omega) (fun e => HUp.out (.inr e.symm))
    refine hK.out _ _ (HSx.out _ (e5g.trans ((below_one w3.drew _).block g hgw)) (e5P.trans ((below_one w3.drew _).block P hsz))) (fun hHeld => ?_)
    clear hK K
    replace HKe := HKe.trans ((below_one w3.drew _).block P hsz)
    clear hst hown hgr hat hke e5g e5P
    refine held_take (i := 19) (v := ?_) rfl rfl (by kernel_rfl) (by kernel_rfl) (by kernel_rfl) (fun _ _ _ h => h) (Or.inl ⟨by rfl, ?_⟩) hHeld ?_
    rotate_left
    · (intro w hSw; (try dsimp only at hSw); go_simp; try with_reducible rfl)
    simp only [Act.put, List.setIfInBounds_toArray]
    refine held_take (i := 20) (v := ?_) rfl rfl (by kernel_rfl) (by kernel_rfl) (by kernel_rfl) (fun _ _ _ h => h) (Or.inl ⟨by rfl, ?_⟩) hHeld ?_
    rotate_left
    · (intro w hSw; (try dsimp only at hSw); go_simp; try with_reducible rfl)
    simp only [Act.put]
    refine wpAnyH_done (by kernel_rfl) ?_ _
    refine last_step rfl (fun K hK => ?_)
    go_simp
    refine hK _ _ ?_
    clear hK K
    have HD : Hid _ := HS.out.disk
    obtain ⟨f1, f2⟩ := HD.out.val hB
    rw [show (⟨d.H, d.L ++ [⟨T, B, y⟩]⟩ : Ud).H B = y from HV.out] at f1
    have k1 : (w5.setCell ⟨g, 8, none⟩ (.slice (some ⟨g2, 0, none⟩) (n + 1) cap2)).cell? ⟨P, 1, none⟩ = some (.int .i64 (B : Int)) := (World.cell?_of_block (w := w3.drew) (a := ⟨P, 1, none⟩) HKe).trans (HSx.out w3.drew rfl rfl).2.1
    have k2 : (w5.setCell ⟨g, 8, none⟩ (.slice (some ⟨g2, 0, none⟩) (n + 1) cap2)).cell? ⟨P, 2, none⟩ = some (.int .i64 (X : Int)) := (World.cell?_of_block (w := w3.drew) (a := ⟨P, 2, none⟩) HKe).trans (HSx.out w3.drew rfl rfl).2.2.1
    clear e8 ef HKe hHeld hlt
    generalize w5.setCell ⟨g, 8, none⟩ (.slice (some ⟨g2, 0, none⟩) (n + 1) cap2) = w6 at HS HD f1 f2 k1 k2 ⊢
    have HFd : Hid (UndoM (w6.drew.setCell ⟨g, B, none⟩ (.int .i64 (X : Int))) base g (.slice (some ⟨g2, 0, none⟩) (n + 1) cap2) ⟨putV d.H B X, d.L ++ [⟨T, B, y⟩]⟩) := (HD.out.later (below_drew1 _ _)).put hB X
    have HFs : Hid (Stay (Up g (.slice a n c)) w (w6.drew.setCell ⟨g, B, none⟩ (.int .i64 (X : Int)))) := (HS.out.stay.trans (Stay.drew _ _)).trans (Stay.set _ _ (.inl rfl))
    go_wp2_with fail
    go_region
    go_wp2
    go_ret
    exact ⟨rfl, _, HFd.out, HFs.out, HS.out.lies⟩
  · have n1 : ((T : Int) != -1) = true := by first | (simp; done) | (simp; omega)
    go_enter Try.func20, Try.ntmps20
    go_wp2_with (first
      | (go_at_call 30; refine (HT.out _).mono ?_; rintro e w2 ⟨rfl, rfl⟩)
      | (go_at_call 31; refine (HBu.out 0).mono ?_; rintro e w3 ⟨rfl, hb3⟩; obtain ⟨hm3, hb3b, hsz, hown3, hsx⟩ := HP.out w3 hb3; have p0 := (hsx w3 rfl rfl).1; have p8 := (hsx w3 rfl rfl).2.2.2.1; have HB3 : Hid (Below w.heap.size w w3) := hb3b; have HO : Hid (w3.drew.ownsRow base 69 3 (.slice a n c) n (ntc d.L)) := hown3; have HSx : Hid _ := hsx; clear hb3 hb3b hown3 hsx))
    generalize hPP : w.heap.size = P at p0 hsz HUp HZ hgl HSx ⊢
    have HPe : Hid (w.heap.size = P) := hPP
    have HZ3 : Hid (base ≤ w3.heap.size) := by have := HZ.out; show base ≤ w3.heap.size; omega
    have hgw : g < w3.heap.size := by omega
    have HSd := HSx.out w3.drew rfl rfl
    have HM3 : Hid (UndoM w3 base g (.slice a n c) d) := hm3
    clear hPP HP HT HBu HB1 hm3 p0 p8
    refine wp_region_last (S := fun w' => w'.cell? ⟨P, 0, none⟩ = some (.int .i64 (T : Int)) ∧ w'.cell? ⟨P, 1, none⟩ = some (.int .i64 (B : Int)) ∧ w'.cell? ⟨P, 2, none⟩ = some (.int .i64 (X : Int)) ∧ w'.cell? ⟨g, 8, none⟩ = some (.slice a n c) ∧ w'.frozen? ⟨g, 8, none⟩ = false ∧ w'.cell? ⟨g, B, none⟩ = some (.int .i64 (y : Int))) 21 (by kernel_rfl) (by kernel_rfl) ?hs (fun hHeld => ?_)
    case hs => exact HSd
    clear HSd
    refine held_take (i := 0) (v := ?_) rfl rfl (by kernel_rfl) (by kernel_rfl) (by kernel_rfl) (fun _ _ _ h => h) (Or.inl ⟨by rfl, ?_⟩) hHeld ?_
    rotate_left
    · (intro w hSw; (try dsimp only at hSw); go_simp; try with_reducible rfl)
    simp only [Act.put, List.setIfInBounds_toArray, List.set_cons_zero, List.set_cons_succ]
    refine held_take (i := 1) (v := ?_) rfl rfl (by kernel_rfl) (by kernel_rfl) (by kernel_rfl) (fun _ _ _ h => h) (Or.inl ⟨by rfl, ?_⟩) hHeld ?_
    rotate_left
    · (intro w hSw; (try dsimp only at hSw); go_simp; try with_reducible rfl)
    simp only [Act.put, List.setIfInBounds_toArray, List.set_cons_zero, List.set_cons_succ]
    refine held_take (i := 2) (v := ?_) rfl rfl (by kernel_rfl) (by kernel_rfl) (by kernel_rfl) (fun _ _ _ h => h) (Or.inl ⟨by rfl, ?_⟩) hHeld ?_
    rotate_left
    · (intro w hSw; (try dsimp only at hSw); go_simp; try with_reducible rfl)
    simp only [Act.put, List.setIfInBounds_toArray, List.set_cons_zero, List.set_cons_succ]
    refine held_take (i := 3) (v := ?_) rfl rfl (by kernel_rfl) (by kernel_rfl) (by kernel_rfl) (fun _ _ _ h => h) (Or.inl ⟨by rfl, ?_⟩) hHeld ?_
    rotate_left
    · (intro w hSw; (try dsimp only at hSw); go_simp; try with_reducible rfl)
    simp only [Act.put, List.setIfInBounds_toArray, List.set_cons_zero, List.set_cons_succ]
    refine held_take (i := 4) (v := ?_) rfl rfl (by kernel_rfl) (by kernel_rfl) (by kernel_rfl) (fun _ _ _ h => h) (Or.inl ⟨by rfl, ?_⟩) hHeld ?_
    rotate_left
    · (intro w hSw; (try dsimp only at hSw); go_simp; try with_reducible rfl)
    simp only [Act.put, List.setIfInBounds_toArray, List.set_cons_zero, List.set_cons_succ]
    refine held_take (i := 5) (v := ?_) rfl rfl (by kernel_rfl) (by kernel_rfl) (by kernel_rfl) (fun _ _ _ h => h) (Or.inl ⟨by rfl, ?_⟩) hHeld ?_
    rotate_left
    · (intro w hSw; (try dsimp only at hSw); go_simp; try with_reducible rfl)
    simp only [Act.put, List.setIfInBounds_toArray, List.set_cons_zero, List.set_cons_succ]
    refine held_take (i := 6) (v := ?_) rfl rfl (by kernel_rfl) (by kernel_rfl) (by kernel_rfl) (fun _ _ _ h => h) (Or.inl ⟨by rfl, ?_⟩) hHeld ?_
    rotate_left
    · (intro w hSw; (try dsimp only at hSw); go_simp; try with_reducible rfl)
    simp only [Act.put, List.setIfInBounds_toArray, List.set_cons_zero, List.set_cons_succ]
    refine held_take (i := 7) (v := ?_) rfl rfl (by kernel_rfl) (by kernel_rfl) (by kernel_rfl) (fun _ _ _ h => h) (Or.inl ⟨by rfl, ?_⟩) hHeld ?_
    rotate_left
    · (intro w hSw; (try dsimp only at hSw); go_simp; try with_reducible rfl)
    simp only [Act.put, List.setIfInBounds_toArray, List.set_cons_zero, List.set_cons_succ]
    refine held_take (i := 8) (v := ?_) rfl rfl (by kernel_rfl) (by kernel_rfl) (by kernel_rfl) (fun _ _ _ h => h) (Or.inl ⟨by rfl, ?_⟩) hHeld ?_
    rotate_left
    · (intro w hSw; (try dsimp only at hSw); go_simp; try with_reducible rfl)
    simp only [Act.put, List.setIfInBounds_toArray, List.set_cons_zero, List.set_cons_succ]
    refine held_take (i := 9) (v := ?_) rfl rfl (by kernel_rfl) (by kernel_rfl) (by kernel_rfl) (fun _ _ _ h => h) (Or.inl ⟨by rfl, ?_⟩) hHeld ?_
    rotate_left
    · (intro w hSw; (try dsimp only at hSw); go_simp; try with_reducible rfl)
    simp only [Act.put, List.setIfInBounds_toArray, List.set_cons_zero, List.set_cons_succ]
    refine held_take (i := 10) (v := ?_) rfl rfl (by kernel_rfl) (by kernel_rfl) (by kernel_rfl) (fun _ _ _ h => h) (Or.inl ⟨by rfl, ?_⟩) hHeld ?_
    rotate_left
    · (intro w hSw; (try dsimp only at hSw); go_simp; try with_reducible rfl)
    simp only [Act.put, List.setIfInBounds_toArray, List.set_cons_zero, List.set_cons_succ]
    refine held_take (i := 11) (v := ?_) rfl rfl (by kernel_rfl) (by kernel_rfl) (by kernel_rfl) (fun _ _ _ h => h) (Or.inl ⟨by rfl, ?_⟩) hHeld ?_
    rotate_left
    · (intro w hSw; (try dsimp only at hSw); go_simp; try with_reducible rfl)
    simp only [Act.put, List.setIfInBounds_toArray, List.set_cons_zero, List.set_cons_succ]
    refine held_take (i := 12) (v := ?_) rfl rfl (by kernel_rfl) (by kernel_rfl) (by kernel_rfl) (fun _ _ _ h => h) (Or.inl ⟨by rfl, ?_⟩) hHeld ?_
    rotate_left
    · (intro w hSw; (try dsimp only at hSw); go_simp; try with_reducible rfl)
    simp only [Act.put, List.setIfInBounds_toArray, List.set_cons_zero, List.set_cons_succ]
    refine held_take (i := 13) (v := ?_) rfl rfl (by kernel_rfl) (by kernel_rfl) (by kernel_rfl) (fun _ _ _ h => h) (Or.inl ⟨by rfl, ?_⟩) hHeld ?_
    rotate_left
    · (intro w hSw; (try dsimp only at hSw); go_simp; try with_reducible rfl)
    simp only [Act.put, List.setIfInBounds_toArray, List.set_cons_zero, List.set_cons_succ]
    refine held_take (i := 14) (v := ?_) rfl rfl (by kernel_rfl) (by kernel_rfl) (by kernel_rfl) (fun _ _ _ h => h) (Or.inl ⟨by rfl, ?_⟩) hHeld ?_
    rotate_left
    · (intro w hSw; (try dsimp only at hSw); go_simp; try with_reducible rfl)
    simp only [Act.put, List.setIfInBounds_toArray, List.set_cons_zero, List.set_cons_succ]
    refine held_take (i := 15) (v := ?_) rfl rfl (by kernel_rfl) (by kernel_rfl) (by kernel_rfl) (fun _ _ _ h => h) (Or.inl ⟨by rfl, ?_⟩) hHeld ?_
    rotate_left
    · (intro w hSw; (try dsimp only at hSw); go_simp; try with_reducible rfl)
    simp only [Act.put, List.setIfInBounds_toArray, List.set_cons_zero, List.set_cons_succ]
    refine held_take (i := 16) (v := ?_) rfl rfl (by kernel_rfl) (by kernel_rfl) (by kernel_rfl) (fun _ _ _ h => h) (Or.inl ⟨by rfl, ?_⟩) hHeld ?_
    rotate_left
    · (intro w hSw; (try dsimp only at hSw); go_simp; try with_reducible rfl)
    simp only [Act.put, List.setIfInBounds_toArray, List.set_cons_zero, List.set_cons_succ]
    refine wpAnyH_ready (rs := [17]) (by kernel_rfl) (by simp) ?_
    refine AllReadyH.cons rfl (fun K hK => ?_) AllReadyH.nil
    go_simp
    refine hK.out _ _ (HSx.out _ ((below_one w3.drew _).block g hgw) ((below_one w3.drew _).block P hsz)) (fun hHeld => ?_)
    clear hK K
    refine wpAnyH_ready (rs := [18]) (by kernel_rfl) (by simp) ?_
    refine AllReadyH.cons rfl (fun K hK => ?_) AllReadyH.nil
    refine step_append_lies _ (by rfl) (.tmp 55) (.tmp 68) 60 (by rfl) base 69 ti (.agg #[.int .i64 0, .int .i64 0, .int .i64 0]) 3 24 Try.underlying60 hti hy0 hy1 hy2 rfl (by decide) (.slice a n c) n (ntc d.L) (by rfl) (HO.out.alloc _) ⟨w3.heap.size, 0, none⟩ 1 1 [.int .i64 (T : Int), .int .i64 (B : Int), .int .i64 (y : Int)] (by rfl) rfl (news_three w3.drew _ _ _ 69) (ones_three _ _ _) (by decide) (by unfold maxLen; omega) (by omega) (by have := HZ3.out; simp; omega) _ rfl ?_
    intro g2 cap2 w5 hown hgr hat hlt
    have HQ := noteu_mem HM.out (Below.next (HB3.out.trans (below_drew1 _ _)) (below_one _ _)) ⟨T, B, y⟩ HN.out hown hgr hat HGo.out
    obtain ⟨⟨e8, ef⟩, hst, hke⟩ := HQ
    have HS : Hid _ := hst
    have HKe := hke P (by simp; omega) HUp.out
    have e5g := hgr.block g (by simp; omega) (fun e => HM.out.ap e.symm)
    have e5P := hgr.block P (by simp; omega) (fun e => HUp.out (.inr e.symm))
    refine hK.out _ _ (HSx.out _ (e5g.trans ((below_one w3.drew _).block g hgw)) (e5P.trans ((below_one w3.drew _).block P hsz))) (fun hHeld => ?_)
    clear hK K
    replace HKe := HKe.trans ((below_one w3.drew _).block P hsz)
    clear hst hown hgr hat hke e5g e5P
    refine held_take (i := 19) (v := ?_) rfl rfl (by kernel_rfl) (by kernel_rfl) (by kernel_rfl) (fun _ _ _ h => h) (Or.inl ⟨by rfl, ?_⟩) hHeld ?_
    rotate_left
    · (intro w hSw; (try dsimp only at hSw); go_simp; try with_reducible rfl)
    simp only [Act.put, List.setIfInBounds_toArray]
    refine held_take (i := 20) (v := ?_) rfl rfl (by kernel_rfl) (by kernel_rfl) (by kernel_rfl) (fun _ _ _ h => h) (Or.inl ⟨by rfl, ?_⟩) hHeld ?_
    rotate_left
    · (intro w hSw; (try dsimp only at hSw); go_simp; try with_reducible rfl)
    simp only [Act.put]
    refine wpAnyH_done (by kernel_rfl) ?_ _
    refine last_step rfl (fun K hK => ?_)
    go_simp
    refine hK _ _ ?_
    clear hK K
    have HD : Hid _ := HS.out.disk
    obtain ⟨f1, f2⟩ := HD.out.val hB
    rw [show (⟨d.H, d.L ++ [⟨T, B, y⟩]⟩ : Ud).H B = y from HV.out] at f1
    have k1 : (w5.setCell ⟨g, 8, none⟩ (.slice (some ⟨g2, 0, none⟩) (n + 1) cap2)).cell? ⟨P, 1, none⟩ = some (.int .i64 (B : Int)) := (World.cell?_of_block (w := w3.drew) (a := ⟨P, 1, none⟩) HKe).trans (HSx.out w3.drew rfl rfl).2.1
    have k2 : (w5.setCell ⟨g, 8, none⟩ (.slice (some ⟨g2, 0, none⟩) (n + 1) cap2)).cell? ⟨P, 2, none⟩ = some (.int .i64 (X : Int)) := (World.cell?_of_block (w := w3.drew) (a := ⟨P, 2, none⟩) HKe).trans (HSx.out w3.drew rfl rfl).2.2.1
    clear e8 ef HKe hHeld hlt
    generalize w5.setCell ⟨g, 8, none⟩ (.slice (some ⟨g2, 0, none⟩) (n + 1) cap2) = w6 at HS HD f1 f2 k1 k2 ⊢
    have HFd : Hid (UndoM (w6.drew.setCell ⟨g, B, none⟩ (.int .i64 (X : Int))) base g (.slice (some ⟨g2, 0, none⟩) (n + 1) cap2) ⟨putV d.H B X, d.L ++ [⟨T, B, y⟩]⟩) := (HD.out.later (below_drew1 _ _)).put hB X
    have HFs : Hid (Stay (Up g (.slice a n c)) w (w6.drew.setCell ⟨g, B, none⟩ (.int .i64 (X : Int)))) := (HS.out.stay.trans (Stay.drew _ _)).trans (Stay.set _ _ (.inl rfl))
    go_wp2_with fail
    go_region
    go_wp2
    go_ret
    exact ⟨rfl, _, HFd.out, HFs.out, HS.out.lies⟩

/-- Write, in one form. -/
theorem write_any (w : World) (base g : Nat) (v : Value) (d : Ud) (h : UndoM w base g v d) (t b x : Int) :
    Calls Try.prog 20 #[ptrU g, .agg #[.int .i64 t, .int .i64 b, .int .i64 x]] w fun e w' => e = .returned (errV (wrE d.L t b x)) ∧ ∃ v', Turn w w' base g v v' (wrD d t b x) := by
  by_cases hk : (0 ≤ t ∧ t < 20) ∧ (0 ≤ b ∧ b < 8) ∧ 0 ≤ x ∧ x ≤ 1000
  · obtain ⟨T, rfl⟩ : ∃ T : Nat, t = (T : Int) := ⟨t.toNat, by omega⟩
    obtain ⟨B, rfl⟩ : ∃ B : Nat, b = (B : Int) := ⟨b.toNat, by omega⟩
    obtain ⟨X, rfl⟩ : ∃ X : Nat, x = (X : Int) := ⟨x.toNat, by omega⟩
    have e0 : wrE d.L (T : Int) (B : Int) (X : Int) = if own d.L B ≠ -1 ∧ own d.L B ≠ (T : Int) then 6 else if d.L.length = 60 then 4 else 0 := by
      unfold wrE
      rw [if_pos (okP_iff.2 hk), Int.toNat_natCast]
    by_cases h1 : own d.L B = -1 ∨ own d.L B = (T : Int)
    · have h2 : ¬ (own d.L B ≠ -1 ∧ own d.L B ≠ (T : Int)) := fun k => by rcases h1 with e | e; exact k.1 e; exact k.2 e
      rw [if_neg h2] at e0
      by_cases hl : d.L.length = 60
      · rw [if_pos hl] at e0
        rw [wrD_no (by rw [e0]; decide), e0]
        refine (write_full w base g v d h T B X (by omega) (by omega) (by omega) h1 hl).mono ?_
        rintro e w' ⟨he, hb⟩
        exact ⟨he, v, Turn.none' h hb⟩
      · rw [if_neg hl] at e0
        have hg := good_wr h.good (T : Int) (B : Int) (X : Int)
        rw [wrD_yes e0, Int.toNat_natCast, Int.toNat_natCast, Int.toNat_natCast] at hg ⊢
        rw [e0]
        exact write_good w base g v d h T B X (by omega) (by omega) (by omega) h1 hl ⟨hg.one, hg.len, hg.sole⟩
    · have h2 : own d.L B ≠ -1 ∧ own d.L B ≠ (T : Int) := ⟨fun e => h1 (.inl e), fun e => h1 (.inr e)⟩
      rw [if_pos h2] at e0
      rw [wrD_no (by rw [e0]; decide), e0]
      refine (write_clash w base g v d h T B X (by omega) (by omega) (by omega) h2.1 h2.2).mono ?_
      rintro e w' ⟨he, hb⟩
      exact ⟨he, v, Turn.none' h hb⟩
  · rw [wrD_no (by rw [wr_bad hk]; decide), wr_bad hk]
    refine (write_bad w g t b x hk).mono ?_
    rintro e w' ⟨he, hb⟩
    exact ⟨he, v, Turn.none' h hb⟩

end Go.Proofs.Ythgbknfdbobmiaa
