/- This text proves what the document's own Values answers: what each page is worth by a table; old memory is as it was; the conditions are that the lists lie there, and that the table names slots alone. -/
import Derived.Test.YthgbknfdbobmiaaDoorSD2
namespace Go.Proofs.YthgbknfdbobmiaaDoor
open Go.RowKit Go.Deep

/-- What is told of the first pages. -/
def vlL (C : Nat → Int) (z k : Nat) : List Int := (List.range k).map (vlS C z)
theorem vlL_len (C : Nat → Int) (z k : Nat) : (vlL C z k).length = k := by simp [vlL]
theorem vlL_snoc (C : Nat → Int) (z k : Nat) : cellsOf (vlL C z k) ++ [.int .i64 (vlS C z k)] = cellsOf (vlL C z (k + 1)) := by
  rw [cellsOf_snoc]
  simp [vlL, List.range_succ]
theorem vlL_all (C : Nat → Int) (z : Nat) : vlL C z 8 = lsI (vlS C z) := rfl

set_option maxHeartbeats 8000000 in
set_option maxRecDepth 100000 in
theorem r3values_any (w : World) (vs vo vn vt : Value) (C : Nat → Int) (hd : DocS w vs vo vn C) (z : Nat) (ht : SliceIs w vt (lsC C z 8)) (hz : ∀ i, i < 8 → -1 ≤ C (z + i) ∧ C (z + i) ≤ 15) :
    Calls Tryd.prog 14 #[.agg #[vs, vo, vn], vt] w fun e w' => ∃ v, e = .returned v ∧ w'.ownsRow w.heap.size 3 1 v 8 (cellsOf (lsI (vlS C z))) ∧ Below w.heap.size w w' := by
  obtain ⟨⟨a0, cs, rfl⟩, ⟨ao, co, rfl⟩, ⟨an, cn, rfl⟩⟩ := hd.form
  obtain ⟨bt, ot, ct, rfl, hbt, hct⟩ := row_cells ht (lsC_len _ _ _) (by decide)
  obtain ⟨bs, os, rfl, hbs, hcs⟩ := hd.s.cellI (i := 0) (by decide)
  have HZ : Hid (∀ i, i < 8 → -1 ≤ C (z + i) ∧ C (z + i) ≤ 15) := hz
  have hb1 := below_one w (.cells #[.slice (some ⟨bs, os, none⟩) 16 cs, .slice ao 8 co, .slice an 8 cn] 27)
  have hk1 := box3_new w (.slice (some ⟨bs, os, none⟩) 16 cs) (.slice ao 8 co) (.slice an 8 cn)
  obtain ⟨P, hP⟩ : ∃ P, w.heap.size = P := ⟨_, rfl⟩
  have HP : Hid (w.heap.size = P) := hP
  obtain ⟨ti, hti, hz0, hz1, hz2⟩ := info_parts Tryd.info3
  rw [hP] at hk1
  have HC : Hid (∀ W, Below w.heap.size w W → (∀ i, i < 8 → W.cell? ⟨bt, ot + i, none⟩ = some (.int .i64 (C (z + i)))) ∧ ∀ i, i < 16 → W.cell? ⟨bs, os + i, none⟩ = some (.int .i64 (C i))) := fun W hW =>
    ⟨fun i hi => by rw [hW.cell (p := ⟨bt, ot + i, none⟩) hbt, hct i hi, lsC_nth hi], fun i hi => by rw [hW.cell (p := ⟨bs, os + i, none⟩) hbs, hcs i hi, Nat.zero_add]⟩
  clear hd ht hz hct hcs
  go_enter Tryd.func14, Tryd.ntmps14
  go_wp2_with fail
  generalize w.alloc _ = w1 at hb1 hk1 ⊢
  have HB1 : Hid (Below w.heap.size w w1) := hb1
  have HK1 : Hid (∀ W, Below w1.heap.size w1 W → W.cell? ⟨P, 0, none⟩ = some (.slice (some ⟨bs, os, none⟩) 16 cs)) := fun W hW => (hk1.later hW).facts.1
  have HPl : Hid (P < w1.heap.size) := hk1.lt
  clear hb1 hk1 hbt hbs
  clear hP
  go_loopw [5, 6] (fun u i wr => ∃ k : Nat, k ≤ 8 ∧ i = .int .i64 (k : Int) ∧ wr.ownsRow w1.heap.size 3 1 u k (cellsOf (vlL C z k)) ∧ Below w1.heap.size w1 wr) (fun _ i _ => 8 - (Go.RowKit.intOf i).toNat)
  case atStart => exact ⟨0, by omega, rfl, World.ownsRow_nil _ _ _ _, Below.refl _ _⟩
  case round =>
    obtain ⟨k, hk, rfl, ho, hb⟩ := hrel
    have HO : Hid (wr.ownsRow w1.heap.size 3 1 u5 k (cellsOf (vlL C z k))) := ho
    have HB : Hid (Below w1.heap.size w1 wr) := hb
    by_cases hlt : k < 8
    · have hcc := HC.out wr (Below.next HB1.out hb)
      have c1 := hcc.1 k hlt
      obtain ⟨z0, z1⟩ := HZ.out k hlt
      have HV : Hid (vlS C z k = if C (z + k) = -1 then 0 else C (C (z + k)).toNat) := rfl
      have hal : ∀ o : Obj, wr.heap.size < (wr.alloc o).heap.size := fun o => by simp
      have hsz := hb.size
      by_cases he : C (z + k) = -1
      · have HV0 : Hid (vlS C z k = 0) := by show _ = _; rw [HV.out, if_pos he]
        rw [he] at c1
        clear hcc ho hb he z0 z1
        go_wp2_with (at_builtin; refine wpList_append_lies _ (by rfl) (.tmp 16) (.tmp 17) 25 (by rfl) w1.heap.size 3 ti (.int .i64 0) 1 8 Tryd.underlying25 hti hz0 hz1 hz2 rfl (by decide) u5 k (cellsOf (vlL C z k)) (by rfl) (HO.out.alloc _) ⟨wr.heap.size, 0, none⟩ 1 1 [.int .i64 0] (by rfl) rfl (news_one wr _ 3) (ones_one _) (by decide) ?p1 ?p2 ?p3 _ rfl ?p4)
        case p1 => unfold maxLen; omega
        case p2 => omega
        case p3 => simp; omega
        case p4 =>
          intro g2 cap2 w2 hown hgr _ _
          have HN : Hid (w2.ownsRow w1.heap.size 3 1 (.slice (some ⟨g2, 0, none⟩) (k + 1) cap2) (k + 1) (cellsOf (vlL C z (k + 1))) ∧ Below w1.heap.size w1 w2) := by
            refine ⟨by rw [← vlL_snoc, HV0.out]; exact hown, ?_⟩
            exact (HB.out.alloc hsz _).trans ((Below.refl _ _).grown hgr (by simp; omega) (fun j e => (HO.out.lt j e).1))
          clear hown hgr
          go_wp2
          go_roundw
          case rel => exact ⟨k + 1, by omega, by go_num, HN.out.1, HN.out.2⟩
          case measure => simp [Go.RowKit.intOf]; omega
      · obtain ⟨m, hm⟩ : ∃ m : Nat, C (z + k) = (m : Int) := ⟨_, (Int.toNat_of_nonneg (by omega)).symm⟩
        have hm16 : m < 16 := by omega
        have hm16i : (m : Int) < 16 := by omega
        have c2 := hcc.2 m hm16
        have HV0 : Hid (vlS C z k = C m) := by show _ = _; rw [HV.out, if_neg he, hm]; rfl
        have c0 := HK1.out wr hb
        rw [hm] at c1
        generalize hyy : C m = y at c2 HV0
        have HSf : Hid (∀ W, Below w1.heap.size w1 W → W.cell? ⟨P, 0, none⟩ = some (.slice (some ⟨bs, os, none⟩) 16 cs) ∧ W.cell? ⟨bt, ot + k, none⟩ = some (.int .i64 (m : Int)) ∧ W.cell? ⟨bs, os + m, none⟩ = some (.int .i64 y)) := fun W hW => by
          have hW2 := HC.out W (Below.next HB1.out hW)
          exact ⟨HK1.out W hW, by rw [hW2.1 k hlt, hm], by rw [hW2.2 m hm16, hyy]⟩
        clear hcc ho hb he z0 z1 hm hyy
        go_wp2_with fail
        refine wp_region_last (S := fun w' => w'.cell? ⟨P, 0, none⟩ = some (.slice (some ⟨bs, os, none⟩) 16 cs) ∧ w'.cell? ⟨bt, ot + k, none⟩ = some (.int .i64 (m : Int)) ∧ w'.cell? ⟨bs, os + m, none⟩ = some (.int .i64 y)) 11 (by kernel_rfl) (by kernel_rfl) ?hs (fun hHeld => ?_)
        case hs => exact HSf.out _ (HB.out.trans (below_drew1 _ _))
        refine held_take (i := 0) (v := ?_) rfl rfl (by kernel_rfl) (by kernel_rfl) (by kernel_rfl) (fun _ _ _ h => h) (Or.inl ⟨by rfl, ?_⟩) hHeld ?_
        rotate_left
        · (intro w hSw; (try dsimp only at hSw); go_simp; try with_reducible rfl)
        simp only [Act.put, List.setIfInBounds_toArray, List.set_cons_zero, List.set_cons_succ]
        refine held_take (i := 1) (v := ?_) rfl rfl (by kernel_rfl) (by kernel_rfl) (by kernel_rfl) (fun _ _ _ h => h) (Or.inl ⟨by rfl, ?_⟩) hHeld ?_
        rotate_left
        · (intro w hSw; (try dsimp only at hSw); go_simp; try with_reducible rfl)
        simp only [Act.put, List.setIfInBounds_toArray, List.set_cons_zero, List.set_cons_succ]
        refine held_take (i := 2) (v := ?_) rfl rfl (by kernel_rfl) (by kernel_rfl) (by kernel_rfl) (fun _ _ _ h => h) (Or.inl ⟨by rfl, ?_⟩) hHeld ?_
        rotate_left
        · (intro w hSw; (try dsimp only at hSw); go_simp; try with_reducible rfl)
        simp only [Act.put, List.setIfInBounds_toArray, List.set_cons_zero, List.set_cons_succ]
        refine held_take (i := 3) (v := ?_) rfl rfl (by kernel_rfl) (by kernel_rfl) (by kernel_rfl) (fun _ _ _ h => h) (Or.inl ⟨by rfl, ?_⟩) hHeld ?_
        rotate_left
        · (intro w hSw; (try dsimp only at hSw); go_simp; try with_reducible rfl)
        simp only [Act.put, List.setIfInBounds_toArray, List.set_cons_zero, List.set_cons_succ]
        refine held_take (i := 4) (v := ?_) rfl rfl (by kernel_rfl) (by kernel_rfl) (by kernel_rfl) (fun _ _ _ h => h) (Or.inl ⟨by rfl, ?_⟩) hHeld ?_
        rotate_left
        · (intro w hSw; (try dsimp only at hSw); go_simp; try with_reducible rfl)
        simp only [Act.put, List.setIfInBounds_toArray, List.set_cons_zero, List.set_cons_succ]
        refine held_take (i := 5) (v := ?_) rfl rfl (by kernel_rfl) (by kernel_rfl) (by kernel_rfl) (fun _ _ _ h => h) (Or.inl ⟨by rfl, ?_⟩) hHeld ?_
        rotate_left
        · (intro w hSw; (try dsimp only at hSw); go_simp; try with_reducible rfl)
        simp only [Act.put, List.setIfInBounds_toArray, List.set_cons_zero, List.set_cons_succ]
        refine held_take (i := 6) (v := ?_) rfl rfl (by kernel_rfl) (by kernel_rfl) (by kernel_rfl) (fun _ _ _ h => h) (Or.inl ⟨by rfl, ?_⟩) hHeld ?_
        rotate_left
        · (intro w hSw; (try dsimp only at hSw); go_simp; try with_reducible rfl)
        simp only [Act.put, List.setIfInBounds_toArray, List.set_cons_zero, List.set_cons_succ]
        refine held_take (i := 7) (v := ?_) rfl rfl (by kernel_rfl) (by kernel_rfl) (by kernel_rfl) (fun _ _ _ h => h) (Or.inl ⟨by rfl, ?_⟩) hHeld ?_
        rotate_left
        · (intro w hSw; (try dsimp only at hSw); go_simp; try with_reducible rfl)
        simp only [Act.put, List.setIfInBounds_toArray, List.set_cons_zero, List.set_cons_succ]
        refine held_take (i := 8) (v := ?_) rfl rfl (by kernel_rfl) (by kernel_rfl) (by kernel_rfl) (fun _ _ _ h => h) (Or.inl ⟨by rfl, ?_⟩) hHeld ?_
        rotate_left
        · (intro w hSw; (try dsimp only at hSw); go_simp; try with_reducible rfl)
        simp only [Act.put, List.setIfInBounds_toArray, List.set_cons_zero, List.set_cons_succ]
        refine wpAnyH_ready (rs := [9]) (by kernel_rfl) (by simp) ?_
        refine AllReadyH.cons rfl (fun K hK => ?_) AllReadyH.nil
        go_simp
        refine hK.out _ _ (HSf.out _ ((HB.out.trans (below_drew1 _ _)).alloc hsz _)) (fun hHeld => ?_)
        clear hK K
        refine wpAnyH_ready (rs := [10]) (by kernel_rfl) (by simp) ?_
        refine AllReadyH.cons rfl (fun K hK => ?_) AllReadyH.nil
        refine step_append_lies _ (by rfl) (.tmp 19) (.tmp 28) 25 (by rfl) w1.heap.size 3 ti (.int .i64 0) 1 8 Tryd.underlying25 hti hz0 hz1 hz2 rfl (by decide) u5 k (cellsOf (vlL C z k)) (by rfl) ((xown_later HO.out (below_drew1 _ _)).alloc _) ⟨wr.heap.size, 0, none⟩ 1 1 [.int .i64 y] (by rfl) rfl (news_one wr.drew _ 3) (ones_one _) (by decide) (by unfold maxLen; omega) (by omega) (by have : w1.heap.size ≤ wr.drew.heap.size := hsz; simp; omega) _ rfl ?_
        intro g2 cap2 w2 hown hgr _ _
        have HN : Hid (w2.ownsRow w1.heap.size 3 1 (.slice (some ⟨g2, 0, none⟩) (k + 1) cap2) (k + 1) (cellsOf (vlL C z (k + 1))) ∧ Below w1.heap.size w1 w2) := by
          refine ⟨by rw [← vlL_snoc, HV0.out]; exact hown, ?_⟩
          exact ((HB.out.trans (below_drew1 _ _)).alloc hsz _).trans ((Below.refl _ _).grown hgr (by have : w1.heap.size ≤ wr.drew.heap.size := hsz; simp; omega) (fun j e => (HO.out.lt j e).1))
        refine hK.out _ _ (HSf.out w2 HN.out.2) (fun hHeld => ?_)
        clear hK K
        clear hown hgr hHeld
        refine wpAnyH_done (by kernel_rfl) ?_ _
        refine last_step rfl (fun K hK => ?_)
        go_simp
        refine hK _ _ ?_
        clear hK K
        go_wp2
        go_roundw
        case rel => exact ⟨k + 1, by omega, by go_num, HN.out.1, HN.out.2⟩
        case measure => simp [Go.RowKit.intOf]; omega
    · obtain rfl : k = 8 := by omega
      have HE : Hid (wr.ownsRow w.heap.size 3 1 u5 8 (cellsOf (lsI (vlS C z))) ∧ Below w.heap.size w wr) := ⟨own_base ho HB1.out.size, Below.next HB1.out hb⟩
      clear ho hb
      go_wp2
      go_ret
      exact ⟨_, rfl, HE.out.1, HE.out.2⟩

end Go.Proofs.YthgbknfdbobmiaaDoor
