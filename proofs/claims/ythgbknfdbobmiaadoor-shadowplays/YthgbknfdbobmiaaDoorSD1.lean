/- This text proves what the document's own NewShadow lays: sixteen noughts, and two tables of no slots, in new memory; old memory is as it was; no condition. -/
import Derived.Test.YthgbknfdbobmiaaDoorSD0
namespace Go.Proofs.YthgbknfdbobmiaaDoor
open Go.RowKit Go.Deep

theorem made16 (w : World) : (w.alloc (.cells (madeCells #[.int .i64 0] 16) 3)).ownsRow w.heap.size 3 1 (.slice (some ⟨w.heap.size, 0, none⟩) 16 16) 16 (cellsOf (lsC sh0 0 16)) :=
  ⟨by rw [cellsOf_len, lsC_len], .inr ⟨w.heap.size, 16, madeCells #[.int .i64 0] 16, rfl, Nat.le_refl _, blk_alloc_new _ _, by decide, by decide, size_madeCells _ _, by rw [toList_madeCells_one]; kernel_rfl⟩⟩
theorem ls_none (z : Nat) (h : 16 ≤ z) : lsC sh0 z 8 = List.replicate 8 (-1) := by
  refine List.ext_getElem (by simp [lsC]) fun i h1 h2 => ?_
  have e : ¬ z + i < 16 := by omega
  rw [List.getElem_replicate]
  simp [lsC, sh0, e]
def bigW (w : World) : World := ((w.alloc (.cells #[.slice none 0 0, .slice none 0 0, .slice none 0 0] 27)).alloc (.cells (madeCells #[.int .i64 0] 16) 3)).alloc (.cells #[.slice (some ⟨w.heap.size + 1, 0, none⟩) 16 16, .slice none 0 0, .slice none 0 0] 27)
theorem bigW_is (w : World) : Below w.heap.size w (bigW w) ∧ Box3 (bigW w) w.heap.size (.slice none 0 0) (.slice none 0 0) (.slice none 0 0) ∧ (bigW w).ownsRow w.heap.size 3 1 (.slice (some ⟨w.heap.size + 1, 0, none⟩) 16 16) 16 (cellsOf (lsC sh0 0 16)) ∧
    Box3 (bigW w) (w.heap.size + 2) (.slice (some ⟨w.heap.size + 1, 0, none⟩) 16 16) (.slice none 0 0) (.slice none 0 0) ∧ (bigW w).heap.size = w.heap.size + 3 := by
  have s1 : (w.alloc (.cells #[.slice none 0 0, .slice none 0 0, .slice none 0 0] 27)).heap.size = w.heap.size + 1 := by simp
  have s2 : ((w.alloc (.cells #[.slice none 0 0, .slice none 0 0, .slice none 0 0] 27)).alloc (.cells (madeCells #[.int .i64 0] 16) 3)).heap.size = w.heap.size + 2 := by simp
  have m := made16 (w.alloc (.cells #[.slice none 0 0, .slice none 0 0, .slice none 0 0] 27))
  rw [s1] at m
  have b := box3_new ((w.alloc (.cells #[.slice none 0 0, .slice none 0 0, .slice none 0 0] 27)).alloc (.cells (madeCells #[.int .i64 0] 16) 3)) (.slice (some ⟨w.heap.size + 1, 0, none⟩) 16 16) (.slice none 0 0) (.slice none 0 0)
  rw [s2] at b
  exact ⟨Below.next (below_one _ _) (Below.next (below_one _ _) (below_one _ _)), (box3_new w _ _ _).later (Below.next (below_one _ _) (below_one _ _)), own_base (xown_later m (below_one _ _)) (by omega), b, by simp [bigW]⟩

set_option maxHeartbeats 4000000 in
set_option maxRecDepth 100000 in
theorem r3new_any (w : World) : Calls Tryd.prog 5 #[] w fun e w' => ∃ vs vo vn, e = .returned (.agg #[vs, vo, vn]) ∧ w'.ownsRow w.heap.size 3 1 vs 16 (cellsOf (lsC sh0 0 16)) ∧ w'.ownsRow w.heap.size 3 1 vo 8 (cellsOf (lsC sh0 16 8)) ∧ w'.ownsRow w.heap.size 3 1 vn 8 (cellsOf (lsC sh0 24 8)) ∧ Below w.heap.size w w' := by
  obtain ⟨w1, hw1⟩ : ∃ w1, bigW w = w1 := ⟨_, rfl⟩
  have hi := bigW_is w
  rw [hw1] at hi
  obtain ⟨hb1, k0, ks, k1, ksz⟩ := hi
  have HW1 : Hid (bigW w = w1) := hw1
  have HB1 : Hid (Below w.heap.size w w1 ∧ w1.heap.size = w.heap.size + 3 ∧ Box3 w1 w.heap.size (.slice none 0 0) (.slice none 0 0) (.slice none 0 0) ∧ w1.ownsRow w.heap.size 3 1 (.slice (some ⟨w.heap.size + 1, 0, none⟩) 16 16) 16 (cellsOf (lsC sh0 0 16))) := ⟨hb1, ksz, k0, ks⟩
  have HS0 : Hid (NwSt w1 w1 (w.heap.size + 2) 0 0 (.slice (some ⟨w.heap.size + 1, 0, none⟩) 16 16) (.slice none 0 0) (.slice none 0 0)) := ⟨k1, World.ownsRow_nil _ _ _ _, World.ownsRow_nil _ _ _ _, (fun x e => by cases e), Stay.refl _ _⟩
  have hP1 : w.heap.size + 2 < w1.heap.size := by omega
  clear hw1 hb1 k0 k1 ks ksz
  have hmk : ∀ w, (Instr.makeSlice 25 (.int .i64 16) (.int .i64 16)).run Tryd.prog w = .ok (.slice (some ⟨w.heap.size, 0, none⟩) 16 16) (w.alloc (.cells (madeCells #[.int .i64 0] 16) 3)) :=
    run_make_row' (P := Tryd.prog) 25 3 (.int .i64 0) 8 Tryd.underlying25 Tryd.info3 rfl .i64 .i64 16 (by omega) (by omega)
  unfold bigW at HW1
  obtain ⟨ti, hti, hz0, hz1, hz2⟩ := info_parts Tryd.info3
  go_enter Tryd.func5, Tryd.ntmps5
  have hsz1 : (w.alloc (.cells #[.slice none 0 0, .slice none 0 0, .slice none 0 0] 27)).heap.size = w.heap.size + 1 := by simp
  have hsz2 : ((w.alloc (.cells #[.slice none 0 0, .slice none 0 0, .slice none 0 0] 27)).alloc (.cells (madeCells #[.int .i64 0] 16) 3)).heap.size = w.heap.size + 2 := by simp
  go_wp2
  clear hmk
  rw [HW1.out]
  clear hsz1 hsz2
  obtain ⟨z0, hz0e⟩ : ∃ z0, z0 = Value.slice (some ⟨w.heap.size + 1, 0, none⟩) 16 16 := ⟨_, rfl⟩
  obtain ⟨P, hPP⟩ : ∃ P, P = w.heap.size + 2 := ⟨_, rfl⟩
  rw [← hz0e] at HS0
  have HZe : Hid (z0 = _) := hz0e
  clear hz0e
  rw [← hPP] at HS0 hP1 ⊢
  have HPP : Hid (P = w.heap.size + 2) := hPP
  clear hPP
  go_loopw [2] (fun i wr => ∃ (k : Nat) (u v : Value), k ≤ 8 ∧ i = .int .i64 (k : Int) ∧ NwSt w1 wr P k k z0 u v) (fun i _ => 8 - (Go.RowKit.intOf i).toNat)
  case atStart => exact ⟨0, _, _, by omega, rfl, HS0.out⟩
  case round =>
    obtain ⟨k, u, v, hk, rfl, hst⟩ := hrel
    have ST : Hid (NwSt w1 wr P k k z0 u v) := hst
    clear hst HS0
    by_cases hk8 : k < 8
    · have hk1 : (k : Int) < 8 := by omega
      obtain ⟨u0, u1, u2, uf0, uf1, uf2⟩ := ST.out.box.facts
      have hsz := ST.out.st.size
      have hal : wr.heap.size < (wr.alloc (.cells #[.int .i64 (-1)] 3)).heap.size := by simp
      go_wp2_with (at_builtin; refine wpList_append_lies _ (by rfl) (.tmp 10) (.tmp 11) 25 (by rfl) w1.heap.size 3 ti (.int .i64 0) 1 8 Tryd.underlying25 hti hz0 hz1 hz2 rfl (by decide) u k (cellsOf (List.replicate k (-1))) (by rfl) (ST.out.a.alloc _) ⟨wr.heap.size, 0, none⟩ 1 1 [.int .i64 (-1)] (by rfl) rfl (news_one wr _ 3) (ones_one _) (by decide) ?p1 ?p2 ?p3 _ rfl ?p4)
      case p1 => unfold maxLen; omega
      case p2 => omega
      case p3 => simp; omega
      case p4 =>
        intro g cap w2 hown hgr hlies _
        have S2 : Hid _ := fun (_ : Nat) => ST.out.fst hP1 hown hgr hlies
        have hf := (ST.out.box.same (w' := w2) ((hgr.block P (by have := hP1; simp; omega) (fun e => by have := (ST.out.a.lt P e.symm).1; omega)).trans ((below_one wr _).block P (by omega)))).facts
        obtain ⟨y0, y1, y2, yf0, yf1, yf2⟩ := hf
        clear hown hgr hlies u0 u1 u2 uf0 uf1 uf2 hal
        have HNw : Hid (∀ (j : Nat) (z : Value), [Value.int .i64 (-1)][j]? = some z → ((w2.setCell ⟨P, 1, none⟩ (.slice (some ⟨g, 0, none⟩) (k + 1) cap)).alloc (.cells #[.int .i64 (-1)] 3)).cell? ((⟨w2.heap.size, 0, none⟩ : Addr).add j) = some z) := by
          have := news_one (w2.setCell ⟨P, 1, none⟩ (.slice (some ⟨g, 0, none⟩) (k + 1) cap)) (.int .i64 (-1)) 3
          rwa [show (w2.setCell ⟨P, 1, none⟩ (.slice (some ⟨g, 0, none⟩) (k + 1) cap)).heap.size = w2.heap.size by simp [World.setCell]] at this
        go_wp2_with (at_builtin; refine wpList_append_lies _ (by rfl) (.tmp 15) (.tmp 16) 25 (by rfl) w1.heap.size 3 ti (.int .i64 0) 1 8 Tryd.underlying25 hti hz0 hz1 hz2 rfl (by decide) v k (cellsOf (List.replicate k (-1))) (by rfl) ((S2.out 0).b.alloc _) ⟨w2.heap.size, 0, none⟩ 1 1 [.int .i64 (-1)] (by rfl) rfl HNw.out (ones_one _) (by decide) ?q1 ?q2 ?q3 _ rfl ?q4)
        case q1 => unfold maxLen; omega
        case q2 => omega
        case q3 => have := (S2.out 0).st.size; simp [World.setCell] at this ⊢; omega
        case q4 =>
          intro g2 cap2 w3 hown hgr hlies _
          have S3 : Hid _ := fun (_ : Nat) => (S2.out 0).snd hP1 hown hgr (by simpa [World.setCell] using hlies)
          have hsz2 := (S2.out 0).st.size
          have hf := ((S2.out 0).box.same (w' := w3) ((hgr.block P (by rw [show ((w2.setCell ⟨P, 1, none⟩ (.slice (some ⟨g, 0, none⟩) (k + 1) cap)).alloc (.cells #[.int .i64 (-1)] 3)).heap.size = (w2.setCell ⟨P, 1, none⟩ (.slice (some ⟨g, 0, none⟩) (k + 1) cap)).heap.size + 1 by simp]; omega) (fun e => by have := ((S2.out 0).b.lt P e.symm).1; omega)).trans ((below_one _ _).block P (by omega)))).facts
          obtain ⟨z0, z1, z2, zf0, zf1, zf2⟩ := hf
          clear hown hgr hlies hsz2 y0 y1 y2 yf0 yf1 yf2
          go_wp2
          go_roundw
          case rel => exact ⟨k + 1, _, _, by omega, by go_num, S3.out 0⟩
          case measure => simp [Go.RowKit.intOf]; omega
    · obtain rfl : k = 8 := by omega
      have hze := HZe.out
      subst hze
      obtain ⟨au, cu, rfl⟩ := rown_form ST.out.a
      obtain ⟨av, cv, rfl⟩ := rown_form ST.out.b
      obtain ⟨u0, u1, u2, uf0, uf1, uf2⟩ := ST.out.box.facts
      have hR := HB1.out.2.2.1.same (ST.out.st.block w.heap.size (by have := HB1.out.2.1; omega) (by show ¬ w.heap.size = P; have := HPP.out; omega))
      obtain ⟨r0, r1, r2, rf0, rf1, rf2⟩ := hR.facts
      obtain ⟨h, hH⟩ : ∃ h, h = w.heap.size := ⟨_, rfl⟩
      have HE1 : Hid (∀ p q r, (((wr.setCell ⟨w.heap.size, 0, none⟩ p).setCell ⟨w.heap.size, 1, none⟩ q).setCell ⟨w.heap.size, 2, none⟩ r).ownsRow w.heap.size 3 1 (.slice (some ⟨w.heap.size + 1, 0, none⟩) 16 16) 16 (cellsOf (lsC sh0 0 16)) ∧ (((wr.setCell ⟨w.heap.size, 0, none⟩ p).setCell ⟨w.heap.size, 1, none⟩ q).setCell ⟨w.heap.size, 2, none⟩ r).ownsRow w.heap.size 3 1 (.slice au 8 cu) 8 (cellsOf (lsC sh0 16 8)) ∧ (((wr.setCell ⟨w.heap.size, 0, none⟩ p).setCell ⟨w.heap.size, 1, none⟩ q).setCell ⟨w.heap.size, 2, none⟩ r).ownsRow w.heap.size 3 1 (.slice av 8 cv) 8 (cellsOf (lsC sh0 24 8)) ∧ Below w.heap.size w (((wr.setCell ⟨w.heap.size, 0, none⟩ p).setCell ⟨w.heap.size, 1, none⟩ q).setCell ⟨w.heap.size, 2, none⟩ r)) := fun p q r => by
        have hw := HB1.out
        have hsz := hw.2.1
        have hPe := HPP.out
        rw [ls_none 16 (by decide), ls_none 24 (by decide)]
        refine ⟨?_, own_down (own_set3 (base := w1.heap.size) ST.out.a (by omega) p q r) (by omega), own_down (own_set3 (base := w1.heap.size) ST.out.b (by omega) p q r) (by omega), below_set3 ?_ (Nat.le_refl _) p q r⟩
        · refine own_block hw.2.2.2 fun b e => ?_
          have hb : w.heap.size + 1 = b := by simpa [Value.ownBlock] using e
          subst hb
          rw [Below.heap_setCell _ ⟨w.heap.size, 2, none⟩ _ _ (by show w.heap.size + 1 ≠ w.heap.size; omega), Below.heap_setCell _ ⟨w.heap.size, 1, none⟩ _ _ (by show w.heap.size + 1 ≠ w.heap.size; omega), Below.heap_setCell _ ⟨w.heap.size, 0, none⟩ _ _ (by show w.heap.size + 1 ≠ w.heap.size; omega)]
          exact ST.out.st.block _ (by omega) (by show ¬ w.heap.size + 1 = P; omega)
        · exact hw.1.trans (ST.out.st.below (fun b e => by show w.heap.size ≤ b; have : b = P := e; omega) hw.1.size)
      clear hR hH
      go_wp2
      refine bodyPost_ret (v := .agg #[.slice (some ⟨w.heap.size + 1, 0, none⟩) 16 16, .slice au 8 cu, .slice av 8 cv]) ?_ rfl ?_
      · rw [results_cell1 rfl]
        go_simp
      · exact ⟨_, _, _, rfl, (HE1.out _ _ _).1, (HE1.out _ _ _).2.1, (HE1.out _ _ _).2.2.1, (HE1.out _ _ _).2.2.2⟩

end Go.Proofs.YthgbknfdbobmiaaDoor
