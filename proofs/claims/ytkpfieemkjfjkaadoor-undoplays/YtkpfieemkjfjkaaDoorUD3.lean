/- This text proves what the document's own Leave of a disk answers: what is put back, whose blocks are whose, and which notes are left; old memory is as it was; the condition is that the document's disk lies there. -/
import Derived.Test.YtkpfieemkjfjkaaDoorUD2
import Derived.Test.YtkpfieemkjfjkaaDoorHl
import Derived.Deep.RegionHeld3
namespace Go.Proofs.YtkpfieemkjfjkaaDoor
open Go.RowKit Go.Deep Go.Maps

/-- A disk when a turn has left; what is put back, or not. -/
def leD (d : Ud) (t : Int) (B : Bool) : Ud := ⟨if B = true then udo (ofT t) d.L d.H else d.H, cut t d.L⟩
theorem leD_none {d : Ud} (h : GoodU d) {t : Int} {B : Bool} (ht : enE t ≠ 0) : leD d t B = d := by
  unfold leD
  rw [(cut_none h ht).1, (cut_none h ht).2, ite_self]
theorem leD_un (d : Ud) (t : Int) : leD d t true = unD d t := rfl
theorem leD_en (d : Ud) (t : Int) : leD d t false = enD d t := rfl

set_option maxHeartbeats 4000000 in
set_option maxRecDepth 100000 in
theorem leave_any (w : World) (vb vo vw : Value) (d : Ud) (hd : DocIs w vb vo vw d) (hg : GoodU d) (t : Int) (B : Bool) :
    Calls Tryd.prog 13 #[.agg #[vb, vo, vw], .int .i64 t, .bool B] w fun e w' => ∃ vb' vo' vw', e = .returned (.tuple #[.agg #[vb', vo', vw'], .int .i64 (enE t : Int)]) ∧ Nxt w w' vb vo vw vb' vo' vw' d (leD d t B) := by
  obtain ⟨ab, cb, ao, co, aw, cw, rfl, rfl, rfl⟩ := hd.form
  have HD : Hid (DocIs w (.slice ab 8 cb) (.slice ao 8 co) (.slice aw d.L.length cw) d) := hd
  have HG : Hid (GoodU d) := hg
  obtain ⟨a9, c9, b, e9, hnc, haw, hbw, hcw⟩ := hd.n.where
  cases e9
  have h60 := hg.len
  obtain ⟨n, hn⟩ : ∃ n, d.L.length = n := ⟨_, rfl⟩
  have HN : Hid (d.L.length = n) := hn
  rw [hn] at HD hnc haw hbw hcw h60 ⊢
  obtain ⟨w1, hw1, hb1, k0, k1, ksz⟩ := boxes2 w (.slice ab 8 cb) (.slice ao 8 co) (.slice aw n cw) (.slice none 0 0) (.slice none 0 0) (.slice none 0 0)
  have HW1 : Hid _ := hw1
  by_cases ht : 0 ≤ t ∧ t ≤ 19
  · have HI : Hid _ := fun (W : World) => rin_yes t 0 19 W ht
    have he : enE t = 0 := if_pos (by omega)
    rw [he]
    have HB1 : Hid (Below w.heap.size w w1) := hb1
    have HR1 : Hid (Box3 w1 (w.heap.size + 1) (.slice none 0 0) (.slice none 0 0) (.slice none 0 0)) := k1
    have HX0 : Hid (Bx w1 w1 w.heap.size (.slice ab 8 cb) (.slice ao 8 co) (.slice aw n cw) (.slice ab 8 cb) (.slice ao 8 co) (.slice aw n cw) (lst d.H) (lst (udo (ofT t) (d.L.drop n) d.H)) (lsO d.L) (lsO d.L) d.L d.L) := by
      have := Bx.new (xb := lst d.H) (xo := lsO d.L) (xn := d.L) k0
      rw [show lst (udo (ofT t) (d.L.drop n) d.H) = lst d.H from by rw [← HN.out, udo_end]]
      exact this
    have HC : Hid (∀ W, Below w.heap.size w W → ∀ i, i < n → W.cell? ⟨b, i * 3, none⟩ = some (.int .i64 ((ntAt d.L i).t : Int)) ∧ W.cell? ⟨b, i * 3 + 1, none⟩ = some (.int .i64 ((ntAt d.L i).b : Int)) ∧ W.cell? ⟨b, i * 3 + 2, none⟩ = some (.int .i64 ((ntAt d.L i).w : Int))) := fun W hW i hi =>
      ⟨by rw [hW.cell (p := ⟨b, i * 3, none⟩) (hbw (by omega))]; exact (hcw i hi).1, by rw [hW.cell (p := ⟨b, i * 3 + 1, none⟩) (hbw (by omega))]; exact (hcw i hi).2.1, by rw [hW.cell (p := ⟨b, i * 3 + 2, none⟩) (hbw (by omega))]; exact (hcw i hi).2.2⟩
    have HBd : Hid (∀ i, i < n → (ntAt d.L i).b < 8) := fun i hi => (hg.one _ (ntAt_mem (by omega))).2
    obtain ⟨P, hP⟩ : ∃ P, P = w.heap.size := ⟨_, rfl⟩
    obtain ⟨R, hR⟩ : ∃ R, R = w.heap.size + 1 := ⟨_, rfl⟩
    have HP : Hid (w.heap.size ≤ P ∧ P < w1.heap.size ∧ w.heap.size ≤ R ∧ R < w1.heap.size ∧ R ≠ P) := ⟨by omega, by omega, by omega, by omega, by omega⟩
    rw [← hR] at HR1
    rw [← hP] at HX0
    have HPR : Hid (w.heap.size + 1 = R ∧ w.heap.size = P) := ⟨hR.symm, hP.symm⟩
    obtain ⟨u0, u1, u2, uf0, uf1, uf2⟩ := HX0.out.box.facts
    clear hd hg hcw hbw hw1 hb1 k0 k1 ksz hn he ht hP hR
    obtain ⟨ti, hti, hz0, hz1, hz2⟩ := info_parts Tryd.info31
    go_enter Tryd.func13, Tryd.ntmps13
    go_wp2_with fail
    rw [HW1.out, HPR.out.1, HPR.out.2]
    refine Calls.mono (HI.out w1) ?_
    rintro e w2 ⟨rfl, rfl⟩
    go_wp2
    clear u0 u1 u2 uf0 uf1 uf2
    go_loopw [9] (fun i wr => ∃ (k : Nat) (v : Value), k ≤ n ∧ i = .int .i64 ((k : Int) - 1) ∧ (B = false → k = n) ∧ Bx w1 wr P (.slice ab 8 cb) (.slice ao 8 co) (.slice aw n cw) v (.slice ao 8 co) (.slice aw n cw) (lst d.H) (lst (udo (ofT t) (d.L.drop k) d.H)) (lsO d.L) (lsO d.L) d.L d.L) (fun i _ => (Go.RowKit.intOf i + 1).toNat)
    case atStart => exact ⟨n, _, Nat.le_refl _, rfl, fun _ => rfl, HX0.out⟩
    case round =>
      obtain ⟨k, v, hk, rfl, hBk, hst⟩ := hrel
      have ST : Hid (Bx w1 wr P (.slice ab 8 cb) (.slice ao 8 co) (.slice aw n cw) v (.slice ao 8 co) (.slice aw n cw) (lst d.H) (lst (udo (ofT t) (d.L.drop k) d.H)) (lsO d.L) (lsO d.L) d.L d.L) := hst
      have HBk : Hid (B = false → k = n) := hBk
      clear hst hBk HX0
      by_cases hk0 : k = 0
      · subst hk0
        have HXe : Hid (lst (udo (ofT t) (d.L.drop 0) d.H) = lst (leD d t B).H) := by
          show _ = _
          unfold leD
          cases B with
          | true => rfl
          | false =>
            have := HBk.out rfl
            rw [this, ← HN.out, udo_end]
            rfl
        rw [HXe.out] at ST
        rw [show (((0 : Nat) : Int) - 1) = -1 from rfl]
        have hO := ST.out.old HB1.out HP.out.1
        obtain ⟨av, cv, rfl, _, _⟩ := id (ST.out.b.is (HD.out.b.later hO))
        rw [lst_len] at ST
        obtain ⟨u0, u1, u2, uf0, uf1, uf2⟩ := ST.out.box.facts
        clear hO
        go_wp2
        clear u0 u1 u2 uf0 uf1 uf2
        rename_i W0i
        generalize hW2 : wr = W2 at ST ⊢
        go_loopw [8, 10] (fun vw i wx => ∃ k : Nat, k ≤ n ∧ i = .int .i64 (k : Int) ∧ wx.ownsRow W2.heap.size 31 3 vw (cut t (d.L.take k)).length (ntc (cut t (d.L.take k))) ∧ Below W2.heap.size W2 wx) (fun _ i _ => n - (Go.RowKit.intOf i).toNat)
        case atStart => exact ⟨0, Nat.zero_le _, rfl, World.ownsRow_nil _ _ _ _, Below.refl _ _⟩
        case round =>
          obtain ⟨k, hk, rfl, ho, hb⟩ := hrel
          have OR : Hid (wr.ownsRow W2.heap.size 31 3 u8 (cut t (d.L.take k)).length (ntc (cut t (d.L.take k)))) := ho
          have BR : Hid (Below W2.heap.size W2 wr) := hb
          clear ho hb
          have SR : Hid _ := fun (_ : Nat) => ST.out.later BR.out
          obtain ⟨u0, u1, u2, uf0, uf1, uf2⟩ := (SR.out 0).box.facts
          by_cases hlt : k < n
          · have hl1 : (k : Int) < (n : Int) := by omega
            have haa := haw (by omega)
            subst haa
            obtain ⟨c0, c1, c2⟩ := HC.out _ ((SR.out 0).old HB1.out HP.out.1) k hlt
            have HYes : Hid (((ntAt d.L k).t : Int) ≠ t → cut t (d.L.take (k + 1)) = cut t (d.L.take k) ++ [ntAt d.L k]) := cut_yes (by rw [HN.out]; exact hlt)
            have HNo : Hid (((ntAt d.L k).t : Int) = t → cut t (d.L.take (k + 1)) = cut t (d.L.take k)) := cut_no (by rw [HN.out]; exact hlt)
            have hl60 := cut_le t d.L k
            obtain ⟨N, hN⟩ : ∃ N, (cut t (d.L.take k)).length = N := ⟨_, rfl⟩
            have HLN : Hid ((cut t (d.L.take k)).length = N) := hN
            rw [hN] at OR hl60
            clear hN
            generalize ntAt d.L k = Z at c0 c1 c2 HYes HNo
            obtain ⟨Zt, Zb, Zw⟩ := Z
            replace c0 : World.cell? _ ⟨b, k * 3, none⟩ = some (.int .i64 (Zt : Int)) := c0
            replace c1 : World.cell? _ ⟨b, k * 3 + 1, none⟩ = some (.int .i64 (Zb : Int)) := c1
            replace c2 : World.cell? _ ⟨b, k * 3 + 2, none⟩ = some (.int .i64 (Zw : Int)) := c2
            have hsz2 := BR.out.size
            by_cases hT : (Zt : Int) = t
            · have HL : Hid (cut t (d.L.take (k + 1)) = cut t (d.L.take k)) := HNo.out hT
              have hTb : ((Zt : Int) != t) = false := by simp [hT]
              clear hT
              go_wp2
              go_roundw
              case rel => exact ⟨k + 1, by omega, by go_num, by rw [HL.out, HLN.out]; exact OR.out, BR.out⟩
              case measure => simp [Go.RowKit.intOf]; omega
            · have HL : Hid (cut t (d.L.take (k + 1)) = cut t (d.L.take k) ++ [⟨Zt, Zb, Zw⟩]) := HYes.out hT
              have hTb : ((Zt : Int) != t) = true := by simp [hT]
              clear hT
              go_wp2_with (at_builtin; refine wpList_append_own _ (by rfl) (.tmp 66) (.tmp 72) 37 (by rfl) W2.heap.size 31 ti (.agg #[.int .i64 0, .int .i64 0, .int .i64 0]) 3 24 Tryd.underlying37 hti hz0 hz1 hz2 rfl (by decide) u8 N (ntc (cut t (d.L.take k))) (by rfl) (OR.out.alloc _) ⟨wr.heap.size, 0, none⟩ 1 1 [.int .i64 (Zt : Int), .int .i64 (Zb : Int), .int .i64 (Zw : Int)] (by rfl) rfl (news_three wr _ _ _ 31) (ones_three _ _ _) ?p1 ?p2 ?p3 ?p4)
              case p1 => unfold maxLen; omega
              case p2 => omega
              case p3 => first | omega | (simp; omega)
              case p4 =>
                intro v2 w6 hown hgr _
                have hb6 : Below W2.heap.size W2 w6 := (BR.out.alloc BR.out.size _).grown hgr (by first | omega | (simp; omega)) (fun k e => (OR.out.lt k e).1)
                have O6 : Hid (w6.ownsRow W2.heap.size 31 3 v2 (cut t (d.L.take (k + 1))).length (ntc (cut t (d.L.take (k + 1))))) := by
                  show World.ownsRow _ _ _ _ _ _ _
                  rw [HL.out, List.length_append, HLN.out, ← ntc_snoc]
                  exact hown
                have B6 : Hid (Below W2.heap.size W2 w6) := hb6
                clear hown hgr hb6
                go_wp2
                go_roundw
                case rel => exact ⟨k + 1, by omega, by go_num, O6.out, B6.out⟩
                case measure => simp [Go.RowKit.intOf]; omega
          · obtain rfl : k = n := by omega
            have HL : Hid (cut t (d.L.take k) = cut t d.L) := by show _ = _; rw [← HN.out, List.take_length]
            rw [HL.out] at OR
            obtain ⟨au, cu, rfl⟩ := rown_form OR.out
            have S3 : Hid (Bx w1 ((wr).setCell ⟨P, 2, none⟩ (.slice au (cut t d.L).length cu)) P (.slice ab 8 cb) (.slice ao 8 co) (.slice aw k cw) (.slice av 8 cv) (.slice ao 8 co) (.slice au (cut t d.L).length cu) (lst d.H) (lst (leD d t B).H) (lsO d.L) (lsK d.L t 0) d.L (cut t d.L)) := by
              rw [lsK_zero]
              exact ST.out.setN HP.out.2.1 OR.out BR.out
            have hcl : (cut t d.L).length ≤ 60 := by have := cut_le t d.L k; rw [HL.out] at this; omega
            have HLc : Hid (PutsIs w (.slice aw k cw) d.L) := HD.out.n
            generalize hcn : (cut t d.L).length = M at S3 hcl OR ⊢
            have HCN : Hid ((cut t d.L).length = M) := hcn
            clear hcn
            go_wp2
            clear u0 u1 u2 uf0 uf1 uf2
            generalize World.setCell _ _ _ = W3 at S3 ⊢
            go_loopw [11] (fun i wx => ∃ (j : Nat) (v : Value), j ≤ 8 ∧ i = .int .i64 (j : Int) ∧ Bx w1 wx P (.slice ab 8 cb) (.slice ao 8 co) (.slice aw k cw) (.slice av 8 cv) v (.slice au M cu) (lst d.H) (lst (leD d t B).H) (lsO d.L) (lsK d.L t j) d.L (cut t d.L)) (fun i _ => 8 - (Go.RowKit.intOf i).toNat)
            case atStart => exact ⟨0, _, by omega, rfl, S3.out⟩
            case round =>
              obtain ⟨j, v, hj, rfl, hst⟩ := hrel
              have SJ : Hid (Bx w1 wr P (.slice ab 8 cb) (.slice ao 8 co) (.slice aw k cw) (.slice av 8 cv) v (.slice au M cu) (lst d.H) (lst (leD d t B).H) (lsO d.L) (lsK d.L t j) d.L (cut t d.L)) := hst
              clear hst
              have hOj := SJ.out.old HB1.out HP.out.1
              have HSv : Hid (SliceIs wr v (lsK d.L t j)) := SJ.out.o.is (HD.out.o.later hOj)
              obtain ⟨bv, ov, cv2, rfl, hbv, hcv⟩ := row_cells HSv.out (lsK_len _ _ _) (by decide)
              obtain ⟨u0, u1, u2, uf0, uf1, uf2⟩ := SJ.out.box.facts
              by_cases hj8 : j < 8
              · have hj1 : (j : Int) < 8 := by omega
                have x0 := hcv j hj8
                rw [lsK_at hj8] at x0
                have HSet : Hid _ := fun (_ : Nat) => set_own wr _ _ 8 j (-1) HSv.out (lsK_len _ _ _) hj8 (by decide)
                have HYes : Hid (own d.L j = t → (lsK d.L t j).set j (-1) = lsK d.L t (j + 1)) := lsK_yes
                have HNo : Hid (own d.L j ≠ t → lsK d.L t (j + 1) = lsK d.L t j) := lsK_no
                generalize own d.L j = ow at x0 HYes HNo
                clear hcv hOj
                by_cases hT : ow = t
                · have hTb : (ow == t) = true := by simp [hT]
                  have HYY : Hid _ := HYes.out hT
                  rw [HYY.out] at HSet
                  clear hT
                  go_wp2_with (go_at_call 25; refine (HSet.out 0).mono ?_; rintro e w3 ⟨g3, cap3, rfl, ho, hb⟩; have S4 : Hid _ := fun (_ : Nat) => SJ.out.setO HP.out.2.1 ho hb; obtain ⟨z0, z1, z2, zf0, zf1, zf2⟩ := (SJ.out.later hb).box.facts; clear ho hb u0 u1 u2 uf0 uf1 uf2)
                  go_roundw
                  case rel => exact ⟨j + 1, _, by omega, by go_num, S4.out 0⟩
                  case measure => simp [Go.RowKit.intOf] <;> omega
                · have hTb : (ow == t) = false := by simp [hT]
                  have HNN : Hid _ := HNo.out hT
                  clear hT
                  go_wp2
                  go_roundw
                  case rel => exact ⟨j + 1, _, by omega, by go_num, by rw [HNN.out]; exact SJ.out⟩
                  case measure => simp [Go.RowKit.intOf] <;> omega
              · obtain rfl : j = 8 := by omega
                have HLs : Hid (lsK d.L t 8 = lsO (leD d t B).L) := lsK_all HG.out.sole t
                have HRb : Hid (Box3 wr R (.slice none 0 0) (.slice none 0 0) (.slice none 0 0)) := HR1.out.same (SJ.out.st.block R HP.out.2.2.2.1 HP.out.2.2.2.2)
                obtain ⟨y0, y1, y2, f0, f1, f2⟩ := HRb.out.facts
                have HE : Hid (∀ p q r, Nxt w (((wr.setCell ⟨R, 0, none⟩ p).setCell ⟨R, 1, none⟩ q).setCell ⟨R, 2, none⟩ r) (.slice ab 8 cb) (.slice ao 8 co) (.slice aw k cw) (.slice av 8 cv) (.slice (some ⟨bv, ov, none⟩) 8 cv2) (.slice au M cu) d (leD d t B)) := fun p q r => by
                  have h1 := SJ.out
                  rw [HLs.out] at h1
                  exact h1.end HB1.out HP.out.1 HP.out.2.2.1 HP.out.2.2.2.1 p q r
                clear hcv hOj
                go_wp2
                refine bodyPost_ret (v := .tuple #[.agg #[.slice av 8 cv, .slice (some ⟨bv, ov, none⟩) 8 cv2, .slice au M cu], .int .i64 0]) ?_ rfl ?_
                · rw [results_cell2 rfl]
                  go_simp
                · exact ⟨_, _, _, rfl, HE.out _ _ _⟩
      · obtain ⟨j, rfl⟩ : ∃ j, k = j + 1 := ⟨k - 1, by omega⟩
        have ej : (((j + 1 : Nat) : Int) - 1) = (j : Int) := by omega
        rw [ej]
        have hjn : (j : Int) < (n : Int) := by omega
        have hjN : j < n := by omega
        cases B with
        | false =>
          have HXe : Hid (lst (udo (ofT t) (d.L.drop (j + 1)) d.H) = lst (leD d t false).H) := by
            show _ = _
            rw [HBk.out rfl, ← HN.out, udo_end]
            rfl
          rw [HXe.out] at ST
          have hO := ST.out.old HB1.out HP.out.1
          obtain ⟨av, cv, rfl, _, _⟩ := id (ST.out.b.is (HD.out.b.later hO))
          rw [lst_len] at ST
          obtain ⟨u0, u1, u2, uf0, uf1, uf2⟩ := ST.out.box.facts
          clear hO
          go_wp2
          clear u0 u1 u2 uf0 uf1 uf2
          rename_i W0i
          generalize hW2 : wr = W2 at ST ⊢
          go_loopw [8, 10] (fun vw i wx => ∃ k : Nat, k ≤ n ∧ i = .int .i64 (k : Int) ∧ wx.ownsRow W2.heap.size 31 3 vw (cut t (d.L.take k)).length (ntc (cut t (d.L.take k))) ∧ Below W2.heap.size W2 wx) (fun _ i _ => n - (Go.RowKit.intOf i).toNat)
          case atStart => exact ⟨0, Nat.zero_le _, rfl, World.ownsRow_nil _ _ _ _, Below.refl _ _⟩
          case round =>
            obtain ⟨k, hk, rfl, ho, hb⟩ := hrel
            have OR : Hid (wr.ownsRow W2.heap.size 31 3 u8 (cut t (d.L.take k)).length (ntc (cut t (d.L.take k)))) := ho
            have BR : Hid (Below W2.heap.size W2 wr) := hb
            clear ho hb
            have SR : Hid _ := fun (_ : Nat) => ST.out.later BR.out
            obtain ⟨u0, u1, u2, uf0, uf1, uf2⟩ := (SR.out 0).box.facts
            by_cases hlt : k < n
            · have hl1 : (k : Int) < (n : Int) := by omega
              have haa := haw (by omega)
              subst haa
              obtain ⟨c0, c1, c2⟩ := HC.out _ ((SR.out 0).old HB1.out HP.out.1) k hlt
              have HYes : Hid (((ntAt d.L k).t : Int) ≠ t → cut t (d.L.take (k + 1)) = cut t (d.L.take k) ++ [ntAt d.L k]) := cut_yes (by rw [HN.out]; exact hlt)
              have HNo : Hid (((ntAt d.L k).t : Int) = t → cut t (d.L.take (k + 1)) = cut t (d.L.take k)) := cut_no (by rw [HN.out]; exact hlt)
              have hl60 := cut_le t d.L k
              obtain ⟨N, hN⟩ : ∃ N, (cut t (d.L.take k)).length = N := ⟨_, rfl⟩
              have HLN : Hid ((cut t (d.L.take k)).length = N) := hN
              rw [hN] at OR hl60
              clear hN
              generalize ntAt d.L k = Z at c0 c1 c2 HYes HNo
              obtain ⟨Zt, Zb, Zw⟩ := Z
              replace c0 : World.cell? _ ⟨b, k * 3, none⟩ = some (.int .i64 (Zt : Int)) := c0
              replace c1 : World.cell? _ ⟨b, k * 3 + 1, none⟩ = some (.int .i64 (Zb : Int)) := c1
              replace c2 : World.cell? _ ⟨b, k * 3 + 2, none⟩ = some (.int .i64 (Zw : Int)) := c2
              have hsz2 := BR.out.size
              by_cases hT : (Zt : Int) = t
              · have HL : Hid (cut t (d.L.take (k + 1)) = cut t (d.L.take k)) := HNo.out hT
                have hTb : ((Zt : Int) != t) = false := by simp [hT]
                clear hT
                go_wp2
                go_roundw
                case rel => exact ⟨k + 1, by omega, by go_num, by rw [HL.out, HLN.out]; exact OR.out, BR.out⟩
                case measure => simp [Go.RowKit.intOf]; omega
              · have HL : Hid (cut t (d.L.take (k + 1)) = cut t (d.L.take k) ++ [⟨Zt, Zb, Zw⟩]) := HYes.out hT
                have hTb : ((Zt : Int) != t) = true := by simp [hT]
                clear hT
                go_wp2_with (at_builtin; refine wpList_append_own _ (by rfl) (.tmp 66) (.tmp 72) 37 (by rfl) W2.heap.size 31 ti (.agg #[.int .i64 0, .int .i64 0, .int .i64 0]) 3 24 Tryd.underlying37 hti hz0 hz1 hz2 rfl (by decide) u8 N (ntc (cut t (d.L.take k))) (by rfl) (OR.out.alloc _) ⟨wr.heap.size, 0, none⟩ 1 1 [.int .i64 (Zt : Int), .int .i64 (Zb : Int), .int .i64 (Zw : Int)] (by rfl) rfl (news_three wr _ _ _ 31) (ones_three _ _ _) ?p1 ?p2 ?p3 ?p4)
                case p1 => unfold maxLen; omega
                case p2 => omega
                case p3 => first | omega | (simp; omega)
                case p4 =>
                  intro v2 w6 hown hgr _
                  have hb6 : Below W2.heap.size W2 w6 := (BR.out.alloc BR.out.size _).grown hgr (by first | omega | (simp; omega)) (fun k e => (OR.out.lt k e).1)
                  have O6 : Hid (w6.ownsRow W2.heap.size 31 3 v2 (cut t (d.L.take (k + 1))).length (ntc (cut t (d.L.take (k + 1))))) := by
                    show World.ownsRow _ _ _ _ _ _ _
                    rw [HL.out, List.length_append, HLN.out, ← ntc_snoc]
                    exact hown
                  have B6 : Hid (Below W2.heap.size W2 w6) := hb6
                  clear hown hgr hb6
                  go_wp2
                  go_roundw
                  case rel => exact ⟨k + 1, by omega, by go_num, O6.out, B6.out⟩
                  case measure => simp [Go.RowKit.intOf]; omega
            · obtain rfl : k = n := by omega
              have HL : Hid (cut t (d.L.take k) = cut t d.L) := by show _ = _; rw [← HN.out, List.take_length]
              rw [HL.out] at OR
              obtain ⟨au, cu, rfl⟩ := rown_form OR.out
              have S3 : Hid (Bx w1 ((wr).setCell ⟨P, 2, none⟩ (.slice au (cut t d.L).length cu)) P (.slice ab 8 cb) (.slice ao 8 co) (.slice aw k cw) (.slice av 8 cv) (.slice ao 8 co) (.slice au (cut t d.L).length cu) (lst d.H) (lst (leD d t false).H) (lsO d.L) (lsK d.L t 0) d.L (cut t d.L)) := by
                rw [lsK_zero]
                exact ST.out.setN HP.out.2.1 OR.out BR.out
              have hcl : (cut t d.L).length ≤ 60 := by have := cut_le t d.L k; rw [HL.out] at this; omega
              have HLc : Hid (PutsIs w (.slice aw k cw) d.L) := HD.out.n
              generalize hcn : (cut t d.L).length = M at S3 hcl OR ⊢
              have HCN : Hid ((cut t d.L).length = M) := hcn
              clear hcn
              go_wp2
              clear u0 u1 u2 uf0 uf1 uf2
              generalize World.setCell _ _ _ = W3 at S3 ⊢
              go_loopw [11] (fun i wx => ∃ (j : Nat) (v : Value), j ≤ 8 ∧ i = .int .i64 (j : Int) ∧ Bx w1 wx P (.slice ab 8 cb) (.slice ao 8 co) (.slice aw k cw) (.slice av 8 cv) v (.slice au M cu) (lst d.H) (lst (leD d t false).H) (lsO d.L) (lsK d.L t j) d.L (cut t d.L)) (fun i _ => 8 - (Go.RowKit.intOf i).toNat)
              case atStart => exact ⟨0, _, by omega, rfl, S3.out⟩
              case round =>
                obtain ⟨j, v, hj, rfl, hst⟩ := hrel
                have SJ : Hid (Bx w1 wr P (.slice ab 8 cb) (.slice ao 8 co) (.slice aw k cw) (.slice av 8 cv) v (.slice au M cu) (lst d.H) (lst (leD d t false).H) (lsO d.L) (lsK d.L t j) d.L (cut t d.L)) := hst
                clear hst
                have hOj := SJ.out.old HB1.out HP.out.1
                have HSv : Hid (SliceIs wr v (lsK d.L t j)) := SJ.out.o.is (HD.out.o.later hOj)
                obtain ⟨bv, ov, cv2, rfl, hbv, hcv⟩ := row_cells HSv.out (lsK_len _ _ _) (by decide)
                obtain ⟨u0, u1, u2, uf0, uf1, uf2⟩ := SJ.out.box.facts
                by_cases hj8 : j < 8
                · have hj1 : (j : Int) < 8 := by omega
                  have x0 := hcv j hj8
                  rw [lsK_at hj8] at x0
                  have HSet : Hid _ := fun (_ : Nat) => set_own wr _ _ 8 j (-1) HSv.out (lsK_len _ _ _) hj8 (by decide)
                  have HYes : Hid (own d.L j = t → (lsK d.L t j).set j (-1) = lsK d.L t (j + 1)) := lsK_yes
                  have HNo : Hid (own d.L j ≠ t → lsK d.L t (j + 1) = lsK d.L t j) := lsK_no
                  generalize own d.L j = ow at x0 HYes HNo
                  clear hcv hOj
                  by_cases hT : ow = t
                  · have hTb : (ow == t) = true := by simp [hT]
                    have HYY : Hid _ := HYes.out hT
                    rw [HYY.out] at HSet
                    clear hT
                    go_wp2_with (go_at_call 25; refine (HSet.out 0).mono ?_; rintro e w3 ⟨g3, cap3, rfl, ho, hb⟩; have S4 : Hid _ := fun (_ : Nat) => SJ.out.setO HP.out.2.1 ho hb; obtain ⟨z0, z1, z2, zf0, zf1, zf2⟩ := (SJ.out.later hb).box.facts; clear ho hb u0 u1 u2 uf0 uf1 uf2)
                    go_roundw
                    case rel => exact ⟨j + 1, _, by omega, by go_num, S4.out 0⟩
                    case measure => simp [Go.RowKit.intOf] <;> omega
                  · have hTb : (ow == t) = false := by simp [hT]
                    have HNN : Hid _ := HNo.out hT
                    clear hT
                    go_wp2
                    go_roundw
                    case rel => exact ⟨j + 1, _, by omega, by go_num, by rw [HNN.out]; exact SJ.out⟩
                    case measure => simp [Go.RowKit.intOf] <;> omega
                · obtain rfl : j = 8 := by omega
                  have HLs : Hid (lsK d.L t 8 = lsO (leD d t false).L) := lsK_all HG.out.sole t
                  have HRb : Hid (Box3 wr R (.slice none 0 0) (.slice none 0 0) (.slice none 0 0)) := HR1.out.same (SJ.out.st.block R HP.out.2.2.2.1 HP.out.2.2.2.2)
                  obtain ⟨y0, y1, y2, f0, f1, f2⟩ := HRb.out.facts
                  have HE : Hid (∀ p q r, Nxt w (((wr.setCell ⟨R, 0, none⟩ p).setCell ⟨R, 1, none⟩ q).setCell ⟨R, 2, none⟩ r) (.slice ab 8 cb) (.slice ao 8 co) (.slice aw k cw) (.slice av 8 cv) (.slice (some ⟨bv, ov, none⟩) 8 cv2) (.slice au M cu) d (leD d t false)) := fun p q r => by
                    have h1 := SJ.out
                    rw [HLs.out] at h1
                    exact h1.end HB1.out HP.out.1 HP.out.2.2.1 HP.out.2.2.2.1 p q r
                  clear hcv hOj
                  go_wp2
                  refine bodyPost_ret (v := .tuple #[.agg #[.slice av 8 cv, .slice (some ⟨bv, ov, none⟩) 8 cv2, .slice au M cu], .int .i64 0]) ?_ rfl ?_
                  · rw [results_cell2 rfl]
                    go_simp
                  · exact ⟨_, _, _, rfl, HE.out _ _ _⟩
        | true =>
          have hO := ST.out.old HB1.out HP.out.1
          obtain ⟨c0, c1, c2⟩ := HC.out wr hO j hjN
          have haa := haw (by omega)
          subst haa
          obtain ⟨u0, u1, u2, uf0, uf1, uf2⟩ := ST.out.box.facts
          have HUd : Hid (udo (ofT t) (d.L.drop j) d.H = bk (ofT t) (udo (ofT t) (d.L.drop (j + 1)) d.H) (ntAt d.L j)) := udo_drop _ (by rw [HN.out]; exact hjN) _
          have HB8 : Hid ((ntAt d.L j).b < 8) := HBd.out j hjN
          have HTe : Hid (ofT t (ntAt d.L j) = decide (((ntAt d.L j).t : Int) = t)) := rfl
          have HSv : Hid (SliceIs wr v (lst (udo (ofT t) (d.L.drop (j + 1)) d.H))) := ST.out.b.is (HD.out.b.later hO)
          obtain ⟨av, cv, rfl, _, _⟩ := id HSv.out
          rw [lst_len] at ST HSv u0
          have STd : Hid (Bx w1 wr.drew P (.slice ab 8 cb) (.slice ao 8 co) (.slice (some ⟨b, 0, none⟩) n cw) (.slice av 8 cv) (.slice ao 8 co) (.slice (some ⟨b, 0, none⟩) n cw) (lst d.H) (lst (udo (ofT t) (d.L.drop (j + 1)) d.H)) (lsO d.L) (lsO d.L) d.L d.L) := ST.out.later (below_drew1 _ _)
          have HKp : Hid (∀ W, Below wr.drew.heap.size wr.drew W → W.cell? ⟨P, 0, none⟩ = some (.slice av 8 cv) ∧ W.cell? ⟨P, 2, none⟩ = some (.slice (some ⟨b, 0, none⟩) n cw) ∧ W.cell? ⟨b, j * 3 + 1, none⟩ = some (.int .i64 ((ntAt d.L j).b : Int)) ∧ W.cell? ⟨b, j * 3 + 2, none⟩ = some (.int .i64 ((ntAt d.L j).w : Int))) := fun W hW => by
            have h1 := (STd.out.later hW)
            obtain ⟨x0, _, x2, _, _, _⟩ := h1.box.facts
            obtain ⟨_, y1, y2⟩ := HC.out W (h1.old HB1.out HP.out.1) j hjN
            exact ⟨x0, x2, y1, y2⟩
          have HSet : Hid _ := fun (_ : Nat) => set_own wr.drew (.slice av 8 cv) _ 8 (ntAt d.L j).b ((ntAt d.L j).w : Int) (HSv.out.later (below_drew1 _ _)) (lst_len _) HB8.out (by decide)
          rw [lst_put] at HSet
          clear hO
          generalize ntAt d.L j = N at c0 c1 c2 HUd HTe HKp HSet
          obtain ⟨Nt', Nb, Nw⟩ := N
          replace c0 : wr.cell? ⟨b, j * 3, none⟩ = some (.int .i64 (Nt' : Int)) := c0
          replace c1 : wr.cell? ⟨b, j * 3 + 1, none⟩ = some (.int .i64 (Nb : Int)) := c1
          replace c2 : wr.cell? ⟨b, j * 3 + 2, none⟩ = some (.int .i64 (Nw : Int)) := c2
          by_cases hT : (Nt' : Int) = t
          · have hTb : ((Nt' : Int) == t) = true := by simp [hT]
            have HUx : Hid (udo (ofT t) (d.L.drop j) d.H = putV (udo (ofT t) (d.L.drop (j + 1)) d.H) Nb Nw) := by
              show _ = _
              rw [HUd.out]
              exact if_pos (HTe.out.trans (decide_eq_true hT))
            clear hT
            go_wp2_with fail
            refine wp_region_last (S := fun w' => w'.cell? ⟨P, 0, none⟩ = some (.slice av 8 cv) ∧ w'.cell? ⟨P, 2, none⟩ = some (.slice (some ⟨b, 0, none⟩) n cw) ∧ w'.cell? ⟨b, j * 3 + 1, none⟩ = some (.int .i64 (Nb : Int)) ∧ w'.cell? ⟨b, j * 3 + 2, none⟩ = some (.int .i64 (Nw : Int))) 16 (by kernel_rfl) (by kernel_rfl) ?hs (fun hHeld => ?_)
            case hs => exact ⟨u0, u2, c1, c2⟩
            refine held_take (i := 0) (v := ?_) rfl rfl (by kernel_rfl) (by kernel_rfl) (by kernel_rfl) (fun _ _ _ h => h) (Or.inl ⟨by rfl, ?_⟩) hHeld ?_
            rotate_left
            · (intro w hSw; (try dsimp only at hSw); go_simp; try with_reducible rfl)
            simp only [Act.put, List.setIfInBounds_toArray, List.set_cons_zero, List.set_cons_succ]
            refine held_take (i := 1) (v := ?_) rfl rfl (by kernel_rfl) (by kernel_rfl) (by kernel_rfl) (fun _ _ _ h => h) (Or.inl ⟨by rfl, ?_⟩) hHeld ?_
            rotate_left
            · (intro w hSw; (try dsimp only at hSw); go_simp; try with_reducible rfl)
            simp only [Act.put, List.setIfInBounds_toArray, List.set_cons_zero, List.set_cons_succ]
            refine held_take (i := 2) (v := ?_) rfl rfl (by kernel_rfl) (by kernel_rfl) (by kernel_rfl) (fun _ _ _ h => h) (Or.inl ⟨by rfl, ?_⟩) hHeld ?_
            rotate_left
            · (intro w hSw; (try dsimp only at hSw); go_simp; try with_reducible rfl)
            simp only [Act.put, List.setIfInBounds_toArray, List.set_cons_zero, List.set_cons_succ]
            refine held_take (i := 3) (v := ?_) rfl rfl (by kernel_rfl) (by kernel_rfl) (by kernel_rfl) (fun _ _ _ h => h) (Or.inl ⟨by rfl, ?_⟩) hHeld ?_
            rotate_left
            · (intro w hSw; (try dsimp only at hSw); go_simp; try with_reducible rfl)
            simp only [Act.put, List.setIfInBounds_toArray, List.set_cons_zero, List.set_cons_succ]
            refine held_take (i := 4) (v := ?_) rfl rfl (by kernel_rfl) (by kernel_rfl) (by kernel_rfl) (fun _ _ _ h => h) (Or.inl ⟨by rfl, ?_⟩) hHeld ?_
            rotate_left
            · (intro w hSw; (try dsimp only at hSw); go_simp; try with_reducible rfl)
            simp only [Act.put, List.setIfInBounds_toArray, List.set_cons_zero, List.set_cons_succ]
            refine held_take (i := 5) (v := ?_) rfl rfl (by kernel_rfl) (by kernel_rfl) (by kernel_rfl) (fun _ _ _ h => h) (Or.inl ⟨by rfl, ?_⟩) hHeld ?_
            rotate_left
            · (intro w hSw; (try dsimp only at hSw); go_simp; try with_reducible rfl)
            simp only [Act.put, List.setIfInBounds_toArray, List.set_cons_zero, List.set_cons_succ]
            refine held_take (i := 6) (v := ?_) rfl rfl (by kernel_rfl) (by kernel_rfl) (by kernel_rfl) (fun _ _ _ h => h) (Or.inl ⟨by rfl, ?_⟩) hHeld ?_
            rotate_left
            · (intro w hSw; (try dsimp only at hSw); go_simp; try with_reducible rfl)
            simp only [Act.put, List.setIfInBounds_toArray, List.set_cons_zero, List.set_cons_succ]
            refine held_take (i := 7) (v := ?_) rfl rfl (by kernel_rfl) (by kernel_rfl) (by kernel_rfl) (fun _ _ _ h => h) (Or.inl ⟨by rfl, ?_⟩) hHeld ?_
            rotate_left
            · (intro w hSw; (try dsimp only at hSw); go_simp; try with_reducible rfl)
            simp only [Act.put, List.setIfInBounds_toArray, List.set_cons_zero, List.set_cons_succ]
            refine held_take (i := 8) (v := ?_) rfl rfl (by kernel_rfl) (by kernel_rfl) (by kernel_rfl) (fun _ _ _ h => h) (Or.inl ⟨by rfl, ?_⟩) hHeld ?_
            rotate_left
            · (intro w hSw; (try dsimp only at hSw); go_simp; try with_reducible rfl)
            simp only [Act.put, List.setIfInBounds_toArray, List.set_cons_zero, List.set_cons_succ]
            refine held_take (i := 9) (v := ?_) rfl rfl (by kernel_rfl) (by kernel_rfl) (by kernel_rfl) (fun _ _ _ h => h) (Or.inl ⟨by rfl, ?_⟩) hHeld ?_
            rotate_left
            · (intro w hSw; (try dsimp only at hSw); go_simp; try with_reducible rfl)
            simp only [Act.put, List.setIfInBounds_toArray, List.set_cons_zero, List.set_cons_succ]
            refine held_take (i := 10) (v := ?_) rfl rfl (by kernel_rfl) (by kernel_rfl) (by kernel_rfl) (fun _ _ _ h => h) (Or.inl ⟨by rfl, ?_⟩) hHeld ?_
            rotate_left
            · (intro w hSw; (try dsimp only at hSw); go_simp; try with_reducible rfl)
            simp only [Act.put, List.setIfInBounds_toArray, List.set_cons_zero, List.set_cons_succ]
            refine held_take (i := 11) (v := ?_) rfl rfl (by kernel_rfl) (by kernel_rfl) (by kernel_rfl) (fun _ _ _ h => h) (Or.inl ⟨by rfl, ?_⟩) hHeld ?_
            rotate_left
            · (intro w hSw; (try dsimp only at hSw); go_simp; try with_reducible rfl)
            simp only [Act.put, List.setIfInBounds_toArray, List.set_cons_zero, List.set_cons_succ]
            refine held_take (i := 12) (v := ?_) rfl rfl (by kernel_rfl) (by kernel_rfl) (by kernel_rfl) (fun _ _ _ h => h) (Or.inl ⟨by rfl, ?_⟩) hHeld ?_
            rotate_left
            · (intro w hSw; (try dsimp only at hSw); go_simp; try with_reducible rfl)
            simp only [Act.put, List.setIfInBounds_toArray, List.set_cons_zero, List.set_cons_succ]
            refine held_take (i := 13) (v := ?_) rfl rfl (by kernel_rfl) (by kernel_rfl) (by kernel_rfl) (fun _ _ _ h => h) (Or.inl ⟨by rfl, ?_⟩) hHeld ?_
            rotate_left
            · (intro w hSw; (try dsimp only at hSw); go_simp; try with_reducible rfl)
            simp only [Act.put, List.setIfInBounds_toArray, List.set_cons_zero, List.set_cons_succ]
            refine wpAnyH_ready (rs := [14]) (by kernel_rfl) (by simp) ?_
            refine AllReadyH.cons rfl (fun K hK => ?_) AllReadyH.nil
            go_simp
            go_at_call 25
            refine (HSet.out 0).mono ?_
            rintro e w3 ⟨g3, cap3, rfl, ho, hb⟩
            have ho3 : Hid _ := ho
            have hb3 : Hid _ := hb
            have hf3 := (STd.out.later hb).box.facts.2.2.2.1
            clear ho hb
            go_simp
            refine hK.out _ _ (HKp.out _ hb3.out) (fun hHeld => ?_)
            clear hK K
            refine held_take (i := 15) (v := ?_) rfl rfl (by kernel_rfl) (by kernel_rfl) (by kernel_rfl) (fun _ _ _ h => h) (Or.inl ⟨by rfl, ?_⟩) hHeld ?_
            rotate_left
            · (intro w hSw; (try dsimp only at hSw); go_simp; try with_reducible rfl)
            simp only [Act.put, List.setIfInBounds_toArray, List.set_cons_zero, List.set_cons_succ]
            refine wpAnyH_done (by kernel_rfl) ?_ _
            refine last_step rfl (fun K hK => ?_)
            go_simp
            refine hK _ _ ?_
            clear hK K
            have S4 : Hid _ := fun (_ : Nat) => STd.out.setB HP.out.2.1 ho3.out hb3.out
            clear u0 u1 u2 uf0 uf1 uf2 c0 c1 c2
            go_wp2
            go_roundw
            case rel => exact ⟨j, _, by omega, by go_num, (fun h => by cases h), by rw [HUx.out]; exact S4.out 0⟩
            case measure => simp [Go.RowKit.intOf] <;> omega
          · have hTb : ((Nt' : Int) == t) = false := by simp [hT]
            have HUx : Hid (udo (ofT t) (d.L.drop j) d.H = udo (ofT t) (d.L.drop (j + 1)) d.H) := by
              show _ = _
              rw [HUd.out]
              exact if_neg (by rw [HTe.out, decide_eq_true_iff]; exact hT)
            clear hT
            go_wp2
            go_roundw
            case rel => exact ⟨j, _, by omega, by go_num, (fun h => by cases h), by rw [HUx.out]; exact ST.out⟩
            case measure => simp [Go.RowKit.intOf] <;> omega
  · have HI : Hid _ := fun (W : World) => rin_no t 0 19 W ht
    have he : enE t = 1 := if_neg (by omega)
    have hdd : leD d t B = d := leD_none hg (by rw [he]; decide)
    rw [he, hdd]
    have HE : Hid _ := fun (p q r : Value) => (Bx.new (xb := lst d.H) (xo := lsO d.L) (xn := d.L) k0).end (d := d) (d' := d) (R := w.heap.size + 1) hb1 (Nat.le_refl _) (by omega) (by omega) p q r
    obtain ⟨u0, u1, u2, _, _, _⟩ := k0.facts
    obtain ⟨y0, y1, y2, f0, f1, f2⟩ := k1.facts
    clear hd hg hcw hbw hw1 hb1 k0 k1 ksz hn he ht hdd HD HG HN
    go_enter Tryd.func13, Tryd.ntmps13
    go_wp2_with fail
    rw [HW1.out]
    refine Calls.mono (HI.out w1) ?_
    rintro e w2 ⟨rfl, rfl⟩
    go_wp2
    refine bodyPost_ret (v := .tuple #[.agg #[.slice ab 8 cb, .slice ao 8 co, .slice aw n cw], .int .i64 1]) ?_ rfl ?_
    · rw [results_cell2 rfl]
      go_simp
    · exact ⟨_, _, _, rfl, HE.out _ _ _⟩

end Go.Proofs.YtkpfieemkjfjkaaDoor
