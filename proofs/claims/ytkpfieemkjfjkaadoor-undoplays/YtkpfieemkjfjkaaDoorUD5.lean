/- This text proves what the document's own Crash of a disk answers: all that had not ended is put back, and how many turns that were; old memory is as it was; the condition is that the document's disk lies there. -/
import Derived.Test.YtkpfieemkjfjkaaDoorUD4
namespace Go.Proofs.YtkpfieemkjfjkaaDoor
open Go.RowKit Go.Deep Go.Maps

theorem Bx.all {w1 W W' : World} {P : Nat} {ub uo un vb vo vw vb' vo' vw' : Value} {xb xo : List Int} {xn : List Nt} {d d' : Ud} (h : Bx w1 W P ub uo un vb vo vw xb (lst d.H) xo (lsO d.L) xn d.L) (hP : P < w1.heap.size) (k : Nxt W W' vb vo vw vb' vo' vw' d d') :
    Bx w1 (((W'.setCell ⟨P, 0, none⟩ vb').setCell ⟨P, 1, none⟩ vo').setCell ⟨P, 2, none⟩ vw') P ub uo un vb' vo' vw' xb (lst d'.H) xo (lsO d'.L) xn d'.L :=
  ⟨(h.box.later k.old).set _ _ _,
   (((h.b.next k.b k.old h.st.size).set (a := ⟨P, 0, none⟩) hP _).set (a := ⟨P, 1, none⟩) hP _).set (a := ⟨P, 2, none⟩) hP _,
   (((h.o.next k.o k.old h.st.size).set (a := ⟨P, 0, none⟩) hP _).set (a := ⟨P, 1, none⟩) hP _).set (a := ⟨P, 2, none⟩) hP _,
   (((h.n.next k.n k.old h.st.size).set (a := ⟨P, 0, none⟩) hP _).set (a := ⟨P, 1, none⟩) hP _).set (a := ⟨P, 2, none⟩) hP _,
   (h.st.trans (Stay.of k.old)).trans (stay_set3 (S := fun x => x = P) _ rfl _ _ _)⟩
theorem Bx.doc {w w1 W : World} {P : Nat} {ub uo un vb vo vw : Value} {d d' : Ud} (h : Bx w1 W P ub uo un vb vo vw (lst d.H) (lst d'.H) (lsO d.L) (lsO d'.L) d.L d'.L) (hd : DocIs w ub uo un d) (hw : Below w.heap.size w w1) (hP : w.heap.size ≤ P) : DocIs W vb vo vw d' :=
  have hb := h.old hw hP
  ⟨h.b.is (hd.b.later hb), h.o.is (hd.o.later hb), h.n.is (hd.n.later hb)⟩
/-- A disk where the first turns have been undone. -/
def crK (d : Ud) (j : Nat) : Ud := ⟨udo (low j) d.L d.H, hig j d.L⟩
theorem crK_zero (d : Ud) : crK d 0 = d := by unfold crK; rw [low_zero, hig_zero]
theorem crK_all {d : Ud} (h : GoodU d) : crK d 20 = crD d := by unfold crK crD; rw [low_all h, hig_all h]
theorem crK_good {d : Ud} (h : GoodU d) (j : Nat) : GoodU (crK d j) := ⟨fun x hx => h.one x (List.mem_filter.1 hx).1, Nat.le_trans (List.length_filter_le _ _) h.len, h.sole.sub _⟩
theorem crK_next {d : Ud} (h : GoodU d) (j : Nat) : leD (crK d j) (j : Int) true = crK d (j + 1) := by
  show (⟨udo (ofT (j : Int)) (hig j d.L) (udo (low j) d.L d.H), cut (j : Int) (hig j d.L)⟩ : Ud) = _
  rw [low_next h.sole, hig_next]
  rfl
theorem crK_less (d : Ud) (j : Nat) : (crK d (j + 1)).L.length < (crK d j).L.length ↔ hasT d.L j = true := hig_less d.L j

set_option maxHeartbeats 4000000 in
set_option maxRecDepth 100000 in
theorem r2crash_any (w : World) (vb vo vw : Value) (d : Ud) (hd : DocIs w vb vo vw d) (hg : GoodU d) :
    Calls Tryd.prog 16 #[.agg #[vb, vo, vw]] w fun e w' => ∃ vb' vo' vw', e = .returned (.tuple #[.agg #[vb', vo', vw'], .int .i64 (crN d.L : Int)]) ∧ Nxt w w' vb vo vw vb' vo' vw' d (crD d) := by
  obtain ⟨ab, cb, ao, co, aw, cw, rfl, rfl, rfl⟩ := hd.form
  obtain ⟨n0, hn0⟩ : ∃ n0, d.L.length = n0 := ⟨_, rfl⟩
  rw [hn0] at hd ⊢
  have HD : Hid (DocIs w (.slice ab 8 cb) (.slice ao 8 co) (.slice aw n0 cw) d) := hd
  have HG : Hid (GoodU d) := hg
  obtain ⟨w1, hw1, hb1, k0, k1, ksz⟩ := boxes2 w (.slice ab 8 cb) (.slice ao 8 co) (.slice aw n0 cw) (.slice none 0 0) (.slice none 0 0) (.slice none 0 0)
  have HW1 : Hid _ := hw1
  have HB1 : Hid (Below w.heap.size w w1) := hb1
  obtain ⟨P, hP⟩ : ∃ P, P = w.heap.size := ⟨_, rfl⟩
  obtain ⟨R, hR⟩ : ∃ R, R = w.heap.size + 1 := ⟨_, rfl⟩
  have HP : Hid (w.heap.size ≤ P ∧ P < w1.heap.size ∧ w.heap.size ≤ R ∧ R < w1.heap.size ∧ R ≠ P) := ⟨by omega, by omega, by omega, by omega, by omega⟩
  have HPR : Hid (w.heap.size + 1 = R ∧ w.heap.size = P) := ⟨hR.symm, hP.symm⟩
  rw [← hR] at k1
  rw [← hP] at k0
  have HR1 : Hid (Box3 w1 R (.slice none 0 0) (.slice none 0 0) (.slice none 0 0)) := k1
  have HX0 : Hid (Bx w1 w1 P (.slice ab 8 cb) (.slice ao 8 co) (.slice aw n0 cw) (.slice ab 8 cb) (.slice ao 8 co) (.slice aw n0 cw) (lst d.H) (lst (crK d 0).H) (lsO d.L) (lsO (crK d 0).L) d.L (crK d 0).L) := by
    rw [crK_zero]
    exact Bx.new k0
  clear hd hg hw1 hb1 k0 k1 ksz hn0 hP hR
  go_enter Tryd.func16, Tryd.ntmps16
  go_wp2
  rw [HW1.out, HPR.out.1, HPR.out.2]
  go_loopw [4, 5] (fun c i wr => ∃ (j : Nat) (ub uo un : Value), j ≤ 20 ∧ i = .int .i64 (j : Int) ∧ c = .int .i64 (cnt (hasT d.L) j : Int) ∧ Bx w1 wr P (.slice ab 8 cb) (.slice ao 8 co) (.slice aw n0 cw) ub uo un (lst d.H) (lst (crK d j).H) (lsO d.L) (lsO (crK d j).L) d.L (crK d j).L) (fun _ i _ => 20 - (Go.RowKit.intOf i).toNat)
  case atStart => exact ⟨0, _, _, _, by omega, rfl, rfl, HX0.out⟩
  case round =>
    obtain ⟨j, ub, uo, un, hj, rfl, rfl, hst⟩ := hrel
    have ST : Hid (Bx w1 wr P (.slice ab 8 cb) (.slice ao 8 co) (.slice aw n0 cw) ub uo un (lst d.H) (lst (crK d j).H) (lsO d.L) (lsO (crK d j).L) d.L (crK d j).L) := hst
    clear hst HX0
    have HDj : Hid (DocIs wr ub uo un (crK d j)) := ST.out.doc HD.out HB1.out HP.out.1
    have hcl := cnt_le (hasT d.L) j
    obtain ⟨a0, c0, a1, c1, a2, c2, rfl, rfl, rfl⟩ := HDj.out.form
    obtain ⟨u0, u1, u2, uf0, uf1, uf2⟩ := ST.out.box.facts
    by_cases hj20 : j < 20
    · have hj1 : (j : Int) < 20 := by omega
      have HLv : Hid _ := fun (_ : Nat) => leave_any wr _ _ _ (crK d j) HDj.out (crK_good HG.out j) (j : Int) true
      rw [show enE (j : Int) = 0 from if_pos (by omega), crK_next HG.out j] at HLv
      have HCn : Hid (cnt (hasT d.L) (j + 1) = cnt (hasT d.L) j + (if hasT d.L j = true then 1 else 0)) := cnt_succ _ _
      have HLe : Hid ((crK d (j + 1)).L.length < (crK d j).L.length ↔ hasT d.L j = true) := crK_less d j
      have h60 := (crK_good HG.out j).len
      have h61 := (crK_good HG.out (j + 1)).len
      generalize hNj : (crK d j).L.length = Nj at HLe h60 HLv HDj u2 ST ⊢
      have HNj : Hid ((crK d j).L.length = Nj) := hNj
      clear hNj
      go_wp2_with fail
      refine (HLv.out 0).mono ?_
      rintro e w2 ⟨vb', vo', vw', rfl, hnx⟩
      have S2 : Hid _ := fun (_ : Nat) => ST.out.all HP.out.2.1 hnx
      obtain ⟨b0, e0, b1, e1, b2, e2, rfl, rfl, rfl⟩ := (hnx.doc HDj.out).form
      clear u0 u1 u2 uf0 uf1 uf2
      obtain ⟨u0, u1, u2, uf0, uf1, uf2⟩ := (ST.out.box.later hnx.old).facts
      clear hnx HLv
      generalize hMj : (crK d (j + 1)).L.length = Mj at HLe h61 S2 ⊢
      clear hMj
      by_cases hT : hasT d.L j = true
      · have hlt : Mj < Nj := HLe.out.2 hT
        have hlti : (Mj : Int) < (Nj : Int) := by omega
        have HC2 : Hid (cnt (hasT d.L) (j + 1) = cnt (hasT d.L) j + 1) := by show _ = _; rw [HCn.out, if_pos hT]
        generalize cnt (hasT d.L) j = C at HC2 hcl ⊢
        clear hT
        go_wp2
        go_roundw
        case rel => exact ⟨j + 1, _, _, _, by omega, by go_num, by rw [HC2.out]; go_num, S2.out 0⟩
        case measure => simp [Go.RowKit.intOf] <;> omega
      · have hlt : ¬ Mj < Nj := fun m => hT (HLe.out.1 m)
        have hlti : ¬ (Mj : Int) < (Nj : Int) := by omega
        have HC2 : Hid (cnt (hasT d.L) (j + 1) = cnt (hasT d.L) j) := by show _ = _; rw [HCn.out, if_neg hT]; rfl
        generalize cnt (hasT d.L) j = C at HC2 hcl ⊢
        clear hT
        go_wp2
        go_roundw
        case rel => exact ⟨j + 1, _, _, _, by omega, by go_num, by rw [HC2.out], S2.out 0⟩
        case measure => simp [Go.RowKit.intOf] <;> omega
    · obtain rfl : j = 20 := by omega
      have HRb : Hid (Box3 wr R (.slice none 0 0) (.slice none 0 0) (.slice none 0 0)) := HR1.out.stay ST.out.st HP.out.2.2.2.2
      obtain ⟨y0, y1, y2, f0, f1, f2⟩ := HRb.out.facts
      have HE : Hid (∀ p q r, Nxt w (((wr.setCell ⟨R, 0, none⟩ p).setCell ⟨R, 1, none⟩ q).setCell ⟨R, 2, none⟩ r) (.slice ab 8 cb) (.slice ao 8 co) (.slice aw n0 cw) (.slice a0 8 c0) (.slice a1 8 c1) (.slice a2 (crK d 20).L.length c2) d (crD d)) := fun p q r => by
        have h1 := ST.out.end HB1.out HP.out.1 HP.out.2.2.1 HP.out.2.2.2.1 p q r
        rwa [crK_all HG.out] at h1 ⊢
      generalize (crK d 20).L.length = Mj at HE u2 ⊢
      clear ST HDj
      go_wp2
      refine bodyPost_ret (v := .tuple #[.agg #[.slice a0 8 c0, .slice a1 8 c1, .slice a2 Mj c2], .int .i64 (cnt (hasT d.L) 20 : Int)]) ?_ rfl ?_
      · rw [results_cell2 rfl]
        go_simp
      · exact ⟨_, _, _, rfl, HE.out _ _ _⟩

end Go.Proofs.YtkpfieemkjfjkaaDoor
