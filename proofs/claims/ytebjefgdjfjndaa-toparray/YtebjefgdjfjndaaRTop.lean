/- This text proves that platterholdtop.TopArray returns true for any data and any number, and lets all old memory be; the only condition is that the slice lies there. -/
import Derived.Test.YtebjefgdjfjndaaRTm
import Derived.Test.YtebjefgdjfjndaaRx
import Derived.Test.YtebjefgdjfjndaaTin
namespace Go.Proofs.Ytebjefgdjfjndaa
open Go.RowKit Go.Deep

set_option maxHeartbeats 8000000 in
set_option maxRecDepth 100000 in
theorem top_any (w : World) (va : Value) (xa : List Int) (k : Int) (ha : SliceIs w va xa) :
    Calls Try.prog 6 #[va, .int .i64 k] w fun e w' => e = .returned (.bool true) ∧ Below w.heap.size w w' := by
  have HA : Hid (SliceIs w va xa) := ha
  obtain ⟨aa, ca, ba, oa, hva, hla, haa, hca⟩ := ha.where
  obtain ⟨L, hL⟩ : ∃ L, L = xa.length := ⟨_, rfl⟩
  have HL : Hid (L = xa.length) := hL
  rw [← hL] at hva hla haa hca
  unfold maxLen at hla
  subst hva
  have HCA : Hid (∀ i, i < L → w.cell? ⟨ba, oa + i, none⟩ = some (.int .i64 (nth xa i))) := hca
  have HWA : Hid (0 < L → ba < w.heap.size) := fun h => by
    obtain ⟨_, _, e1, _, i1⟩ := ha
    obtain ⟨b1, o1, e3, l1, _⟩ := i1 (fun e => by rw [e, List.length_nil] at hL; omega)
    have q1 := (Value.slice.inj e1).1
    rw [haa h, e3] at q1
    cases q1
    exact l1
  clear hca hL ha
  have HLT := ints_lit w [5, 5] (by decide) 2
  obtain ⟨ti, hti, hz0, hz1, hz2⟩ := info_parts Try.info22
  go_enter Try.func6, Try.ntmps6
  go_wp2_with fail
  refine (make_okq (w.alloc (.cells #[.int .i64 5, .int .i64 5] 3)) (.slice (some ⟨w.heap.size, 0, none⟩) 2 2) [5, 5] 1 HLT (by decide)).mono ?_
  rintro e w1 ⟨v1, f1, q1, hv1, ht1, rfl, hs1, hb1⟩
  have hc1 : w1.cell? ⟨q1, 2, none⟩ = some (.int .i64 5) := by
    obtain ⟨a, c, b, o, e1, _, e2, e3⟩ := hs1.where
    rw [fl_len] at e1 e2 e3
    rw [hv1] at e1
    have e4 := (Value.slice.inj e1).1
    rw [e2 (by decide)] at e4
    cases e4
    have e5 := e3 2 (by decide)
    rw [fl_nth (by decide), Nat.zero_add] at e5
    rw [e5]
    have e6 : evF f1 2 2 = 5 := fact_top ht1
    show some (Value.int .i64 ((evF f1 2 2 : Nat) : Int)) = _
    rw [e6]; rfl
  have hv1' : v1 = .slice (some ⟨q1, 0, none⟩) 3 3 := hv1
  subst hv1'
  have HB1 : Hid (Below w.heap.size w w1) := Below.next (below_alloc w _) hb1
  clear HLT hv1 ht1 hs1 hb1
  go_wp2
  clear hc1
  go_loopw [7, 8] (fun v7 v8 wr => ∃ (j : Nat) (B : Nat → Nat), j ≤ L ∧ j ≤ 9 ∧ v8 = .int .i64 j ∧ wr.ownsRow w1.heap.size 22 1 v7 j (vsB B j) ∧ (∀ i, i < j → wr.rowIs (B i) 3 1 (fun _ => .int .i64 (nth xa i))) ∧ Below w1.heap.size w1 wr) (fun _ i _ => 9 - (intOf i).toNat)
  case atStart => exact ⟨0, fun _ => 0, Nat.zero_le _, Nat.zero_le _, rfl, World.ownsRow_nil _ _ _ _, fun i hi => absurd hi (Nat.not_lt_zero _), Below.refl _ _⟩
  case round =>
    obtain ⟨j, B, hjL, hj9, rfl, hown, hrows, hbel⟩ := hrel
    rename_i u7
    have HO : Hid (wr.ownsRow w1.heap.size 22 1 u7 j (vsB B j)) := hown
    have HRW : Hid (∀ i, i < j → wr.rowIs (B i) 3 1 (fun _ => .int .i64 (nth xa i))) := hrows
    have HBL : Hid (Below w1.heap.size w1 wr) := hbel
    have HBW : Hid (Below w.heap.size w wr) := Below.next HB1.out hbel
    clear hown hrows hbel
    by_cases hc : j < L ∧ j < 9
    · have hj1 : (j : Int) < (L : Int) := by omega
      have hj2 : (j : Int) < 9 := by omega
      have hae := haa (by omega)
      subst hae
      clear haa
      have h1 : wr.cell? ⟨ba, oa + j, none⟩ = some (.int .i64 (nth xa j)) := by rw [HBW.out.cell (p := ⟨ba, oa + j, none⟩) (HWA.out (by omega))]; exact HCA.out j hc.1
      obtain ⟨x, hx⟩ : ∃ x, x = nth xa j := ⟨_, rfl⟩
      have HX : Hid (x = nth xa j) := hx
      rw [← hx] at h1
      clear hx
      go_wp2_with (at_builtin; refine wpList_append_own _ rfl (.tmp 45) (.tmp 51) 34 rfl w1.heap.size 22 ti (.slice none 0 0) 1 24 Try.underlying34 hti hz0 hz1 hz2 rfl (by decide) u7 j (vsB B j) rfl ((HO.out.alloc _).alloc _) ⟨wr.heap.size + 1, 0, none⟩ 1 1 [.slice (some ⟨wr.heap.size, 0, none⟩) 1 1] rfl ?q1 ?q2 ?q3 ?q4 ?q5 ?q6 ?q7)
      case q1 => rfl
      case q2 =>
        intro i u hu
        rw [addr_at]
        have e := cell_new (wr.alloc (.cells #[.int .i64 x] 3)) #[.slice (some ⟨wr.heap.size, 0, none⟩) 1 1] 22 i
        rw [show (wr.alloc (.cells #[.int .i64 x] 3)).heap.size = wr.heap.size + 1 by simp] at e
        rw [e]
        simpa using hu
      case q3 => exact fun u hu => by rw [List.mem_singleton.1 hu]; rfl
      case q4 => unfold maxLen; omega
      case q5 => omega
      case q6 => have := HBL.out.size; simp; omega
      case q7 =>
        intro v3 w3 hown hgr _
        rw [vsB_succ] at hown
        have HO3 : Hid (w3.ownsRow w1.heap.size 22 1 v3 (j + 1) (vsB (fun i => if i = j then wr.heap.size else B i) (j + 1))) := hown
        have HB3 : Hid (Below w1.heap.size w1 w3) := ((HBL.out.alloc HBL.out.size _).alloc (by have := HBL.out.size; simp; omega) _).grown hgr (by have := HBL.out.size; simp; omega) (fun k e => (HO.out.lt k e).1)
        have HRW3 : Hid (∀ i, i < j + 1 → w3.rowIs (if i = j then wr.heap.size else B i) 3 1 (fun _ => .int .i64 (nth xa i))) := by
          intro i hi
          by_cases e : i = j
          · subst e
            rw [if_pos rfl]
            have h : (wr.alloc (.cells #[.int .i64 x] 3)).rowIs wr.heap.size 3 1 (fun _ => .int .i64 (nth xa i)) := World.rowIs_alloc wr #[.int .i64 x] 3 _ (fun q hq => by
              have : q = 0 := by simpa using hq
              subst this; rw [← HX.out]; rfl)
            have h' := h.alloc (.cells #[.slice (some ⟨wr.heap.size, 0, none⟩) 1 1] 22)
            exact rowIs_grown h' hgr (own_ne ((HO.out.alloc _).alloc _) h' (by decide))
          · rw [if_neg e]
            have h := ((HRW.out i (by omega)).alloc (.cells #[.int .i64 x] 3)).alloc (.cells #[.slice (some ⟨wr.heap.size, 0, none⟩) 1 1] 22)
            exact rowIs_grown h hgr (own_ne ((HO.out.alloc _).alloc _) h (by decide))
        clear hown hgr h1
        generalize wr.heap.size = q3 at HO3 HRW3
        go_wp2
        go_roundw
        case rel => exact ⟨j + 1, _, by omega, by omega, by go_num, HO3.out, HRW3.out, HB3.out⟩
        case measure => simp [intOf]; omega
    · have HJ : Hid (j = min L 9) := by show j = min L 9; omega
      have HRS : Hid (RowsIs wr u7 (rowsOf xa j)) := rows_made HO.out (by unfold maxLen; omega) HRW.out
      clear HO HRW
      by_cases hz : makeE xa 1 = 0
      · have hn1 := (makeE_zero hz).1
        have hn8 := (makeE_zero hz).2.1
        rw [← HL.out] at hn1 hn8
        have hjL' : j = L := by have := HJ.out; omega
        subst hjL'
        have HZ : Hid (makeE xa 1 = 0) := hz
        have HBY : Hid (∀ i, i < j → isByte (nth xa i)) := by rw [HL.out]; exact (makeE_zero hz).2.2.1
        have HGD : Hid (GoodRows 1 (rowsOf xa j)) := rowsOf_good hn1 hn8 HBY.out
        have hc1 : ¬ (j : Int) < (j : Int) := by omega
        have hae := haa hn1
        subst hae
        clear haa hz hc HJ
        go_wp2_with fail
        refine (of_ok wr u7 _ HRS.out (checkE_of HGD.out)).mono ?_
        rintro e w2 ⟨v2, rfl, hs2, hb2⟩
        have HS2 : Hid (SliceIs w2 v2 (parity (rowsOf xa j))) := hs2
        have HRS2 : Hid (RowsIs w2 u7 (rowsOf xa j)) := HRS.out.later hb2
        have HB2 : Hid (Below w.heap.size w w2) := Below.next HBW.out hb2
        clear hs2 hb2
        go_wp2_with fail
        refine (make_okq w2 _ xa 1 (HA.out.later HB2.out) HZ.out).mono ?_
        rintro e w3 ⟨v3, f, q, hv3, ht, rfl, hs3, hb3⟩
        rw [← HL.out] at hv3 hs3 ht
        have hv3' : v3 = .slice (some ⟨q, 0, none⟩) (j + 1) (j + 1) := hv3
        subst hv3'
        have HF : Hid (Thru j (fun i => i) (fun i => (nth xa i).toNat) f) := ht
        have HS3 : Hid (SliceIs w3 (.slice (some ⟨q, 0, none⟩) (j + 1) (j + 1)) (fl (j + 1) (fun i => evF f i j))) := hs3
        have HS2' : Hid (SliceIs w3 v2 (parity (rowsOf xa j))) := HS2.out.later hb3
        have HRS3 : Hid (RowsIs w3 u7 (rowsOf xa j)) := HRS2.out.later hb3
        have HB3 : Hid (Below w.heap.size w w3) := Below.next HB2.out hb3
        clear hv3 hs3 hb3 ht
        have hne : ((j : Int) + 1 != (j : Int) + 1) = false := by simp
        have heq : ((j : Int) + 1 == (j : Int) + 1) = true := by simp
        by_cases hk : 0 ≤ k ∧ k ≤ (j : Int) - 1
        · have HK : Hid (0 ≤ k ∧ k ≤ (j : Int) - 1) := hk
          go_wp2_with fail
          refine (tin_yes _ _ _ _ HK.out).mono ?_
          rintro e w' ⟨rfl, rfl⟩
          obtain ⟨m, rfl⟩ : ∃ m : Nat, k = m := ⟨k.toNat, by omega⟩
          have hm : m < j := by omega
          have hm' : (m : Int) < (j : Int) := by omega
          have hmi : (m : Int) < (j : Int) + 1 := by omega
          clear hk HK
          have hg1 : Good 1 (parity (rowsOf xa j)) := parity_good HGD.out
          go_wp2_with fail
          refine (again_ok w3 u7 v2 1 m _ _ HRS3.out HS2'.out HGD.out hg1 (by rw [rowsOf_len]; exact hm)).mono ?_
          rintro e w4 ⟨v4, rfl, hs4, hb4⟩
          rw [again_is HGD.out (by rw [rowsOf_len]; exact hm), rowsOf_at hm] at hs4
          have HS4 : Hid (SliceIs w4 v4 [nth xa m]) := hs4
          have HS3' : Hid (SliceIs w4 (.slice (some ⟨q, 0, none⟩) (j + 1) (j + 1)) (fl (j + 1) (fun i => evF f i j))) := HS3.out.later hb4
          have HB4 : Hid (Below w.heap.size w w4) := Below.next HB3.out hb4
          clear hs4 hb4 hg1
          go_wp2_with fail
          refine (set_any w4 _ _ m (-1) HS3'.out (by rw [fl_len]; omega) (by rw [fl_len]; omega)).mono ?_
          rintro e w5 ⟨v5, rfl, hs5, hb5⟩
          have HS5 : Hid (SliceIs w5 v5 ((fl (j + 1) (fun i => evF f i j)).set m (-1))) := hs5
          have HS4' : Hid (SliceIs w5 v4 [nth xa m]) := HS4.out.later hb5
          have HS35 : Hid (SliceIs w5 (.slice (some ⟨q, 0, none⟩) (j + 1) (j + 1)) (fl (j + 1) (fun i => evF f i j))) := HS3'.out.later hb5
          have HB5 : Hid (Below w.heap.size w w5) := Below.next HB4.out hb5
          clear hs5 hb5
          go_wp2_with fail
          refine (again_lost w5 v5 f j (j + 1) 1 _ HS5.out (lost_set lost_none (by omega) (by rw [fl_nth (by omega)]; omega)) HF.out.1 hn1 hn8 (by omega) (by omega)).mono ?_
          rintro e w6 ⟨v6, rfl, hs6, hb6⟩
          have HS4q : Hid (SliceIs w6 v4 [nth xa m]) := HS4'.out.later hb6
          have HS36 : Hid (SliceIs w6 (.slice (some ⟨q, 0, none⟩) (j + 1) (j + 1)) (fl (j + 1) (fun i => evF f i j))) := HS35.out.later hb6
          have HB6 : Hid (Below w.heap.size w w6) := Below.next HB5.out hb6
          have HM : Hid (nth xa m = (evF f m j : Int)) := by
            have h1 := HF.out.2 m hm
            have h2 := (HBY.out m hm).1
            have h3 : evF f m j = (nth xa m).toNat := h1
            show nth xa m = (evF f m j : Int)
            omega
          obtain ⟨a4, c4, b4, o4, hv4, _, ha4, hc4⟩ := HS4q.out.where
          obtain ⟨a6, c6, b6, o6, hv6, _, ha6, hc6⟩ := hs6.where
          rw [fl_len] at hv6 ha6 hc6
          have e4 := ha4 (by simp)
          have e6 := ha6 (by omega)
          have hv4' : v4 = .slice a4 1 c4 := hv4
          subst e4 e6 hv4' hv6
          have d4 : w6.cell? ⟨b4, o4, none⟩ = some (.int .i64 (nth xa m)) := hc4 0 (by simp)
          have d6 : w6.cell? ⟨b6, o6 + m, none⟩ = some (.int .i64 (nth xa m)) := by rw [hc6 m (by omega), fl_nth (by omega), HM.out]
          have d0 : w6.cell? ⟨ba, oa + m, none⟩ = some (.int .i64 (nth xa m)) := by rw [HB6.out.cell (p := ⟨ba, oa + m, none⟩) (HWA.out hn1)]; exact HCA.out m hm
          have hzz : (nth xa m != nth xa m) = false := by simp
          clear hs6 hb6 hv4 ha4 hc4 ha6 hc6
          generalize nth xa m = z at d4 d6 d0 hzz
          go_wp2
          go_quiet (fail)
          clear d4 d6 d0 hzz
          by_cases h2 : j = 2
          · subst h2
            obtain ⟨d0, hd0⟩ : ∃ d : Nat, d = (nth xa 0).toNat := ⟨_, rfl⟩
            obtain ⟨d1, hd1⟩ : ∃ d : Nat, d = (nth xa 1).toNat := ⟨_, rfl⟩
            have hy0 := HBY.out 0 (by omega)
            have hy1 := HBY.out 1 (by omega)
            have hx0 : nth xa 0 = (d0 : Int) := by have := hy0.1; omega
            have hx1 : nth xa 1 = (d1 : Int) := by have := hy1.1; omega
            have hb0 : d0 < 256 := by have := hy0.2; omega
            have hb1 : d1 < 256 := by have := hy1.2; omega
            have c0 : (w6.drewN nq).cell? ⟨ba, oa, none⟩ = some (.int .i64 (d0 : Int)) := by
              rw [← hx0]
              have := HCA.out 0 (by omega)
              rw [Nat.add_zero] at this
              exact (HB6.out.cell (p := ⟨ba, oa, none⟩) (HWA.out (by omega))).trans this
            have c1 : (w6.drewN nq).cell? ⟨ba, oa + 1, none⟩ = some (.int .i64 (d1 : Int)) := by
              rw [← hx1]
              exact (HB6.out.cell (p := ⟨ba, oa + 1, none⟩) (HWA.out (by omega))).trans (HCA.out 1 (by omega))
            have c2 : (w6.drewN nq).cell? ⟨q, 2, none⟩ = some (.int .i64 ((gm 3 d0 ^^^ gm 2 d1 : Nat) : Int)) := by
              obtain ⟨a, c, b, o, e1, _, e2, e3⟩ := HS36.out.where
              rw [fl_len] at e1 e2 e3
              have e4 := (Value.slice.inj e1).1
              rw [e2 (by omega)] at e4
              cases e4
              have e5 := e3 2 (by omega)
              rw [fl_nth (by omega), Nat.zero_add, two_code HF.out.1 (by rw [HF.out.2 0 (by omega), hd0]) (by rw [HF.out.2 1 (by omega), hd1]) hb0 hb1] at e5
              exact e5
            have HB7 : Hid (Below w.heap.size w (w6.drewN nq)) := Below.next HB6.out (below_drewN _ _ _)
            clear hd0 hd1 hy0 hy1 hx0 hx1
            generalize w6.drewN nq = w7 at c0 c1 c2 HB7 ⊢
            have hg3 : gm 3 d0 < 256 := gm_byte (by decide) hb0
            have hg2 : gm 2 d1 < 256 := gm_byte (by decide) hb1
            go_wp2_with fail
            refine (mul_ok 3 d0 w7 (by omega) hb0).mono ?_
            rintro e w8 ⟨rfl, rfl⟩
            go_wp2_with fail
            refine (mul_ok 2 d1 w7 (by omega) hb1).mono ?_
            rintro e w8 ⟨rfl, rfl⟩
            generalize gm 3 d0 = x at c2 hg3 ⊢
            generalize gm 2 d1 = y at c2 hg2 ⊢
            have A1 : ∀ n, Calls Try.prog 15 #[.int .i64 (x : Int), .int .i64 0, .int .i64 255] (w7.drewN n) fun e w' => e = .returned (.bool true) ∧ ∃ m, w' = w7.drewN m :=
              fun n => (tin_yes (x : Int) 0 255 _ (by omega)).mono fun _ _ h => ⟨h.1, n, h.2.symm⟩
            have A2 : ∀ n, Calls Try.prog 15 #[.int .i64 (y : Int), .int .i64 0, .int .i64 255] (w7.drewN n) fun e w' => e = .returned (.bool true) ∧ ∃ m, w' = w7.drewN m :=
              fun n => (tin_yes (y : Int) 0 255 _ (by omega)).mono fun _ _ h => ⟨h.1, n, h.2.symm⟩
            have A3 : ∀ n, Calls Try.prog 13 #[.int .i64 (x : Int), .int .i64 (y : Int)] (w7.drewN n) fun e w' => e = .returned (.int .i64 ((x ^^^ y : Nat) : Int)) ∧ ∃ m, w' = w7.drewN m :=
              fun n => (rxor_any x y _ (by omega) (by omega)).mono fun _ _ h => ⟨h.1, n, h.2.symm⟩
            have hzz : (((x ^^^ y : Nat) : Int) == ((x ^^^ y : Nat) : Int)) = true := by simp
            generalize ((x ^^^ y : Nat) : Int) = z at c2 A3 hzz
            clear hg3 hg2 c0 c1
            go_wp2
            go_quiet (first
              | (go_at_call 13; exact A3 _)
              | (go_at_call_of 15 (Value.int IntKind.i64 (x : Int)); exact A1 _)
              | (go_at_call 15; exact A2 _))
            go_wp2
            go_ret
            exact ⟨rfl, Below.next HB7.out (below_drewN _ _ _)⟩
          · have h2' : ((j : Int) != 2) = true := by simp; omega
            go_wp2
            go_ret
            exact ⟨rfl, Below.next HB6.out (below_drewN _ _ _)⟩
        · have HK : Hid (¬ (0 ≤ k ∧ k ≤ (j : Int) - 1)) := hk
          clear hk
          go_wp2_with fail
          refine (tin_no _ _ _ _ HK.out).mono ?_
          rintro e w' ⟨rfl, rfl⟩
          go_wp2
          go_ret
          exact ⟨rfl, HB3.out⟩
      · have HE : Hid (errV (makeE xa 1) = .iface 45 (.int .i64 (makeE xa 1 : Int))) := errV_pos hz
        have hck : checkE (rowsOf xa j) ≠ 0 := by rw [HJ.out, HL.out]; exact top_bad hz
        have HCK : Hid (checkE (rowsOf xa j) ≠ 0) := hck
        have HZ : Hid (makeE xa 1 ≠ 0) := hz
        clear hck hz haa
        have hcs : (¬ (j : Int) < (L : Int)) ∨ ((j : Int) < (L : Int) ∧ ¬ (j : Int) < 9) := by omega
        clear hc
        rcases hcs with hc1 | ⟨hc1, hc2⟩
        all_goals
          go_wp2_with fail
          refine (of_err wr u7 _ HRS.out HCK.out).mono ?_
          rintro e w2 ⟨rfl, rfl⟩
          go_wp2_with fail
          refine (make_err wr _ xa 1 (HA.out.later HBW.out) HZ.out).mono ?_
          rintro e w2 ⟨rfl, rfl⟩
          rw [HE.out]
          go_wp2
          go_ret
          exact ⟨rfl, HBW.out⟩

end Go.Proofs.Ytebjefgdjfjndaa
