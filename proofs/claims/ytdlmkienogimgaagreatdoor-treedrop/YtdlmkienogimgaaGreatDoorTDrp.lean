/- This text proves that platterholdlaw2.TreeDrop returns true: what is made and dropped was not made, and a directory that has something is not dropped; old memory is as it was; the conditions are that the steps' texts lie there, that a text is no longer than texts can be, that the library's variable internal/bytealg.MaxLen holds some number, and that what errors.As reads is laid. -/
import Derived.Test.YtdlmkienogimgaaGreatDoorMa9
namespace Go.Proofs.YtdlmkienogimgaaGreatDoor
open Go.RowKit Go.Deep Go.Shelf Go.Maps

theorem made_facts {L L' : List Ent} {M M' : Nat → Option Nat} {dir : Bool} {l : List UInt8} {n : Nat} (hG : Good L M) (h : MkS dir L M l n L' M') (hE : puE L M l = 0) (hG' : Good L' M') :
    n = 0 ∧ L'.length = L.length + 1 ∧ drE L' M' l = 0 ∧ drL L' M' l = L ∧ ∀ p j, (p, j) ∈ L → M' j = M j := by
  obtain ⟨h1, i, h2, h3, h4, h5⟩ := h
  rw [if_pos hE] at h5
  subst h5
  obtain ⟨q, k, d, m, g1, g2, g3, g4, g5, g6, g7, g8⟩ := puE_zero hG hE
  have ag : ∀ p j, (p, j) ∈ L → M' j = M j := fun p j hj => h4 j fun e => h2 p (by rw [← e]; exact hj)
  have hGM : Good L M' := hG.congr ag
  rw [g2] at hG' ⊢
  obtain ⟨r1, r2⟩ := drop_put hGM hG' g1 g2 g4 (by rw [ag _ _ (look_mem g4)]; exact g5) g6
  exact ⟨by rw [h1, hE], by simp, r1, r2, ag⟩
theorem made_not {L L' : List Ent} {M M' : Nat → Option Nat} {dir : Bool} {l : List UInt8} {n : Nat} (h : MkS dir L M l n L' M') (hE : puE L M l ≠ 0) :
    n ≠ 0 ∧ L' = L ∧ ∀ p j, (p, j) ∈ L → M' j = M j := by
  obtain ⟨h1, i, h2, h3, h4, h5⟩ := h
  rw [if_neg hE] at h5
  exact ⟨by rw [h1]; exact hE, h5, fun p j hj => h4 j fun e => h2 p (by rw [← e]; exact hj)⟩
theorem txs_agree {L : List Ent} {M M' : Nat → Option Nat} (hG : Good L M) (h : ∀ p j, (p, j) ∈ L → M' j = M j) : txs L M' = txs L M :=
  txs_same (hG.congr h) hG (fun _ => Iff.rfl) h

/-- What the law asks of two paths that are told one behind the other. -/
structure Row2 (l : List (List UInt8)) (N : Nat) : Prop where
  len : l.length = N
  long : ∀ i, i < N → 1 ≤ (sth l i).length ∧ (sth l i).length ≤ maxLen

theorem txs_long {L : List Ent} {M : Nat → Option Nat} (hG : Good L M) {x : List UInt8} (hx : x ∈ txs L M) : 1 ≤ x.length ∧ x.length ≤ 42 := by
  unfold txs at hx
  obtain ⟨y, hy, rfl⟩ := List.mem_map.1 hx
  obtain ⟨hy, hye⟩ := (wka_mem hG y).1 hy
  obtain ⟨g1, g2⟩ := hG.nam y.1 y.2 hy
  obtain ⟨_, _, h1⟩ := shw_slash g1 g2
  unfold tx
  constructor
  · cases h : y.1 with
    | nil => exact absurd h hye
    | cons k p => rw [shw_cons, sg_cons]; simp
  · rw [List.length_append] at h1 ⊢
    split <;> simp at h1 ⊢ <;> omega

/-- What is told of a directory that has something, by places. -/
theorem at_full {L : List Ent} {M M' : Nat → Option Nat} (hG : Good L M) (ha : ∀ p j, (p, j) ∈ L → M' j = M j) {i : Nat} (hi : i + 1 < (txs L M).length) (h1 : (sth (txs L M) i).getLast? = some 47) (h2 : sth (txs L M) i <+: sth (txs L M) (i + 1)) (h3 : (sth (txs L M) i).length < (sth (txs L M) (i + 1)).length) : drE L M' (sth (txs L M) i) = 7 := by
  have hG' := hG.congr ha
  rw [← txs_agree hG ha] at hi h1 h2 h3 ⊢
  have e1 := sth_mem (ls := txs L M') (i := i) (by omega)
  have e2 := sth_mem (ls := txs L M') (i := i + 1) hi
  obtain ⟨x, hx, ex⟩ := List.mem_map.1 e1
  obtain ⟨y, hy, ey⟩ := List.mem_map.1 e2
  rw [← ex] at h1 h2 h3 ⊢
  rw [← ey] at h2 h3
  exact tx_full hG' hx hy h1 h2 h3

theorem last_of {x : ByteArray} (h : 1 ≤ x.size) (h47 : (x[x.size - 1]'(by omega)).toNat = 47) : x.data.toList.getLast? = some 47 := by
  have hl : x.data.toList.length = x.size := by rw [Lib.size_eq]
  have hi : x.size - 1 < x.data.toList.length := by omega
  have e : x[x.size - 1]'(by omega) = 47 := UInt8.toNat_inj.1 h47
  rw [List.getLast?_eq_getElem?, hl, List.getElem?_eq_getElem hi, ← e]
  rfl
theorem pre_of {x y : ByteArray} (h : ((y.extract 0 x.size).toList == x.toList) = true) : x.data.toList <+: y.data.toList := by
  rw [beq_iff_eq, Lib.toList_data, Lib.toList_data, Lib.extract_data, List.drop_zero] at h
  rw [← h]
  exact List.take_prefix _ _

set_option maxHeartbeats 8000000 in
set_option maxRecDepth 100000 in
theorem treeDrop_any (w : World) (v : Value) (ls : List (List (List UInt8))) (hv : TxtsIs w v ls) (s : ByteArray) (hs : s.size ≤ maxLen) (dir : Bool) (hm : Mx w) (hL : Laid w) :
    Calls Tryz.prog 4 #[v, .string s, .bool dir] w fun e w' => e = .returned (.bool true) ∧ Below w.heap.size w w' := by
  have H1 : Hid _ := fun (_ : Nat) => fact_any w hm
  have H2 : Hid _ := fun (w1 : World) (hb : Below w.heap.size w w1) => grown_any w1 v ls (hv.later hb) (hm.later hb)
  have HM : Hid (∀ (w1 w2 : World), Below w.heap.size w w1 → Turned w1.heap.size w1 w2 → Mx w2) := fun w1 w2 h1 h2 => (hm.later h1).turned h2
  have HLD : Hid (∀ (w1 w2 : World), Below w.heap.size w w1 → Turned w1.heap.size w1 w2 → Laid w2) := fun w1 w2 h1 h2 => (hL.later h1).turned h2
  clear hv
  go_enter Tryz.func4, Tryz.ntmps4
  go_wp2_with fail
  refine Calls.mono (H1.out 0) ?_
  rintro e w1 ⟨rfl, hb1⟩
  go_wp2_with fail
  refine Calls.mono (H2.out w1 hb1) ?_
  rintro e w2 ⟨t, L, M, rfl, hT2, k2⟩
  have hz1 := hb1.size
  unfold ptr
  go_wp2_with fail
  refine Calls.mono (treeWalk_any w2 w1.heap.size t L M hT2) ?_
  rintro e w3 ⟨v3, rfl, hv3, hb3⟩
  have hs3 := strs_own hv3
  obtain ⟨a3, c3, rfl⟩ := strs_form hs3
  have hG := hT2.good
  have hT3 := hT2.later hb3
  have k3 : Turned w1.heap.size w1 w3 := k2.trans (Turned.of_below hb3 k2.below.size)
  have hm3 := HM.out w1 w3 hb1 k3
  obtain ⟨N, hN⟩ : ∃ N, (txs L M).length = N := ⟨_, rfl⟩
  have hln : N ≤ 25 := by rw [← hN]; have := txs_len hG; have := hG.few; omega
  have HS3 : Hid (StrsIs w3 (.slice a3 N c3) (txs L M)) := by rw [← hN]; exact hs3
  rw [hN]
  clear hv3 hs3
  have HF : Hid _ := fun (_ : Nat) => file_any w3 w1.heap.size t L M hT3 s hs hm3 k3.below.size
  unfold ptr at HF
  go_wp2_with fail
  refine Calls.mono (HF.out 0) ?_
  rintro e wX ⟨n, LX, MX, rfl, gX, hTX, kY⟩
  have kX := k3.trans kY
  clear HF
  by_cases hE : puE L M s.data.toList = 0
  · obtain ⟨rfl, q1, q2, q3, agX⟩ := made_facts hG gX hE hTX.good
    rw [errV_zero]
    cases dir
    case' true =>
      have HD : Hid _ := fun (_ : Nat) => drop_any wX w1.heap.size t LX MX hTX s hs (HM.out w1 wX hb1 kX) kX.below.size
      rw [q2, q3, errV_zero] at HD
      unfold ptr at HD
      go_wp2_with fail
      refine Calls.mono (HD.out 0) ?_
      rintro e wX ⟨rfl, hTX, k45⟩
      have kX := kX.trans k45
      have kY := kY.trans k45
      have HF : Hid _ := fun (_ : Nat) => dir_any wX w1.heap.size t L MX hTX s hs (HM.out w1 wX hb1 kX) kX.below.size
      unfold ptr at HF
      have hE5 : puE L MX s.data.toList = 0 := by rw [puE_congr hG agX]; exact hE
      have hG5 := hTX.good
      have ag5 := agX
      clear HD
      go_wp2_with fail
      refine Calls.mono (HF.out 0) ?_
      rintro e wX ⟨n, LX, MX, rfl, gX, hTX, k56⟩
      have kX := kX.trans k56
      have kY := kY.trans k56
      clear HF
      obtain ⟨rfl, q1, q2, q3, agX⟩ := made_facts hG5 gX hE5 hTX.good
      replace agX : ∀ p j, (p, j) ∈ L → MX j = M j := fun p j hj => (agX p j hj).trans (ag5 p j hj)
      rw [errV_zero]
    all_goals
      go_wp2_with fail
      refine Calls.mono (treeWalk_any wX w1.heap.size t LX MX hTX) ?_
      rintro e w7 ⟨v7, rfl, hv7, hb7⟩
      obtain ⟨a7, c7, rfl⟩ := strs_form (strs_own hv7)
      have hT7 := hTX.later hb7
      have k7 : Turned w1.heap.size w1 w7 := kX.trans (Turned.of_below hb7 kX.below.size)
      have hN7 : (txs LX MX).length = N + 1 := by have := txs_len hTX.good; have := txs_len hG; omega
      rw [hN7]
      clear hv7 hTX
      have HD : Hid _ := fun (_ : Nat) => drop_any w7 w1.heap.size t LX MX hT7 s hs (HM.out w1 w7 hb1 k7) k7.below.size
      rw [q2, q3, errV_zero] at HD
      unfold ptr at HD
      go_wp2_with fail
      refine Calls.mono (HD.out 0) ?_
      rintro e w8 ⟨rfl, hT8, k78⟩
      have k8 := k7.trans k78
      clear HD
      go_wp2_with fail
      refine Calls.mono (treeWalk_any w8 w1.heap.size t L MX hT8) ?_
      rintro e w9 ⟨v9, rfl, hv9, hb9⟩
      rw [txs_agree hG agX] at hv9
      have hs9 := strs_own hv9
      have hT9 := hT8.later hb9
      have k9 : Turned w1.heap.size w1 w9 := k8.trans (Turned.of_below hb9 k8.below.size)
      have k39 : Turned w1.heap.size w3 w9 := ((kY.trans (Turned.of_below hb7 kX.below.size)).trans k78).trans (Turned.of_below hb9 k8.below.size)
      have HS9 : Hid (StrsIs w9 (.slice a3 N c3) (txs L M)) := HS3.out.turned k39
      obtain ⟨a9, c9, rfl⟩ := strs_form hs9
      have HX : Hid _ := fun (_ : Nat) => texts_any w9 _ _ _ _ hs9 HS9.out
      rw [eqS_self, hN] at HX
      rw [hN]
      clear hv9 hs9
      go_wp2_with fail
      refine Calls.mono (HX.out 0) ?_
      rintro e w10 ⟨rfl, hb10⟩
      have hT10 := hT9.later hb10
      have k10 : Turned w1.heap.size w1 w10 := k9.trans (Turned.of_below hb10 k9.below.size)
      have HS10 : Hid (StrsIs w10 (.slice a3 N c3) (txs L M)) := HS9.out.later (Nat.le_refl _) hb10
      clear HX HS9 HS3
      go_wp2_with fail
      have HF7 : Hid (∀ i, i + 1 < (txs L M).length → (sth (txs L M) i).getLast? = some 47 → sth (txs L M) i <+: sth (txs L M) (i + 1) → (sth (txs L M) i).length < (sth (txs L M) (i + 1)).length → drE L MX (sth (txs L M) i) = 7) := fun i h0 h1 h2 h3 => at_full hG agX h0 h1 h2 h3
      have HLG : Hid (∀ i, i < N → 1 ≤ (sth (txs L M) i).length ∧ (sth (txs L M) i).length ≤ 42) := fun i hi => txs_long hG (sth_mem (by omega))
      have HM10 : Hid (Mx w10) := HM.out w1 w10 hb1 k10
      have HLD10 : Hid (Laid w10) := HLD.out w1 w10 hb1 k10
      have HT10 : Hid (TreeAt w10 w1.heap.size t L MX) := hT10
      have HK10 : Hid (Turned w1.heap.size w1 w10) := k10
      clear hT10 k10 hE q1 q2 q3 gX agX
      go_loopw [11] (fun i wr => ∃ k : Nat, i = .int .i64 k ∧ k ≤ 25 ∧ Below w10.heap.size w10 wr) (fun i _ => N - (intOf i).toNat)
      case atStart => exact ⟨0, rfl, Nat.zero_le _, Below.refl _ _⟩
      case round =>
        obtain ⟨k, rfl, hk, hbr⟩ := hrel
        have HR : Hid (Below w10.heap.size w10 wr) := hbr
        by_cases hlt : k + 1 < N
        · obtain ⟨a', c', b, o, e, _, _, ha, hc⟩ := (HS10.out.later (Nat.le_refl _) hbr).where
          cases e
          rw [hN] at ha hc
          obtain ⟨rfl, _⟩ := ha (by omega)
          have c1 := hc k (by omega)
          have c2 := hc (k + 1) hlt
          have l1 := HLG.out k (by omega)
          have l2 := HLG.out (k + 1) hlt
          have HF8 : Hid _ := HF7.out k (by omega)
          have HLe : Hid (1 ≤ (sth (txs L M) k).length ∧ (sth (txs L M) k).length ≤ 42) := l1
          generalize sth (txs L M) k = X at *
          generalize sth (txs L M) (k + 1) = Y at *
          have sx : (bs X).size = X.length := by rw [Lib.size_eq, data_bs]
          have sy : (bs Y).size = Y.length := by rw [Lib.size_eq, data_bs]
          have HDx : Hid ((bs X).data.toList = X) := data_bs X
          have HDy : Hid ((bs Y).data.toList = Y) := data_bs Y
          rw [← sx, ← sy] at HF8
          rw [← sx] at l1
          rw [← sy] at l2
          generalize bs X = x at *
          generalize bs Y = y at *
          clear sx sy ha hc
          by_cases h47 : (x[x.size - 1]'(by omega)).toNat = 47
          · by_cases hl : x.size < y.size
            · by_cases he : ((y.extract 0 x.size).toList == x.toList) = true
              · have h7 := HF8.out (by rw [← HDx.out]; exact last_of l1.1 h47) (by have := pre_of he; rw [HDx.out, HDy.out] at this; exact this) hl
                have HD : Hid _ := fun (_ : Nat) => drop_any wr w1.heap.size t L MX (HT10.out.later hbr) x (by unfold maxLen; omega) (HM10.out.later hbr) (by have := HK10.out.below.size; have := hbr.size; omega)
                rw [HDx.out, h7] at HD
                unfold ptr at HD
                clear h7
                go_wp2_with fail
                refine Calls.mono (HD.out 0) ?_
                rintro e w11 ⟨rfl, _, k11⟩
                go_wp2_with fail
                refine Calls.mono (error_any 7 7 w11 ((HLD10.out.later hbr).turned k11)) ?_
                rintro e w12 ⟨rfl, hb12⟩
                go_wp2_with fail
                go_ret
                have z := HK10.out.below.size
                have z2 := hbr.size
                exact ⟨rfl, hb1.trans ((((HK10.out.below.trans (hbr.mono z)).trans k11.below).trans (hb12.mono (Nat.le_trans (Nat.le_trans z z2) k11.below.size))).mono hz1)⟩
              · have he' : ((y.extract 0 x.size).toList == x.toList) = false := by simpa using he
                clear he
                go_wp2_with fail
                go_roundw
                case rel => exact ⟨k + 1, by go_num, by omega, HR.out⟩
                case measure => simp [intOf]; omega
            · go_wp2_with fail
              go_roundw
              case rel => exact ⟨k + 1, by go_num, by omega, HR.out⟩
              case measure => simp [intOf]; omega
          · go_wp2_with fail
            go_roundw
            case rel => exact ⟨k + 1, by go_num, by omega, HR.out⟩
            case measure => simp [intOf]; omega
        · go_wp2_with fail
          go_ret
          have z := HK10.out.below.size
          exact ⟨rfl, hb1.trans ((HK10.out.below.trans (HR.out.mono z)).mono hz1)⟩
  · obtain ⟨hn, rfl, ag⟩ := made_not gX hE
    rw [errV_pos hn]
    clear hn hE gX
    cases dir
    all_goals
      go_wp2_with fail
      refine Calls.mono (treeWalk_any wX w1.heap.size t LX MX hTX) ?_
      rintro e w5 ⟨v5, rfl, hv5, hb5⟩
      rw [txs_agree hG ag] at hv5
      have hs5 := strs_own hv5
      have hs3 : StrsIs w5 (.slice a3 N c3) (txs LX M) := (HS3.out.turned kY).later (Nat.le_refl _) hb5
      obtain ⟨a5, c5, rfl⟩ := strs_form hs5
      have HX : Hid _ := fun (_ : Nat) => texts_any w5 _ _ _ _ hs5 hs3
      rw [eqS_self, hN] at HX
      rw [hN]
      clear hv5 hs5 hs3
      go_wp2_with fail
      refine Calls.mono (HX.out 0) ?_
      rintro e w6 ⟨rfl, hb6⟩
      go_wp2_with fail
      go_ret
      have z := kX.below.size
      exact ⟨rfl, hb1.trans ((kX.below.trans ((hb5.trans (hb6.mono hb5.size)).mono z)).mono hz1)⟩

end Go.Proofs.YtdlmkienogimgaaGreatDoor
