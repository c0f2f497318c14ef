/- This text proves that platterholdlaw2.TreeWhole returns true: each path hangs from the root, is clean, and rises; old memory is as it was; the conditions are that the steps' texts lie there and that the library's variable internal/bytealg.MaxLen holds some number. -/
import Derived.Test.YtdlmkienogimgaaGreatDoorMb1
import Derived.Deep.QuietTactic
import Derived.BigQuiet
namespace Go.Proofs.YtdlmkienogimgaaGreatDoor
open Go.RowKit Go.Deep Go.Shelf Go.Maps

theorem keeps {w w' : World} (hb : Below w.heap.size w w') {a : Addr} {v : Value} (h : w.cell? a = some v) : w'.cell? a = some v := by
  rw [hb.cell (World.block_lt_of_cell? _ _ h)]; exact h
theorem byte47 {x : ByteArray} {X : List UInt8} {dir : Bool} (hx : x.data.toList = X) (h1 : 1 ≤ x.size) (h : X.getLast? = some 47 ↔ dir = true) : (x[x.size - 1]'(by omega)).toNat = 47 ↔ dir = true := by
  rw [← h, ← hx]
  exact ⟨fun g => last_is h1 g, fun g => is_last h1 g⟩
/-- The last byte of a path's text. -/
theorem idx_last (x : ByteArray) (h : 1 ≤ x.size) (w : World) : (Instr.index 9 (.string x) (.int .i64 ((x.size : Int) - 1))).run Tryz.prog w = .ok (.int .u8 (x[x.size - 1]'(by omega)).toNat) w := by
  rw [run_index_string w 9 x .i64 _ Tryz.underlying9, dif_pos ⟨by omega, by omega⟩]
  have e : ((x.size : Int) - 1).toNat = x.size - 1 := by omega
  simp only [e]
theorem below_drawN (w : World) (B q : Nat) : Below B w (w.drewN q) := ⟨rfl, rfl, rfl, Nat.le_refl _, fun _ _ => rfl⟩

set_option maxHeartbeats 8000000 in
set_option maxRecDepth 100000 in
theorem treeWhole_any (w : World) (v : Value) (ls : List (List (List UInt8))) (hv : TxtsIs w v ls) (hm : Mx w) :
    Calls Tryz.prog 3 #[v] w fun e w' => e = .returned (.bool true) ∧ Below w.heap.size w w' := by
  have H1 : Hid _ := fun (_ : Nat) => fact_any w hm
  have H2 : Hid _ := fun (w1 : World) (hb : Below w.heap.size w w1) => grown_any w1 v ls (hv.later hb) (hm.later hb)
  have HM : Hid (∀ (w1 w2 : World), Below w.heap.size w w1 → Turned w1.heap.size w1 w2 → Mx w2) := fun w1 w2 h1 h2 => (hm.later h1).turned h2
  clear hv
  go_enter Tryz.func3, Tryz.ntmps3
  go_wp2_with fail
  refine Calls.mono (H1.out 0) ?_
  rintro e w1 ⟨rfl, hb1⟩
  go_wp2_with fail
  refine Calls.mono (H2.out w1 hb1) ?_
  rintro e w2 ⟨t, L, M, rfl, hT2, k2⟩
  have hz1 := hb1.size
  unfold ptr
  go_wp2_with fail
  refine Calls.mono (treeWalk_any w2 w1.heap.size t L M hT2) ?_
  rintro e w3 ⟨v3, rfl, hv3, hb3⟩
  have hs3 := strs_own hv3
  obtain ⟨a3, c3, rfl⟩ := strs_form hs3
  have hG := hT2.good
  have hT3 := hT2.later hb3
  have k3 : Turned w1.heap.size w1 w3 := k2.trans (Turned.of_below hb3 k2.below.size)
  have hm3 := HM.out w1 w3 hb1 k3
  obtain ⟨N, hN⟩ : ∃ N, (txs L M).length = N := ⟨_, rfl⟩
  have hln : N ≤ 24 := by rw [← hN]; have := txs_len hG; have := hG.few; omega
  have HX : Hid (∀ i, i < N → ∃ q k dir, Hung L M (sth (txs L M) i) q k dir) := fun i hi => hung hG (sth_mem (by omega))
  have HU : Hid (∀ i, i + 1 < N → Op.bytesLess (bs (sth (txs L M) i)).toList (bs (sth (txs L M) (i + 1))).toList = true) := fun i hi => txs_up hG (by omega)
  obtain ⟨a', c', b, o, e', _, _, ha, hc⟩ := hs3.where
  cases e'
  rw [hN] at ha hc ⊢
  have HA : Hid (0 < N → a3 = some ⟨b, o, none⟩) := fun h => (ha h).1
  have HC : Hid (∀ i, i < N → w3.cell? ⟨b, o + i, none⟩ = some (.string (bs (sth (txs L M) i)))) := hc
  have HT3 : Hid (TreeAt w3 w1.heap.size t L M) := hT3
  have HM3 : Hid (Mx w3) := hm3
  have HB3 : Hid (Turned w1.heap.size w1 w3) := k3
  clear hv3 hs3 ha hc hT2 k2 hT3 hm3 k3 hG
  go_wp2_with fail
  go_loopw [6] (fun i wr => ∃ k : Nat, i = .int .i64 k ∧ k ≤ N ∧ Below w3.heap.size w3 wr) (fun i _ => N - (intOf i).toNat)
  case atStart => exact ⟨0, rfl, Nat.zero_le _, Below.refl _ _⟩
  case round =>
    obtain ⟨k, rfl, hk, hbr⟩ := hrel
    have HR : Hid (Below w3.heap.size w3 wr) := hbr
    by_cases hlt : k < N
    · have haa := HA.out (by omega)
      subst haa
      obtain ⟨q, k0, dir, hX⟩ := HX.out k hlt
      have HH : Hid (Hung L M (sth (txs L M) k) q k0 dir) := hX
      have c1 := keeps hbr (HC.out k hlt)
      have HU0 : Hid (0 < k → Op.bytesLess (bs (sth (txs L M) (k - 1))).toList (bs (sth (txs L M) k)).toList = true) := fun h => by
        have := HU.out (k - 1) (by omega)
        rw [show k - 1 + 1 = k from by omega] at this
        exact this
      generalize sth (txs L M) k = X at *
      have hsx : (bs X).size = X.length := by rw [Lib.size_eq, data_bs]
      have hdx := data_bs X
      have l1 : 1 ≤ (bs X).size ∧ (bs X).size ≤ 42 := by rw [hsx]; exact HH.out.size
      have HP : Hid _ := fun (_ : Nat) => parts_any wr (bs X) (by unfold maxLen; omega) (HM3.out.later hbr)
      rw [hdx, HH.out.right, HH.out.names, errV_zero] at HP
      have HDX : Hid ((bs X).data.toList = X) := hdx
      clear hX hdx hsx
      generalize bs X = x at *
      have h47 := byte47 HDX.out l1.1 HH.out.last
      go_wp2_with fail
      refine Calls.mono (HP.out 0) ?_
      rintro e w6 ⟨v6, rfl, hv6, hb6⟩
      have hR6 : Below w3.heap.size w3 w6 := hbr.trans (hb6.mono hbr.size)
      have HR6 : Hid (Below w3.heap.size w3 w6) := hR6
      have HV6 : Hid (StrsIs w6 v6 (q ++ [k0])) := hv6
      obtain ⟨a6, c6, b6, o6, rfl, hcap6, _, ha6, hc6⟩ := hv6.where
      have HPn : Hid (sth (q ++ [k0]) q.length = k0) := by simp [Hid, sth]
      have hc61 := hc6 q.length (by simp)
      rw [HPn.out] at hc61
      obtain ⟨n, hn⟩ : ∃ n, (q ++ [k0]).length = n := ⟨_, rfl⟩
      have hn1 : n = q.length + 1 := by rw [← hn]; simp
      have hn8 : n ≤ 8 := by have := HH.out.few; omega
      rw [hn] at ha6 hc6 hcap6 HV6 ⊢
      obtain ⟨rfl, _⟩ := ha6 (by omega)
      have c16 := keeps hb6 c1
      clear HP hv6 hc6 ha6
      have hn0 : ((n : Int) == 0) = false := by simp; omega
      have HN1 : Hid (n = q.length + 1) := hn1
      have hn2 : 1 ≤ n := by omega
      clear hn1 hn
      have hix := idx_last x l1.1
      obtain ⟨c, hc47⟩ : ∃ c, (x[x.size - 1]'(by omega)).toNat = c := ⟨_, rfl⟩
      rw [hc47] at h47
      simp only [hc47] at hix
      clear hc47
      by_cases hk0 : k = 0
      case' pos =>
        have hg : decide (0 < k) = false := by simp; omega
        clear hk0
      case' neg =>
        have c06 := keeps hR6 (HC.out (k - 1) (by omega))
        have hup := HU0.out (by omega)
        have hg : decide (0 < k) = true := by simp; omega
      all_goals
        go_wp2_with fail
        go_quiet (fail)
        have hb7 := below_drawN w6 w6.heap.size nq
        generalize w6.drewN nq = w7 at *
        have c17 := keeps hb7 c16
        have hR7 : Below w3.heap.size w3 w7 := HR6.out.trans (hb7.mono HR6.out.size)
        have HV7 : Hid (StrsIs w7 (.slice (some ⟨b6, o6, none⟩) n c6) (q ++ [k0])) := HV6.out.later (Nat.le_refl _) hb7
        have hc71 := keeps hb7 hc61
        clear HV6 c16 hc61 hg hn0
        go_wp2_with fail
        have hw7 := hix w7
        go_quiet (fail)
        have hb8 := below_drawN w7 w7.heap.size nq
        generalize w7.drewN nq = w8 at *
        have c18 := keeps hb8 c17
        have hR8 : Below w3.heap.size w3 w8 := hR7.trans (hb8.mono hR7.size)
        have HV8 : Hid (StrsIs w8 (.slice (some ⟨b6, o6, none⟩) n c6) (q ++ [k0])) := HV7.out.later (Nat.le_refl _) hb8
        have hc81 := keeps hb8 hc71
        clear HV7 c17 hc71 hR7 hb7 hb8 hb6 c1
        have HSh : Hid _ := fun (_ : Nat) => shown_any w8 _ _ HV8.out (by have := HH.out.wid.1; omega)
        have hSz : (bs (shw (q ++ [k0]))).size ≤ 100 := by
          rw [Lib.size_eq, data_bs, shw_len]
          have := HH.out.wid.1
          split <;> omega
        have HTx : Hid (x.data.toList = shw (q ++ [k0]) ++ if dir then [47] else []) := HDX.out.trans HH.out.text
        have HDS : Hid ((bs (shw (q ++ [k0]))).data.toList = shw (q ++ [k0])) := data_bs _
        generalize shw (q ++ [k0]) = sq at *
        generalize bs sq = S at *
        go_wp2_with fail
        refine Calls.mono (HSh.out 0) ?_
        rintro e w' ⟨rfl, rfl⟩
        have HS2 : Hid _ := fun (_ : Nat) => shown_any w8 _ _ (StrsIs.less HV8.out) (by rw [List.dropLast_concat]; have := HH.out.wid.2; omega)
        rw [List.dropLast_concat] at HS2
        have hSq : (bs (shw q)).size ≤ 100 := by
          rw [Lib.size_eq, data_bs, shw_len]
          have := HH.out.wid.2
          split <;> omega
        have HL8 : Hid _ := fun (_ : Nat) => list_any w8 w1.heap.size t L M (HT3.out.later hR8) (bs (shw q)) (by unfold maxLen; omega) (HM3.out.later hR8)
        rw [data_bs, HH.out.above, HH.out.kids, errV_zero] at HL8
        have HKk : Hid (k0 ∈ kids L q) := HH.out.here
        have HLx : Hid (lsE L M X = if dir then 0 else 3) := HH.out.list
        generalize bs (shw q) = sq2 at *
        generalize kids L q = K at *
        unfold ptr at HL8
        clear HSh
        cases dir
        case' false =>
          have HLy : Hid (lsE L M X = 3) := HLx.out
          clear HLx
          have hcc : ((c : Int) == 47) = false := by have := mt h47.1 (by simp); simp; omega
          have hse : (S.toList == x.toList) = true := by rw [Lib.toList_data, Lib.toList_data, HTx.out, HDS.out]; simp
        case' true =>
          have HLy : Hid (lsE L M X = 0) := HLx.out
          clear HLx
          have hcc : c = 47 := h47.2 rfl
          subst hcc
          have hse : ((S ++ ⟨#[47]⟩).toList == x.toList) = true := by rw [Lib.toList_data, Lib.toList_data, HTx.out, ByteArray.data_append, Array.toList_append, HDS.out]; simp
        all_goals
          clear h47
          go_wp2_with fail
          refine Calls.mono (HS2.out 0) ?_
          rintro e w' ⟨rfl, rfl⟩
          go_wp2_with fail
          refine Calls.mono (HL8.out 0) ?_
          rintro e w9 ⟨v9, rfl, hv9, hb9⟩
          obtain ⟨a9, c9, b9, o9, rfl, hcap9, hlm9, ha9, hc9⟩ := hv9.where
          obtain ⟨rfl, _⟩ := ha9 (List.length_pos_iff.2 (List.ne_nil_of_mem HKk.out))
          obtain ⟨KL, hKL⟩ : ∃ KL, K.length = KL := ⟨_, rfl⟩
          have HKL : Hid (K.length = KL) := hKL
          have HC9 : Hid (∀ i, i < K.length → w9.cell? ⟨b9, o9 + i, none⟩ = some (.string (bs (sth K i)))) := hc9
          rw [hKL] at HC9 hlm9 hcap9 ⊢
          have c19 := keeps hb9 c18
          have hc91 := keeps hb9 hc81
          rw [show q.length = n - 1 from by have := HN1.out; omega] at hc91
          have hR9 : Below w3.heap.size w3 w9 := hR8.trans (hb9.mono hR8.size)
          have HR9 : Hid (Below w3.heap.size w3 w9) := hR9
          have HC19 : Hid (w9.cell? ⟨b, o + k, none⟩ = some (.string x)) := c19
          have HC91 : Hid (w9.cell? ⟨b6, o6 + (n - 1), none⟩ = some (.string (bs k0))) := hc91
          unfold maxLen at hlm9
          clear hv9 ha9 hc9 hKL HL8 HS2 hb9 hR9 c19 hc91 c18 hc81 hR8 hse
          go_wp2_with fail
          go_loopw [12, 13] (fun f i wr => ∃ (m : Nat) (g : Bool), f = .bool g ∧ i = .int .i64 m ∧ m ≤ KL ∧ (k0 ∈ K.take m → g = true) ∧ Below w9.heap.size w9 wr) (fun _ i _ => KL - (intOf i).toNat)
          case atStart => exact ⟨0, false, rfl, rfl, Nat.zero_le _, by simp, Below.refl _ _⟩
          case round =>
            obtain ⟨m, g, rfl, rfl, hm', hg, hb10⟩ := hrel
            have HG : Hid (k0 ∈ K.take m → g = true) := hg
            have HB10 : Hid (Below w9.heap.size w9 wr) := hb10
            clear hg
            by_cases hmlt : m < KL
            · have c10 := keeps hb10 (HC9.out m hmlt)
              have c10p := keeps hb10 HC91.out
              have HTk : Hid (K.take (m + 1) = K.take m ++ [sth K m]) := by
                show K.take (m + 1) = K.take m ++ [sth K m]
                have h : m < K.length := by rw [HKL.out]; exact hmlt
                rw [List.take_add_one, List.getElem?_eq_getElem h, sth_lt h]; rfl
              cases g
              case' true =>
                have hgd : True := trivial
                go_wp2_with fail
                go_quiet (fail)
                go_wp2_with fail
                go_roundw
                case rel => exact ⟨m + 1, true, rfl, by go_num, by omega, fun _ => rfl, HB10.out.trans ((below_drawN wr _ nq).mono HB10.out.size)⟩
                case measure => simp [intOf]; omega
              by_cases he : sth K m = k0
              · have hq : ((bs (sth K m)).toList == (bs k0).toList) = true := by rw [he]; simp
                clear he
                generalize bs (sth K m) = y at *
                generalize bs k0 = y0 at *
                go_wp2_with fail
                go_quiet (fail)
                go_wp2_with fail
                go_roundw
                case rel => exact ⟨m + 1, true, rfl, by go_num, by omega, fun _ => rfl, HB10.out.trans ((below_drawN wr _ nq).mono HB10.out.size)⟩
                case measure => simp [intOf]; omega
              · have hq : ((bs (sth K m)).toList == (bs k0).toList) = false := by rw [bs_list, bs_list]; simp [he]
                have HNe : Hid (k0 ∉ K.take (m + 1)) := by
                  show k0 ∉ K.take (m + 1)
                  rw [HTk.out, List.mem_append, List.mem_singleton]
                  rintro (h | h)
                  · have := HG.out h; cases this
                  · exact he h.symm
                clear he
                generalize bs (sth K m) = y at *
                generalize bs k0 = y0 at *
                go_wp2_with fail
                go_quiet (fail)
                go_wp2_with fail
                go_roundw
                case rel => exact ⟨m + 1, false, rfl, by go_num, by omega, fun h => absurd h HNe.out, HB10.out.trans ((below_drawN wr _ nq).mono HB10.out.size)⟩
                case measure => simp [intOf]; omega
            · have hgt : g = true := HG.out (by rw [List.take_of_length_le (by rw [HKL.out]; omega)]; exact HKk.out)
              subst hgt
              have c110 := keeps hb10 HC19.out
              have hR10 : Below w3.heap.size w3 wr := HR9.out.trans (hb10.mono HR9.out.size)
              have HL10 : Hid _ := fun (_ : Nat) => list_any wr w1.heap.size t L M (HT3.out.later hR10) x (by unfold maxLen; omega) (HM3.out.later hR10)
              rw [HDX.out, HLy.out] at HL10
              first
                | rw [errV_zero] at HL10
                | rw [errV_pos (by decide)] at HL10
              unfold ptr at HL10
              go_wp2_with fail
              refine Calls.mono (HL10.out 0) ?_
              rintro e w11 ⟨v11, rfl, hv11, hb11⟩
              obtain ⟨a11, c11, rfl⟩ := strs_form hv11
              clear hv11
              go_wp2_with fail
              go_roundw
              case rel => exact ⟨k + 1, by go_num, by omega, hR10.trans (hb11.mono hR10.size)⟩
              case measure => simp [intOf]; omega
    · go_wp2_with fail
      go_ret
      have z := HB3.out.below.size
      exact ⟨rfl, hb1.trans ((HB3.out.below.trans (HR.out.mono z)).mono hz1)⟩

end Go.Proofs.YtdlmkienogimgaaGreatDoor
