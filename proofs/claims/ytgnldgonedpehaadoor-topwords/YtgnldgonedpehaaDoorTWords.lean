/- This text proves that platterholdtop.TopWords returns true for any two lists and any two numbers, and lets all old memory be; the conditions: the slices lie there, and the program's table of places holds 3, 5, 6, 7. -/
import Derived.Test.YtgnldgonedpehaaDoorCr
import Derived.Test.YtgnldgonedpehaaDoorAp
import Derived.Test.YtgnldgonedpehaaDoorRy
import Derived.Test.YtgnldgonedpehaaDoorHq
import Derived.Test.YtgnldgonedpehaaDoorLj
import Derived.Test.YtgnldgonedpehaaDoorTin
import Derived.Test.YtgnldgonedpehaaDoorSe
namespace Go.Proofs.YtgnldgonedpehaaDoor
open Go.RowKit Go.Deep

theorem wd_same : ∀ h, h < 16 → rdA (wrA h) = h := by decide +kernel
theorem wd_turn : ∀ h, h < 16 → ∀ j, j < 7 → rdA (wrA h ^^^ 2 ^ j) = h := by decide +kernel
theorem wd_lt {h j : Nat} (hj : j < 7) : wrA h ^^^ 2 ^ j < 128 := Nat.xor_lt_two_pow (n := 7) (wrA_lt h) (Nat.pow_lt_pow_right (by decide) hj)
theorem two_a : bytE [2] = 0 := by decide
theorem two_b : sumV [2] = .tuple #[.int .i64 14, .nilIface] := by rw [sumV_ok two_a, show crcL [2] = 14 by decide +kernel]; rfl

set_option maxRecDepth 100000 in
set_option maxHeartbeats 4000000 in
theorem tw_err (w : World) (v v' : Value) (xs ys : List Int) (at' is : Int) (hx : SliceIs w v xs) (_ : SliceIs w v' ys) (he : bytE xs ≠ 0) :
    Calls Tryd.prog 5 #[v, v', .int .i64 at', .int .i64 is] w fun e w' => e = .returned (.bool true) ∧ Below w.heap.size w w' := by
  have HX : Hid (SliceIs w v xs) := hx
  have HE : Hid (sumV xs = _) := sumV_no he
  have HL := ints_lit w [2] (by decide) 1
  clear hx he
  go_enter Tryd.func5, Tryd.ntmps5
  go_wp2_with fail
  refine (sum_any (w.alloc (.cells #[.int .i64 2] 3)) (.slice (some ⟨w.heap.size, 0, none⟩) 1 1) [2] HL).mono ?_
  rintro e w1 ⟨rfl, rfl⟩
  rw [two_b]
  clear HL
  have HB1 : Hid (Below w.heap.size w (w.alloc (.cells #[.int .i64 2] 3))) := below_alloc w _
  generalize w.alloc (.cells #[.int .i64 2] 3) = w1 at HB1
  go_wp2_with fail
  refine (sum_any w1 v xs (HX.out.later HB1.out)).mono ?_
  rintro e w2 ⟨rfl, rfl⟩
  rw [HE.out]
  go_wp2
  go_ret
  exact ⟨rfl, HB1.out⟩

set_option maxRecDepth 100000 in
set_option maxHeartbeats 16000000 in
theorem tw_ok (w : World) (v v' : Value) (xs ys : List Int) (at' is : Int) (hx : SliceIs w v xs) (hy : SliceIs w v' ys) (he : bytE xs = 0) (hT : Tab w) :
    Calls Tryd.prog 5 #[v, v', .int .i64 at', .int .i64 is] w fun e w' => e = .returned (.bool true) ∧ Below w.heap.size w w' := by
  obtain ⟨hle, hby⟩ := bytE_zero he
  have HX : Hid (SliceIs w v xs) := hx
  have HY : Hid (SliceIs w v' ys) := hy
  have HT : Hid (Tab w) := hT
  have HBY : Hid (∀ i, i < xs.length → isByte (nth xs i)) := hby
  have HE : Hid (sumV xs = _) := sumV_ok he
  have HF : Hid (∀ i, fnL xs i < 256) := fnL_byte hby
  have HFL : Hid (fl xs.length (fnL xs) = xs) := List.ext_getElem (by rw [fl_len]) fun i h1 h2 => by
    rw [← nth_lt h1, fl_nth h2, ← fnL_int hby h2, nth_lt h2]
  obtain ⟨aa, ca, b, o, hv, _, ha, hbl, hc⟩ := hx.parts
  obtain ⟨aa', ca', b', o', hv', hm', ha', hbl', hc'⟩ := hy.parts
  have HC : Hid (∀ i, i < xs.length → w.cell? ⟨b, o + i, none⟩ = some (.int .i64 (fnL xs i : Int))) := fun i hi => by rw [hc i hi, fnL_int hby hi]
  obtain ⟨f, hf⟩ : ∃ f, f = fnL xs := ⟨_, rfl⟩
  obtain ⟨n, hn⟩ : ∃ n, n = xs.length := ⟨_, rfl⟩
  obtain ⟨m, hm⟩ : ∃ m, m = ys.length := ⟨_, rfl⟩
  have HN : Hid (n = xs.length) := hn
  rw [← hn] at hv hle ha hbl HC HFL
  rw [← hf] at HC HF HFL
  rw [← hm] at hv' hm' ha' hbl' hc'
  have HC' : Hid (∀ i, i < m → w.cell? ⟨b', o' + i, none⟩ = some (.int .i64 (nth ys i))) := hc'
  have HBL : Hid (0 < n → b < w.heap.size) := hbl
  have HBL' : Hid (0 < m → b' < w.heap.size) := hbl'
  have HL := ints_lit w [2] (by decide) 1
  unfold maxLen at hm'
  subst hv hv'
  clear hx hy he hby hn hT hc hc' hbl hbl' hf hm
  go_enter Tryd.func5, Tryd.ntmps5
  go_wp2_with fail
  refine (sum_any (w.alloc (.cells #[.int .i64 2] 3)) (.slice (some ⟨w.heap.size, 0, none⟩) 1 1) [2] HL).mono ?_
  rintro e w1 ⟨rfl, rfl⟩
  rw [two_b]
  clear HL
  have HB1 : Hid (Below w.heap.size w (w.alloc (.cells #[.int .i64 2] 3))) := below_alloc w _
  generalize w.alloc (.cells #[.int .i64 2] 3) = w1 at HB1
  go_wp2_with fail
  refine (sum_any w1 _ xs (HX.out.later HB1.out)).mono ?_
  rintro e w2 ⟨rfl, rfl⟩
  rw [HE.out]
  go_wp2
  go_loopw [13, 14] (fun s i wr => ∃ j : Nat, j ≤ n ∧ i = .int .i64 j ∧ wr.ownsRow w.heap.size 3 1 s j (cellsOf (fl j f)) ∧ Below w.heap.size w wr) (fun _ i _ => n - (intOf i).toNat)
  case atStart => exact ⟨0, by omega, rfl, World.ownsRow_nil _ _ _ _, HB1.out⟩
  case round =>
    obtain ⟨j, hj, rfl, hown, hbel⟩ := hrel
    have HO : Hid (wr.ownsRow w.heap.size 3 1 u13 j (cellsOf (fl j f))) := hown
    have HB : Hid (Below w.heap.size w wr) := hbel
    clear hown hbel
    by_cases hlt : j < n
    · have haa := ha (by omega)
      subst haa
      have hcj : wr.cell? ⟨b, o + j, none⟩ = some (.int .i64 (f j : Int)) := by rw [HB.out.cell (p := ⟨b, o + j, none⟩) (HBL.out (by omega))]; exact HC.out j hlt
      have hfj := HF.out j
      have HTr : Hid (Tab wr) := HT.out.later HB.out
      have HC1 : Hid (∀ i, i < m → wr.cell? ⟨b', o' + i, none⟩ = some (.int .i64 (nth ys i))) := fun i hi => by rw [HB.out.cell (p := ⟨b', o' + i, none⟩) (HBL'.out (by omega))]; exact HC'.out i hi
      have hji : (j : Int) < (n : Int) := by omega
      go_wp2
      go_loop [15, 16] (fun y i => ∃ k : Nat, k ≤ 2 ∧ i = .int .i64 k ∧ y = .int .i64 ((f j % 16 ^ k : Nat) : Int)) (fun _ i => 2 - (intOf i).toNat)
      case atStart => exact ⟨0, by omega, rfl, by rw [Nat.pow_zero, Nat.mod_one]; rfl⟩
      case round =>
        obtain ⟨k, hk, rfl, rfl⟩ := hrel
        rcases (show k = 0 ∨ k = 1 ∨ k = 2 by omega) with rfl | rfl | rfl
        · rw [show ((0 : Nat) : Int) = (0 : Int) from rfl]
          have hh : f j % 16 < 16 := by omega
          have HH : Hid ((f j : Int) % 16 = ((f j % 16 : Nat) : Int)) := by show (f j : Int) % 16 = ((f j % 16 : Nat) : Int); omega
          have HR : Hid (∀ H, H = f j % 16 → ∃ k : Nat, k ≤ 2 ∧ Value.int .i64 1 = .int .i64 k ∧ Value.int .i64 (H : Int) = .int .i64 ((f j % 16 ^ k : Nat) : Int)) := fun H hH => ⟨1, by omega, rfl, by rw [hH]⟩
          obtain ⟨H, hH⟩ : ∃ H, H = f j % 16 := ⟨_, rfl⟩
          replace HR := HR.out H hH
          replace HR : Hid _ := HR
          rw [← hH] at HH hh
          clear hH
          have hW := wrA_lt H
          have HS := wd_same H hh
          have HTU : Hid _ := wd_turn H hh
          have HSS : Hid (rdA (wrA H) = H) := HS
          clear HS
          have HWO := fun W => write_ok H W hh
          have HRO := fun W => read_ok (wrA H) W hW
          go_wp2_with fail
          rw [HH.out]
          refine (HWO _ HTr.out).mono ?_
          rintro e w' ⟨rfl, rfl⟩
          generalize wrA H = V at HWO HRO HTU HSS hW
          go_wp2_with fail
          refine (tin_yes V 0 127 _ ⟨by omega, by omega⟩).mono ?_
          rintro e w' ⟨rfl, rfl⟩
          by_cases hin : 2 * j < m
          · have hin' : 2 * (j : Int) < (m : Int) := by omega
            have hnn : 0 ≤ 2 * (j : Int) := by omega
            have hct := HC1.out (2 * j) hin
            have haa' := ha' (by omega)
            subst haa'
            obtain ⟨t, ht⟩ : ∃ t, t = nth ys (2 * j) := ⟨_, rfl⟩
            rw [← ht] at hct
            clear ht HC1
            by_cases ht6 : 0 ≤ t ∧ t ≤ 6
            · obtain ⟨q, rfl⟩ : ∃ q : Nat, t = q := ⟨t.toNat, by omega⟩
              have hq : q < 7 := by omega
              have HQ : Hid (rdA (V ^^^ 2 ^ q) = H) := HTU.out q hq
              have HQL : Hid (V ^^^ 2 ^ q < 128) := Nat.xor_lt_two_pow (n := 7) hW (Nat.pow_lt_pow_right (by decide) hq)
              have HQ2 : Hid (2 ^ q < 1024) := Nat.lt_of_lt_of_le (Nat.pow_lt_pow_right (by decide) hq) (show 2 ^ 7 ≤ 1024 by decide)
              clear HTU HWO HRO HSS
              go_wp2_with fail
              refine (tin_yes (q : Int) 0 6 _ ht6).mono ?_
              rintro e w' ⟨rfl, rfl⟩
              go_wp2
              go_loop [20, 21] (fun p i => ∃ r : Nat, r ≤ q ∧ p = .int .i64 ((2 ^ r : Nat) : Int) ∧ i = .int .i64 (r : Int)) (fun _ i => q - (intOf i).toNat)
              case atStart => exact ⟨0, by omega, rfl, rfl⟩
              case round =>
                obtain ⟨r, hr, rfl, rfl⟩ := hrel
                have hp6 : 2 ^ r ≤ 2 ^ 6 := Nat.pow_le_pow_right (by decide) (by omega)
                have HM : Hid (((2 ^ r : Nat) : Int) * 2 = ((2 ^ (r + 1) : Nat) : Int)) := by show ((2 ^ r : Nat) : Int) * 2 = ((2 ^ (r + 1) : Nat) : Int); rw [Nat.pow_succ]; omega
                obtain ⟨p, hp⟩ : ∃ p, p = 2 ^ r := ⟨_, rfl⟩
                have HP : Hid (p = 2 ^ r) := hp
                rw [← hp] at hp6 HM ⊢
                clear hp
                by_cases hrq : r < q
                · go_wp2
                  go_round
                  case rel => exact ⟨r + 1, by omega, by rw [HM.out], by go_num⟩
                  case measure => simp [intOf]; omega
                · obtain rfl : r = q := by omega
                  rw [← HP.out] at HQ HQL HQ2
                  have hp1 : p < 1024 := HQ2.out
                  go_wp2_with fail
                  refine (rxor_any V p _ (by omega) hp1).mono ?_
                  rintro e w' ⟨rfl, rfl⟩
                  have HRO := fun W => read_ok (V ^^^ p) W HQL.out
                  generalize V ^^^ p = Z at HRO HQ HQL
                  go_wp2_with fail
                  refine (HRO _ HTr.out).mono ?_
                  rintro e w' ⟨rfl, rfl⟩
                  rw [HQ.out]
                  clear HRO
                  go_wp2
                  go_round
                  case rel => exact HR.out
                  case measure => simp [intOf]
            · have HT6 : Hid (¬ (0 ≤ t ∧ t ≤ 6)) := ht6
              clear ht6 HWO
              go_wp2_with fail
              refine (tin_no t 0 6 _ HT6.out).mono ?_
              rintro e w' ⟨rfl, rfl⟩
              go_wp2_with fail
              refine (HRO _ HTr.out).mono ?_
              rintro e w' ⟨rfl, rfl⟩
              rw [HSS.out]
              clear HRO
              go_wp2
              go_round
              case rel => exact HR.out
              case measure => simp [intOf]
          · have hin' : ¬ 2 * (j : Int) < (m : Int) := by omega
            clear HWO
            go_wp2_with fail
            refine (HRO _ HTr.out).mono ?_
            rintro e w' ⟨rfl, rfl⟩
            rw [HSS.out]
            clear HRO
            go_wp2
            go_round
            case rel => exact HR.out
            case measure => simp [intOf]
        · rw [show ((1 : Nat) : Int) = (1 : Int) from rfl]
          have hh : f j / 16 < 16 := by omega
          have HH : Hid ((f j : Int) / 16 = ((f j / 16 : Nat) : Int)) := by show (f j : Int) / 16 = ((f j / 16 : Nat) : Int); omega
          have HR : Hid (∀ H, H = f j / 16 → ∃ k : Nat, k ≤ 2 ∧ Value.int .i64 2 = .int .i64 k ∧ Value.int .i64 (((f j % 16 ^ 1 : Nat) : Int) + 16 * (H : Int)) = .int .i64 ((f j % 16 ^ k : Nat) : Int)) := fun H hH => ⟨2, by omega, rfl, by rw [hH]; congr 1; omega⟩
          have hb1 : f j % 16 ^ 1 < 16 := Nat.mod_lt _ (by decide)
          obtain ⟨low, hlow⟩ : ∃ low, low = f j % 16 ^ 1 := ⟨_, rfl⟩
          rw [← hlow] at HR hb1 ⊢
          clear hlow
          obtain ⟨H, hH⟩ : ∃ H, H = f j / 16 := ⟨_, rfl⟩
          replace HR := HR.out H hH
          replace HR : Hid _ := HR
          rw [← hH] at HH hh
          clear hH
          have hW := wrA_lt H
          have HS := wd_same H hh
          have HTU : Hid _ := wd_turn H hh
          have HSS : Hid (rdA (wrA H) = H) := HS
          clear HS
          have HWO := fun W => write_ok H W hh
          have HRO := fun W => read_ok (wrA H) W hW
          go_wp2_with fail
          rw [HH.out]
          refine (HWO _ HTr.out).mono ?_
          rintro e w' ⟨rfl, rfl⟩
          generalize wrA H = V at HWO HRO HTU HSS hW
          go_wp2_with fail
          refine (tin_yes V 0 127 _ ⟨by omega, by omega⟩).mono ?_
          rintro e w' ⟨rfl, rfl⟩
          by_cases hin : 2 * j + 1 < m
          · have hin' : 2 * (j : Int) + 1 < (m : Int) := by omega
            have hnn : 0 ≤ 2 * (j : Int) + 1 := by omega
            have hct := HC1.out (2 * j + 1) hin
            have haa' := ha' (by omega)
            subst haa'
            obtain ⟨t, ht⟩ : ∃ t, t = nth ys (2 * j + 1) := ⟨_, rfl⟩
            rw [← ht] at hct
            clear ht HC1
            by_cases ht6 : 0 ≤ t ∧ t ≤ 6
            · obtain ⟨q, rfl⟩ : ∃ q : Nat, t = q := ⟨t.toNat, by omega⟩
              have hq : q < 7 := by omega
              have HQ : Hid (rdA (V ^^^ 2 ^ q) = H) := HTU.out q hq
              have HQL : Hid (V ^^^ 2 ^ q < 128) := Nat.xor_lt_two_pow (n := 7) hW (Nat.pow_lt_pow_right (by decide) hq)
              have HQ2 : Hid (2 ^ q < 1024) := Nat.lt_of_lt_of_le (Nat.pow_lt_pow_right (by decide) hq) (show 2 ^ 7 ≤ 1024 by decide)
              clear HTU HWO HRO HSS
              go_wp2_with fail
              refine (tin_yes (q : Int) 0 6 _ ht6).mono ?_
              rintro e w' ⟨rfl, rfl⟩
              go_wp2
              go_loop [20, 21] (fun p i => ∃ r : Nat, r ≤ q ∧ p = .int .i64 ((2 ^ r : Nat) : Int) ∧ i = .int .i64 (r : Int)) (fun _ i => q - (intOf i).toNat)
              case atStart => exact ⟨0, by omega, rfl, rfl⟩
              case round =>
                obtain ⟨r, hr, rfl, rfl⟩ := hrel
                have hp6 : 2 ^ r ≤ 2 ^ 6 := Nat.pow_le_pow_right (by decide) (by omega)
                have HM : Hid (((2 ^ r : Nat) : Int) * 2 = ((2 ^ (r + 1) : Nat) : Int)) := by show ((2 ^ r : Nat) : Int) * 2 = ((2 ^ (r + 1) : Nat) : Int); rw [Nat.pow_succ]; omega
                obtain ⟨p, hp⟩ : ∃ p, p = 2 ^ r := ⟨_, rfl⟩
                have HP : Hid (p = 2 ^ r) := hp
                rw [← hp] at hp6 HM ⊢
                clear hp
                by_cases hrq : r < q
                · go_wp2
                  go_round
                  case rel => exact ⟨r + 1, by omega, by rw [HM.out], by go_num⟩
                  case measure => simp [intOf]; omega
                · obtain rfl : r = q := by omega
                  rw [← HP.out] at HQ HQL HQ2
                  have hp1 : p < 1024 := HQ2.out
                  go_wp2_with fail
                  refine (rxor_any V p _ (by omega) hp1).mono ?_
                  rintro e w' ⟨rfl, rfl⟩
                  have HRO := fun W => read_ok (V ^^^ p) W HQL.out
                  generalize V ^^^ p = Z at HRO HQ HQL
                  go_wp2_with fail
                  refine (HRO _ HTr.out).mono ?_
                  rintro e w' ⟨rfl, rfl⟩
                  rw [HQ.out]
                  clear HRO
                  go_wp2
                  go_round
                  case rel => exact HR.out
                  case measure => simp [intOf]
            · have HT6 : Hid (¬ (0 ≤ t ∧ t ≤ 6)) := ht6
              clear ht6 HWO
              go_wp2_with fail
              refine (tin_no t 0 6 _ HT6.out).mono ?_
              rintro e w' ⟨rfl, rfl⟩
              go_wp2_with fail
              refine (HRO _ HTr.out).mono ?_
              rintro e w' ⟨rfl, rfl⟩
              rw [HSS.out]
              clear HRO
              go_wp2
              go_round
              case rel => exact HR.out
              case measure => simp [intOf]
          · have hin' : ¬ 2 * (j : Int) + 1 < (m : Int) := by omega
            clear HWO
            go_wp2_with fail
            refine (HRO _ HTr.out).mono ?_
            rintro e w' ⟨rfl, rfl⟩
            rw [HSS.out]
            clear HRO
            go_wp2
            go_round
            case rel => exact HR.out
            case measure => simp [intOf]
        · rw [show ((2 : Nat) : Int) = (2 : Int) from rfl]
          have HFJ : Hid (f j % 16 ^ 2 = f j) := Nat.mod_eq_of_lt hfj
          rw [HFJ.out]
          have HSN : Hid (fl j f ++ [((f j : Nat) : Int)] = fl (j + 1) f) := fl_snoc j f
          have HLI : Hid (SliceIs (wr.alloc (.cells #[.int .i64 (f j : Int)] 3)) (.slice (some ⟨wr.heap.size, 0, none⟩) 1 1) [(f j : Int)]) := ints_lit wr [(f j : Int)] (by simp [maxLen]) 1
          go_wp2_with (at_builtin; refine wpList_append_ints rfl (.tmp 126) (.tmp 128) rfl w.heap.size u13 j (fl j f) rfl (HO.out.alloc _) (.slice (some ⟨wr.heap.size, 0, none⟩) 1 1) [(f j : Int)] rfl HLI.out ?q1 ?q2 ?q3)
          case q1 => omega
          case q2 => exact Nat.le_trans HB.out.size (by simp)
          case q3 =>
          intro v2 w2 hown2 hb2
          rw [HSN.out] at hown2
          have HO2 : Hid (w2.ownsRow w.heap.size 3 1 v2 (j + 1) (cellsOf (fl (j + 1) f))) := hown2
          have HB2 : Hid (Below w.heap.size w w2) := (HB.out.alloc HB.out.size _).trans hb2
          clear hown2 hb2
          go_wp2
          go_roundw
          case rel => exact ⟨j + 1, by omega, by go_num, HO2.out, HB2.out⟩
          case measure => simp [intOf]; omega
    · have hjn : j = n := by omega
      subst hjn
      have hSO := slice_own HO.out (by unfold maxLen; omega)
      rw [HFL.out] at hSO
      have HSO : Hid (SliceIs wr u13 xs) := hSO
      have HXr : Hid (SliceIs wr (.slice aa j ca) xs) := HX.out.later HB.out
      have HEQ : Hid (eqB xs xs = true) := eqB_all rfl fun _ _ => rfl
      have hcs : (((crcL xs : Nat) : Int) != ((crcL xs : Nat) : Int)) = false := by simp
      clear hSO HC' HBL' HT HY ha'
      go_wp2_with fail
      refine (sum_any wr _ xs HSO.out).mono ?_
      rintro e w' ⟨rfl, rfl⟩
      rw [HE.out]
      go_wp2_with fail
      refine (ints_any wr _ _ xs xs HSO.out HXr.out).mono ?_
      rintro e w' ⟨rfl, q, rfl⟩
      rw [HEQ.out]
      have HB3 : Hid (Below w.heap.size w (wr.drewN q)) := HB.out.trans (below_drewN wr _ q)
      have HX3 : Hid (SliceIs (wr.drewN q) (.slice aa j ca) xs) := HX.out.later HB3.out
      have HC3 : Hid (∀ i, i < j → (wr.drewN q).cell? ⟨b, o + i, none⟩ = some (.int .i64 (f i : Int))) := fun i hi => by rw [HB3.out.cell (p := ⟨b, o + i, none⟩) (HBL.out (by omega))]; exact HC.out i hi
      generalize wr.drewN q = w3 at HB3 HX3 HC3
      clear HXr HSO HO HX HC HBL HEQ
      by_cases hat : 0 ≤ at' ∧ at' ≤ (j : Int) - 1
      · by_cases his : 0 ≤ is ∧ is ≤ 255
        · obtain ⟨p, rfl⟩ : ∃ p : Nat, at' = p := ⟨at'.toNat, by omega⟩
          obtain ⟨c, rfl⟩ : ∃ c : Nat, is = c := ⟨is.toNat, by omega⟩
          have hpj : p < j := by omega
          have hpi : (p : Int) < (j : Int) := by omega
          have hcp := HC3.out p hpj
          have haa := ha (by omega)
          subst haa
          have HAT : Hid (0 ≤ (p : Int) ∧ (p : Int) ≤ (j : Int) - 1) := hat
          have HIS : Hid (0 ≤ (c : Int) ∧ (c : Int) ≤ 255) := his
          by_cases hsame : f p = c
          · have hsb : (((f p : Nat) : Int) == ((c : Nat) : Int)) = true := by simp; omega
            clear hsame hat his
            go_wp2_with fail
            refine (tin_yes (p : Int) 0 ((j : Int) - 1) _ HAT.out).mono ?_
            rintro e w' ⟨rfl, rfl⟩
            go_wp2_with fail
            refine (tin_yes (c : Int) 0 255 _ HIS.out).mono ?_
            rintro e w' ⟨rfl, rfl⟩
            go_wp2
            go_ret
            exact ⟨rfl, HB3.out⟩
          · have hsb : (((f p : Nat) : Int) == ((c : Nat) : Int)) = false := by simp; omega
            have HSUM : Hid (sumV (xs.set p (c : Int)) = _) := sumV_ok (bytE_ok (by rw [List.length_set, ← HN.out]; exact hle) fun i hi => by
              rw [List.length_set] at hi
              rw [nth_set (by rw [← HN.out]; exact hpj)]
              split
              · exact HIS.out
              · exact HBY.out i hi)
            have HNE : Hid ((((crcL (xs.set p (c : Int)) : Nat) : Int) != ((crcL xs : Nat) : Int)) = true) := by
              show (((crcL (xs.set p (c : Int)) : Nat) : Int) != ((crcL xs : Nat) : Int)) = true
              have h : crcL (xs.set p (c : Int)) ≠ crcL xs := by
                unfold crcL
                rw [List.length_set]
                have hs := fun i => nth_set (xs := xs) (k := p) (by rw [← HN.out]; exact hpj) (c : Int) i
                have hfx : f p = fnL xs p := by
                  have h1 := fl_nth (n := j) (f := f) hpj
                  rw [HFL.out] at h1
                  unfold fnL; rw [h1]; rfl
                refine crcN_one (at' := p) (by rw [← HN.out]; exact hpj) ?_ ?_ ?_ ?_
                · unfold fnL; rw [hs, if_pos rfl]; have := HIS.out; omega
                · rw [← hfx]; exact HF.out p
                · unfold fnL; rw [hs, if_pos rfl]; intro e; apply hsame; rw [hfx]; unfold fnL; rw [← e]; rfl
                · intro i _ hne; unfold fnL; rw [hs, if_neg hne]
              simp; omega
            clear hsame hat his
            go_wp2_with fail
            refine (tin_yes (p : Int) 0 ((j : Int) - 1) _ HAT.out).mono ?_
            rintro e w' ⟨rfl, rfl⟩
            go_wp2_with fail
            refine (tin_yes (c : Int) 0 255 _ HIS.out).mono ?_
            rintro e w' ⟨rfl, rfl⟩
            go_wp2_with fail
            refine (set_any w3 _ xs p (c : Int) HX3.out (by rw [← HN.out]; exact hpj) (by rw [← HN.out]; omega)).mono ?_
            rintro e w4 ⟨v4, rfl, hs4, hb4⟩
            have HS4 : Hid (SliceIs w4 v4 (xs.set p (c : Int))) := hs4
            have HB4 : Hid (Below w.heap.size w w4) := Below.next HB3.out hb4
            clear hs4 hb4
            go_wp2_with fail
            refine (sum_any w4 _ _ HS4.out).mono ?_
            rintro e w' ⟨rfl, rfl⟩
            rw [HSUM.out]
            have hne := HNE.out
            go_wp2
            go_ret
            exact ⟨rfl, HB4.out⟩
        · have HAT : Hid (0 ≤ at' ∧ at' ≤ (j : Int) - 1) := hat
          have HIS : Hid (¬ (0 ≤ is ∧ is ≤ 255)) := his
          clear hat his
          go_wp2_with fail
          refine (tin_yes at' 0 ((j : Int) - 1) _ HAT.out).mono ?_
          rintro e w' ⟨rfl, rfl⟩
          go_wp2_with fail
          refine (tin_no is 0 255 _ HIS.out).mono ?_
          rintro e w' ⟨rfl, rfl⟩
          go_wp2
          go_ret
          exact ⟨rfl, HB3.out⟩
      · have HAT : Hid (¬ (0 ≤ at' ∧ at' ≤ (j : Int) - 1)) := hat
        clear hat
        go_wp2_with fail
        refine (tin_no at' 0 ((j : Int) - 1) _ HAT.out).mono ?_
        rintro e w' ⟨rfl, rfl⟩
        go_wp2
        go_ret
        exact ⟨rfl, HB3.out⟩

theorem topWords_any (w : World) (v v' : Value) (xs ys : List Int) (at' is : Int) (hx : SliceIs w v xs) (hy : SliceIs w v' ys) (hT : Tab w) :
    Calls Tryd.prog 5 #[v, v', .int .i64 at', .int .i64 is] w fun e w' => e = .returned (.bool true) ∧ Below w.heap.size w w' := by
  by_cases he : bytE xs = 0
  · exact tw_ok w v v' xs ys at' is hx hy he hT
  · exact tw_err w v v' xs ys at' is hx hy he

end Go.Proofs.YtgnldgonedpehaaDoor
