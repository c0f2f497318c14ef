/- This text proves what platterholdref1.Crc answers: the sum of bytes, by long division; it makes new memory alone; the conditions: the slice lies there, its numbers are bytes, and there are 64 at most. -/
import Derived.Test.YtgnldgonedpehaaDoorCr
import Derived.Test.YtgnldgonedpehaaDoorCd
import Derived.Test.YtgnldgonedpehaaDoorRy
import Derived.Test.YtgnldgonedpehaaDoorAp
namespace Go.Proofs.YtgnldgonedpehaaDoor
open Go.RowKit Go.Deep

theorem bits_snoc (f : Nat → Nat) {k : Nat} (i : Nat) (hk : k < 8) : fl (8 * i + k) (bitN f) ++ [((f i / (128 / 2 ^ k) % 2 : Nat) : Int)] = fl (8 * i + k + 1) (bitN f) := by
  rw [← bitN_at f i hk]
  exact fl_snoc _ _

set_option maxHeartbeats 8000000 in
theorem rcrc_ok (w : World) (v : Value) (xs : List Int) (hx : SliceIs w v xs) (he : bytE xs = 0) :
    Calls Tryd.prog 7 #[v] w fun e w' => e = .returned (.int .i64 (crcL xs : Int)) ∧ Below w.heap.size w w' := by
  obtain ⟨h64, hby⟩ := bytE_zero he
  have HX : Hid (SliceIs w v xs) := hx
  obtain ⟨a, c, b, o, hv, hl, ha, hc⟩ := hx.where
  have HC : Hid (∀ i, i < xs.length → w.cell? ⟨b, o + i, none⟩ = some (.int .i64 (fnL xs i : Int))) := fun i hi => by rw [hc i hi, fnL_int hby hi]
  have HF : Hid (∀ i, fnL xs i < 256) := fnL_byte hby
  have HLT : Hid (0 < xs.length → b < w.heap.size) := fun h0 => by
    obtain ⟨_, _, e1, _, i1⟩ := hx
    obtain ⟨b1, o1, e3, l1, _⟩ := i1 (fun e => by rw [e] at h0; simp at h0)
    rw [hv] at e1
    have q1 := (Value.slice.inj e1).1
    rw [ha h0, e3] at q1
    cases q1
    exact l1
  have HLC : Hid (leftN (fnL xs) (8 * xs.length + 8) = crcL xs) := left_crc xs
  have HNO : Hid (∀ k, k < 8 → bitN (fnL xs) (8 * xs.length + k) = 0) := fun k hk => bit_nought hk
  obtain ⟨n, hxn⟩ : ∃ n, n = xs.length := ⟨_, rfl⟩
  rw [← hxn] at hv ha HC h64 HLT HLC HNO
  subst hv
  clear hc hxn hx hby he hl HX
  generalize fnL xs = f at HC HF HLC HNO
  go_enter Tryd.func7, Tryd.ntmps7
  go_wp2
  go_loopw [3, 4] (fun s i wr => ∃ j : Nat, j ≤ n ∧ i = .int .i64 j ∧ wr.ownsRow w.heap.size 3 1 s (8 * j) (cellsOf (fl (8 * j) (bitN f))) ∧ Below w.heap.size w wr) (fun _ i _ => n - (intOf i).toNat)
  case atStart => exact ⟨0, Nat.zero_le _, rfl, World.ownsRow_nil _ _ _ _, Below.refl _ _⟩
  case round =>
    obtain ⟨j, hj, rfl, hown, hbel⟩ := hrel
    have HO : Hid (wr.ownsRow w.heap.size 3 1 u3 (8 * j) (cellsOf (fl (8 * j) (bitN f)))) := hown
    have HBL : Hid (Below w.heap.size w wr) := hbel
    clear hown hbel
    by_cases hlt : j < n
    · have haa := ha (by omega)
      subst haa
      have hj' : (j : Int) < (n : Int) := by omega
      have hlw := HLT.out (by omega)
      have HCJ := HC.out j hlt
      have hfj := HF.out j
      have HCJ' : Hid (w.cell? ⟨b, o + j, none⟩ = some (.int .i64 (f j : Int))) := HCJ
      clear HCJ ha
      go_wp2
      go_loopw [3, 5] (fun s p wr => ∃ k : Nat, k ≤ 8 ∧ p = .int .i64 ((128 / 2 ^ k : Nat) : Int) ∧ wr.ownsRow w.heap.size 3 1 s (8 * j + k) (cellsOf (fl (8 * j + k) (bitN f))) ∧ Below w.heap.size w wr) (fun _ p _ => (intOf p).toNat)
      case atStart => exact ⟨0, by omega, rfl, HO.out, HBL.out⟩
      case round =>
        obtain ⟨k, hk, rfl, hown, hbel⟩ := hrel
        have HOi : Hid (wr.ownsRow w.heap.size 3 1 u3 (8 * j + k) (cellsOf (fl (8 * j + k) (bitN f)))) := hown
        have HBi : Hid (Below w.heap.size w wr) := hbel
        have HM : Hid (((128 / 2 ^ k : Nat) : Int) / 2 = ((128 / 2 ^ (k + 1) : Nat) : Int)) := by show ((128 / 2 ^ k : Nat) : Int) / 2 = ((128 / 2 ^ (k + 1) : Nat) : Int); rw [Nat.pow_succ, ← Nat.div_div_eq_div_mul]; omega
        clear hown hbel
        by_cases hk8 : k < 8
        · have hp1 : 0 < 128 / 2 ^ k := Nat.div_pos (show 2 ^ k ≤ 2 ^ 7 from Nat.pow_le_pow_right (by decide) (by omega)) (Nat.pow_pos (by decide))
          have hp2 : 128 / 2 ^ k ≤ 128 := Nat.div_le_self _ _
          have HSN : Hid (fl (8 * j + k) (bitN f) ++ [((f j / (128 / 2 ^ k) % 2 : Nat) : Int)] = fl (8 * j + k + 1) (bitN f)) := bits_snoc f j hk8
          obtain ⟨p, hp⟩ : ∃ p, p = 128 / 2 ^ k := ⟨_, rfl⟩
          have HPE : Hid (p = 128 / 2 ^ k) := hp
          rw [← hp] at hp1 hp2 HM HSN ⊢
          clear hp
          have hcell : wr.cell? ⟨b, o + j, none⟩ = some (.int .i64 (f j : Int)) := by rw [HBi.out.cell (p := ⟨b, o + j, none⟩) hlw]; exact HCJ'.out
          have HBE : Hid ((wrap64 ((f j : Int) / (p : Int))).tmod 2 = ((f j / p % 2 : Nat) : Int)) := bit_eq hfj
          have HLI : Hid (SliceIs (wr.alloc (.cells #[.int .i64 ((wrap64 ((f j : Int) / (p : Int))).tmod 2)] 3)) (.slice (some ⟨wr.heap.size, 0, none⟩) 1 1) [(wrap64 ((f j : Int) / (p : Int))).tmod 2]) := ints_lit wr [(wrap64 ((f j : Int) / (p : Int))).tmod 2] (by simp [maxLen]) 1
          go_wp2_with (at_builtin; refine wpList_append_ints rfl (.tmp 19) (.tmp 27) rfl w.heap.size u3 (8 * j + k) (fl (8 * j + k) (bitN f)) rfl (HOi.out.alloc _) (.slice (some ⟨wr.heap.size, 0, none⟩) 1 1) [(wrap64 ((f j : Int) / (p : Int))).tmod 2] rfl HLI.out ?q1 ?q2 ?q3)
          case q1 => simp; omega
          case q2 => exact Nat.le_trans HBi.out.size (by simp)
          case q3 =>
          intro v2 w2 hown2 hb2
          rw [HBE.out, HSN.out] at hown2
          have HO2 : Hid (w2.ownsRow w.heap.size 3 1 v2 (8 * j + k + 1) (cellsOf (fl (8 * j + k + 1) (bitN f)))) := hown2
          have HB2 : Hid (Below w.heap.size w w2) := (HBi.out.alloc HBi.out.size _).trans hb2
          clear hown2 hb2
          go_wp2
          go_roundw
          case rel => exact ⟨k + 1, by omega, by rw [HM.out], HO2.out, HB2.out⟩
          case measure => simp [intOf]; omega
        · obtain rfl : k = 8 := by omega
          clear HM
          go_wp2
          go_roundw
          case rel => exact ⟨j + 1, by omega, by go_num, HOi.out, HBi.out⟩
          case measure => simp [intOf]; omega
    · have hjn : j = n := by omega
      subst hjn
      clear ha HC HLT
      go_wp2
      go_loopw [3, 6] (fun s i wr => ∃ k : Nat, k ≤ 8 ∧ i = .int .i64 k ∧ wr.ownsRow w.heap.size 3 1 s (8 * j + k) (cellsOf (fl (8 * j + k) (bitN f))) ∧ Below w.heap.size w wr) (fun _ i _ => 8 - (intOf i).toNat)
      case atStart => exact ⟨0, by omega, rfl, HO.out, HBL.out⟩
      case round =>
        obtain ⟨k, hk, rfl, hown, hbel⟩ := hrel
        have HOi : Hid (wr.ownsRow w.heap.size 3 1 u3 (8 * j + k) (cellsOf (fl (8 * j + k) (bitN f)))) := hown
        have HBi : Hid (Below w.heap.size w wr) := hbel
        clear hown hbel
        by_cases hk8 : k < 8
        · have HSN : Hid (fl (8 * j + k) (bitN f) ++ [(0 : Int)] = fl (8 * j + k + 1) (bitN f)) := by
            have h := fl_snoc (8 * j + k) (bitN f)
            rw [HNO.out k hk8] at h
            exact h
          have HLI : Hid (SliceIs (wr.alloc (.cells #[.int .i64 0] 3)) (.slice (some ⟨wr.heap.size, 0, none⟩) 1 1) [0]) := ints_lit wr [0] (by simp [maxLen]) 1
          go_wp2_with (at_builtin; refine wpList_append_ints rfl (.tmp 33) (.tmp 34) rfl w.heap.size u3 (8 * j + k) (fl (8 * j + k) (bitN f)) rfl (HOi.out.alloc _) (.slice (some ⟨wr.heap.size, 0, none⟩) 1 1) [0] rfl HLI.out ?q1 ?q2 ?q3)
          case q1 => simp; omega
          case q2 => exact Nat.le_trans HBi.out.size (by simp)
          case q3 =>
          intro v2 w2 hown2 hb2
          rw [HSN.out] at hown2
          have HO2 : Hid (w2.ownsRow w.heap.size 3 1 v2 (8 * j + k + 1) (cellsOf (fl (8 * j + k + 1) (bitN f)))) := hown2
          have HB2 : Hid (Below w.heap.size w w2) := (HBi.out.alloc HBi.out.size _).trans hb2
          clear hown2 hb2
          go_wp2
          go_roundw
          case rel => exact ⟨k + 1, by omega, by go_num, HO2.out, HB2.out⟩
          case measure => simp [intOf]; omega
        · obtain rfl : k = 8 := by omega
          rw [show ((8 : Nat) : Int) = (8 : Int) from rfl]
          obtain ⟨g, cap, hu, hg1, hg2⟩ := own_where HOi.out (by omega)
          subst hu
          have HCC : Hid (∀ i, i < 8 * j + 8 → wr.cell? ⟨g, i, none⟩ = some (.int .i64 (bitN f i : Int))) := fun i hi => by
            rw [HOi.out.cellAt i (by omega), cellsOf_get (by rw [fl_len]; exact hi), fl_nth hi]
          obtain ⟨N, hN⟩ : ∃ N, N = 8 * j + 8 := ⟨_, rfl⟩
          have hN64 : N ≤ 520 := by omega
          rw [← hN] at HLC HCC ⊢
          clear hN HNO hg1 hg2
          go_wp2
          go_loop [7, 8] (fun l i => ∃ m : Nat, m ≤ N ∧ i = .int .i64 m ∧ l = .int .i64 (leftN f m : Int)) (fun _ i => N - (intOf i).toNat)
          case atStart => exact ⟨0, by omega, rfl, rfl⟩
          case round =>
            obtain ⟨m, hm, rfl, rfl⟩ := hrel
            by_cases hmN : m < N
            · have hcell := HCC.out m hmN
              have hm' : (m : Int) < (N : Int) := by omega
              have hll := leftN_lt f m
              have hbl := bitN_lt f m
              have HRK : Hid _ := left_reckoned (leftN f m) hll (bitN f m) hbl
              have HST : Hid (leftN f (m + 1) = cdb (leftN f m) ^^^ bitN f m) := rfl
              have HADD : Hid ((leftN f m : Int) * 2 + (bitN f m : Int) = ((leftN f m * 2 + bitN f m : Nat) : Int)) := by show (leftN f m : Int) * 2 + (bitN f m : Int) = ((leftN f m * 2 + bitN f m : Nat) : Int); omega
              by_cases hbig : leftN f m * 2 + bitN f m > 255
              · have hbig' : 255 < (leftN f m : Int) * 2 + (bitN f m : Int) := by omega
                have HEQ : Hid ((leftN f m * 2 + bitN f m) ^^^ 263 = leftN f (m + 1)) := by
                  show (leftN f m * 2 + bitN f m) ^^^ 263 = leftN f (m + 1)
                  have h := HRK.out
                  rw [if_pos hbig] at h
                  rw [HST.out, ← h]
                clear hbig HRK
                go_wp2_with fail
                rw [HADD.out]
                refine (rxor_any (leftN f m * 2 + bitN f m) 263 _ (by omega) (by omega)).mono ?_
                rintro e w' ⟨rfl, rfl⟩
                rw [HEQ.out]
                go_wp2
                go_round
                case rel => exact ⟨m + 1, by omega, by go_num, rfl⟩
                case measure => simp [intOf]; omega
              · have hbig' : ¬ 255 < (leftN f m : Int) * 2 + (bitN f m : Int) := by omega
                have HEQ : Hid ((leftN f m : Int) * 2 + (bitN f m : Int) = (leftN f (m + 1) : Int)) := by
                  show (leftN f m : Int) * 2 + (bitN f m : Int) = (leftN f (m + 1) : Int)
                  have h := HRK.out
                  rw [if_neg hbig] at h
                  rw [HADD.out, HST.out, ← h]
                clear hbig HRK
                go_wp2
                go_round
                case rel => exact ⟨m + 1, by omega, by go_num, by rw [HEQ.out]⟩
                case measure => simp [intOf]; omega
            · have hmN' : m = N := by omega
              subst hmN'
              go_wp2
              go_ret
              exact ⟨by rw [HLC.out]; rfl, HBi.out⟩

end Go.Proofs.YtgnldgonedpehaaDoor
