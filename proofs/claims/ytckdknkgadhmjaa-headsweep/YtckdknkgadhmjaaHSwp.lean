/- This text proves that platterholdlaw1.HeadSweep returns true for any number, either way and any list of numbers, and lets all old memory be; the only condition is that the slice lies there. -/
import Derived.Test.YtckdknkgadhmjaaK5
import Derived.Test.YtckdknkgadhmjaaKw
namespace Go.Proofs.Ytckdknkgadhmjaa
open Go.RowKit Go.Deep

set_option maxHeartbeats 4000000 in
set_option maxRecDepth 100000 in
theorem headSweep_no (w : World) (s : Int) (up : Bool) (v : Value) (xs : List Int) (hx : SliceIs w v xs) (he : hdE s xs ≠ 0) :
    Calls Try.prog 3 #[.int .i64 s, .bool up, v] w fun e w' => e = .returned (.bool true) ∧ Below w.heap.size w w' := by
  have HE : Hid (errV (hdE s xs) = .iface 40 (.int .i64 (hdE s xs : Int))) := errV_pos he
  have HL : Hid (hdL (fun _ => ltS s up) s xs = []) := hdL_no he
  have HX : Hid (SliceIs w v xs) := hx
  clear hx he
  go_enter Try.func3, Try.ntmps3
  go_wp2_with fail
  refine (hfact_any _).mono ?_
  rintro e w1 ⟨rfl, hb1⟩
  have HB1 : Hid (Below w.heap.size w w1) := hb1
  clear hb1
  go_wp2_with fail
  refine (sweepH_any _ _ _ _ xs (HX.out.later HB1.out)).mono ?_
  rintro e w2 ⟨v2, rfl, hown, hb2⟩
  rw [HE.out, HL.out]
  rw [HL.out] at hown
  obtain ⟨a, c, rfl⟩ := own_form hown
  have HB2 : Hid (Below w.heap.size w w2) := Below.next HB1.out hb2
  clear hown hb2
  rw [show farL s [] = 0 from rfl]
  go_wp2
  go_ret
  exact ⟨rfl, HB2.out⟩

set_option maxHeartbeats 4000000 in
set_option maxRecDepth 100000 in
theorem headSweep_nil (w : World) (s : Int) (up : Bool) (v : Value) (hx : SliceIs w v []) (he : hdE s [] = 0) :
    Calls Try.prog 3 #[.int .i64 s, .bool up, v] w fun e w' => e = .returned (.bool true) ∧ Below w.heap.size w w' := by
  have HE : Hid (hdE s [] = 0) := he
  have HL : Hid (hdL (fun _ => ltS s up) s [] = []) := hdL_ok he
  have HX : Hid (SliceIs w v []) := hx
  obtain ⟨a0, c0, b0, o0, rfl, _⟩ := hx.where
  clear hx he
  go_enter Try.func3, Try.ntmps3
  go_wp2_with fail
  refine (hfact_any _).mono ?_
  rintro e w1 ⟨rfl, hb1⟩
  have HB1 : Hid (Below w.heap.size w w1) := hb1
  clear hb1
  go_wp2_with fail
  refine (sweepH_any _ _ _ _ [] (HX.out.later HB1.out)).mono ?_
  rintro e w2 ⟨v2, rfl, hown, hb2⟩
  rw [HE.out, HL.out, errV_zero]
  have HB2 : Hid (Below w.heap.size w w2) := Below.next HB1.out hb2
  clear hown hb2
  rw [show farL s [] = 0 from rfl]
  go_wp2
  go_ret
  exact ⟨rfl, HB2.out⟩

set_option maxHeartbeats 8000000 in
set_option maxRecDepth 100000 in
theorem headSweep_ok (w : World) (s : Int) (up : Bool) (v : Value) (xs : List Int) (hx : SliceIs w v xs) (he : hdE s xs = 0) (hne : 0 < xs.length) :
    Calls Try.prog 3 #[.int .i64 s, .bool up, v] w fun e w' => e = .returned (.bool true) ∧ Below w.heap.size w w' := by
  obtain ⟨h20, hs, hall⟩ := hdE_zero he
  obtain ⟨L, hL⟩ : ∃ L, L = ord (fun _ => ltS s up) xs.length s xs := ⟨_, rfl⟩
  have HL : Hid (hdL (fun _ => ltS s up) s xs = L) := (hdL_ok he).trans hL.symm
  have hperm := ord_perm (fun _ => ltS s up) xs.length s xs rfl
  have hsort := ord_sorted (ltS_total s up) xs.length s xs rfl
  rw [← hL] at hperm hsort
  have HA : Hid (∀ i, i < L.length → ltS s up (nth L i) (nth (s :: L) i) = false) := fun i hi => after (from_s hsort) hi
  have HFR : Hid (∀ lo hi, LoHi s xs xs.length lo hi → farL s L ≤ 2 * (hi - lo) ∧ (if s - lo < hi - s then hi - lo + s - lo else hi - lo + hi - s) ≤ farL s L) := fun lo hi h => h.far hperm hsort
  obtain ⟨n, hn⟩ : ∃ n, n = xs.length := ⟨_, rfl⟩
  have HN : Hid (n = L.length) := by show n = L.length; rw [hn, hperm.length_eq]
  have HNx : Hid (n = xs.length) := hn
  have hn20 : n ≤ 20 := by rw [hn]; exact h20
  have hn0 : 0 < n := by rw [hn]; exact hne
  have hn0' : ((n : Int) == 0) = false := by simp; omega
  have HVx : Hid (∀ i, i < n → 0 ≤ nth xs i ∧ nth xs i ≤ 99) := fun i hi => hall _ (nth_mem (by rw [← hn]; exact hi))
  have HE : Hid (hdE s xs = 0) := he
  have HX : Hid (SliceIs w v xs) := hx
  rw [← hn] at HFR
  rw [← HN.out] at HA
  clear he hL hperm hsort hn hall h20 hne
  obtain ⟨a0, c0, b0, o0, rfl, _, ha0, hc0⟩ := hx.where
  rw [← HNx.out] at ha0 hc0 HX ⊢
  obtain rfl := ha0 hn0
  have hlt0 : b0 < w.heap.size := World.block_lt_of_cell? _ _ (hc0 0 hn0)
  have HC0 : Hid (∀ w', Below w.heap.size w w' → ∀ i, i < n → w'.cell? ⟨b0, o0 + i, none⟩ = some (.int .i64 (nth xs i))) := fun w' hb i hi => by
    rw [hb.cell (p := ⟨b0, o0 + i, none⟩) hlt0]
    exact hc0 i hi
  clear hx hc0 hlt0 ha0
  go_enter Try.func3, Try.ntmps3
  go_wp2_with fail
  refine (hfact_any _).mono ?_
  rintro e w1 ⟨rfl, hb1⟩
  have HB1 : Hid (Below w.heap.size w w1) := hb1
  clear hb1
  go_wp2_with fail
  refine (sweepH_any _ _ _ _ xs (HX.out.later HB1.out)).mono ?_
  rintro e w2 ⟨v2, rfl, hown, hb2⟩
  rw [HE.out, HL.out, errV_zero]
  rw [HL.out] at hown
  have hsl : SliceIs w2 v2 L := slice_own hown (by rw [← HN.out]; unfold maxLen; omega)
  have HB2 : Hid (Below w.heap.size w w2) := Below.next HB1.out hb2
  clear hown hb2
  obtain ⟨a, c, b, o, rfl, _, ha, hc⟩ := hsl.where
  rw [← HN.out] at ha hc ⊢
  obtain rfl := ha hn0
  have HC : Hid (∀ i, i < n → w2.cell? ⟨b, o + i, none⟩ = some (.int .i64 (nth L i))) := hc
  have HCx : Hid (∀ i, i < n → w2.cell? ⟨b0, o0 + i, none⟩ = some (.int .i64 (nth xs i))) := HC0.out w2 HB2.out
  clear hsl hc ha HC0
  generalize farL s L = F at HFR ⊢
  go_wp2
  go_loop [11, 12, 13] (fun v11 v12 v13 => ∃ (i : Nat) (lo hi : Int), i ≤ n ∧ v13 = .int .i64 i ∧ v11 = .int .i64 lo ∧ v12 = .int .i64 hi ∧ LoHi s xs i lo hi) (fun _ _ i => n - (intOf i).toNat)
  case atStart => exact ⟨0, s, s, Nat.zero_le _, rfl, rfl, rfl, LoHi.begin s xs⟩
  case round =>
    obtain ⟨i, lo, hi, hin, rfl, rfl, rfl, hlh⟩ := hrel
    have HH : Hid (LoHi s xs i lo hi) := hlh
    have hlo := hlh.loLe
    have hhi := hlh.hiLe
    have HIN : Hid _ := hlh.in hs (fun j hj => HVx.out j (by omega))
    clear hlh
    by_cases hlt : i < n
    · have hci := HCx.out i hlt
      have hii : (i : Int) < (n : Int) := by omega
      have HST : Hid _ := fun lo' hi' h1 h2 => HH.out.step (lo' := lo') (hi' := hi') h1 h2
      by_cases h1 : nth xs i < lo
      · have h2 : ¬ hi < nth xs i := by omega
        have H1 : Hid (nth xs i < lo) := h1
        have H2 : Hid (¬ hi < nth xs i) := h2
        go_wp2
        go_round
        case rel => exact ⟨i + 1, _, _, by omega, by go_num, rfl, rfl, HST.out _ _ (by rw [if_pos H1.out]) (by rw [if_neg H2.out])⟩
        case measure => simp [intOf]; omega
      · have H1 : Hid (¬ nth xs i < lo) := h1
        by_cases h2 : hi < nth xs i
        · have H2 : Hid (hi < nth xs i) := h2
          go_wp2
          go_round
          case rel => exact ⟨i + 1, _, _, by omega, by go_num, rfl, rfl, HST.out _ _ (by rw [if_neg H1.out]) (by rw [if_pos H2.out])⟩
          case measure => simp [intOf]; omega
        · have H2 : Hid (¬ hi < nth xs i) := h2
          go_wp2
          go_round
          case rel => exact ⟨i + 1, _, _, by omega, by go_num, rfl, rfl, HST.out _ _ (by rw [if_neg H1.out]) (by rw [if_neg H2.out])⟩
          case measure => simp [intOf]; omega
    · have hin : i = n := by omega
      subst hin
      obtain ⟨hF1, hF2⟩ := HFR.out lo hi HH.out
      obtain ⟨hI1, hI2⟩ := HIN.out
      have HF2 : Hid _ := hF2
      clear hF2 HH HFR
      go_wp2
      go_loop [14, 15, 16, 17] (fun v14 v15 v16 v17 => ∃ (k : Nat) (tn : Int) (r : Bool), k ≤ i ∧ v17 = .int .i64 k ∧ v15 = .int .i64 (nth (s :: L) k) ∧ v14 = .int .i64 tn ∧ v16 = .bool r ∧ Trn s up (nth (s :: L) k) tn r) (fun _ _ _ k => i - (intOf k).toNat)
      case atStart => exact ⟨0, 0, up, Nat.zero_le _, rfl, rfl, rfl, rfl, Trn.begin s up⟩
      case round =>
        obtain ⟨k, tn, r, hk, rfl, rfl, rfl, rfl, htr⟩ := hrel
        have htn := htr.le
        by_cases hkn : k < i
        · have hck := HC.out k hkn
          have hki : (k : Int) < (i : Int) := by omega
          have hst := htr.step (HA.out k hkn)
          have HS2 : Hid (nth (s :: L) (k + 1) = nth L k) := rfl
          generalize nth (s :: L) k = p at *
          clear htr
          rcases hst with ⟨h1, h2⟩ | ⟨h1, h3, h2⟩ | ⟨h1, h3, h2⟩ | ⟨h1, h3, h4, h2⟩ | ⟨h1, h3, h4, h2⟩
          · have HT : Hid (Trn s up (nth L k) tn r) := h2
            have HQ : Hid (nth L k = p) := h1
            rw [h1] at hck
            clear h2 h1
            go_wp2
            go_round
            case rel => exact ⟨k + 1, _, _, by omega, by go_num, by rw [HS2.out, HQ.out], rfl, rfl, HT.out⟩
            case measure => simp [intOf]; omega
          · have HT : Hid (Trn s up (nth L k) tn r) := h2
            have hb : (nth L k == p) = false := by simp; omega
            subst h3
            clear h2
            go_wp2
            go_round
            case rel => exact ⟨k + 1, _, _, by omega, by go_num, rfl, rfl, rfl, HT.out⟩
            case measure => simp [intOf]; omega
          · have HT : Hid (Trn s up (nth L k) tn r) := h2
            have hb : (nth L k == p) = false := by simp; omega
            have hg : decide (p < nth L k) = false := decide_eq_false (by omega)
            subst h3
            clear h2
            go_wp2
            go_round
            case rel => exact ⟨k + 1, _, _, by omega, by go_num, rfl, rfl, rfl, HT.out⟩
            case measure => simp [intOf]; omega
          · have HT : Hid (Trn s up (nth L k) 1 true) := h2
            have hb : (nth L k == p) = false := by simp; omega
            subst h3 h4
            clear h2
            go_wp2
            go_round
            case rel => exact ⟨k + 1, _, _, by omega, by go_num, rfl, rfl, rfl, HT.out⟩
            case measure => simp [intOf]; omega
          · have HT : Hid (Trn s up (nth L k) 1 false) := h2
            have hb : (nth L k == p) = false := by simp; omega
            have hg : decide (p < nth L k) = false := decide_eq_false (by omega)
            subst h3 h4
            clear h2
            go_wp2
            go_round
            case rel => exact ⟨k + 1, _, _, by omega, by go_num, rfl, rfl, rfl, HT.out⟩
            case measure => simp [intOf]; omega
        · have hkn : k = i := by omega
          subst hkn
          clear htr
          by_cases hd : s - lo < hi - s
          · have hF2 : hi - lo + s - lo ≤ F := by have := HF2.out; rwa [if_pos hd] at this
            go_wp2
            go_ret
            exact ⟨by simp, HB2.out⟩
          · have hF2 : hi - lo + hi - s ≤ F := by have := HF2.out; rwa [if_neg hd] at this
            go_wp2
            go_ret
            exact ⟨by simp, HB2.out⟩

theorem headSweep_any (w : World) (s : Int) (up : Bool) (v : Value) (xs : List Int) (hx : SliceIs w v xs) :
    Calls Try.prog 3 #[.int .i64 s, .bool up, v] w fun e w' => e = .returned (.bool true) ∧ Below w.heap.size w w' := by
  by_cases h : hdE s xs = 0
  · cases xs with
    | nil => exact headSweep_nil w s up v hx h
    | cons x xs => exact headSweep_ok w s up v _ hx h (by simp)
  · exact headSweep_no w s up v xs hx h

end Go.Proofs.Ytckdknkgadhmjaa
