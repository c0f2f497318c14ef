/- This text proves that platterholdlaw2.SparseCut returns true: what is cut off does not come back; old memory is as it was; the condition is that the steps' rows lie there and have room. -/
import Derived.Test.YtepnbkonhaongaaF12
import Derived.Test.YtepnbkonhaongaaIn2
namespace Go.Proofs.Ytepnbkonhaongaa
open Go.RowKit Go.Deep Go.Maps

theorem cut_at {f : Fil} (hw : Wel f) (m i : Nat) (hi : i < 64) : (ctF (ctF f m) 64).c i = if i < m ∧ i < f.s then f.c i else 0 := by
  show (if i < 64 then (if i < m then f.c i else 0) else 0) = _
  rw [if_pos hi]
  by_cases h1 : i < m
  · rw [if_pos h1]
    by_cases h2 : i < f.s
    · rw [if_pos ⟨h1, h2⟩]
    · rw [if_neg (fun h => h2 h.2)]; exact hw.out i (by omega)
  · rw [if_neg h1, if_neg (fun h => h1 h.1)]

set_option maxHeartbeats 8000000 in
set_option maxRecDepth 100000 in
theorem sparseCut_any (w : World) (v : Value) (rs : List (List Int)) (hr : RowsC w v rs) (n : Int) :
    Calls Try.prog 5 #[v, .int .i64 n] w fun e w' => e = .returned (.bool true) ∧ Below w.heap.size w w' := by
  have HR : Hid (RowsC w v rs) := hr
  clear hr
  go_enter Try.func5, Try.ntmps5
  go_wp2_with fail
  refine Calls.mono (spFact_any w) ?_
  rintro e w1 ⟨rfl, hb1⟩
  go_wp2_with fail
  refine Calls.mono (written_any w1 v rs (HR.out.later hb1)) ?_
  rintro e w2 ⟨g, rfl, b, f, hT⟩
  have HB : Hid (Below w.heap.size w w1) := hb1
  have ST : Hid (OnF w1 w2 g b f) := hT
  clear hb1 hT
  unfold ptrF
  go_wp2_with fail
  refine Calls.mono (read_open w2 g b f ST.out.fil ST.out.wel) ?_
  rintro e w3 ⟨a3, c3, b3, o3, rfl, ha3, hc3, hk3, hb3⟩
  have ST3 : Hid (OnF w1 w3 g b f) := ST.out.later hb3
  have HC3 : Hid (∀ w'', Stay (Two g b) w3 w'' → ∀ i, i < f.s → w''.cell? ⟨b3, o3 + i, none⟩ = some (.int .i64 (f.c i))) := hc3
  have HW : Hid (Wel f) := ST.out.wel
  have h64 := HW.out.big
  obtain ⟨S, hS0⟩ : ∃ S, S = f.s := ⟨_, rfl⟩
  have HSZ : Hid (S = f.s) := hS0
  rw [← hS0] at ha3 h64 ⊢
  rw [← hS0] at HC3
  clear hc3 hk3 hb3 hS0
  cases hS : isS n with
  | false =>
    have hn : ¬ (0 ≤ n ∧ n ≤ 64) := by have := isS_not.1 hS; omega
    have H4 : Hid _ := fun (_ : Nat) => sp_cut w3 g b f ST3.out.fil ST3.out.wel n
    rw [show ctE n = 1 from if_neg (by rw [hS]; decide), errV_pos (by decide)] at H4
    have HN : Hid _ := fun (W : World) => in_no n 0 64 W hn
    clear hn hS
    unfold ptrF at H4
    go_wp2_with (first
      | (go_at_call 15; refine (H4.out 0).mono ?_; rintro e w4 ⟨rfl, hf4, hs4⟩; have HS4 : Hid (Stay (Two g b) w3 w4) := hs4; clear hf4 hs4)
      | (go_at_call 14; refine (HN.out _).mono ?_; rintro e w5 ⟨rfl, rfl⟩))
    go_ret
    exact ⟨rfl, (Below.next HB.out ST3.out.old).trans (HS4.out.below (by rintro x (rfl | rfl); exact Nat.le_trans HB.out.size ST3.out.low.1; exact Nat.le_trans HB.out.size ST3.out.low.2) (Below.next HB.out ST3.out.old).size)⟩
  | true =>
    obtain ⟨hn0, hn1⟩ := isS_iff.1 hS
    obtain ⟨m, rfl⟩ : ∃ m : Nat, n = (m : Int) := ⟨n.toNat, by omega⟩
    have H4 : Hid _ := fun (_ : Nat) => sp_cut w3 g b f ST3.out.fil ST3.out.wel (m : Int)
    rw [show ctE (m : Int) = 0 from if_pos hS, errV_zero, show ctoF f (m : Int) = ctF f m from if_pos hS] at H4
    unfold ptrF at H4
    clear hS
    go_wp2_with fail
    refine (H4.out 0).mono ?_
    rintro e w4 ⟨rfl, hf4, hs4⟩
    have ST4 : Hid (OnF w1 w4 g b (ctF f m)) := ST3.out.step hf4 (ctF_wel HW.out (by omega)) hs4
    have HS4 : Hid (Stay (Two g b) w3 w4) := hs4
    clear hf4 hs4 H4
    have H5 : Hid _ := fun (_ : Nat) => sp_size w4 g b (ctF f m) ST4.out.fil
    rw [show (ctF f m).s = m from rfl] at H5
    have H6 : Hid _ := fun (_ : Nat) => sp_cut w4 g b (ctF f m) ST4.out.fil ST4.out.wel 64
    rw [show ctE 64 = 0 from by decide, errV_zero, show ctoF (ctF f m) 64 = ctF (ctF f m) 64 from if_pos (by decide)] at H6
    unfold ptrF at H5 H6
    go_wp2_with (first
      | (go_at_call 9; refine (H5.out 0).mono ?_; rintro e w5 ⟨rfl, rfl⟩)
      | (go_at_call 15; refine (H6.out 0).mono ?_; rintro e w6 ⟨rfl, hf6, hs6⟩; have ST6 : Hid (OnF w1 w6 g b (ctF (ctF f m) 64)) := ST4.out.step hf6 (ctF_wel ST4.out.wel (by omega)) hs6; have HS6 : Hid (Stay (Two g b) w3 w6) := HS4.out.trans hs6; clear hf6 hs6)
      | (go_at_call 8; refine Calls.mono (read_open w6 g b _ ST6.out.fil ST6.out.wel) ?_; rintro e w7 ⟨a7, c7, b7, o7, rfl, ha7, hc7, hk7, hb7⟩; rw [show (ctF (ctF f m) 64).s = 64 from rfl] at ha7 hc7 ⊢))
    have HC7 : Hid (∀ i, i < 64 → w7.cell? ⟨b7, o7 + i, none⟩ = some (.int .i64 (if i < m ∧ i < S then f.c i else 0))) := fun i hi => by rw [hc7 w7 (Stay.refl _ _) i hi, cut_at HW.out m i hi, ← HSZ.out]
    have haa7 := ha7 (by decide)
    subst haa7
    have HD3 : Hid (∀ i, i < S → w7.cell? ⟨b3, o3 + i, none⟩ = some (.int .i64 (f.c i))) := HC3.out w7 (HS6.out.trans (Stay.of hb7))
    have HE : Hid (Below w.heap.size w w7) := (Below.next HB.out (ST6.out.later hb7).old)
    clear ha7 hc7 hk7 hb7 H5 H6
    go_loop [10, 11] (fun i _ => ∃ k : Nat, k ≤ 64 ∧ i = .int .i64 k) (fun i _ => 64 - (Go.RowKit.intOf i).toNat)
    case atStart => exact ⟨0, Nat.zero_le _, rfl⟩
    case round =>
      obtain ⟨k, hk, rfl⟩ := hrel
      by_cases hlt : k < 64
      · have hlt' : (k : Int) < 64 := by omega
        have hck := HC7.out k hlt
        by_cases h1 : k < m
        · have h1' : (k : Int) < (m : Int) := by omega
          by_cases h2 : k < S
          · have h2' : (k : Int) < (S : Int) := by omega
            rw [if_pos ⟨h1, h2⟩] at hck
            have haa := ha3 (by omega)
            subst haa
            have hdk := HD3.out k h2
            generalize f.c k = x at hck hdk
            go_wp2
            go_round
            case rel => exact ⟨k + 1, by omega, by go_num⟩
            case measure => simp [Go.RowKit.intOf]; omega
          · have h2' : ¬ (k : Int) < (S : Int) := by omega
            rw [if_neg (fun h => h2 h.2)] at hck
            go_wp2
            go_round
            case rel => exact ⟨k + 1, by omega, by go_num⟩
            case measure => simp [Go.RowKit.intOf]; omega
        · have h1' : ¬ (k : Int) < (m : Int) := by omega
          rw [if_neg (fun h => h1 h.1)] at hck
          go_wp2
          go_round
          case rel => exact ⟨k + 1, by omega, by go_num⟩
          case measure => simp [Go.RowKit.intOf]; omega
      · have hkn : k = 64 := by omega
        subst hkn
        go_wp2
        go_ret
        exact ⟨rfl, HE.out⟩

end Go.Proofs.Ytepnbkonhaongaa
