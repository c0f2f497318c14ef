/- This text proves that platterholdlaw2.SparseHole returns true: a hole is noughts, and a file has no block that nothing was written into; old memory is as it was; the condition is that the steps' rows lie there and have room. -/
import Derived.Test.YtepnbkonhaongaaF12
import Derived.Test.YtepnbkonhaongaaF11
import Derived.Test.YtepnbkonhaongaaIn2
namespace Go.Proofs.Ytepnbkonhaongaa
open Go.RowKit Go.Deep Go.Maps

theorem blL_nth {f : Fil} {k : Nat} (hk : k < (blN f).length) : nth (blL f) k = ((blN f)[k] : Int) := by
  rw [nth_lt (by rw [blL_len]; exact hk)]
  simp [blL]
theorem bl_at {f : Fil} (hw : Wel f) {k : Nat} (hk : k < (blN f).length) : ∃ y : Nat, nth (blL f) k = (y : Int) ∧ y ≤ 15 ∧ 4 * y < f.s ∧ (∀ j, k = j + 1 → ∃ x : Nat, nth (blL f) j = (x : Int) ∧ x < y) := by
  have hm := (blN_mem hw _).1 (List.getElem_mem hk)
  have h1 := hw.low _ hm
  have h2 := hw.big
  refine ⟨(blN f)[k], blL_nth hk, by omega, h1, fun j hj => ?_⟩
  subst hj
  exact ⟨(blN f)[j], blL_nth (by omega), List.pairwise_iff_getElem.1 (blN_up f) j (j + 1) (by omega) hk (by omega)⟩
theorem bl_has {f : Fil} (hw : Wel f) {i : Nat} (h : f.c i ≠ 0) : ((i / 4 : Nat) : Int) ∈ blL f := by
  unfold blL
  refine List.mem_map.2 ⟨i / 4, (blN_mem hw _).2 ?_, rfl⟩
  cases e : f.h (i / 4)
  · exact absurd (hw.hole i e) h
  · rfl

set_option maxHeartbeats 8000000 in
set_option maxRecDepth 100000 in
theorem sparseHole_any (w : World) (v : Value) (rs : List (List Int)) (hr : RowsC w v rs) :
    Calls Try.prog 4 #[v] w fun e w' => e = .returned (.bool true) ∧ Below w.heap.size w w' := by
  have HR : Hid (RowsC w v rs) := hr
  clear hr
  go_enter Try.func4, Try.ntmps4
  go_wp2_with fail
  refine Calls.mono (spFact_any w) ?_
  rintro e w1 ⟨rfl, hb1⟩
  go_wp2_with fail
  refine Calls.mono (written_any w1 v rs (HR.out.later hb1)) ?_
  rintro e w2 ⟨g, rfl, b, f, hT⟩
  have HB : Hid (Below w.heap.size w w1) := hb1
  have ST : Hid (OnF w1 w2 g b f) := hT
  clear hb1 hT
  have H3 : Hid _ := fun (_ : Nat) => read_all w2 g b f ST.out.fil ST.out.wel
  unfold ptrF at H3 ⊢
  go_wp2_with (go_at_call 8; refine (H3.out 0).mono ?_; rintro e w3 ⟨v3, rfl, hs3, hb3⟩)
  have ST3 : Hid (OnF w1 w3 g b f) := ST.out.later hb3
  have H4 : Hid _ := fun (_ : Nat) => blocks_all w3 g b f ST3.out.fil ST3.out.wel
  have HS3 : Hid (SliceIs w3 v3 (rdL f 0 64)) := hs3.is
  unfold ptrF at H4
  clear hs3 hb3 H3
  go_wp2_with (go_at_call 12; refine (H4.out 0).mono ?_; rintro e w4 ⟨v4, rfl, hs4, hb4⟩)
  have ST4 : Hid (OnF w1 w4 g b f) := ST3.out.later hb4
  have HS4 : Hid (SliceIs w4 v4 (blL f)) := hs4
  obtain ⟨a3, c3, b3, o3, e3, _, ha3, hc3⟩ := (HS3.out.later hb4).where
  obtain ⟨a4, c4, b4, o4, e4, _, ha4, hc4⟩ := hs4.where
  subst e3 e4
  have HW : Hid (Wel f) := ST.out.wel
  have h64 := HW.out.big
  rw [rdL_all HW.out] at ha3 hc3 ⊢
  rw [blL_len] at ha4 hc4 ⊢
  have h16 := blN_le f
  obtain ⟨S, hS⟩ : ∃ S, S = f.s := ⟨_, rfl⟩
  obtain ⟨M, hM⟩ : ∃ M, M = (blN f).length := ⟨_, rfl⟩
  have HSZ : Hid (S = f.s) := hS
  have HMZ : Hid (M = (blN f).length) := hM
  rw [← hS] at ha3 hc3 h64 ⊢
  rw [← hM] at ha4 hc4 h16 ⊢
  have HC3 : Hid (∀ i, i < S → w4.cell? ⟨b3, o3 + i, none⟩ = some (.int .i64 (f.c i))) := fun i hi => by rw [hc3 i hi, rdL_at HW.out (by rw [← hS]; exact hi)]
  have HC4 : Hid (∀ i, i < M → w4.cell? ⟨b4, o4 + i, none⟩ = some (.int .i64 (nth (blL f) i))) := hc4
  clear hs4 hb4 hc3 hc4 H4 hS hM
  have h16' : ¬ (16 : Int) < (M : Int) := by omega
  go_wp2
  go_loop [8] (fun i => ∃ k : Nat, k ≤ S ∧ i = .int .i64 k) (fun i => S - (Go.RowKit.intOf i).toNat)
  case atStart => exact ⟨0, Nat.zero_le _, rfl⟩
  case round =>
    obtain ⟨k, hk, rfl⟩ := hrel
    by_cases hlt : k < S
    · have hlt' : (k : Int) < (S : Int) := by omega
      have haa := ha3 (by omega)
      subst haa
      have hck := HC3.out k hlt
      by_cases hz : f.c k = 0
      · rw [hz] at hck
        clear hz
        go_wp2
        go_round
        case rel => exact ⟨k + 1, by omega, by go_num⟩
        case measure => simp [Go.RowKit.intOf]; omega
      · have HH : Hid (((k / 4 : Nat) : Int) ∈ blL f) := bl_has HW.out hz
        obtain ⟨x, hx⟩ : ∃ x, f.c k = x := ⟨_, rfl⟩
        rw [hx] at hck hz
        have hxz : (x == 0) = false := by simp [hz]
        have hq : (k : Int) / 4 = ((k / 4 : Nat) : Int) := by omega
        obtain ⟨q, hqq⟩ : ∃ q, q = k / 4 := ⟨_, rfl⟩
        rw [← hqq] at hq HH
        clear hqq hx
        have HA : Hid _ := fun (_ : Nat) => has_yes w4 _ _ (q : Int) HS4.out HH.out
        rw [blL_len, ← HMZ.out] at HA
        go_wp2_with (go_at_call 13; refine (HA.out 0).mono ?_; rintro e w5 ⟨rfl, rfl⟩)
        go_round
        case rel => exact ⟨k + 1, by omega, by go_num⟩
        case measure => simp [Go.RowKit.intOf]; omega
    · have hkn : k = S := by omega
      subst hkn
      go_wp2
      clear ha3 h16' hlt hk
      go_loopw [9] (fun i wr => ∃ k : Nat, k ≤ M ∧ i = .int .i64 k ∧ ∃ q, wr = w4.drewN q) (fun i _ => M - (Go.RowKit.intOf i).toNat)
      case atStart => exact ⟨0, Nat.zero_le _, rfl, 0, rfl⟩
      case round =>
        obtain ⟨t, ht, rfl, q0, rfl⟩ := hrel
        by_cases htl : t < M
        · have htl' : (t : Int) < (M : Int) := by omega
          have haa := ha4 (by omega)
          subst haa
          have hct := HC4.out t htl
          obtain ⟨y, hy, hy15, hys, hyj⟩ := bl_at HW.out (k := t) (by rw [← HMZ.out]; exact htl)
          rw [hy] at hct
          rw [← HSZ.out] at hys
          have HZ : Hid (∀ q, Calls Try.prog 9 #[ptrF g] (w4.drewN q) fun e w' => e = .returned (.int .i64 (k : Int)) ∧ w4.drewN q = w') := fun q => by
            have := sp_size (w4.drewN q) g b f (ST4.out.fil.later (below_drewN _ _ _))
            rw [← HSZ.out] at this
            exact this
          have HI : Hid _ := fun (W : World) => in_yes (y : Int) 0 15 W ⟨by omega, by omega⟩
          have hge : decide ((k : Int) ≤ (y : Int) * 4) = false := decide_eq_false (by omega)
          unfold ptrF at HZ
          by_cases h0 : t = 0
          · subst h0
            rw [Nat.add_zero] at hct
            clear hyj hy
            go_wp2_with fail
            go_quiet (first
              | (go_at_call 14; exact quiet_at (HI.out _))
              | (go_at_call 9; exact quiet_at (HZ.out _)))
            go_wp2
            go_roundw
            case rel => exact ⟨1, by omega, by go_num, q0 + nq, rfl⟩
            case measure => simp [Go.RowKit.intOf]; omega
          · obtain ⟨j, hj⟩ : ∃ j, t = j + 1 := ⟨t - 1, by omega⟩
            obtain ⟨x, hx, hxy⟩ := hyj j hj
            have hcj := HC4.out j (by omega)
            rw [hx] at hcj
            have hgt : decide (0 < t) = true := decide_eq_true (by omega)
            have hj1 : (t : Int) - 1 = (j : Int) := by omega
            have hjM : (j : Int) < (M : Int) := by omega
            have hle : decide ((y : Int) ≤ (x : Int)) = false := decide_eq_false (by omega)
            have hle' : decide (y ≤ x) = false := decide_eq_false (by omega)
            clear hyj hy hx hxy h0 hj
            go_wp2_with fail
            go_quiet (first
              | (go_at_call 14; exact quiet_at (HI.out _))
              | (go_at_call 9; exact quiet_at (HZ.out _)))
            go_wp2
            go_roundw
            case rel => exact ⟨t + 1, by omega, by go_num, q0 + nq, rfl⟩
            case measure => simp [Go.RowKit.intOf]; omega
        · have htn : t = M := by omega
          subst htn
          go_wp2
          go_ret
          exact ⟨rfl, (Below.next HB.out ST4.out.old).trans (below_drewN _ _ _)⟩

end Go.Proofs.Ytepnbkonhaongaa
