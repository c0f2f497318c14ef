/- This text proves what merkle.isValue, leafOf, sumOf, firstPart and Check answer: the sums of 6.1, where values are cut, and the first error that the document names; the world is as it was; the only condition is that the slice lies there. -/
import Derived.Test.YtfokhdoeehdegaaDoorChecked
import Derived.Test.YtfokhdoeehdegaaDoorMk
import Derived.Test.YtfokhdoeehdegaaDoorWh
import Derived.Test.YtfokhdoeehdegaaDoorAs
import Derived.WalkKit
import Derived.Outline
import Derived.WalkSpells
import Derived.WalkLawsBesides
import Derived.Deep.QuietTactic
import Derived.BigQuiet
namespace Go.Proofs.YtfokhdoeehdegaaDoor
open Go.RowKit Go.Deep

set_option maxHeartbeats 1000000 in
theorem isValue_any (x : Int) (w : World) :
    Calls Tryd.prog 17 #[.int .i64 x] w fun e w' => e = .returned (.bool (vB x)) ∧ w = w' := by
  by_cases h1 : 0 ≤ x
  · by_cases h2 : x ≤ 1000
    · have e : vB x = true := by simp [vB, h1, h2]
      rw [e]
      go_enter Tryd.func17, Tryd.ntmps17
      go_wp2
      go_ret
      exact ⟨rfl, rfl⟩
    · have e : vB x = false := by simp [vB, h2]
      rw [e]
      go_enter Tryd.func17, Tryd.ntmps17
      go_wp2
      go_ret
      exact ⟨rfl, rfl⟩
  · have e : vB x = false := by simp [vB, h1]
    rw [e]
    go_enter Tryd.func17, Tryd.ntmps17
    go_wp2
    go_ret
    exact ⟨rfl, rfl⟩

theorem isV_iff (x : Int) : vB x = true ↔ isV x := by unfold vB isV; rw [decide_eq_true_iff]
theorem isV_not {x : Int} (h : vB x = false) : ¬ isV x := fun k => by rw [(isV_iff x).2 k] at h; cases h

set_option maxHeartbeats 1000000 in
theorem leafOf_any (v : Int) (w : World) (hv : isV v) :
    Calls Tryd.prog 18 #[.int .i64 v] w fun e w' => e = .returned (.int .i64 (lf v)) ∧ w = w' := by
  obtain ⟨h0, h1⟩ := hv
  go_enter Tryd.func18, Tryd.ntmps18
  go_wp2
  go_ret
  exact ⟨rfl, rfl⟩

set_option maxHeartbeats 1000000 in
theorem sumOf_any (a b : Int) (w : World) (ha : 0 ≤ a ∧ a ≤ 9972) (hb : 0 ≤ b ∧ b ≤ 9972) :
    Calls Tryd.prog 21 #[.int .i64 a, .int .i64 b] w fun e w' => e = .returned (.int .i64 (jn a b)) ∧ w = w' := by
  obtain ⟨h0, h1⟩ := ha
  obtain ⟨h2, h3⟩ := hb
  go_enter Tryd.func21, Tryd.ntmps21
  go_wp2
  go_ret
  exact ⟨rfl, rfl⟩

theorem hf_of {n k : Nat} (hn : n ≤ 16) (hk : k = 1 ∨ k = 2 ∨ k = 4 ∨ k = 8) (h1 : k = 1 ∨ k < n) (h2 : n ≤ 2 * k) : k = hf n := by
  unfold hf
  rcases hk with rfl | rfl | rfl | rfl
  · rw [if_pos (by omega)]
  · rw [if_neg (by omega), if_pos (by omega)]
  · rw [if_neg (by omega), if_neg (by omega), if_pos (by omega)]
  · rw [if_neg (by omega), if_neg (by omega), if_neg (by omega)]

set_option maxHeartbeats 1000000 in
theorem firstPart_any (n : Nat) (w : World) (hn : n ≤ 16) :
    Calls Tryd.prog 31 #[.int .i64 (n : Int)] w fun e w' => e = .returned (.int .i64 (hf n : Int)) ∧ w = w' := by
  go_enter Tryd.func31, Tryd.ntmps31
  go_wp2
  go_loop [3] (fun i => ∃ k : Nat, (k = 1 ∨ k = 2 ∨ k = 4 ∨ k = 8) ∧ (k = 1 ∨ k < n) ∧ i = .int .i64 (k : Int)) (fun i => 16 - (intOf i).toNat)
  case atStart => exact ⟨1, .inl rfl, .inl rfl, rfl⟩
  case round =>
    obtain ⟨k, hk, hk1, rfl⟩ := hrel
    have HK : Hid (k = 1 ∨ k = 2 ∨ k = 4 ∨ k = 8) := hk
    have HK1 : Hid (k = 1 ∨ k < n) := hk1
    have hb : 1 ≤ k ∧ k ≤ 8 := by omega
    obtain ⟨hb1, hb2⟩ := hb
    clear hk hk1
    by_cases hlt : 2 * k < n
    · have hlt' : 2 * (k : Int) < (n : Int) := by omega
      go_wp2
      go_round
      case rel => exact ⟨2 * k, by have := HK.out; omega, .inr hlt, by congr 1; omega⟩
      case measure => simp [intOf]; omega
    · have hlt' : ¬ 2 * (k : Int) < (n : Int) := by omega
      have HF : Hid (k = hf n) := hf_of hn HK.out HK1.out (by omega)
      go_wp2
      go_ret
      exact ⟨by rw [← HF.out]; rfl, rfl⟩

set_option maxHeartbeats 1000000 in
theorem check_any (w : World) (v : Value) (xs : List Int) (hx : SliceIs w v xs) :
    Calls Tryd.prog 11 #[v] w fun e w' => e = .returned (errV (chkE xs)) ∧ w = w' := by
  obtain ⟨a, c, b, o, rfl, hl, ha, hc⟩ := hx.where
  obtain ⟨n, hxn⟩ : ∃ n, n = xs.length := ⟨_, rfl⟩
  have HX : Hid (n = xs.length) := hxn
  rw [← hxn] at hl ha hc ⊢
  have HC : Hid (∀ i, i < n → w.cell? ⟨b, o + i, none⟩ = some (.int .i64 (nth xs i))) := hc
  unfold maxLen at hl
  clear hc hxn hx
  by_cases h0 : n = 0
  · have HE : Hid (chkE xs = 5) := chkE_none (by rw [← HX.out]; exact h0)
    subst h0
    go_enter Tryd.func11, Tryd.ntmps11
    go_wp2
    go_ret
    exact ⟨by rw [HE.out]; rfl, rfl⟩
  have hn0 : ((n : Int) == 0) = false := by simp; omega
  by_cases h16 : 16 < n
  · have HE : Hid (chkE xs = 4) := chkE_full (by rw [← HX.out]; exact h16)
    go_enter Tryd.func11, Tryd.ntmps11
    go_wp2
    go_ret
    exact ⟨by rw [HE.out]; rfl, rfl⟩
  · have h16' : n ≤ 16 := by omega
    have HZ : Hid (xs.length ≠ 0 ∧ xs.length ≤ 16) := by show xs.length ≠ 0 ∧ xs.length ≤ 16; rw [← HX.out]; exact ⟨h0, h16'⟩
    go_enter Tryd.func11, Tryd.ntmps11
    go_wp2
    go_loop [15] (fun i => ∃ k : Nat, k ≤ n ∧ i = .int .i64 k ∧ ∀ j, j < k → isV (nth xs j)) (fun i => n - (intOf i).toNat)
    case atStart => exact ⟨0, Nat.zero_le _, rfl, fun j hj => absurd hj (Nat.not_lt_zero _)⟩
    case round =>
      obtain ⟨k, hk, rfl, hall⟩ := hrel
      have HA : Hid (∀ j, j < k → isV (nth xs j)) := hall
      clear hall
      by_cases hlt : k < n
      · have hck := HC.out k hlt
        have haa := ha (by omega)
        subst haa
        cases hb : vB (nth xs k) with
        | false =>
          have HB : Hid (vB (nth xs k) = false) := hb
          clear hb
          go_wp2_with (go_at_call 17; refine (isValue_any _ _).mono ?_; rintro e w' ⟨rfl, rfl⟩; rw [HB.out])
          go_ret
          exact ⟨by rw [chkE_range (k := k) HZ.out.1 HZ.out.2 (by rw [← HX.out]; exact hlt) (isV_not HB.out)]; rfl, rfl⟩
        | true =>
          have HB : Hid (vB (nth xs k) = true) := hb
          clear hb
          go_wp2_with (go_at_call 17; refine (isValue_any _ _).mono ?_; rintro e w' ⟨rfl, rfl⟩; rw [HB.out])
          go_round
          case rel =>
            refine ⟨k + 1, by omega, by go_num, fun j hj => ?_⟩
            by_cases e : j = k
            · subst e; exact (isV_iff _).1 HB.out
            · exact HA.out j (by omega)
          case measure => simp [intOf]; omega
      · have hkn : k = n := by omega
        subst hkn
        have HE : Hid (chkE xs = 0) := chkE_ok HZ.out.1 HZ.out.2 (by rw [← HX.out]; exact HA.out)
        go_wp2
        go_ret
        exact ⟨by rw [HE.out]; rfl, rfl⟩

end Go.Proofs.YtfokhdoeehdegaaDoor
