/- This text proves what parity.checkRow and parity.Check answer, for every row and all rows that lie in memory: the error that the plain functions 'rowE' and 'checkE' give, and that nothing is written; the only condition is that the slices lie there. -/
import Derived.Test.YtebjefgdjfjndaaChecked
import Derived.Test.YtebjefgdjfjndaaXor
import Derived.Test.YtebjefgdjfjndaaEr
import Derived.WalkKit
import Derived.Outline
import Derived.WalkSpells
import Derived.WalkLawsBesides
namespace Go.Proofs.Ytebjefgdjfjndaa
open Go.RowKit Go.Deep

set_option maxHeartbeats 1000000 in
theorem checkRow_full (w : World) (a : Option Addr) (cap n : Nat) (width : Int) (h : 16 < n) (_hl : n ≤ maxLen) :
    Calls Try.prog 25 #[.slice a n cap, .int .i64 width] w fun e w' => e = .returned (.iface 45 (.int .i64 4)) ∧ w = w' := by
  have h' : (16 : Int) < (n : Int) := by omega
  go_enter Try.func25, Try.ntmps25
  go_wp2
  go_ret
  exact ⟨rfl, rfl⟩

set_option maxHeartbeats 1000000 in
theorem checkRow_small (w : World) (b off cap : Nat) (a : Option Addr) (xs : List Int) (width : Nat) (h : xs.length ≤ 16) (hw : width ≤ maxLen)
    (ha : xs ≠ [] → a = some ⟨b, off, none⟩) (hc : ∀ i, i < xs.length → w.cell? ⟨b, off + i, none⟩ = some (.int .i64 (nth xs i))) :
    Calls Try.prog 25 #[.slice a xs.length cap, .int .i64 (width : Int)] w fun e w' => e = .returned (errV (rowE width xs)) ∧ w = w' := by
  unfold maxLen at hw
  have hn : ¬ (16 : Int) < (xs.length : Int) := by omega
  obtain ⟨n, hxn⟩ : ∃ n, n = xs.length := ⟨_, rfl⟩
  have HX : Hid (n = xs.length) := hxn
  have hn16 : n ≤ 16 := by omega
  rw [← hxn] at hn ⊢
  have hc' : ∀ i, i < n → w.cell? ⟨b, off + i, none⟩ = some (.int .i64 (nth xs i)) := by rw [hxn]; exact hc
  clear hc hxn
  go_enter Try.func25, Try.ntmps25
  go_wp2
  go_loop [13] (fun i => ∃ k : Nat, k ≤ n ∧ i = .int .i64 k ∧ ∀ j, j < k → isByte (nth xs j)) (fun i => n - (intOf i).toNat)
  case atStart => exact ⟨0, Nat.zero_le _, rfl, fun j hj => absurd hj (Nat.not_lt_zero _)⟩
  case round =>
    obtain ⟨k, hk, rfl, hall⟩ := hrel
    have HA : Hid (∀ j, j < k → isByte (nth xs j)) := hall
    clear hall
    by_cases hlt : k < n
    · have hck := hc' k hlt
      have hne : xs ≠ [] := fun e => by have := HX.out; rw [e] at this; simp at this; omega
      have haa := ha hne
      subst haa
      clear ha hc'
      by_cases h1 : nth xs k < 0
      · go_wp2
        go_ret
        exact ⟨by rw [rowE_range (k := k) h (by rw [← HX.out]; exact hlt) (fun hb => by have := hb.1; omega)]; rfl, rfl⟩
      · by_cases h2 : 255 < nth xs k
        · go_wp2
          go_ret
          exact ⟨by rw [rowE_range (k := k) h (by rw [← HX.out]; exact hlt) (fun hb => by have := hb.2; omega)]; rfl, rfl⟩
        · go_wp2
          go_round
          case rel =>
            refine ⟨k + 1, by omega, by go_num, fun j hj => ?_⟩
            by_cases e : j = k
            · subst e; exact ⟨by omega, by omega⟩
            · exact HA.out j (by omega)
          case measure => simp [intOf]; omega
    · have hkn : k = n := by omega
      subst hkn
      have hall : ∀ i, i < xs.length → isByte (nth xs i) := by rw [← HX.out]; exact HA.out
      by_cases hs : k = width
      · subst hs
        go_wp2
        go_ret
        exact ⟨by rw [rowE_ok h hall HX.out.symm]; rfl, rfl⟩
      · have hs' : ((k : Int) == (width : Int)) = false := by simp; omega
        go_wp2
        go_ret
        exact ⟨by rw [rowE_shape h hall (by rw [← HX.out]; exact hs)]; rfl, rfl⟩

theorem checkRow_any (w : World) (v : Value) (xs : List Int) (width : Nat) (hw : width ≤ maxLen) (hx : SliceIs w v xs) :
    Calls Try.prog 25 #[v, .int .i64 (width : Int)] w fun e w' => e = .returned (errV (rowE width xs)) ∧ w = w' := by
  obtain ⟨a, cap, rfl, hl, hx⟩ := hx
  by_cases h : 16 < xs.length
  · rw [rowE_full h]
    exact checkRow_full w a cap xs.length width h hl
  · by_cases hne : xs = []
    · exact checkRow_small w 0 0 cap a xs width (by omega) hw (fun e => absurd hne e) (fun i hi => by rw [hne] at hi; simp at hi)
    · obtain ⟨b, off, rfl, _, hc⟩ := hx hne
      exact checkRow_small w b off cap _ xs width (by omega) hw (fun _ => rfl) hc

set_option maxHeartbeats 1000000 in
theorem check_none (w : World) (a : Option Addr) (cap : Nat) :
    Calls Try.prog 23 #[.slice a 0 cap] w fun e w' => e = .returned (.iface 45 (.int .i64 5)) ∧ w = w' := by
  go_enter Try.func23, Try.ntmps23
  go_wp2
  go_ret
  exact ⟨rfl, rfl⟩

set_option maxHeartbeats 1000000 in
theorem check_full (w : World) (a : Option Addr) (cap n : Nat) (h : 8 < n) (_hl : n ≤ maxLen) :
    Calls Try.prog 23 #[.slice a n cap] w fun e w' => e = .returned (.iface 45 (.int .i64 4)) ∧ w = w' := by
  have h' : (8 : Int) < (n : Int) := by omega
  have h0 : ((n : Int) == 0) = false := by simp; omega
  go_enter Try.func23, Try.ntmps23
  go_wp2
  go_ret
  exact ⟨rfl, rfl⟩

set_option maxHeartbeats 2000000 in
theorem check_some (w : World) (b off cap : Nat) (rs : List (List Int)) (h0 : 0 < rs.length) (h8 : rs.length ≤ 8)
    (hc : ∀ i, i < rs.length → ∃ v, w.cell? ⟨b, off + i, none⟩ = some v ∧ SliceIs w v (rowAt rs i)) :
    Calls Try.prog 23 #[.slice (some ⟨b, off, none⟩) rs.length cap] w fun e w' => e = .returned (errV (firstE (rowAt rs 0).length rs)) ∧ w = w' := by
  obtain ⟨n, hxn⟩ : ∃ n, n = rs.length := ⟨_, rfl⟩
  have HX : Hid (n = rs.length) := hxn
  rw [← hxn] at h0 h8 hc ⊢
  clear hxn
  obtain ⟨v0, hc0, a0, cap0, hv0, hl0, _⟩ := hc 0 h0
  subst hv0
  obtain ⟨n0, hn0⟩ : ∃ n0, n0 = (rowAt rs 0).length := ⟨_, rfl⟩
  rw [← hn0] at hc0 hl0 ⊢
  clear hn0
  simp only [Nat.add_zero] at hc0
  have hne : ((n : Int) == 0) = false := by simp; omega
  have hle : ¬ (8 : Int) < (n : Int) := by omega
  have HC : Hid (∀ i, i < n → ∃ v, w.cell? ⟨b, off + i, none⟩ = some v ∧ SliceIs w v (rowAt rs i)) := hc
  clear hc
  go_enter Try.func23, Try.ntmps23
  go_wp2
  go_loop [16] (fun i => ∃ k : Nat, k ≤ n ∧ i = .int .i64 k ∧ ∀ j, j < k → rowE n0 (rowAt rs j) = 0) (fun i => n - (intOf i).toNat)
  case atStart => exact ⟨0, Nat.zero_le _, rfl, fun j hj => absurd hj (Nat.not_lt_zero _)⟩
  case round =>
    obtain ⟨k, hk, rfl, hall⟩ := hrel
    have HA : Hid (∀ j, j < k → rowE n0 (rowAt rs j) = 0) := hall
    clear hall
    by_cases hlt : k < n
    · obtain ⟨vk, hck, hsk⟩ := HC.out k hlt
      obtain ⟨ak, capk, hvk, hlk, hik⟩ := hsk
      subst hvk
      have hsk : SliceIs w (.slice ak (rowAt rs k).length capk) (rowAt rs k) := ⟨ak, capk, rfl, hlk, hik⟩
      clear hik hlk
      by_cases he : rowE n0 (rowAt rs k) = 0
      · have HE : Hid (errV (rowE n0 (rowAt rs k)) = .nilIface) := by rw [he]; rfl
        have HE0 : Hid (rowE n0 (rowAt rs k) = 0) := he
        clear he
        go_wp2_with (go_at_call 25; refine (checkRow_any _ _ _ _ hl0 hsk).mono ?_; rintro e w' ⟨rfl, rfl⟩; rw [HE.out])
        go_round
        case rel =>
          refine ⟨k + 1, by omega, by go_num, fun j hj => ?_⟩
          by_cases e : j = k
          · subst e; exact HE0.out
          · exact HA.out j (by omega)
        case measure => simp [intOf]; omega
      · have HE : Hid (errV (rowE n0 (rowAt rs k)) = .iface 45 (.int .i64 (rowE n0 (rowAt rs k) : Int))) := errV_pos he
        have HF : Hid (firstE n0 rs = rowE n0 (rowAt rs k)) := firstE_at HA.out (by rw [← HX.out]; exact hlt) he
        clear he
        go_wp2_with (go_at_call 25; refine (checkRow_any _ _ _ _ hl0 hsk).mono ?_; rintro e w' ⟨rfl, rfl⟩; rw [HE.out])
        go_ret
        exact ⟨by rw [HF.out, HE.out]; rfl, rfl⟩
    · have hkn : k = n := by omega
      subst hkn
      have HF : Hid (firstE n0 rs = 0) := firstE_zero.2 (by rw [← HX.out]; exact HA.out)
      go_wp2
      go_ret
      exact ⟨by rw [HF.out]; rfl, rfl⟩

theorem check_any (w : World) (v : Value) (rs : List (List Int)) (h : RowsIs w v rs) :
    Calls Try.prog 23 #[v] w fun e w' => e = .returned (errV (checkE rs)) ∧ w = w' := by
  obtain ⟨a, cap, rfl, hl, hx⟩ := h
  by_cases h0 : rs.length = 0
  · have e : checkE rs = 5 := by simp [checkE, h0]
    rw [e, h0]
    exact check_none w a cap
  · by_cases h8 : 8 < rs.length
    · have e : checkE rs = 4 := by simp [checkE, h0, h8]
      rw [e]
      exact check_full w a cap rs.length h8 hl
    · have e : checkE rs = firstE (rowAt rs 0).length rs := by simp [checkE, h0, h8]
      rw [e]
      obtain ⟨b, off, rfl, _, hc⟩ := hx (fun e => h0 (by rw [e]; rfl))
      exact check_some w b off cap rs (by omega) (by omega) hc

end Go.Proofs.Ytebjefgdjfjndaa
