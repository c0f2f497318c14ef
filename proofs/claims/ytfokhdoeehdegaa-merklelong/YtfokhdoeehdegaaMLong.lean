/- This text proves that platterholdlaw1.MerkleLong returns true for any list of numbers and any number, and lets all old memory be; the only condition is that the slice lies there and can be cut. -/
import Derived.Test.YtfokhdoeehdegaaM7
namespace Go.Proofs.Ytfokhdoeehdegaa
open Go.RowKit Go.Deep

theorem lg_of {n j : Nat} (hn : n ≤ 16) (hj : j ≤ 4) (h1 : j = 0 ∨ 2 ^ (j - 1) < n) (h2 : n ≤ 2 ^ j) : lg n = j := by
  have : ∀ n, n ≤ 16 → ∀ j, j ≤ 4 → (j = 0 ∨ 2 ^ (j - 1) < n) → n ≤ 2 ^ j → lg n = j := by decide
  exact this n hn j hj h1 h2

theorem wayL_pos {xs : List Int} {i : Nat} (h2 : 2 ≤ xs.length) : 0 < (wayL xs i).length := by
  unfold wayL
  by_cases hi : i < hf xs.length
  · rw [way_low (f := 15) (by omega) hi]; simp
  · rw [way_high (f := 15) (by omega) hi]; simp

set_option maxHeartbeats 4000000 in
set_option maxRecDepth 100000 in
theorem merkleLong_any (w : World) (v : Value) (xs : List Int) (i : Int) (hx : SliceC w v xs) :
    Calls Try.prog 5 #[v, .int .i64 i] w fun e w' => e = .returned (.bool true) ∧ Below w.heap.size w w' := by
  have HX : Hid (SliceC w v xs) := hx
  by_cases hw : wayE xs i = 0
  · obtain ⟨hc, hi0, hi1⟩ := wayE_zero hw
    obtain ⟨h1, h16, hvs⟩ := chkE_zero hc
    have HE : Hid (wayE xs i = 0) := hw
    have hlen : (wayI xs i).length ≤ lg xs.length := by rw [show wayI xs i = wayL xs i.toNat from if_pos hw]; exact way_len 16 xs _ h1 h16 h16
    have hpos : 2 ≤ xs.length → 0 < (wayI xs i).length := by rw [show wayI xs i = wayL xs i.toNat from if_pos hw]; exact fun h => wayL_pos h
    obtain ⟨a, c, hv, _, _⟩ := hx
    generalize hn : xs.length = n at *
    obtain ⟨m, hm⟩ : ∃ m, m = (wayI xs i).length := ⟨_, rfl⟩
    rw [← hm] at hlen hpos
    have HM : Hid (m = (wayI xs i).length) := hm
    have hm4 : m ≤ 4 := by have := wayI_len xs i; omega
    cases hv
    have HLEN : Hid (m ≤ lg n) := hlen
    have HPOS : Hid (2 ≤ n → 0 < m) := hpos
    clear hw hc hvs hlen hpos hm
    go_enter Try.func5, Try.ntmps5
    go_wp2_with fail
    refine (mfact_any _).mono ?_
    rintro e w1 ⟨rfl, hb1⟩
    have HB1 : Hid (Below w.heap.size w w1) := hb1
    clear hb1
    go_wp2_with fail
    refine (way_any _ _ xs i (HX.out.later HB1.out)).mono ?_
    rintro e w2 ⟨v2, rfl, hown, hb2⟩
    rw [HE.out, errV_zero]
    obtain ⟨a2, c2, hv2, _, _⟩ := wayI_own hown
    rw [← HM.out] at hv2
    subst hv2
    have HB2 : Hid (Below w.heap.size w w2) := Below.next HB1.out hb2
    clear hb2 hown
    go_wp2
    go_loop [8, 9] (fun s p => ∃ j : Nat, j ≤ 4 ∧ s = .int .i64 (j : Int) ∧ p = .int .i64 ((2 ^ j : Nat) : Int) ∧ (j = 0 ∨ 2 ^ (j - 1) < n)) (fun _ p => 32 - (intOf p).toNat)
    case atStart => exact ⟨0, Nat.zero_le _, rfl, rfl, .inl rfl⟩
    case round =>
      obtain ⟨j, hj, rfl, rfl, hj1⟩ := hrel
      have HJ1 : Hid (j = 0 ∨ 2 ^ (j - 1) < n) := hj1
      clear hj1
      by_cases hlt : 2 ^ j < n
      · have hj3 : j ≤ 3 := by
          refine Classical.byContradiction fun h => ?_
          obtain rfl : j = 4 := by omega
          omega
        have HP : Hid (2 ^ (j + 1) = 2 ^ j * 2) := Nat.pow_succ 2 j
        have hp1 : 0 < 2 ^ j := Nat.pow_pos (by decide)
        have HLT : Hid (2 ^ j < n) := hlt
        obtain ⟨p, hp⟩ : ∃ p, p = 2 ^ j := ⟨_, rfl⟩
        rw [← hp] at hlt hp1 HP ⊢
        have HPP : Hid (p = 2 ^ j) := hp
        clear hp
        go_wp2
        go_round
        case rel => exact ⟨j + 1, by omega, by go_num, by rw [HP.out]; congr 1, .inr (by show 2 ^ (j + 1 - 1) < n; exact HLT.out)⟩
        case measure => simp [intOf]; omega
      · have HJ : Hid (lg n = j) := lg_of h16 hj HJ1.out (by omega)
        have hmj : m ≤ j := by have := HLEN.out; rw [HJ.out] at this; exact this
        obtain ⟨p, hp⟩ : ∃ p, p = 2 ^ j := ⟨_, rfl⟩
        rw [← hp] at hlt ⊢
        clear hp
        by_cases h2 : n < 2
        · go_wp2
          go_ret
          exact ⟨rfl, HB2.out⟩
        · have hmp := HPOS.out (by omega)
          go_wp2
          go_ret
          exact ⟨rfl, HB2.out⟩
  · have HE : Hid (errV (wayE xs i) = _) := errV_pos hw
    have HI : Hid (wayI xs i = []) := if_neg hw
    clear hw hx
    go_enter Try.func5, Try.ntmps5
    go_wp2_with fail
    refine (mfact_any _).mono ?_
    rintro e w1 ⟨rfl, hb1⟩
    have HB1 : Hid (Below w.heap.size w w1) := hb1
    clear hb1
    go_wp2_with fail
    refine (way_any _ _ xs i (HX.out.later HB1.out)).mono ?_
    rintro e w2 ⟨v2, rfl, hown, hb2⟩
    rw [HE.out]
    obtain ⟨a2, c2, hv2, _, _⟩ := wayI_own hown
    rw [HI.out] at hv2
    subst hv2
    have HB2 : Hid (Below w.heap.size w w2) := Below.next HB1.out hb2
    clear hb2 hown
    go_wp2
    go_ret
    exact ⟨rfl, HB2.out⟩

end Go.Proofs.Ytfokhdoeehdegaa
