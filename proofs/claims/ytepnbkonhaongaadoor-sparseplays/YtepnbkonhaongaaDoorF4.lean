/- This text proves what isSize, isNoByte and checkWrite of package sparse answer: what is wrong with bytes that are to be written at a place; nothing is written; the condition is that the slice lies there. -/
import Derived.Test.YtepnbkonhaongaaDoorF3
import Derived.Outline
import Derived.WalkSpells
import Derived.WalkLawsBesides
import Derived.Deep.QuietTactic
namespace Go.Proofs.YtepnbkonhaongaaDoor
open Go.RowKit Go.Deep

set_option maxHeartbeats 1000000 in
theorem sp_isSize (x : Int) (w : World) : Calls Tryd.prog 25 #[.int .i64 x] w fun e w' => e = .returned (.bool (isS x)) ∧ w = w' := by
  unfold isS
  by_cases h1 : 0 ≤ x
  · go_enter Tryd.func25, Tryd.ntmps25
    go_wp2
    go_ret
    exact ⟨by simp [h1], rfl⟩
  · go_enter Tryd.func25, Tryd.ntmps25
    go_wp2
    go_ret
    exact ⟨by simp; omega, rfl⟩

set_option maxHeartbeats 1000000 in
theorem sp_noByte (x : Int) (w : World) : Calls Tryd.prog 39 #[.int .i64 x] w fun e w' => e = .returned (.bool (badB x)) ∧ w = w' := by
  unfold badB
  by_cases h1 : x < 0
  · go_enter Tryd.func39, Tryd.ntmps39
    go_wp2
    go_ret
    exact ⟨by simp [h1], rfl⟩
  · go_enter Tryd.func39, Tryd.ntmps39
    go_wp2
    go_ret
    exact ⟨by simp; omega, rfl⟩

theorem Tryd.enterNoByte : ∀ args w, (callFunc 39 args).run Tryd.prog w = .ok (.enter 39 args) w := fun _ _ => by rfl

theorem any_yes {xs : List Int} {k : Nat} (hk : k < xs.length) (h : badB (nth xs k) = true) : xs.any badB = true := List.any_eq_true.2 ⟨_, nth_mem hk, h⟩
theorem any_no {xs : List Int} (h : ∀ k, k < xs.length → badB (nth xs k) = false) : xs.any badB = false := by
  rw [List.any_eq_false]
  intro x hx
  obtain ⟨i, hi, rfl⟩ := List.getElem_of_mem hx
  rw [← nth_lt hi, h i hi]
  decide

set_option maxHeartbeats 2000000 in
theorem sp_index (w : World) (v : Value) (xs : List Int) (hx : SliceIs w v xs) :
    Calls Tryd.prog 50 #[v, .func (.func 39) #[] #[]] w fun e w' => ∃ i : Int, e = .returned (.int .i64 i) ∧ decide (0 ≤ i) = xs.any badB ∧ w = w' := by
  obtain ⟨a, c, b, o, rfl, hl, ha, hc⟩ := hx.where
  obtain ⟨n, hxn⟩ : ∃ n, n = xs.length := ⟨_, rfl⟩
  have HX : Hid (n = xs.length) := hxn
  rw [← hxn] at hl ha hc ⊢
  have HC : Hid (∀ i, i < n → w.cell? ⟨b, o + i, none⟩ = some (.int .i64 (nth xs i))) := hc
  unfold maxLen at hl
  have e30 := Tryd.enterNoByte
  clear hc hxn hx
  go_enter Tryd.func50, Tryd.ntmps50
  go_wp2
  go_loop [5, 8] (fun _ i => ∃ k : Nat, k ≤ n ∧ i = .int .i64 k ∧ ∀ j, j < k → badB (nth xs j) = false) (fun _ i => n - (Go.RowKit.intOf i).toNat)
  case atStart => exact ⟨0, Nat.zero_le _, rfl, fun j hj => absurd hj (Nat.not_lt_zero _)⟩
  case round =>
    obtain ⟨k, hk, rfl, hall⟩ := hrel
    have HA : Hid (∀ j, j < k → badB (nth xs j) = false) := hall
    clear hall
    by_cases hlt : k < n
    · have haa := ha (by omega)
      subst haa
      have hck := HC.out k hlt
      cases hi : badB (nth xs k) with
      | true =>
        have HI : Hid (badB (nth xs k) = true) := hi
        clear hi
        go_wp2_with (go_at_call 39; refine (sp_noByte _ _).mono ?_; rintro e w' ⟨rfl, rfl⟩; rw [HI.out])
        go_ret
        exact ⟨_, rfl, by rw [any_yes (by rw [← HX.out]; exact hlt) HI.out]; simp, rfl⟩
      | false =>
        have HI : Hid (badB (nth xs k) = false) := hi
        clear hi
        go_wp2_with (go_at_call 39; refine (sp_noByte _ _).mono ?_; rintro e w' ⟨rfl, rfl⟩; rw [HI.out])
        go_round
        case rel =>
          refine ⟨k + 1, by omega, by go_num, fun j hj => ?_⟩
          by_cases e : j = k
          · subst e; exact HI.out
          · exact HA.out j (by omega)
        case measure => simp [Go.RowKit.intOf]; omega
    · have hkn : k = n := by omega
      subst hkn
      go_wp2
      go_ret
      exact ⟨_, rfl, by rw [any_no (by rw [← HX.out]; exact HA.out)]; rfl, rfl⟩

set_option maxHeartbeats 1000000 in
theorem sp_contains (w : World) (v : Value) (xs : List Int) (hx : SliceIs w v xs) :
    Calls Tryd.prog 38 #[v, .func (.func 39) #[] #[]] w fun e w' => e = .returned (.bool (xs.any badB)) ∧ w = w' := by
  have HK : Hid _ := fun (_ : Nat) => sp_index w v xs hx
  go_enter Tryd.func38, Tryd.ntmps38
  go_wp2_with (go_at_call 50; refine (HK.out 0).mono ?_; rintro e w' ⟨i, rfl, hi, rfl⟩)
  go_ret
  exact ⟨rfl, rfl⟩

set_option maxHeartbeats 2000000 in
theorem sp_check (w : World) (v : Value) (xs : List Int) (hx : SliceIs w v xs) (a : Int) :
    Calls Tryd.prog 29 #[.int .i64 a, v] w fun e w' => e = .returned (errV (wrE a xs)) ∧ w = w' := by
  have HC : Hid _ := fun (_ : Nat) => sp_contains w v xs hx
  have HS : Hid _ := fun (_ : Nat) => sp_isSize a w
  obtain ⟨ad, c, rfl, hl, _⟩ := hx
  unfold maxLen at hl
  unfold wrE
  generalize xs.length = n at *
  generalize hB : xs.any badB = B at HC ⊢
  by_cases h1 : 64 < n
  · rw [if_pos h1, errV_pos (by decide)]
    clear HC HS
    go_enter Tryd.func29, Tryd.ntmps29
    go_wp2
    go_ret
    exact ⟨rfl, rfl⟩
  · rw [if_neg h1]
    cases hS : isS a with
    | false =>
      rw [if_pos (.inl rfl), errV_pos (by decide)]
      rw [hS] at HS
      clear hS HC
      go_enter Tryd.func29, Tryd.ntmps29
      go_wp2_with (go_at_call 25; refine (HS.out 0).mono ?_; rintro e w' ⟨rfl, rfl⟩)
      go_ret
      exact ⟨rfl, rfl⟩
    | true =>
      obtain ⟨g1, g2⟩ := isS_iff.1 hS
      rw [hS] at HS
      clear hS hB
      cases B with
      | true =>
        rw [if_pos (.inr rfl), errV_pos (by decide)]
        go_enter Tryd.func29, Tryd.ntmps29
        go_wp2_with (first
          | (go_at_call 25; refine (HS.out 0).mono ?_; rintro e w' ⟨rfl, rfl⟩)
          | (go_at_call 38; refine (HC.out 0).mono ?_; rintro e w' ⟨rfl, rfl⟩))
        go_ret
        exact ⟨rfl, rfl⟩
      | false =>
        rw [if_neg (by simp)]
        by_cases h2 : 64 < a + (n : Int)
        · rw [if_pos h2, errV_pos (by decide)]
          go_enter Tryd.func29, Tryd.ntmps29
          go_wp2_with (first
            | (go_at_call 25; refine (HS.out 0).mono ?_; rintro e w' ⟨rfl, rfl⟩)
            | (go_at_call 38; refine (HC.out 0).mono ?_; rintro e w' ⟨rfl, rfl⟩))
          go_ret
          exact ⟨rfl, rfl⟩
        · rw [if_neg h2, errV_zero]
          go_enter Tryd.func29, Tryd.ntmps29
          go_wp2_with (first
            | (go_at_call 25; refine (HS.out 0).mono ?_; rintro e w' ⟨rfl, rfl⟩)
            | (go_at_call 38; refine (HC.out 0).mono ?_; rintro e w' ⟨rfl, rfl⟩))
          go_ret
          exact ⟨rfl, rfl⟩

end Go.Proofs.YtepnbkonhaongaaDoor
