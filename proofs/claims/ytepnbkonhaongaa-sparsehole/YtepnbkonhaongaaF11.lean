/- This text proves what platterholdref1.Has returns for a number that is there: true; the world is as it was; the condition is that the slice lies there. -/
import Derived.Test.YtepnbkonhaongaaLo
import Derived.Outline
import Derived.WalkSpells
import Derived.WalkLawsBesides
namespace Go.Proofs.Ytepnbkonhaongaa
open Go.RowKit Go.Deep

set_option maxHeartbeats 2000000 in
theorem has_yes (w : World) (v : Value) (xs : List Int) (y : Int) (hx : SliceIs w v xs) (hy : y ∈ xs) :
    Calls Try.prog 13 #[v, .int .i64 y] w fun e w' => e = .returned (.bool true) ∧ w = w' := by
  obtain ⟨a, c, b, o, rfl, hl, ha, hc⟩ := hx.where
  obtain ⟨n, hxn⟩ : ∃ n, n = xs.length := ⟨_, rfl⟩
  have HX : Hid (n = xs.length) := hxn
  rw [← hxn] at hl ha hc ⊢
  have HC : Hid (∀ i, i < n → w.cell? ⟨b, o + i, none⟩ = some (.int .i64 (nth xs i))) := hc
  have HY : Hid (∃ i, i < n ∧ nth xs i = y) := by
    obtain ⟨i, hi, rfl⟩ := List.getElem_of_mem hy
    exact ⟨i, by rw [hxn]; exact hi, nth_lt hi⟩
  unfold maxLen at hl
  clear hc hxn hx hy
  go_enter Try.func13, Try.ntmps13
  go_wp2
  go_loop [5] (fun i => ∃ k : Nat, k ≤ n ∧ i = .int .i64 k ∧ ∀ j, j < k → nth xs j ≠ y) (fun i => n - (Go.RowKit.intOf i).toNat)
  case atStart => exact ⟨0, Nat.zero_le _, rfl, fun j hj => absurd hj (Nat.not_lt_zero _)⟩
  case round =>
    obtain ⟨k, hk, rfl, hall⟩ := hrel
    have HA : Hid (∀ j, j < k → nth xs j ≠ y) := hall
    clear hall
    by_cases hlt : k < n
    · have haa := ha (by omega)
      subst haa
      have hck := HC.out k hlt
      obtain ⟨x, hx⟩ : ∃ x, nth xs k = x := ⟨_, rfl⟩
      rw [hx] at hck
      by_cases he : x = y
      · have hb : (x == y) = true := by simp [he]
        clear he hx
        go_wp2
        go_ret
        exact ⟨rfl, rfl⟩
      · have hb : (x == y) = false := by simp [he]
        have HE : Hid (nth xs k ≠ y) := by show nth xs k ≠ y; rw [hx]; exact he
        clear he hx
        go_wp2
        go_round
        case rel =>
          refine ⟨k + 1, by omega, by go_num, fun j hj => ?_⟩
          by_cases e : j = k
          · subst e; exact HE.out
          · exact HA.out j (by omega)
        case measure => simp [Go.RowKit.intOf]; omega
    · have hkn : k = n := by omega
      obtain ⟨i, hi, he⟩ := HY.out
      exact absurd he (HA.out i (by omega))

end Go.Proofs.Ytepnbkonhaongaa
