/- This text proves what platterholdlaw1.power returns: the power of two; the world is as it was. -/
import Derived.Test.YtgnldgonedpehaaChecked
import Derived.Test.YtgnldgonedpehaaHm
import Derived.Deep.QuietTactic
import Derived.BigQuiet
namespace Go.Proofs.Ytgnldgonedpehaa
open Go.RowKit

set_option maxHeartbeats 1000000 in
theorem power_any (n : Nat) (W : World) (hn : n ≤ 8) :
    Calls Try.prog 9 #[.int .i64 (n : Int)] W fun e W' => e = .returned (.int .i64 ((2 ^ n : Nat) : Int)) ∧ W = W' := by
  go_enter Try.func9, Try.ntmps9
  go_wp2
  go_loop [3, 4] (fun x i => ∃ k : Nat, k ≤ n ∧ x = .int .i64 ((2 ^ k : Nat) : Int) ∧ i = .int .i64 (k : Int)) (fun _ i => n - (intOf i).toNat)
  case atStart => exact ⟨0, by omega, rfl, rfl⟩
  case round =>
    obtain ⟨k, hk, rfl, rfl⟩ := hrel
    have hp6 : 2 ^ k ≤ 2 ^ 8 := Nat.pow_le_pow_right (by decide) (by omega)
    have HM : Hid (((2 ^ k : Nat) : Int) * 2 = ((2 ^ (k + 1) : Nat) : Int)) := by show ((2 ^ k : Nat) : Int) * 2 = ((2 ^ (k + 1) : Nat) : Int); rw [Nat.pow_succ]; omega
    obtain ⟨p, hp⟩ : ∃ p, p = 2 ^ k := ⟨_, rfl⟩
    have HP : Hid (p = 2 ^ k) := hp
    rw [← hp] at hp6 HM ⊢
    clear hp
    by_cases hlt : k < n
    · go_wp2
      rw [HM.out]
      refine ⟨⟨k + 1, by omega, rfl, rfl⟩, ?_⟩
      simp only [intOf]
      omega
    · obtain rfl : k = n := by omega
      go_wp2
      go_ret
      exact ⟨by rw [HP.out]; rfl, rfl⟩

end Go.Proofs.Ytgnldgonedpehaa
