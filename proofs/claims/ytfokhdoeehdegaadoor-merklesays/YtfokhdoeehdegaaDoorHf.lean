/- This text proves what platterholdref1.Half returns: where so many values are cut; the world is as it was; the only condition is that there are at most 16. -/
import Derived.Test.YtfokhdoeehdegaaDoorM1
namespace Go.Proofs.YtfokhdoeehdegaaDoor
open Go.RowKit Go.Deep

set_option maxHeartbeats 1000000 in
theorem half_any (n : Nat) (w : World) (hn : n ≤ 16) :
    Calls Tryd.prog 23 #[.int .i64 (n : Int)] w fun e w' => e = .returned (.int .i64 (hf n : Int)) ∧ w = w' := by
  go_enter Tryd.func23, Tryd.ntmps23
  go_wp2
  go_loop [3] (fun i => ∃ k : Nat, (k = 1 ∨ k = 2 ∨ k = 4 ∨ k = 8) ∧ (k = 1 ∨ k < n) ∧ i = .int .i64 (k : Int)) (fun i => 16 - (intOf i).toNat)
  case atStart => exact ⟨1, .inl rfl, .inl rfl, rfl⟩
  case round =>
    obtain ⟨k, hk, hk1, rfl⟩ := hrel
    have HK : Hid (k = 1 ∨ k = 2 ∨ k = 4 ∨ k = 8) := hk
    have HK1 : Hid (k = 1 ∨ k < n) := hk1
    have hb : 1 ≤ k ∧ k ≤ 8 := by omega
    obtain ⟨hb1, hb2⟩ := hb
    clear hk hk1
    by_cases hlt : 2 * k < n
    · have hlt' : 2 * (k : Int) < (n : Int) := by omega
      go_wp2
      go_round
      case rel => exact ⟨2 * k, by have := HK.out; omega, .inr hlt, by congr 1⟩
      case measure => simp [intOf]; omega
    · have hlt' : ¬ 2 * (k : Int) < (n : Int) := by omega
      have HF : Hid (k = hf n) := hf_of hn HK.out HK1.out (by omega)
      go_wp2
      go_ret
      exact ⟨by rw [← HF.out]; rfl, rfl⟩

end Go.Proofs.YtfokhdoeehdegaaDoor
