/- This text proves what math/bits.Len and math/bits.Len64 return of a number below 65536: the number of its bits; the world is as it was. -/
import Derived.Test.YtebjefgdjfjndaaDoorChecked
import Derived.WalkKit
import Derived.Lib.Strings
import Derived.Lib.Slices
import Derived.Lib.Small
import Derived.Lib.Walk
import Derived.Lib.BitFns
namespace Go.Proofs.YtebjefgdjfjndaaDoor
open Go.RowKit

theorem tab_fin : ∀ n : Fin Lib.len8tab.size, (Lib.len8tab[n.val]'n.isLt).toNat = Lib.bitLen n.val := by decide +kernel
theorem tab_all (n : Nat) (h : n < Lib.len8tab.size) : (Lib.len8tab[n]'h).toNat = Lib.bitLen n := tab_fin ⟨n, h⟩

set_option maxHeartbeats 4000000 in
set_option maxRecDepth 100000 in
theorem len64_small (x : Int) (w : World) (h0 : 0 ≤ x) (h1 : x < 65536) :
    Calls Tryd.prog 51 #[.int .u64 x] w fun e w' => e = .returned (.int .i64 (Lib.bitLen x.toNat : Int)) ∧ w = w' := by
  by_cases h : x < 256
  · go_enter Tryd.func51, Tryd.ntmps51
    go_wp2
    go_ret
    refine ⟨congrArg Ending.returned (congrArg (Value.int IntKind.i64) ?_), rfl⟩
    have l := Lib.bitLen_le8' x (by omega) (by omega)
    rw [tab_all x.toNat]
    unfold wrap64
    omega
  · have hz : (Lib.len8tab.size : Int) = 256 := by decide +kernel
    have hin : 0 ≤ x / 256 ∧ x / 256 < (Lib.len8tab.size : Int) := by omega
    go_enter Tryd.func51, Tryd.ntmps51
    go_wp2
    go_ret
    refine ⟨congrArg Ending.returned (congrArg (Value.int IntKind.i64) ?_), rfl⟩
    have l := Lib.bitLen_le8' (x / 256) (by omega) (by omega)
    have s := Lib.bitLen_shift8 x.toNat (by omega) (by omega)
    have e : (x / 256).toNat = x.toNat / 256 := by omega
    rw [tab_all (x / 256).toNat]
    rw [e] at l ⊢
    unfold wrap64
    omega

theorem len_small (x : Int) (w : World) (h0 : 0 ≤ x) (h1 : x < 65536) :
    Calls Tryd.prog 48 #[.int .u64 x] w fun e w' => e = .returned (.int .i64 (Lib.bitLen x.toNat : Int)) ∧ w = w' := by
  go_enter Tryd.func48, Tryd.ntmps48
  go_wp2_with (go_at_call 51; refine (len64_small x _ h0 h1).mono ?_; rintro e w' ⟨rfl, rfl⟩)
  go_ret
  exact ⟨rfl, rfl⟩

theorem len_top_all : ∀ q, q < 128 → q ≠ 0 → ∃ s, s < 7 ∧ Lib.bitLen q = s + 1 ∧ 2 ^ s ≤ q ∧ q < 2 ^ (s + 1) := by decide +kernel

/-- Where the highest bit of a number from 256 on is. -/
theorem len_top {p : Nat} (h : 256 ≤ p) (h' : p < 2 ^ 15) : ∃ s, s < 7 ∧ Lib.bitLen p = s + 9 ∧ 2 ^ (s + 8) ≤ p ∧ p < 2 ^ (s + 9) := by
  obtain ⟨s, hs, hl, h1, h2⟩ := len_top_all (p / 256) (by omega) (by omega)
  refine ⟨s, hs, ?_, ?_, ?_⟩
  · rw [Lib.bitLen_shift8 p h (by omega), hl]; omega
  · rw [Nat.pow_add]; have : (2 : Nat) ^ 8 = 256 := by decide
    rw [this]; omega
  · rw [show s + 9 = s + 1 + 8 from rfl, Nat.pow_add]; have : (2 : Nat) ^ 8 = 256 := by decide
    rw [this]; omega

end Go.Proofs.YtebjefgdjfjndaaDoor
