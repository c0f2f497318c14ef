/- This text proves what platterholdref2.Bits answers of numbers of three bits; the world is as it was. -/
import Derived.Test.YtnhjigdlaefdaaaDoorChecked
import Derived.Test.YtnhjigdlaefdaaaDoorD0
import Derived.WalkLawsBesides
namespace Go.Proofs.YtnhjigdlaefdaaaDoor
open Go.RowKit

set_option maxHeartbeats 4000000 in
theorem bits_small (t b : Nat) (w : World) (ht : t < 8) (hb : b < 8) :
    Calls Tryd.prog 19 #[.int .i64 (t : Int), .int .i64 (b : Int)] w fun e w' => e = .returned (.bool (bitsB t b)) ∧ w = w' := by
  unfold bitsB
  cases h1 : ((t : Int) % 2 == 0) <;> cases h2 : ((b : Int) % 2 == 1) <;> cases h3 : ((t : Int) / 2 % 2 == 0) <;> cases h4 : ((b : Int) / 2 % 2 == 1) <;> cases h5 : ((t : Int) / 4 % 2 == 0) <;> cases h6 : ((b : Int) / 4 % 2 == 1)
  all_goals
    go_enter Tryd.func19, Tryd.ntmps19
    go_wp2
    go_ret
    exact ⟨rfl, rfl⟩

theorem bits_any (t b : Nat) (w : World) (ht : t < 8) (hb : b < 8) :
    Calls Tryd.prog 19 #[.int .i64 (t : Int), .int .i64 (b : Int)] w fun e w' => e = .returned (.bool (decide (an t b = 0))) ∧ w = w' := by
  rw [← bits_an ht hb]
  exact bits_small t b w ht hb

end Go.Proofs.YtnhjigdlaefdaaaDoor
