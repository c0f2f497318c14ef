/- This text proves what the document's own Abs (package platterholdref1) answers: how far two tracks are from each other; nothing is written; the only condition is that the numbers are tracks. -/
import Derived.Test.YtckdknkgadhmjaaDoorChecked
import Derived.Test.YtckdknkgadhmjaaDoorKp
import Derived.WalkKit
import Derived.Outline
import Derived.WalkSpells
import Derived.WalkLawsBesides
namespace Go.Proofs.YtckdknkgadhmjaaDoor
open Go.RowKit

set_option maxHeartbeats 1000000 in
theorem abs_any (a b : Int) (w : World) (ha : 0 ≤ a ∧ a ≤ 99) (hb : 0 ≤ b ∧ b ≤ 99) :
    Calls Tryd.prog 18 #[.int .i64 a, .int .i64 b] w fun e w' => e = .returned (.int .i64 (dst a b)) ∧ w = w' := by
  by_cases h : b < a
  · have e : dst a b = a - b := by unfold dst; rw [if_pos (by omega)]
    rw [e]
    go_enter Tryd.func18, Tryd.ntmps18
    go_wp2
    go_ret
    exact ⟨by go_num, rfl⟩
  · have e : dst a b = b - a := by unfold dst; rw [if_neg (by omega)]
    rw [e]
    go_enter Tryd.func18, Tryd.ntmps18
    go_wp2
    go_ret
    exact ⟨by go_num, rfl⟩

end Go.Proofs.YtckdknkgadhmjaaDoor
