/- This text proves what Size of package sparse answers: how many bytes there are; the world is as it was; the condition is that the file lies there. -/
import Derived.Test.YtepnbkonhaongaaDoorF4
import Derived.Deep.RegionHeld3
namespace Go.Proofs.YtepnbkonhaongaaDoor
open Go.RowKit Go.Deep Go.Maps

theorem sp_size (w : World) (g b : Nat) (f : Fil) (h : FilM w g b f) : Calls Tryd.prog 13 #[ptrF g] w fun e w' => e = .returned (.int .i64 (f.s : Int)) ∧ w = w' := by
  obtain ⟨c0, c1, _, _⟩ := h.facts
  unfold ptrF
  clear h
  go_enter Tryd.func13, Tryd.ntmps13
  go_wp2
  go_ret
  exact ⟨rfl, rfl⟩

end Go.Proofs.YtepnbkonhaongaaDoor
