/- This text proves the closed fact of the laws on places: it holds; old memory stays; no condition. -/
import Derived.Test.YteapobmmfjpblaaP3
import Derived.Test.YteapobmmfjpblaaLj
import Derived.Test.YteapobmmfjpblaaIn
namespace Go.Proofs.Yteapobmmfjpblaa
open Go.RowKit Go.Deep

theorem eqB_self (xs : List Int) : eqB xs xs = true := by simp [eqB]

set_option maxHeartbeats 1000000 in
theorem placeFact_any (w : World) : Calls Try.prog 5 #[] w fun e w' => e = .returned (.bool true) ∧ Below w.heap.size w w' := by
  have HO : Hid _ := fun (_ : Nat) => of_any 9 w
  have HT : Hid _ := fun (w1 : World) => tables_any 9 w1
  have HE : Hid _ := fun (w2 : World) (v1 v2 : Value) (h : SliceIs w2 v1 [5, 0, 1]) (h2 : SliceIs w2 v2 [5, 0, 1]) => ints_any w2 v1 v2 _ _ h h2
  have HL : Hid _ := fun (w1 : World) => ints_lit w1 [5, 0, 1] (by unfold maxLen; simp) 3
  rw [show ofE 9 = 0 from rfl, show ofL 9 = [5, 0, 1] from rfl, errV_zero] at HO
  rw [show tbE 9 = 0 from rfl, show tbN 9 = 3 from rfl, errV_zero] at HT
  rw [eqB_self] at HE
  go_enter Try.func5, Try.ntmps5
  go_wp2_with (first
    | (go_at_call 6; refine (HO.out 0).mono ?_; rintro e w1 ⟨v1, rfl, hr1, hb1⟩)
    | (go_at_call 10; refine (HT.out _).mono ?_; rintro e w2 ⟨rfl, rfl⟩)
    | (go_at_call 9; refine (HE.out _ _ _ (hr1.is.later (below_alloc _ _)) (HL.out _)).mono ?_; rintro e w3 ⟨rfl, q3, rfl⟩))
  go_ret
  exact ⟨rfl, Below.next (Below.next hb1 (below_alloc _ _)) (below_drew _ _ _)⟩

end Go.Proofs.Yteapobmmfjpblaa
