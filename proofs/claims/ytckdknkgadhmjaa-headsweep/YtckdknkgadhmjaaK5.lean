/- This text proves that platterholdlaw1.headFact returns true; all old memory is as it was; no condition. -/
import Derived.Test.YtckdknkgadhmjaaK4
import Derived.Test.YtckdknkgadhmjaaLj
import Derived.Test.YtckdknkgadhmjaaKa
namespace Go.Proofs.Ytckdknkgadhmjaa
open Go.RowKit Go.Deep

theorem hfact_e : hdE 50 [40, 60] = 0 := by decide
theorem hfact_l : hdL (fun _ => ltS 50 true) 50 [40, 60] = [60, 40] := by decide
theorem hfact_f : farL 50 [60, 40] = 30 := by decide
theorem hfact_s : eqB [60, 40] [60, 40] = true := by decide

set_option maxHeartbeats 2000000 in
theorem hfact_any (w : World) : Calls Try.prog 7 #[] w fun e w' => e = .returned (.bool true) ∧ Below w.heap.size w w' := by
  have HL : Hid (SliceIs (w.alloc (.cells #[.int .i64 40, .int .i64 60] 3)) (.slice (some ⟨w.heap.size, 0, none⟩) 2 2) [40, 60]) := ints_lit w [40, 60] (by decide) 2
  go_enter Try.func7, Try.ntmps7
  go_wp2_with fail
  refine (sweepH_any _ 50 true _ [40, 60] HL.out).mono ?_
  rintro e w1 ⟨v, rfl, hown, hb⟩
  rw [hfact_e, hfact_l, hfact_f, errV_zero]
  rw [hfact_l] at hown
  have HB1 : Hid (Below w.heap.size w w1) := Below.next (below_alloc w _) hb
  have HS : Hid (SliceIs w1 v [60, 40]) := slice_own hown (show 2 ≤ maxLen by decide)
  clear HL hown hb
  have HL : Hid (SliceIs (w1.alloc (.cells #[.int .i64 60, .int .i64 40] 3)) (.slice (some ⟨w1.heap.size, 0, none⟩) 2 2) [60, 40]) := ints_lit w1 [60, 40] (by decide) 2
  go_wp2_with fail
  refine (ints_any _ v _ _ _ (HS.out.later (below_alloc w1 _)) HL.out).mono ?_
  rintro e w3 ⟨rfl, q, rfl⟩
  rw [hfact_s]
  go_wp2
  go_ret
  exact ⟨rfl, Below.next HB1.out (Below.next (below_alloc w1 _) (below_drew _ _ q))⟩

end Go.Proofs.Ytckdknkgadhmjaa
