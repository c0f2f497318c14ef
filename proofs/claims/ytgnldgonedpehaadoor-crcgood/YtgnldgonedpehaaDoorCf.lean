/- This text proves that platterholdlaw1.crcFact returns true and lets all old memory be; no condition. -/
import Derived.Test.YtgnldgonedpehaaDoorCr
import Derived.Test.YtgnldgonedpehaaDoorLo
namespace Go.Proofs.YtgnldgonedpehaaDoor
open Go.RowKit Go.Deep

theorem cfact_a : bytE [1] = 0 := by decide
theorem cfact_b : sumV [1] = .tuple #[.int .i64 7, .nilIface] := by rw [sumV_ok cfact_a, show crcL [1] = 7 by decide +kernel]; rfl
theorem cfact_c : (Value.tuple #[.bool (decide (goodE [1, 7] = 0) && decide (crcL [1, 7] = 0)), errV (goodE [1, 7])]) = .tuple #[.bool true, .nilIface] := by
  rw [show goodE [1, 7] = 0 by decide, show crcL [1, 7] = 0 by decide +kernel]; rfl

set_option maxHeartbeats 2000000 in
theorem cfact_any (w : World) : Calls Tryd.prog 11 #[] w fun e w' => e = .returned (.bool true) ∧ Below w.heap.size w w' := by
  have HL := ints_lit w [1] (by decide) 1
  go_enter Tryd.func11, Tryd.ntmps11
  go_wp2_with fail
  refine (sum_any (w.alloc (.cells #[.int .i64 1] 3)) (.slice (some ⟨w.heap.size, 0, none⟩) 1 1) [1] HL).mono ?_
  rintro e w1 ⟨rfl, rfl⟩
  rw [cfact_b]
  clear HL
  have HB1 : Hid (Below w.heap.size w (w.alloc (.cells #[.int .i64 1] 3))) := below_alloc w _
  generalize w.alloc (.cells #[.int .i64 1] 3) = w1 at HB1
  have HL := ints_lit w1 [1, 7] (by decide) 2
  go_wp2_with fail
  refine (good_any (w1.alloc (.cells #[.int .i64 1, .int .i64 7] 3)) (.slice (some ⟨w1.heap.size, 0, none⟩) 2 2) [1, 7] HL).mono ?_
  rintro e w2 ⟨rfl, rfl⟩
  rw [cfact_c]
  have HB2 : Hid (Below w.heap.size w (w1.alloc (.cells #[.int .i64 1, .int .i64 7] 3))) := Below.next HB1.out (below_alloc w1 _)
  generalize w1.alloc (.cells #[.int .i64 1, .int .i64 7] 3) = w2 at HB2
  clear HL
  go_wp2
  go_ret
  exact ⟨rfl, HB2.out⟩

end Go.Proofs.YtgnldgonedpehaaDoor
