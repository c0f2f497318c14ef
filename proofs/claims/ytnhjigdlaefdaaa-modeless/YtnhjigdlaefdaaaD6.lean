/- This text proves that the law's closed fact holds; no memory that was there is written; no condition. -/
import Derived.Test.YtnhjigdlaefdaaaD3
import Derived.Test.YtnhjigdlaefdaaaD4
namespace Go.Proofs.Ytnhjigdlaefdaaa
open Go.RowKit Go.Deep

theorem fact_s : shT 488 = ⟨#[114, 119, 120, 114, 45, 120, 45, 45, 45]⟩ := by decide +kernel
theorem fact_e : shE 488 = 0 := by decide +kernel
theorem fact_a : mayB 488 1 2 3 2 5 = true := by decide +kernel
theorem fact_f : mayE 488 1 2 3 2 5 = 0 := by decide +kernel
theorem fact_b : mayB 488 1 2 3 3 1 = false := by decide +kernel
theorem fact_g : mayE 488 1 2 3 3 1 = 0 := by decide +kernel

set_option maxHeartbeats 2000000 in
theorem fact_any (w : World) : Calls Try.prog 6 #[] w fun e w' => e = .returned (.bool true) ∧ Below w.heap.size w w' := by
  have HS : Hid _ := fun (w : World) => show_any 488 w
  have HA : Hid _ := fun (w : World) => may_any 488 1 2 3 2 5 w
  have HB : Hid _ := fun (w : World) => may_any 488 1 2 3 3 1 w
  rw [fact_s, fact_e, errV_zero] at HS
  rw [fact_a, fact_f, errV_zero] at HA
  rw [fact_b, fact_g, errV_zero] at HB
  go_enter Try.func6, Try.ntmps6
  go_wp2_with fail
  refine (HS.out _).mono ?_
  rintro e w1 ⟨rfl, hb1⟩
  go_wp2_with fail
  refine (HA.out _).mono ?_
  rintro e w2 ⟨rfl, hb2⟩
  go_wp2_with fail
  refine (HB.out _).mono ?_
  rintro e w3 ⟨rfl, hb3⟩
  go_wp2
  go_ret
  exact ⟨rfl, Below.next hb1 (Below.next hb2 hb3)⟩

end Go.Proofs.Ytnhjigdlaefdaaa
