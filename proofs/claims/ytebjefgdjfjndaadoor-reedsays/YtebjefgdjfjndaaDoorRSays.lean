/- This text proves that platterholdlaw1.ReedSays returns true for any data, any shards and any two numbers, and lets all old memory be; the conditions: the slices lie there, and the library's variable errors.errorType holds what the program's own text lays. -/
import Derived.Test.YtebjefgdjfjndaaDoorRl
namespace Go.Proofs.YtebjefgdjfjndaaDoor
open Go.RowKit Go.Deep

theorem same_int (n : Nat) : ((n : Int) == (n : Int)) = true := by simp

set_option maxHeartbeats 8000000 in
theorem rsays_any (w : World) (va vb : Value) (xa xb : List Int) (more d : Int) (hL : Laid w) (ha : SliceIs w va xa) (hb : SliceIs w vb xb) :
    Calls Tryd.prog 3 #[va, .int .i64 more, vb, .int .i64 d] w fun e w' => e = .returned (.bool true) ∧ Below w.heap.size w w' := by
  have HA : Hid (SliceIs w va xa) := ha
  have HB : Hid (SliceIs w vb xb) := hb
  have HL : Hid (Laid w) := hL
  clear ha hb hL
  go_enter Tryd.func3, Tryd.ntmps3
  go_wp2_with fail
  refine (rmake_says w va xa more HA.out).mono ?_
  rintro e w1 ⟨v1, rfl, hs1, hb1⟩
  have HS1 : Hid (SliceIs w1 v1 (makeL xa more)) := hs1
  have HB1 : Hid (Below w.heap.size w w1) := hb1
  clear hs1 hb1
  go_wp2_with fail
  refine (make_says w1 va xa more (HA.out.later HB1.out)).mono ?_
  rintro e w2 ⟨v2, rfl, hs2, hb2⟩
  have HS2 : Hid (SliceIs w2 v2 (makeL xa more)) := hs2
  have HS1' : Hid (SliceIs w2 v1 (makeL xa more)) := HS1.out.later hb2
  have HB2 : Hid (Below w.heap.size w w2) := Below.next HB1.out hb2
  clear hs2 hb2
  go_wp2_with fail
  refine (error_any (makeE xa more) (makeE xa more) w2 (HL.out.later HB2.out)).mono ?_
  rintro e w3 ⟨rfl, hb3⟩
  rw [same_int]
  have HS1q : Hid (SliceIs w3 v1 (makeL xa more)) := HS1'.out.later hb3
  have HS2q : Hid (SliceIs w3 v2 (makeL xa more)) := HS2.out.later hb3
  have HB3 : Hid (Below w.heap.size w w3) := Below.next HB2.out hb3
  clear hb3
  go_wp2_with fail
  refine (ints_any w3 v2 v1 _ _ HS2q.out HS1q.out).mono ?_
  rintro e w4 ⟨rfl, q4, hw4⟩
  rw [eqB_refl]
  have HB4 : Hid (Below w.heap.size w w4) := by rw [hw4]; exact Below.next HB3.out (below_drewN _ _ _)
  clear hw4
  go_wp2_with fail
  refine (ragain_says w4 vb xb d (HB.out.later HB4.out)).mono ?_
  rintro e w5 ⟨v5, rfl, hs5, hb5⟩
  have HS5 : Hid (SliceIs w5 v5 (againL xb d)) := hs5
  have HB5 : Hid (Below w.heap.size w w5) := Below.next HB4.out hb5
  clear hs5 hb5
  go_wp2_with fail
  refine (again_says w5 vb xb d (HB.out.later HB5.out)).mono ?_
  rintro e w6 ⟨v6, rfl, hs6, hb6⟩
  have HS6 : Hid (SliceIs w6 v6 (againL xb d)) := hs6
  have HS5' : Hid (SliceIs w6 v5 (againL xb d)) := HS5.out.later hb6
  have HB6 : Hid (Below w.heap.size w w6) := Below.next HB5.out hb6
  clear hs6 hb6
  go_wp2_with fail
  refine (error_any (againC xb d) (againC xb d) w6 (HL.out.later HB6.out)).mono ?_
  rintro e w7 ⟨rfl, hb7⟩
  rw [same_int]
  have HS6q : Hid (SliceIs w7 v6 (againL xb d)) := HS6.out.later hb7
  have HS5q : Hid (SliceIs w7 v5 (againL xb d)) := HS5'.out.later hb7
  have HB7 : Hid (Below w.heap.size w w7) := Below.next HB6.out hb7
  clear hb7
  go_wp2_with fail
  refine (ints_any w7 v6 v5 _ _ HS6q.out HS5q.out).mono ?_
  rintro e w8 ⟨rfl, q8, hw8⟩
  rw [eqB_refl]
  have HB8 : Hid (Below w.heap.size w w8) := by rw [hw8]; exact Below.next HB7.out (below_drewN _ _ _)
  clear hw8
  go_wp2
  go_ret
  exact ⟨rfl, HB8.out⟩

end Go.Proofs.YtebjefgdjfjndaaDoor
