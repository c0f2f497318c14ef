/- This text proves that platterholdlaw1.parityFact returns true and writes into nothing that was there; no condition. -/
import Derived.Test.YtldilfgabdemhaaDoorOf
import Derived.Test.YtldilfgabdemhaaDoorLi
namespace Go.Proofs.YtldilfgabdemhaaDoor
open Go.RowKit Go.Deep

/-- A slice of numbers that was just written down. -/
theorem ints_lit (w : World) (xs : List Int) (hm : xs.length ≤ maxLen) (cap : Nat) :
    SliceIs (w.alloc (.cells (xs.map (Value.int .i64)).toArray 3)) (.slice (some ⟨w.heap.size, 0, none⟩) xs.length cap) xs := by
  refine ⟨_, _, rfl, hm, fun _ => ⟨_, 0, rfl, by simp, fun i hi => ?_⟩⟩
  have := (World.rowIs_alloc w (xs.map (Value.int .i64)).toArray 3 (fun j => .int .i64 (nth xs j)) (fun j hj => by simp at hj; simp [hj, nth, List.getD])).cell (i := i) (by simpa using hi)
  rw [Nat.zero_add, this]

theorem ints_two (w : World) (x y : Int) : SliceIs (w.alloc (.cells #[.int .i64 x, .int .i64 y] 3)) (.slice (some ⟨w.heap.size, 0, none⟩) 2 2) [x, y] := ints_lit w [x, y] (by simp [maxLen]) 2

theorem fact_par : parity [[1, 2], [3, 255]] = [2, 253] := by decide
theorem fact_check : checkE [[1, 2], [3, 255]] = 0 := by decide
theorem fact_eq : eqB [2, 253] [2, 253] = true := by decide

theorem below_alloc (w : World) (o : Obj) : Below w.heap.size w (w.alloc o) := (Below.refl _ _).alloc (Nat.le_refl _) _

theorem fact_rows (w : World) : RowsIs (((w.alloc (.cells #[.int .i64 1, .int .i64 2] 3)).alloc (.cells #[.int .i64 3, .int .i64 255] 3)).alloc (.cells #[.slice (some ⟨w.heap.size, 0, none⟩) 2 2, .slice (some ⟨w.heap.size + 1, 0, none⟩) 2 2] 23))
    (.slice (some ⟨w.heap.size + 2, 0, none⟩) 2 2) [[1, 2], [3, 255]] := by
  have h1 := (ints_two w 1 2).later (below_alloc _ (.cells #[.int .i64 3, .int .i64 255] 3))
  have h2 := ints_two (w.alloc (.cells #[.int .i64 1, .int .i64 2] 3)) 3 255
  have h3 := rows_two _ _ _ _ _ h1 h2
  simpa using h3

set_option maxHeartbeats 1000000 in
theorem fact_any (w : World) : Calls Tryd.prog 15 #[] w fun e w' => e = .returned (.bool true) ∧ Below w.heap.size w w' := by
  have hr := fact_rows w
  go_enter Tryd.func15, Tryd.ntmps15
  go_wp2_with fail
  refine (of_ok _ _ _ hr fact_check).mono ?_
  rintro e w1 ⟨v, rfl, hs, hb⟩
  rw [fact_par] at hs
  obtain ⟨a, c, rfl, hl, hi⟩ := hs
  have hs1 : SliceIs (w1.alloc (.cells #[.int .i64 2, .int .i64 253] 3)) (.slice a 2 c) [2, 253] := SliceIs.later ⟨a, c, rfl, hl, hi⟩ (below_alloc _ _)
  have hs2 := ints_two w1 2 253
  go_wp2_with fail
  refine (ints_any _ _ _ [2, 253] [2, 253] hs1 hs2).mono ?_
  rintro e w2 ⟨rfl, q, rfl⟩
  rw [fact_eq]
  go_wp2
  go_ret
  have hb1 : Below w.heap.size w w1 := ((((Below.refl _ _).alloc (Nat.le_refl _) _).alloc (by simp) _).alloc (by simp; omega) _).trans (hb.mono (by simp; omega))
  exact ⟨rfl, (hb1.alloc hb1.size _).trans (below_drewN _ _ _)⟩

end Go.Proofs.YtldilfgabdemhaaDoor
