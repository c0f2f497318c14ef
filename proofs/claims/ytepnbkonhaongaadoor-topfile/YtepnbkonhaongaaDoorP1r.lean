/- This text proves what place.Of, Block, Tables and what they call answer: ways, blocks and how many tables; old memory is as it was; the only condition is that the slice lies there and has room. -/
import Derived.Test.YtepnbkonhaongaaDoorP0
import Derived.Test.YtepnbkonhaongaaDoorLo
import Derived.Test.YtepnbkonhaongaaDoorAs
import Derived.WalkKit
import Derived.Outline
import Derived.WalkSpells
import Derived.WalkLawsBesides
import Derived.Deep.QuietTactic
import Derived.BigQuiet
namespace Go.Proofs.YtepnbkonhaongaaDoor
open Go.RowKit Go.Deep

/-- The value is a slice of numbers, and has room for them. -/
def SliceC (w : World) (v : Value) (xs : List Int) : Prop := ∃ a c, v = .slice a xs.length c ∧ xs.length ≤ c ∧ SliceIs w v xs

theorem SliceC.is {w : World} {v : Value} {xs : List Int} (h : SliceC w v xs) : SliceIs w v xs := by
  obtain ⟨a, c, _, _, h⟩ := h
  exact h
theorem SliceC.later {w w' : World} {v : Value} {xs : List Int} (h : SliceC w v xs) (hb : Below w.heap.size w w') : SliceC w' v xs := by
  obtain ⟨a, c, h1, h2, h3⟩ := h
  exact ⟨a, c, h1, h2, h3.later hb⟩
/-- A list of numbers that the call itself lays. -/
theorem lit_c (w : World) (xs : List Int) (hm : xs.length ≤ maxLen) : SliceC (w.alloc (.cells (xs.map fun x => Value.int .i64 x).toArray 3)) (.slice (some ⟨w.heap.size, 0, none⟩) xs.length xs.length) xs :=
  ⟨_, _, rfl, Nat.le_refl _, ints_lit w xs hm _⟩
theorem nil_c (w : World) : SliceC w (.slice none 0 0) [] := ⟨none, 0, rfl, Nat.le_refl _, none, 0, rfl, Nat.zero_le _, fun h => absurd rfl h⟩
/-- All but the first. -/
theorem SliceC.tail {w : World} {b o n c : Nat} {xs : List Int} (h : SliceC w (.slice (some ⟨b, o, none⟩) n c) xs) (hk : 1 < n) : SliceIs w (.slice (some ⟨b, o + 1, none⟩) (n - 1) (c - 1)) (xs.drop 1) := by
  obtain ⟨_, _, _, _, a', c', hv, hl, hi⟩ := h
  cases hv
  have e : (xs.drop 1).length = xs.length - 1 := by rw [List.length_drop]
  refine ⟨_, _, by rw [e], by rw [e]; omega, fun _ => ?_⟩
  obtain ⟨b', o', h1, h2, h3⟩ := hi (fun h0 => by rw [h0] at hk; simp at hk)
  cases h1
  refine ⟨b, o + 1, rfl, h2, fun i hi => ?_⟩
  rw [e] at hi
  rw [Nat.add_assoc, h3 (1 + i) (by omega), nth_lt (by omega), nth_lt (by omega), List.getElem_drop]

set_option maxHeartbeats 1000000 in
/-- The way to a block. -/
theorem of_any (i : Int) (w : World) : Calls Tryd.prog 17 #[.int .i64 i] w fun e w' => ∃ v, e = .returned (.tuple #[v, errV (ofE i)]) ∧ SliceC w' v (ofL i) ∧ Below w.heap.size w w' := by
  by_cases h : 0 ≤ i ∧ i < 24
  · rw [ofE_yes h, errV_zero]
    obtain ⟨h1, h2⟩ := h
    by_cases h3 : i < 4
    · rw [ofL_one ⟨h1, h3⟩]
      have HL : Hid _ := lit_c w [i] (by unfold maxLen; simp)
      go_enter Tryd.func17, Tryd.ntmps17
      go_wp2
      go_ret2
      exact ⟨_, rfl, HL.out, below_alloc _ _⟩
    · by_cases h4 : i < 8
      · rw [ofL_two ⟨by omega, h4⟩]
        have HL : Hid _ := lit_c w [4, i - 4] (by unfold maxLen; simp)
        go_enter Tryd.func17, Tryd.ntmps17
        go_wp2
        go_ret2
        exact ⟨_, rfl, HL.out, below_alloc _ _⟩
      · rw [ofL_three ⟨by omega, h2⟩]
        have HL : Hid _ := lit_c w [5, (i - 8) / 4, (i - 8) % 4] (by unfold maxLen; simp)
        go_enter Tryd.func17, Tryd.ntmps17
        go_wp2
        go_ret2
        exact ⟨_, rfl, HL.out, below_alloc _ _⟩
  · rw [ofE_no h, ofL_no h, errV_pos (by decide)]
    by_cases h1 : 0 ≤ i
    · have h2 : ¬ i < 24 := fun h3 => h ⟨h1, h3⟩
      clear h
      go_enter Tryd.func17, Tryd.ntmps17
      go_wp2
      go_ret2
      exact ⟨_, rfl, nil_c _, Below.refl _ _⟩
    · clear h
      go_enter Tryd.func17, Tryd.ntmps17
      go_wp2
      go_ret2
      exact ⟨_, rfl, nil_c _, Below.refl _ _⟩

end Go.Proofs.YtepnbkonhaongaaDoor
