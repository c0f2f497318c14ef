/- This text says what it means that a slice, or rows, have room for what they hold; it speaks of no call; no condition. -/
import Derived.Test.YtepnbkonhaongaaDoorGen
namespace Go.Proofs.YtepnbkonhaongaaDoor
open Go.RowKit Go.Deep

/-- The value is a slice of numbers, and has room for them. -/
def SliceC (w : World) (v : Value) (xs : List Int) : Prop := ∃ a c, v = .slice a xs.length c ∧ xs.length ≤ c ∧ SliceIs w v xs
theorem SliceC.is {w : World} {v : Value} {xs : List Int} (h : SliceC w v xs) : SliceIs w v xs := by
  obtain ⟨a, c, _, _, h⟩ := h
  exact h
/-- Rows, each with room. -/
def RowsC (w : World) (v : Value) (rs : List (List Int)) : Prop :=
  ∃ a cap, v = .slice a rs.length cap ∧ rs.length ≤ maxLen ∧ (rs ≠ [] → ∃ b off, a = some ⟨b, off, none⟩ ∧ b < w.heap.size ∧ ∀ i, i < rs.length → ∃ v, w.cell? ⟨b, off + i, none⟩ = some v ∧ SliceC w v (rowAt rs i))
theorem SliceC.later {w w' : World} {v : Value} {xs : List Int} (h : SliceC w v xs) (hb : Below w.heap.size w w') : SliceC w' v xs := by
  obtain ⟨a, c, h1, h2, h3⟩ := h
  exact ⟨a, c, h1, h2, h3.later hb⟩
theorem RowsC.later {w w' : World} {v : Value} {rs : List (List Int)} (h : RowsC w v rs) (hb : Below w.heap.size w w') : RowsC w' v rs := by
  obtain ⟨a, cap, hv, hl, hx⟩ := h
  refine ⟨a, cap, hv, hl, fun hne => ?_⟩
  obtain ⟨b, off, ha, hlt, hc⟩ := hx hne
  refine ⟨b, off, ha, Nat.lt_of_lt_of_le hlt hb.size, fun i hi => ?_⟩
  obtain ⟨v, h1, h2⟩ := hc i hi
  exact ⟨v, by rw [hb.cell (p := ⟨b, off + i, none⟩) hlt]; exact h1, h2.later hb⟩
theorem RowsC.row {w : World} {a : Option Addr} {n c : Nat} {rs : List (List Int)} (h : RowsC w (.slice a n c) rs) (i : Nat) (hi : i < n) :
    ∃ b o v, a = some ⟨b, o, none⟩ ∧ b < w.heap.size ∧ w.cell? ⟨b, o + i, none⟩ = some v ∧ SliceC w v (rowAt rs i) := by
  obtain ⟨a', c', e, hl, hx⟩ := h
  cases e
  obtain ⟨b, o, ha, hb, hc⟩ := hx (fun e => by rw [e] at hi; simp at hi)
  obtain ⟨v, h1, h2⟩ := hc i hi
  exact ⟨b, o, v, ha, hb, h1, h2⟩
theorem row_some {w : World} {v : Value} {xs : List Int} {z : Nat} (h : SliceC w v xs) (hl : xs.length = z) (hz : 0 < z) : ∃ b o c, v = .slice (some ⟨b, o, none⟩) z c ∧ z ≤ c ∧ z ≤ maxLen ∧ b < w.heap.size ∧ w.cell? ⟨b, o, none⟩ = some (.int .i64 (nth xs 0)) ∧ (1 < z → SliceIs w (.slice (some ⟨b, o + 1, none⟩) (z - 1) (c - 1)) (xs.drop 1)) := by
  obtain ⟨a, c, rfl, hc, a', c', hv, hm, hx⟩ := h
  cases hv
  obtain ⟨b, o, ha, hb, hcell⟩ := hx (fun e => by rw [e] at hl; simp at hl; omega)
  subst ha
  subst hl
  refine ⟨b, o, c, rfl, hc, hm, hb, hcell 0 hz, fun h1 => ?_⟩
  have e : (xs.drop 1).length = xs.length - 1 := by rw [List.length_drop]
  refine ⟨_, _, by rw [e], by rw [e]; omega, fun _ => ⟨b, o + 1, rfl, hb, fun i hi => ?_⟩⟩
  rw [e] at hi
  rw [Nat.add_assoc, hcell (1 + i) (by omega), nth_lt (by omega), nth_lt (by omega), List.getElem_drop]

end Go.Proofs.YtepnbkonhaongaaDoor
