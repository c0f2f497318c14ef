/- This text proves nothing of the program: it takes a slice of numbers apart; no condition. -/
import Derived.Test.YthgbknfdbobmiaaGen
namespace Go.Proofs.Ythgbknfdbobmiaa
open Go.RowKit Go.Deep

/-- Where the cells of a slice of numbers are. -/
theorem SliceIs.where {w : World} {v : Value} {xs : List Int} (h : SliceIs w v xs) :
    ∃ a c b o, v = .slice a xs.length c ∧ xs.length ≤ maxLen ∧ (0 < xs.length → a = some ⟨b, o, none⟩) ∧ ∀ i, i < xs.length → w.cell? ⟨b, o + i, none⟩ = some (.int .i64 (nth xs i)) := by
  obtain ⟨a, c, rfl, hl, hi⟩ := h
  by_cases hx : xs = []
  · subst hx
    exact ⟨a, c, 0, 0, rfl, hl, fun h => absurd h (by simp), fun i h => absurd h (by simp)⟩
  · obtain ⟨b, o, ha, _, hc⟩ := hi hx
    exact ⟨a, c, b, o, rfl, hl, fun _ => ha, hc⟩

end Go.Proofs.Ythgbknfdbobmiaa
