/- This text proves plain facts on slices of slices that the call itself has made by append: they hold rows where their elements do; no condition. -/
import Derived.Test.YtebjefgdjfjndaaOg
import Derived.Test.YtebjefgdjfjndaaLj
import Derived.Test.YtebjefgdjfjndaaMa
import Derived.Deep.Slices
namespace Go.Proofs.Ytebjefgdjfjndaa
open Go.RowKit Go.Deep

theorem Try.info22 : (Try.prog.info? 22).map (fun i => (i.zero, i.size, i.bytes)) = some (some (.slice none 0 0), 1, 24) := by kernel_rfl

/-- The slices' values, as a list. -/
theorem RowsIs.parts {w : World} {v : Value} {rs : List (List Int)} (h : RowsIs w v rs) : ∃ a cap b off, ∃ vs : List Value, v = .slice a rs.length cap ∧ rs.length ≤ maxLen ∧ vs.length = rs.length ∧
    (0 < rs.length → a = some ⟨b, off, none⟩) ∧ (0 < rs.length → b < w.heap.size) ∧ ∀ i (hi : i < vs.length), w.cell? ⟨b, off + i, none⟩ = some vs[i] ∧ SliceIs w vs[i] (rowAt rs i) := by
  obtain ⟨a, cap, hv, hl, hx⟩ := h
  by_cases hne : rs = []
  · subst hne
    exact ⟨a, cap, 0, 0, [], hv, hl, rfl, fun h => by simp at h, fun h => by simp at h, fun i hi => by simp at hi⟩
  · obtain ⟨b, off, h1, h2, h3⟩ := hx hne
    obtain ⟨f, hf⟩ := choose_lt h3
    exact ⟨a, cap, b, off, (List.range rs.length).map f, hv, hl, by simp, fun _ => h1, fun _ => h2, fun i hi => by
      have hi' : i < rs.length := by simpa using hi
      simpa using hf i hi'⟩

theorem SliceIs.one {w : World} {v : Value} {xs : List Int} (h : SliceIs w v xs) : v.oneCell' = true := by
  obtain ⟨a, c, rfl, _⟩ := h
  rfl

/-- A slice of slices of the call's own. -/
theorem rows_own {w : World} {base : Nat} {g n cap : Nat} {vs : List Value} {rs : List (List Int)} (h : w.ownsRow base 22 1 (.slice (some ⟨g, 0, none⟩) n cap) n vs) (hg : g < w.heap.size) (hm : n ≤ maxLen) (hv : vs.length = n) (hr : rs.length = n)
    (hs : ∀ i (hi : i < vs.length), SliceIs w vs[i] (rowAt rs i)) : RowsIs w (.slice (some ⟨g, 0, none⟩) n cap) rs := by
  refine ⟨_, cap, by rw [hr], by rw [hr]; exact hm, fun _ => ⟨g, 0, rfl, hg, fun i hi => ?_⟩⟩
  have hi' : i < vs.length := by rw [hv, ← hr]; exact hi
  refine ⟨vs[i], ?_, hs i hi'⟩
  rw [Nat.zero_add, h.cellAt i (by rw [← hv]; omega)]
  simp [hi']

theorem own_slice {w : World} {base e n : Nat} {v : Value} {vs : List Value} (h : w.ownsRow base e 1 v n vs) (hn : 0 < n) : ∃ g cap, v = .slice (some ⟨g, 0, none⟩) n cap ∧ base ≤ g ∧ g < w.heap.size := by
  rcases h.2 with ⟨_, h0⟩ | ⟨g, cap, cur, h1, h2, h3, _⟩
  · omega
  · exact ⟨g, cap, h1, h2, (Array.getElem?_eq_some_iff.1 h3).1⟩

theorem rows_set {rs : List (List Int)} {vs : List Value} {w : World} {k : Nat} {v : Value} {x : List Int} (hk : k < rs.length) (hx : SliceIs w v x) (h : ∀ i (hi : i < vs.length), SliceIs w vs[i] (rowAt rs i)) :
    ∀ i (hi : i < (vs.set k v).length), SliceIs w (vs.set k v)[i] (rowAt (rs.set k x) i) := by
  intro i hi
  rw [rowAt_set x hk, List.getElem_set]
  by_cases e : i = k
  · subst e; simpa using hx
  · rw [if_neg (fun h => e h.symm), if_neg e]
    exact h i (by simpa using hi)

end Go.Proofs.Ytebjefgdjfjndaa
