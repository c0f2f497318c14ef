/- This text proves nothing of the program: it says what it means that a slice holds a list of sides (two cells each: whether it stands on the left, and its sum) in a world, and how one is made by append; no condition. -/
import Derived.Test.YtfokhdoeehdegaaDoorChecked
import Derived.Test.YtfokhdoeehdegaaDoorWh
import Derived.OwnWalk
import Derived.Deep.QuietTactic
import Derived.BigQuiet
namespace Go.Proofs.YtfokhdoeehdegaaDoor
open Go.RowKit Go.Deep

theorem Tryd.info32 : (Tryd.prog.info? 32).map (fun i => (i.zero, i.size, i.bytes)) = some (some (.agg #[.bool false, .int .i64 0]), 2, 16) := by kernel_rfl

/-- The cells of sides. -/
def sdc : List (Bool × Int) → List Value
  | [] => []
  | x :: l => .bool x.1 :: .int .i64 x.2 :: sdc l

theorem sdc_len : ∀ l, (sdc l).length = l.length * 2
  | [] => rfl
  | x :: l => by simp only [sdc, List.length_cons, sdc_len l]; omega
theorem sdc_snoc (x : Bool × Int) : ∀ l, sdc l ++ [.bool x.1, .int .i64 x.2] = sdc (l ++ [x])
  | [] => rfl
  | y :: l => by simp only [sdc, List.cons_append, sdc_snoc x l]
theorem sdc_one : ∀ l, ∀ u ∈ sdc l, u.oneCell' = true
  | [], u, h => by simp [sdc] at h
  | x :: l, u, h => by
    simp only [sdc, List.mem_cons] at h
    rcases h with rfl | rfl | h
    · rfl
    · rfl
    · exact sdc_one l u h

/-- The side at a place. -/
def sAt (l : List (Bool × Int)) (i : Nat) : Bool × Int := l.getD i (false, 0)

theorem sAt_lt {l : List (Bool × Int)} {i : Nat} (h : i < l.length) : sAt l i = l[i] := by unfold sAt; simp [List.getD, h]
theorem sAt_mem {l : List (Bool × Int)} {i : Nat} (h : i < l.length) : sAt l i ∈ l := by rw [sAt_lt h]; exact List.getElem_mem h

theorem sdc_even : ∀ (l : List (Bool × Int)) (i : Nat), i < l.length → (sdc l)[i * 2]? = some (.bool (sAt l i).1) ∧ (sdc l)[i * 2 + 1]? = some (.int .i64 (sAt l i).2)
  | [], i, h => by simp at h
  | x :: l, 0, _ => by simp [sdc, sAt]
  | x :: l, i + 1, h => by
    have := sdc_even l i (by simpa using h)
    simp only [sdc, show (i + 1) * 2 = i * 2 + 1 + 1 by omega, List.getElem?_cons_succ, sAt, List.getD_cons_succ]
    exact this

/-- The value is a slice that holds these sides. -/
def SidesIs (w : World) (v : Value) (l : List (Bool × Int)) : Prop :=
  ∃ a cap, v = .slice a l.length cap ∧ l.length ≤ maxLen ∧ (l ≠ [] → ∃ b off, a = some ⟨b, off, none⟩ ∧ b < w.heap.size ∧
    ∀ i, i < l.length → w.cell? ⟨b, off + i * 2, none⟩ = some (.bool (sAt l i).1) ∧ w.cell? ⟨b, off + i * 2 + 1, none⟩ = some (.int .i64 (sAt l i).2))

theorem SidesIs.later {w w' : World} {v : Value} {l : List (Bool × Int)} (h : SidesIs w v l) (hb : Below w.heap.size w w') : SidesIs w' v l := by
  obtain ⟨a, cap, hv, hl, hx⟩ := h
  refine ⟨a, cap, hv, hl, fun hne => ?_⟩
  obtain ⟨b, off, ha, hlt, hc⟩ := hx hne
  refine ⟨b, off, ha, Nat.lt_of_lt_of_le hlt hb.size, fun i hi => ?_⟩
  have := hc i hi
  exact ⟨by rw [hb.cell (p := ⟨b, off + i * 2, none⟩) hlt]; exact this.1, by rw [hb.cell (p := ⟨b, off + i * 2 + 1, none⟩) hlt]; exact this.2⟩

theorem SidesIs.where {w : World} {v : Value} {l : List (Bool × Int)} (h : SidesIs w v l) :
    ∃ a c b o, v = .slice a l.length c ∧ l.length ≤ maxLen ∧ (0 < l.length → a = some ⟨b, o, none⟩) ∧ (0 < l.length → b < w.heap.size) ∧
      ∀ i, i < l.length → w.cell? ⟨b, o + i * 2, none⟩ = some (.bool (sAt l i).1) ∧ w.cell? ⟨b, o + i * 2 + 1, none⟩ = some (.int .i64 (sAt l i).2) := by
  obtain ⟨a, c, rfl, hl, hi⟩ := h
  by_cases hx : l = []
  · subst hx
    exact ⟨a, c, 0, 0, rfl, hl, fun h => absurd h (by simp), fun h => absurd h (by simp), fun i h => absurd h (by simp)⟩
  · obtain ⟨b, o, ha, hb, hc⟩ := hi hx
    exact ⟨a, c, b, o, rfl, hl, fun _ => ha, fun _ => hb, hc⟩

theorem saddr_at (g j : Nat) : (⟨g, 0, none⟩ : Addr).add j = ⟨g, j, none⟩ := by
  unfold Addr.add
  split
  · simp_all
  · simp

/-- Sides that the call itself has laid. -/
theorem sides_own {w : World} {base n : Nat} {v : Value} {l : List (Bool × Int)} (h : w.ownsRow base 32 2 v n (sdc l)) (hm : n ≤ maxLen) : SidesIs w v l := by
  have hl : l.length = n := by have := h.1; rw [sdc_len] at this; omega
  rcases h.2 with ⟨h0, h1⟩ | ⟨g, cap, cur, h1, h2, h3, _⟩
  · subst h0
    obtain rfl : l = [] := List.length_eq_zero_iff.1 (by omega)
    exact ⟨none, 0, rfl, Nat.zero_le _, fun h => absurd rfl h⟩
  · subst h1
    refine ⟨_, cap, by rw [hl], by omega, fun _ => ⟨g, 0, rfl, (Array.getElem?_eq_some_iff.1 h3).1, fun i hi => ?_⟩⟩
    have k1 := sdc_even l i hi
    have k2 := h.cells (g := g) rfl (i * 2) _ k1.1
    have k3 := h.cells (g := g) rfl (i * 2 + 1) _ k1.2
    rw [saddr_at] at k2 k3
    rw [Nat.zero_add]
    exact ⟨k2, k3⟩

end Go.Proofs.YtfokhdoeehdegaaDoor
