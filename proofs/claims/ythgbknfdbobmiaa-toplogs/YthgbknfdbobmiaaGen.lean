/- This text proves nothing of the program: it says what it means that a slice holds a list of numbers, or a list of rows, in a world, and that this stays so in every later world that leaves old blocks as they were; no condition. -/
import Derived.WalkKit
import Derived.Deep.OwnRows
namespace Go.Proofs.Ythgbknfdbobmiaa
open Go.RowKit Go.Deep

/-- The number at a place, 0 beyond the end. -/
def nth (xs : List Int) (i : Nat) : Int := xs.getD i 0

theorem nth_lt {xs : List Int} {i : Nat} (h : i < xs.length) : nth xs i = xs[i] := by
  unfold nth; simp [List.getD, h]

theorem nth_mem {xs : List Int} {i : Nat} (h : i < xs.length) : nth xs i ∈ xs := by
  rw [nth_lt h]; exact List.getElem_mem h

/-- The cells behind an address hold these numbers. -/
def IntsAt (w : World) (a : Option Addr) (xs : List Int) : Prop :=
  xs ≠ [] → ∃ b off, a = some ⟨b, off, none⟩ ∧ b < w.heap.size ∧ ∀ i, i < xs.length → w.cell? ⟨b, off + i, none⟩ = some (.int .i64 (nth xs i))

/-- The value is a slice that holds these numbers. -/
def SliceIs (w : World) (v : Value) (xs : List Int) : Prop :=
  ∃ a cap, v = .slice a xs.length cap ∧ xs.length ≤ maxLen ∧ IntsAt w a xs

/-- The row at a place, none beyond the end. -/
def rowAt (rs : List (List Int)) (i : Nat) : List Int := rs.getD i []

theorem rowAt_lt {rs : List (List Int)} {i : Nat} (h : i < rs.length) : rowAt rs i = rs[i] := by
  unfold rowAt; simp [List.getD, h]

/-- The cells behind an address hold slices that hold these rows. -/
def RowsAt (w : World) (a : Option Addr) (rs : List (List Int)) : Prop :=
  rs ≠ [] → ∃ b off, a = some ⟨b, off, none⟩ ∧ b < w.heap.size ∧ ∀ i, i < rs.length → ∃ v, w.cell? ⟨b, off + i, none⟩ = some v ∧ SliceIs w v (rowAt rs i)

def RowsIs (w : World) (v : Value) (rs : List (List Int)) : Prop :=
  ∃ a cap, v = .slice a rs.length cap ∧ rs.length ≤ maxLen ∧ RowsAt w a rs

/-- Old blocks are as they were. -/
theorem IntsAt.later {w w' : World} {a : Option Addr} {xs : List Int} (h : IntsAt w a xs) {B : Nat} (hB : w.heap.size ≤ B) (hb : Below B w w') : IntsAt w' a xs := by
  intro hne
  obtain ⟨b, off, ha, hlt, hc⟩ := h hne
  refine ⟨b, off, ha, Nat.lt_of_lt_of_le hlt hb.size, fun i hi => ?_⟩
  rw [hb.cell (p := ⟨b, off + i, none⟩) (Nat.lt_of_lt_of_le hlt hB)]
  exact hc i hi

theorem SliceIs.later {w w' : World} {v : Value} {xs : List Int} (h : SliceIs w v xs) (hb : Below w.heap.size w w') : SliceIs w' v xs := by
  obtain ⟨a, cap, hv, hl, hx⟩ := h
  exact ⟨a, cap, hv, hl, hx.later (Nat.le_refl _) hb⟩

theorem RowsIs.later {w w' : World} {v : Value} {rs : List (List Int)} (h : RowsIs w v rs) (hb : Below w.heap.size w w') : RowsIs w' v rs := by
  obtain ⟨a, cap, hv, hl, hx⟩ := h
  refine ⟨a, cap, hv, hl, fun hne => ?_⟩
  obtain ⟨b, off, ha, hlt, hc⟩ := hx hne
  refine ⟨b, off, ha, Nat.lt_of_lt_of_le hlt hb.size, fun i hi => ?_⟩
  obtain ⟨v, h1, h2⟩ := hc i hi
  exact ⟨v, by rw [hb.cell (p := ⟨b, off + i, none⟩) hlt]; exact h1, h2.later hb⟩

theorem below_size {a b : World} (h : Below a.heap.size a b) : a.heap.size ≤ b.heap.size := h.size

theorem Below.next {a b c : World} (h : Below a.heap.size a b) (k : Below b.heap.size b c) : Below a.heap.size a c := h.trans (k.mono h.size)

end Go.Proofs.Ythgbknfdbobmiaa
