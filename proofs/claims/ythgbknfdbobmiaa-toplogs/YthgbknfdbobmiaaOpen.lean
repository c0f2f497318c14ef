/- This text proves that an argument that can be read as a slice of numbers, or of rows of numbers, holds a list of numbers, or of rows; it speaks of no call; no condition. -/
import Derived.Test.YthgbknfdbobmiaaChecked
import Derived.Test.YthgbknfdbobmiaaGen
import Derived.ProofKit
import Derived.OpenShut
import Derived.Deep.Matrix
namespace Go.Proofs.Ythgbknfdbobmiaa
open Go.ChangeShapes Go.WideShapes Go.ChangeAt Go.RowKit Go.Deep

theorem Try.cells3 : Try.prog.cellsOf 3 = 1 := by kernel_rfl
theorem Try.cells26 : Try.prog.cellsOf 26 = 1 := by kernel_rfl

/-- From cells behind an address to a list. -/
theorem intsAt_of {w : World} {a : Option Addr} {len cap : Nat} {zs : List Int} (hl : len ≤ cap) (hz : zs.length = cap) (hn : a = none → cap = 0)
    (hc : ∀ x, a = some x → ∀ i, i < cap → w.cell? (x.add i) = some (.int .i64 (zs.getD i 0))) : IntsAt w a (zs.take len) := by
  intro hne
  have hlen : (zs.take len).length = len := by rw [List.length_take]; omega
  have hpos : 0 < len := by rw [← hlen]; exact List.length_pos_iff.2 hne
  cases ha : a with
  | none => have := hn ha; omega
  | some x =>
    obtain ⟨b, off, spot⟩ := x
    have h0 := hc _ ha 0 (by omega)
    have hs : spot = none := by simpa [Addr.add] using World.cell?_spot h0
    subst hs
    refine ⟨b, off, rfl, ?_, fun i hi => ?_⟩
    · rw [Go.WideShapes.add_plain] at h0
      exact World.block_lt_of_cell? _ _ h0
    · rw [hlen] at hi
      have := hc _ ha i (by omega)
      rw [Go.WideShapes.add_plain] at this
      rw [this, nth, List.getD, List.getD, List.getElem?_take, if_pos hi]

theorem ints_open {H : Type} {enc : TypeId × Value → H} {W : World} {base : Nat} {v : Value} {d : DataW H} {p : List MemPlace} (hv : Value.okWide Try.prog W .any base 26 v) (h : DataW.Trod enc Try.prog W 0 (fun _ => true) true 26 v d p) : ∃ xs, SliceIs W v xs := by
  obtain ⟨a, len, cap, rfl⟩ := okWide_slice Try.underlying26 hv
  obtain ⟨fuel, hf⟩ := h
  rcases open_ints Try.underlying26 Try.underlying3 Try.cells3 hf with ⟨hcs, _⟩ | ⟨x, l, c, zs, hcs, _, hl, hm, hz, _, hcell, _⟩
  · simp [Value.cells] at hcs
    obtain ⟨rfl, rfl, rfl⟩ := hcs
    exact ⟨[], none, 0, rfl, Nat.zero_le _, fun h => absurd rfl h⟩
  · simp [Value.cells] at hcs
    obtain ⟨rfl, rfl, rfl⟩ := hcs
    simp only [if_true] at hz
    refine ⟨zs.take len, some x, cap, by rw [List.length_take]; congr 1; omega, by rw [List.length_take]; omega, intsAt_of hl hz (fun h => by cases h) (fun y e i hi => ?_)⟩
    cases e
    exact hcell i (by rw [hz]; exact hi)

theorem rows_open {H : Type} {enc : TypeId × Value → H} {W : World} {base : Nat} {v : Value} {d : DataW H} {p : List MemPlace} (hv : Value.okWide Try.prog W .any base 22 v) (h : DataW.Trod enc Try.prog W 0 (fun _ => true) true 22 v d p) : ∃ rs, RowsIs W v rs := by
  obtain ⟨a, len, cap, rfl⟩ := okWide_slice Try.underlying22 hv
  obtain ⟨fuel, hf⟩ := h
  rcases open_int_rows Try.underlying22 Try.underlying26 Try.underlying3 Try.cells26 Try.cells3 hf with ⟨hcs, _⟩ | ⟨x, l, c, A, L, C, Z, hcs, _, hl, hm, _, hrows⟩
  · simp [Value.cells] at hcs
    obtain ⟨rfl, rfl, rfl⟩ := hcs
    exact ⟨[], none, 0, rfl, Nat.zero_le _, fun h => absurd rfl h⟩
  · simp [Value.cells] at hcs
    obtain ⟨rfl, rfl, rfl⟩ := hcs
    have hlen : ((List.range len).map fun r => (Z r).take (L r)).length = len := by simp
    refine ⟨(List.range len).map fun r => (Z r).take (L r), some x, cap, by rw [hlen], by rw [hlen]; omega, fun hne => ?_⟩
    have hpos : 0 < len := by rw [← hlen]; exact List.length_pos_iff.2 hne
    obtain ⟨b, off, spot⟩ := x
    have h0 := (hrows 0 (by omega)).1
    have hs : spot = none := by simpa [Addr.add] using World.cell?_spot h0
    subst hs
    refine ⟨b, off, rfl, ?_, fun i hi => ?_⟩
    · rw [Go.WideShapes.add_plain] at h0
      exact World.block_lt_of_cell? _ _ h0
    · rw [hlen] at hi
      obtain ⟨r1, r2, r3, r4, _, r6, r7⟩ := hrows i (by omega)
      rw [Go.WideShapes.add_plain] at r1
      have e : rowAt ((List.range len).map fun r => (Z r).take (L r)) i = (Z i).take (L i) := by
        unfold rowAt
        simp [List.getD, hi]
      refine ⟨_, r1, ?_⟩
      rw [e]
      exact ⟨A i, C i, by rw [List.length_take]; congr 1; omega, by rw [List.length_take]; omega, intsAt_of r2 r4 r6 (fun y ey j hj => (r7 y ey).2 j hj)⟩

end Go.Proofs.Ythgbknfdbobmiaa
