/- This text proves that an argument that can be read as a slice of slices of texts holds lists of texts; it speaks of no call; no condition. -/
import Derived.Test.YtdlmkienogimgaaGreatDoorMa9
import Derived.ProofKit
import Derived.OpenShut
import Derived.Deep.Strs
import Derived.Deep.Matrix
namespace Go.Proofs.YtdlmkienogimgaaGreatDoor
open Go.ChangeShapes Go.WideShapes Go.ChangeAt Go.RowKit Go.Deep

theorem Tryz.cells9 : Tryz.prog.cellsOf 9 = 1 := by kernel_rfl
theorem Tryz.cells26 : Tryz.prog.cellsOf 26 = 1 := by kernel_rfl

theorem strs_cells {w : World} {x : Addr} {len cap m : Nat} {S : Nat → ByteArray} (hl : len ≤ cap) (hm : cap ≤ maxLen) (hlm : len ≤ m) (hc : ∀ i, i < m → w.cell? (x.add i) = some (.string (S i)) ∧ (S i).size ≤ maxLen) :
    ∃ l, StrsIs w (.slice (some x) len cap) l ∧ ∀ y ∈ l, y.length ≤ maxLen := by
  have hlen : ((List.range len).map fun i => (S i).data.toList).length = len := by simp
  refine ⟨(List.range len).map fun i => (S i).data.toList, ⟨some x, cap, by rw [hlen], by rw [hlen]; exact hl, by rw [hlen]; omega, fun hne => ?_⟩, fun y hy => ?_⟩
  · have hpos : 0 < len := by rw [← hlen]; exact List.length_pos_iff.2 hne
    obtain ⟨b, off, spot⟩ := x
    have h0 := (hc 0 (by omega)).1
    have hs : spot = none := by simpa [Addr.add] using World.cell?_spot h0
    subst hs
    refine ⟨b, off, rfl, ?_, fun i hi => ?_⟩
    · rw [Go.WideShapes.add_plain] at h0
      exact World.block_lt_of_cell? _ _ h0
    · rw [hlen] at hi
      have := (hc i (by omega)).1
      rw [Go.WideShapes.add_plain] at this
      rw [this, sth_lt (by rw [hlen]; exact hi)]
      simp [bs_data]
  · obtain ⟨i, hi, rfl⟩ := List.mem_map.1 hy
    have := (hc i (by have := List.mem_range.1 hi; omega)).2
    rw [Lib.size_eq] at this
    exact this

set_option maxRecDepth 100000 in
theorem txts_open {H : Type} {enc : TypeId × Value → H} {W : World} {base : Nat} {v : Value} {d : DataW H} {p : List MemPlace} (hv : Value.okWide Tryz.prog W .any base 22 v) (h : DataW.Trod enc Tryz.prog W 0 (fun _ => true) true 22 v d p) : ∃ ls, TxtsIs W v ls := by
  obtain ⟨a, len, cap, rfl⟩ := okWide_slice Tryz.underlying22 hv
  obtain ⟨fuel, hf⟩ := h
  rcases open_slice1 Tryz.underlying22 Tryz.cells26 hf with ⟨hcs, _⟩ | ⟨x, l, c, m, n, V, D, Pl, hcs, _, hl, hm, hmm, _, hx⟩
  · simp [Value.cells] at hcs
    obtain ⟨rfl, rfl, rfl⟩ := hcs
    exact ⟨[], none, 0, rfl, Nat.zero_le _, fun h => absurd rfl h⟩
  · simp [Value.cells] at hcs
    obtain ⟨rfl, rfl, rfl⟩ := hcs
    simp only [if_true] at hmm
    have hmm' := hmm.symm
    subst hmm'
    have each : ∀ i, i < len → ∃ l, StrsIs W (V i) l ∧ ∀ y ∈ l, y.length ≤ maxLen := fun i hi => by
      rcases open_strs Tryz.underlying26 Tryz.underlying9 Tryz.cells9 (hx i (by omega)).2 with ⟨hcs, _⟩ | ⟨x', len', cap', m', S, hcs, _, hl', hm', hmm', _, hcell⟩
      · rw [(List.cons.inj hcs).1]
        exact ⟨[], strs_nil _ _ _, fun y hy => by cases hy⟩
      · rw [(List.cons.inj hcs).1]
        exact strs_cells hl' hm' (by rw [hmm']; simp; omega) hcell
    obtain ⟨q, hq⟩ := choose_lt each
    have hlen : ((List.range len).map q).length = len := by simp
    refine ⟨(List.range len).map q, some x, cap, by rw [hlen], by rw [hlen]; omega, fun hne => ?_⟩
    have hpos : 0 < len := by rw [← hlen]; exact List.length_pos_iff.2 hne
    obtain ⟨b, off, spot⟩ := x
    have h0 := (hx 0 (by omega)).1
    have hs : spot = none := by simpa [Addr.add] using World.cell?_spot h0
    subst hs
    refine ⟨b, off, rfl, ?_, fun i hi => ?_⟩
    · rw [Go.WideShapes.add_plain] at h0
      exact World.block_lt_of_cell? _ _ h0
    · rw [hlen] at hi
      have c0 := (hx i (by omega)).1
      rw [Go.WideShapes.add_plain] at c0
      have e : tat ((List.range len).map q) i = q i := by
        unfold tat
        simp [List.getD, hi]
      rw [e]
      exact ⟨V i, c0, (hq i hi).1, (hq i hi).2⟩

end Go.Proofs.YtdlmkienogimgaaGreatDoor
