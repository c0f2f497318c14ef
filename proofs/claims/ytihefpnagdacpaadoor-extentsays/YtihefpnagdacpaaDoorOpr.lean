/- This text proves that an argument that can be read as a slice of runs holds a list of runs, and one that can be read as a run is one; it speaks of no call; no condition. -/
import Derived.Test.YtihefpnagdacpaaDoorChecked
import Derived.Test.YtihefpnagdacpaaDoorX1
import Derived.ProofKit
import Derived.OpenShut
import Derived.Deep.SlicePairs
import Derived.ChangeArms
import Derived.Lib.SmallJoins
namespace Go.Proofs.YtihefpnagdacpaaDoor
open Go.ChangeShapes Go.WideShapes Go.ChangeAt Go.RowKit Go.Deep

theorem Tryd.cells24 : Tryd.prog.cellsOf 24 = 2 := by kernel_rfl

set_option maxRecDepth 100000 in
theorem runs_open {H : Type} {enc : TypeId × Value → H} {W : World} {base : Nat} {v : Value} {d : DataW H} {p : List MemPlace} (hv : Value.okWide Tryd.prog W .any base 22 v) (h : DataW.Trod enc Tryd.prog W 0 (fun _ => true) true 22 v d p) : ∃ l, RunsIs W v l := by
  obtain ⟨a, len, cap, rfl⟩ := okWide_slice Tryd.underlying22 hv
  obtain ⟨fuel, hf⟩ := h
  rcases open_slice_pairs Tryd.underlying22 Tryd.underlying24 Tryd.cells24 rfl rfl (by kernel_rfl) (by kernel_rfl) hf with ⟨hcs, _⟩ | ⟨x, l, c, m, n, V0, V1, D0, D1, P0, P1, hcs, _, hl, hm, hz, _, hcell⟩
  · simp [Value.cells] at hcs
    obtain ⟨rfl, rfl, rfl⟩ := hcs
    exact ⟨[], none, 0, rfl, Nat.zero_le _, fun h => absurd rfl h⟩
  · simp [Value.cells] at hcs
    obtain ⟨rfl, rfl, rfl⟩ := hcs
    simp only [if_true] at hz
    have each : ∀ i, i < len → ∃ q : Rn, W.cell? (x.add (i * 2)) = some (.int .i64 q.1) ∧ W.cell? (x.add (i * 2 + 1)) = some (.int .i64 q.2) := fun i hi => by
      obtain ⟨c0, c1, t0, t1⟩ := hcell i (by omega)
      obtain ⟨y, e0, _⟩ := DataW.trod_int Tryd.underlying3 t0
      obtain ⟨z, e1, _⟩ := DataW.trod_int Tryd.underlying3 t1
      rw [(List.cons.inj e0).1] at c0
      rw [(List.cons.inj e1).1] at c1
      exact ⟨(y, z), c0, c1⟩
    obtain ⟨q, hq⟩ := choose_lt each
    have hlen : ((List.range len).map q).length = len := by simp
    have hat : ∀ i, i < len → rAt ((List.range len).map q) i = q i := fun i hi => by rw [rAt_lt (by rw [hlen]; exact hi)]; simp
    refine ⟨(List.range len).map q, some x, cap, by rw [hlen], by rw [hlen]; omega, fun hne => ?_⟩
    have hpos : 0 < len := by rw [← hlen]; exact List.length_pos_iff.2 hne
    obtain ⟨b, off, spot⟩ := x
    have h0 := (hq 0 hpos).1
    have hs : spot = none := by simpa [Addr.add] using World.cell?_spot h0
    subst hs
    refine ⟨b, off, rfl, ?_, fun i hi => ?_⟩
    · rw [Go.WideShapes.add_plain] at h0
      exact World.block_lt_of_cell? _ _ h0
    · rw [hlen] at hi
      obtain ⟨c0, c1⟩ := hq i hi
      rw [Go.WideShapes.add_plain] at c0 c1
      rw [hat i hi]
      exact ⟨c0, by rw [Nat.add_assoc]; exact c1⟩

set_option maxRecDepth 100000 in
theorem run_open {H : Type} {enc : TypeId × Value → H} {W : World} {base : Nat} {v : Value} {d : DataW H} {p : List MemPlace} (hv : Value.okWide Tryd.prog W .any base 24 v) (h : DataW.Trod enc Tryd.prog W 0 (fun _ => true) true 24 v d p) : ∃ r : Rn, v = .agg #[.int .i64 r.1, .int .i64 r.2] := by
  obtain ⟨c0, c1, y0, y1, m, rfl, rfl, rfl, hy0, hy1⟩ := Go.Joins.open_agg2 Tryd.underlying24 (by kernel_rfl) Tryd.cells24 hv h
  obtain ⟨x, e0, _⟩ := DataW.trod_int Tryd.underlying3 hy0
  obtain ⟨y, e1, _⟩ := DataW.trod_int Tryd.underlying3 hy1
  rw [(List.cons.inj e0).1, (List.cons.inj e1).1]
  exact ⟨(x, y), rfl⟩

end Go.Proofs.YtihefpnagdacpaaDoor
