/- This text proves that an argument that can be read as rows of numbers holds rows whose numbers fit their kind, and one that can be read as a lock is one; it speaks of no call; no condition. -/
import Derived.Test.YtigoacnbbichoaaDoorChecked
import Derived.Test.YtigoacnbbichoaaDoorL9
import Derived.ProofKit
import Derived.OpenShut
import Derived.Deep.Matrix
import Derived.Lib.SmallJoins
namespace Go.Proofs.YtigoacnbbichoaaDoor
open Go.ChangeShapes Go.WideShapes Go.ChangeAt Go.RowKit Go.Deep

theorem Tryd.cells3 : Tryd.prog.cellsOf 3 = 1 := by kernel_rfl
theorem Tryd.cells45 : Tryd.prog.cellsOf 45 = 1 := by kernel_rfl

/-- From cells behind an address to a list. -/
theorem intsAt_of {w : World} {a : Option Addr} {len cap : Nat} {zs : List Int} (hl : len ≤ cap) (hz : zs.length = cap) (hn : a = none → cap = 0)
    (hc : ∀ x, a = some x → ∀ i, i < cap → w.cell? (x.add i) = some (.int .i64 (zs.getD i 0))) : IntsAt w a (zs.take len) := by
  intro hne
  have hlen : (zs.take len).length = len := by rw [List.length_take]; omega
  have hpos : 0 < len := by rw [← hlen]; exact List.length_pos_iff.2 hne
  cases ha : a with
  | none => have := hn ha; omega
  | some x =>
    obtain ⟨b, off, spot⟩ := x
    have h0 := hc _ ha 0 (by omega)
    have hs : spot = none := by simpa [Addr.add] using World.cell?_spot h0
    subst hs
    refine ⟨b, off, rfl, ?_, fun i hi => ?_⟩
    · rw [Go.WideShapes.add_plain] at h0
      exact World.block_lt_of_cell? _ _ h0
    · rw [hlen] at hi
      have := hc _ ha i (by omega)
      rw [Go.WideShapes.add_plain] at this
      rw [this, nth, List.getD, List.getD, List.getElem?_take, if_pos hi]

theorem Tryd.cells29 : Tryd.prog.cellsOf 29 = 4 := by kernel_rfl
theorem fit_of {n : Int} (h : (Lit.int .i64 n).wf = true) : Fit n := by
  simp only [Lit.wf, Bool.and_eq_true, decide_eq_true_eq] at h
  exact h

set_option maxRecDepth 100000 in
theorem rows_open {H : Type} {enc : TypeId × Value → H} {W : World} {base : Nat} {v : Value} {d : DataW H} {p : List MemPlace} (hv : Value.okWide Tryd.prog W .any base 22 v) (h : DataW.Trod enc Tryd.prog W 0 (fun _ => true) true 22 v d p) : ∃ rs, RowsW W v rs := by
  obtain ⟨a, len, cap, rfl⟩ := okWide_slice Tryd.underlying22 hv
  obtain ⟨fuel, hf⟩ := h
  rcases open_int_rows Tryd.underlying22 Tryd.underlying45 Tryd.underlying3 Tryd.cells45 Tryd.cells3 hf with ⟨hcs, _⟩ | ⟨x, l, c, A, L, C, Z, hcs, _, hl, hm, _, hrows⟩
  · simp [Value.cells] at hcs
    obtain ⟨rfl, rfl, rfl⟩ := hcs
    exact ⟨[], ⟨none, 0, rfl, Nat.zero_le _, fun h => absurd rfl h⟩, fun i j hi => absurd hi (by simp)⟩
  · simp [Value.cells] at hcs
    obtain ⟨rfl, rfl, rfl⟩ := hcs
    have hlen : ((List.range len).map fun r => (Z r).take (L r)).length = len := by simp
    have hat : ∀ i, i < len → rowAt ((List.range len).map fun r => (Z r).take (L r)) i = (Z i).take (L i) := fun i hi => by
      unfold rowAt
      simp [List.getD, hi]
    refine ⟨(List.range len).map fun r => (Z r).take (L r), ⟨some x, cap, by rw [hlen], by rw [hlen]; omega, fun hne => ?_⟩, fun i j hi hj => ?_⟩
    rotate_left
    · rw [hlen] at hi
      rw [hat i hi] at hj ⊢
      exact fit_of ((hrows i (by omega)).2.2.2.2.1 _ (List.mem_of_mem_take (nth_mem hj)))
    have hpos : 0 < len := by rw [← hlen]; exact List.length_pos_iff.2 hne
    obtain ⟨b, off, spot⟩ := x
    have h0 := (hrows 0 (by omega)).1
    have hs : spot = none := by simpa [Addr.add] using World.cell?_spot h0
    subst hs
    refine ⟨b, off, rfl, ?_, fun i hi => ?_⟩
    · rw [Go.WideShapes.add_plain] at h0
      exact World.block_lt_of_cell? _ _ h0
    · rw [hlen] at hi
      obtain ⟨r1, r2, r3, r4, _, r6, r7⟩ := hrows i (by omega)
      rw [Go.WideShapes.add_plain] at r1
      have e := hat i hi
      refine ⟨_, r1, ?_⟩
      rw [e]
      exact ⟨A i, C i, by rw [List.length_take]; congr 1; omega, by rw [List.length_take]; omega, intsAt_of r2 r4 r6 (fun y ey j hj => (r7 y ey).2 j hj)⟩

set_option maxRecDepth 100000 in
theorem lock_open {H : Type} {enc : TypeId × Value → H} {W : World} {base : Nat} {v : Value} {d : DataW H} {p : List MemPlace} (hv : Value.okWide Tryd.prog W .any base 29 v) (h : DataW.Trod enc Tryd.prog W 0 (fun _ => true) true 29 v d p) :
    ∃ q : Int × Int × Int × Bool, v = lkV q.1 q.2.1 q.2.2.1 q.2.2.2 ∧ Fit q.2.1 := by
  obtain ⟨c0, c1, c2, c3, y0, y1, y2, y3, m, rfl, rfl, rfl, hy0, hy1, hy2, hy3⟩ := Go.Joins.open_agg4 Tryd.underlying29 (by kernel_rfl) Tryd.cells29 hv h
  obtain ⟨x0, e0, _⟩ := DataW.trod_int Tryd.underlying3 hy0
  obtain ⟨x1, e1, _, hw1⟩ := DataW.trod_int Tryd.underlying3 hy1
  obtain ⟨x2, e2, _⟩ := DataW.trod_int Tryd.underlying3 hy2
  obtain ⟨x3, e3, _⟩ := DataW.trod_bool Tryd.underlying4 hy3
  rw [(List.cons.inj e0).1, (List.cons.inj e1).1, (List.cons.inj e2).1, (List.cons.inj e3).1]
  exact ⟨(x0, x1, x2, x3), rfl, fit_of hw1⟩

end Go.Proofs.YtigoacnbbichoaaDoor
