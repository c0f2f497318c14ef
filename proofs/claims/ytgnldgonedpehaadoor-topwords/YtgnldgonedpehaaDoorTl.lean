/- This text proves that the program's table of places holds 3, 5, 6, 7 where it reads as the given row lists it; no other condition. -/
import Derived.Test.YtgnldgonedpehaaDoorRows
import Derived.Test.YtgnldgonedpehaaDoorHs
import Derived.OpenShut
import Derived.LaidMore
namespace Go.Proofs.YtgnldgonedpehaaDoor
open Go.RowKit

theorem tab_var {W : World} (h : laidMet Tryd.prog [("platterhold/hamming.numberPlaces", Rows.laid_platterhold_hamming_numberPlaces)] W) : W.var? Tryd.prog "platterhold/hamming.numberPlaces" = some #[.int .i64 3, .int .i64 5, .int .i64 6, .int .i64 7] := by
  obtain ⟨ps, ⟨g, t, cs, fuel, p, q, hg, ht, hv, hd, _, _⟩, _, _⟩ := h
  obtain rfl := Option.some.inj ((show Tryd.prog.globalNamed "platterhold/hamming.numberPlaces" = some 0 by kernel_rfl).symm.trans hg)
  obtain rfl := Option.some.inj ((show (Tryd.prog.globals[0]?).map (·.type) = some 51 by kernel_rfl).symm.trans ht)
  have c3 : Tryd.prog.cellsOf 3 = 1 := by kernel_rfl
  have c39 : Tryd.prog.cellsOf 51 = 4 := by kernel_rfl
  obtain ⟨xs, m, _, ex, hlen, hl, hel⟩ := DataW.trod_array Tryd.underlying51 hd
  rw [c39] at hlen
  obtain ⟨l⟩ := cs
  match l, hlen with
  | [a, b, c, d], _ =>
    match xs, hl with
    | [x0, x1, x2, x3], _ =>
      have e3 := (DataW.agg.inj (Prod.mk.inj ex).1)
      simp only [List.map_cons, List.map_nil, List.cons.injEq, and_true] at e3
      have k0 := hel 0 (by omega); have k1 := hel 1 (by omega); have k2 := hel 2 (by omega); have k3 := hel 3 (by omega)
      rw [c3] at k0 k1 k2 k3
      obtain ⟨z0, a0, b0, _⟩ := DataW.trod_int Tryd.underlying3 k0
      obtain ⟨z1, a1, b1, _⟩ := DataW.trod_int Tryd.underlying3 k1
      obtain ⟨z2, a2, b2, _⟩ := DataW.trod_int Tryd.underlying3 k2
      obtain ⟨z3, a3, b3, _⟩ := DataW.trod_int Tryd.underlying3 k3
      rw [hv]
      simp_all

theorem tab_of {W : World} (h : laidMet Tryd.prog [("platterhold/hamming.numberPlaces", Rows.laid_platterhold_hamming_numberPlaces)] W) : Tab W := by
  have hc := fun j => World.var?_cell (show Tryd.prog.globalNamed "platterhold/hamming.numberPlaces" = some 0 by kernel_rfl) (tab_var h) j
  exact ⟨by simpa using hc 0, by simpa using hc 1, by simpa using hc 2, by simpa using hc 3⟩

end Go.Proofs.YtgnldgonedpehaaDoor
