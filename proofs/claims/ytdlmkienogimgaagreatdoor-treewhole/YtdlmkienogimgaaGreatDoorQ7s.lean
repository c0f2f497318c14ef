/- This text proves plain facts on texts' sizes, and on a clean path; it speaks of no call; no condition. -/
import Derived.Test.YtdlmkienogimgaaGreatDoorQ6
namespace Go.Proofs.YtdlmkienogimgaaGreatDoor
open Go.RowKit Go.Deep Go.Shelf

theorem size_app (a b : ByteArray) : (a ++ b).size = a.size + b.size := by
  rw [Lib.size_eq, data_app, List.length_append, ← Lib.size_eq, ← Lib.size_eq]
theorem size_one : (⟨#[47]⟩ : ByteArray).size = 1 := rfl
theorem size_bs (l : List UInt8) : (bs l).size = l.length := by rw [Lib.size_eq, data_bs]
theorem cln_none {l : List UInt8} (h : pE l ≠ 0) : cln l = [] := by unfold cln; rw [if_neg h]
theorem cln_some {l : List UInt8} (h : pE l = 0) : cln l = shw (pN l) := by unfold cln; rw [if_pos h]
theorem nms_pN {l : List UInt8} (h : pE l = 0) : nms l = pN l := by unfold nms; rw [if_pos h]

end Go.Proofs.YtdlmkienogimgaaGreatDoor
