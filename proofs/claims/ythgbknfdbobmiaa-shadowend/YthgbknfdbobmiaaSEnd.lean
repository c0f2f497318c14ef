/- This text proves that platterholdlaw3.ShadowEnd returns true: when the table is turned about all that was written lasts; old memory is as it was; the condition is that the steps' rows lie there. -/
import Derived.Test.YthgbknfdbobmiaaS6
namespace Go.Proofs.Ythgbknfdbobmiaa
open Go.RowKit Go.Deep

set_option maxHeartbeats 4000000 in
set_option maxRecDepth 100000 in
theorem shadowEnd_any (w : World) (v : Value) (rs : List (List Int)) (hr : RowsIs w v rs) :
    Calls Try.prog 5 #[v] w fun e w' => e = .returned (.bool true) ∧ Below w.heap.size w w' := by
  have HR : Hid (RowsIs w v rs) := hr
  obtain ⟨a, c, hv, _, _⟩ := hr
  subst hv
  go_enter Try.func5, Try.ntmps5
  go_wp2_with fail
  refine (factS_any w).mono ?_
  rintro e w0 ⟨rfl, hb⟩
  have B0 : Hid (Below w.heap.size w w0) := hb
  have HR0 : Hid (RowsIs w0 _ rs) := HR.out.later hb
  clear hb HR
  go_wp2_with fail
  refine (beside_any w0 _ rs HR0.out).mono ?_
  rintro e w1 ⟨g, C, rfl, hst⟩
  have S1 : Hid (OnS w0 w1 g C) := hst
  clear hst HR0
  go_wp2_with fail
  refine (valuesS_any w1 _ _ _ S1.out.disk).mono ?_
  rintro e w2 ⟨A, B, rfl, hA, _, hb, hA1, _⟩
  have S2 : Hid (OnS w0 w2 g C) := S1.out.later hb
  have V2 : Hid (SeenS w2 g A (vlS C 24)) := SeenS.new S1.out.disk hA hA1
  have HG1 : Hid (GoodS C) := S2.out.disk.good
  clear hA hb hA1 S1
  go_wp2_with fail
  refine (endS_any w2 _ _ _ S2.out.disk).mono ?_
  rintro e w3 ⟨rfl, hst⟩
  have S3 : Hid (OnS w0 w3 g (endS C)) := S2.out.step hst
  have V3 : Hid (SeenS w3 g A (vlS C 24)) := V2.out.step hst
  clear hst S2 V2
  have HE : Hid _ := fun (_ : Nat) => endS_any w3 _ _ _ S3.out.disk
  rw [cnS_end] at HE
  go_wp2_with fail
  refine (HE.out 0).mono ?_
  rintro e w4 ⟨rfl, hst⟩
  have S4 : Hid (OnS w0 w4 g (endS (endS C))) := S3.out.step hst
  have V4 : Hid (SeenS w4 g A (vlS C 24)) := V3.out.step hst
  have HGd : Hid (GoodS C ∧ GoodS (endS C) ∧ GoodS (endS (endS C))) := ⟨HG1.out, S3.out.disk.good, S4.out.disk.good⟩
  clear hst HE
  go_wp2_with fail
  refine (crashS_any w4 _ _ _ S4.out.disk).mono ?_
  rintro e w5 ⟨rfl, hst⟩
  have S5 : Hid (OnS w0 w5 g (crS (endS (endS C)))) := S4.out.step hst
  have V5 : Hid (SeenS w5 g A (vlS C 24)) := V4.out.step hst
  clear hst
  go_wp2_with fail
  refine (valuesS_any w5 _ _ _ S5.out.disk).mono ?_
  rintro e w6 ⟨A', B', rfl, hA, hB, hb, _, _⟩
  have S6 : Hid (OnS w0 w6 g (crS (endS (endS C)))) := S5.out.later hb
  have V6 : Hid (VlI w6 A (vlS C 24)) := V5.out.at'.later hb
  have A6 : Hid (VlI w6 A' (vlS C 24)) := hA.same fun i hi => by
    rw [(HGd.out.2.2.crash_vals i hi).1, (HGd.out.2.1.end_vals i hi).2, (HGd.out.1.end_vals i hi).1]
  have B6 : Hid (VlI w6 B' (vlS C 24)) := hB.same fun i hi => by
    rw [(HGd.out.2.2.crash_vals i hi).2, (HGd.out.2.1.end_vals i hi).2, (HGd.out.1.end_vals i hi).1]
  clear hA hB hb
  go_wp2_with fail
  refine (sameS_any w6 _ _ _ _ A6.out V6.out fun _ _ => rfl).mono ?_
  rintro e w7 ⟨rfl, hb⟩
  have B7 : Hid (Below w6.heap.size w6 w7) := hb
  clear hb
  go_wp2_with fail
  refine (sameS_any w7 _ _ _ _ (B6.out.later B7.out) (V6.out.later B7.out) fun _ _ => rfl).mono ?_
  rintro e w8 ⟨rfl, hb⟩
  have B8 : Hid (Below w.heap.size w w8) := Below.next B0.out (Below.next S6.out.old (Below.next B7.out hb))
  clear hb
  go_wp2
  go_ret
  exact ⟨rfl, B8.out⟩

end Go.Proofs.Ythgbknfdbobmiaa
