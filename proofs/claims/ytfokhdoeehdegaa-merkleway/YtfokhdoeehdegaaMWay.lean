/- This text proves that platterholdlaw1.MerkleWay returns true for any list of numbers and any number, and lets all old memory be; the only condition is that the slice lies there and can be cut. -/
import Derived.Test.YtfokhdoeehdegaaM7
import Derived.Test.YtfokhdoeehdegaaIn
namespace Go.Proofs.Ytfokhdoeehdegaa
open Go.RowKit Go.Deep

set_option maxHeartbeats 4000000 in
set_option maxRecDepth 100000 in
theorem merkleWay_any (w : World) (v : Value) (xs : List Int) (i : Int) (hx : SliceC w v xs) :
    Calls Try.prog 3 #[v, .int .i64 i] w fun e w' => e = .returned (.bool true) ∧ Below w.heap.size w w' := by
  have HX : Hid (SliceC w v xs) := hx
  by_cases hc : chkE xs = 0
  · have HR : Hid (rootV xs = _) := rootV_ok hc
    obtain ⟨a, c, hv, hcc, hs⟩ := hx
    obtain ⟨h1, h16, hvs⟩ := chkE_zero hc
    by_cases hi : 0 ≤ i ∧ i < (xs.length : Int)
    · have HE : Hid (wayE xs i = 0) := by show wayE xs i = 0; unfold wayE; rw [if_pos hc, if_pos hi]
      have HI : Hid (wayI xs i = wayL xs i.toNat) := if_pos HE.out
      obtain ⟨k, rfl⟩ : ∃ k : Nat, i = (k : Int) := ⟨i.toNat, by omega⟩
      have hk : k < xs.length := by omega
      have HU : Hid (upV (nth xs k) (wayI xs k) = .tuple #[.int .i64 (rootL xs), .nilIface]) := by
        show upV (nth xs k) (wayI xs k) = _
        rw [upV_ok (upE_way ((isV_iff _).2 (hvs k hk))), HI.out, Int.toNat_natCast]
        unfold wayL rootL
        rw [way_root hk h16]
      obtain ⟨a', c', b, o, hv', _, ha, hcell⟩ := hs.where
      have HC : Hid (∀ w', Below w.heap.size w w' → w'.cell? ⟨b, o + k, none⟩ = some (.int .i64 (nth xs k))) := fun w' hb => by
        obtain ⟨a2, c2, b2, o2, hv2, _, ha2, hcell2⟩ := (hs.later hb).where
        rw [hv'] at hv2
        cases hv2
        have e1 := ha (by omega)
        have e2 := ha2 (by omega)
        rw [e1] at e2
        cases e2
        exact hcell2 k hk
      have haa := ha (by omega)
      subst haa
      generalize hn : xs.length = n at *
      cases hv
      cases hv'
      have hk' : (k : Int) < (n : Int) := by omega
      have hin : (0 : Int) ≤ (k : Int) ∧ (k : Int) ≤ (n : Int) - 1 := by omega
      have HIN : Hid ((0 : Int) ≤ (k : Int) ∧ (k : Int) ≤ (n : Int) - 1) := hin
      clear hc hcc hs hvs hi ha hcell hin
      go_enter Try.func3, Try.ntmps3
      go_wp2_with fail
      refine (mfact_any _).mono ?_
      rintro e w1 ⟨rfl, hb1⟩
      have HB1 : Hid (Below w.heap.size w w1) := hb1
      clear hb1
      go_wp2_with fail
      refine (root_any _ _ xs (HX.out.later HB1.out)).mono ?_
      rintro e w2 ⟨rfl, hb2⟩
      rw [HR.out]
      have HB2 : Hid (Below w.heap.size w w2) := Below.next HB1.out hb2
      clear hb2
      go_wp2_with fail
      refine (way_any _ _ xs k (HX.out.later HB2.out)).mono ?_
      rintro e w3 ⟨v3, rfl, hown, hb3⟩
      rw [HE.out, errV_zero]
      have HS : Hid (SidesIs w3 v3 (wayI xs k)) := wayI_own hown
      have HB3 : Hid (Below w.heap.size w w3) := Below.next HB2.out hb3
      have hcell := HC.out w3 HB3.out
      clear hb3 hown
      go_wp2_with (go_at_call 10; refine (in_yes _ _ _ _ HIN.out).mono ?_; rintro e w' ⟨rfl, rfl⟩)
      refine (up_any _ _ _ _ HS.out).mono ?_
      rintro e w4 ⟨rfl, hb4⟩
      rw [HU.out]
      have HB4 : Hid (Below w.heap.size w w4) := Below.next HB3.out hb4
      clear hb4
      go_wp2
      go_ret
      exact ⟨rfl, HB4.out⟩
    · have HE : Hid (wayE xs i = 1) := by show wayE xs i = 1; unfold wayE; rw [if_pos hc, if_neg hi]
      generalize hn : xs.length = n at *
      have HIN : Hid (¬ ((0 : Int) ≤ i ∧ i ≤ (n : Int) - 1)) := fun h => hi ⟨h.1, by omega⟩
      cases hv
      clear hc hcc hs hvs hi
      go_enter Try.func3, Try.ntmps3
      go_wp2_with fail
      refine (mfact_any _).mono ?_
      rintro e w1 ⟨rfl, hb1⟩
      have HB1 : Hid (Below w.heap.size w w1) := hb1
      clear hb1
      go_wp2_with fail
      refine (root_any _ _ xs (HX.out.later HB1.out)).mono ?_
      rintro e w2 ⟨rfl, hb2⟩
      rw [HR.out]
      have HB2 : Hid (Below w.heap.size w w2) := Below.next HB1.out hb2
      clear hb2
      go_wp2_with fail
      refine (way_any _ _ xs i (HX.out.later HB2.out)).mono ?_
      rintro e w3 ⟨v3, rfl, hown, hb3⟩
      rw [HE.out, errV_pos (by decide)]
      have HB3 : Hid (Below w.heap.size w w3) := Below.next HB2.out hb3
      clear hb3 hown
      go_wp2_with (go_at_call 10; refine (in_no _ _ _ _ HIN.out).mono ?_; rintro e w' ⟨rfl, rfl⟩)
      go_ret
      exact ⟨rfl, HB3.out⟩
  · have HR : Hid (rootV xs = _) := rootV_no hc
    clear hc hx
    go_enter Try.func3, Try.ntmps3
    go_wp2_with fail
    refine (mfact_any _).mono ?_
    rintro e w1 ⟨rfl, hb1⟩
    have HB1 : Hid (Below w.heap.size w w1) := hb1
    clear hb1
    go_wp2_with fail
    refine (root_any _ _ xs (HX.out.later HB1.out)).mono ?_
    rintro e w2 ⟨rfl, hb2⟩
    rw [HR.out]
    have HB2 : Hid (Below w.heap.size w w2) := Below.next HB1.out hb2
    clear hb2
    go_wp2
    go_ret
    exact ⟨rfl, HB2.out⟩

end Go.Proofs.Ytfokhdoeehdegaa
