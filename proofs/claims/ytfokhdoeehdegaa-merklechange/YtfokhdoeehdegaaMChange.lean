/- This text proves that platterholdlaw1.MerkleChange returns true for any list of numbers and any two numbers, and lets all old memory be; the only condition is that the slice lies there and can be cut. -/
import Derived.Test.YtfokhdoeehdegaaSc
import Derived.Test.YtfokhdoeehdegaaIn
namespace Go.Proofs.Ytfokhdoeehdegaa
open Go.RowKit Go.Deep

theorem chkE_set {xs : List Int} {k : Nat} {v : Int} (h : chkE xs = 0) (hk : k < xs.length) (hv : isV v) : chkE (xs.set k v) = 0 := by
  obtain ⟨h1, h2, h3⟩ := chkE_zero h
  refine chkE_ok (by rw [List.length_set]; omega) (by rw [List.length_set]; exact h2) fun j hj => ?_
  rw [List.length_set] at hj
  rw [nth_set hk]
  split
  · exact hv
  · exact h3 j hj
theorem chkE_set_no {xs : List Int} {k : Nat} {v : Int} (h : chkE xs = 0) (hk : k < xs.length) (hv : ¬ isV v) : chkE (xs.set k v) = 1 := by
  obtain ⟨h1, h2, h3⟩ := chkE_zero h
  refine chkE_range (k := k) (by rw [List.length_set]; omega) (by rw [List.length_set]; exact h2) (by rw [List.length_set]; exact hk) ?_
  rw [nth_set hk, if_pos rfl]
  exact hv

set_option maxHeartbeats 4000000 in
set_option maxRecDepth 100000 in
theorem merkleChange_any (w : World) (v : Value) (xs : List Int) (i x : Int) (hx : SliceC w v xs) :
    Calls Try.prog 4 #[v, .int .i64 i, .int .i64 x] w fun e w' => e = .returned (.bool true) ∧ Below w.heap.size w w' := by
  have HX : Hid (SliceC w v xs) := hx
  by_cases hw : wayE xs i = 0
  · obtain ⟨hc, hi0, hi1⟩ := wayE_zero hw
    obtain ⟨h1, h16, hvs⟩ := chkE_zero hc
    obtain ⟨k, rfl⟩ : ∃ k : Nat, i = (k : Int) := ⟨i.toNat, by omega⟩
    have hk : k < xs.length := by omega
    have HE : Hid (wayE xs k = 0) := hw
    have HI : Hid (wayI xs k = wayL xs k) := by show wayI xs k = wayL xs k; rw [show wayI xs (k : Int) = wayL xs (k : Int).toNat from if_pos hw, Int.toNat_natCast]
    obtain ⟨a, c, hv, _, _⟩ := hx
    have HK : Hid (k < xs.length ∧ xs.length ≤ 256) := ⟨hk, by omega⟩
    cases hvb : vB x with
    | true =>
      have HU : Hid (upV x (wayI xs k) = .tuple #[.int .i64 (rootL (xs.set k x)), .nilIface]) := by
        show upV x (wayI xs k) = _
        rw [upV_ok (upE_way hvb), HI.out]
        unfold wayL rootL
        rw [up_way 16 xs k x hk h16]
      have HR : Hid (rootV (xs.set k x) = _) := rootV_ok (chkE_set hc hk ((isV_iff _).1 hvb))
      generalize hn : xs.length = n at *
      cases hv
      have HIN : Hid ((0 : Int) ≤ (k : Int) ∧ (k : Int) ≤ (n : Int) - 1) := ⟨by omega, by omega⟩
      generalize rootL (xs.set k x) = r at HU HR
      clear hw hc hvs hvb HI
      go_enter Try.func4, Try.ntmps4
      go_wp2_with fail
      refine (mfact_any _).mono ?_
      rintro e w1 ⟨rfl, hb1⟩
      have HB1 : Hid (Below w.heap.size w w1) := hb1
      clear hb1
      go_wp2_with fail
      refine (way_any _ _ xs k (HX.out.later HB1.out)).mono ?_
      rintro e w2 ⟨v2, rfl, hown, hb2⟩
      rw [HE.out, errV_zero]
      have HS : Hid (SidesIs w2 v2 (wayI xs k)) := wayI_own hown
      have HB2 : Hid (Below w.heap.size w w2) := Below.next HB1.out hb2
      clear hb2 hown
      go_wp2_with (go_at_call 10; refine (in_yes _ _ _ _ HIN.out).mono ?_; rintro e w' ⟨rfl, rfl⟩)
      refine (up_any _ _ _ _ HS.out).mono ?_
      rintro e w3 ⟨rfl, hb3⟩
      rw [HU.out]
      have HB3 : Hid (Below w.heap.size w w3) := Below.next HB2.out hb3
      clear hb3
      go_wp2_with fail
      refine (setc_any _ _ xs k x (HX.out.later HB3.out).is (by rw [hn]; exact HK.out.1) (by rw [hn]; exact HK.out.2)).mono ?_
      rintro e w4 ⟨v4, rfl, hs4, hb4⟩
      have HS4 : Hid (SliceC w4 v4 (xs.set k x)) := hs4
      have HB4 : Hid (Below w.heap.size w w4) := Below.next HB3.out hb4
      clear hb4 hs4
      go_wp2_with fail
      refine (root_any _ _ _ HS4.out).mono ?_
      rintro e w5 ⟨rfl, hb5⟩
      rw [HR.out]
      have HB5 : Hid (Below w.heap.size w w5) := Below.next HB4.out hb5
      clear hb5
      go_wp2
      go_ret
      exact ⟨rfl, HB5.out⟩
    | false =>
      have HU : Hid (upV x (wayI xs k) = .tuple #[.int .i64 0, .iface 46 (.int .i64 1)]) := by
        show upV x (wayI xs k) = _
        have h : upE x (wayI xs k) = 1 := upE_v (by have := wayI_len xs k; omega) hvb
        rw [upV_no (by rw [h]; decide), h]; rfl
      have HR : Hid (rootV (xs.set k x) = .tuple #[.int .i64 0, .iface 46 (.int .i64 1)]) := by
        show rootV (xs.set k x) = _
        have h := chkE_set_no hc hk (isV_not hvb)
        rw [rootV_no (by rw [h]; decide), h]; rfl
      generalize hn : xs.length = n at *
      cases hv
      have HIN : Hid ((0 : Int) ≤ (k : Int) ∧ (k : Int) ≤ (n : Int) - 1) := ⟨by omega, by omega⟩
      have HIX : Hid (¬ ((0 : Int) ≤ x ∧ x ≤ 1000)) := isV_not hvb
      clear hw hc hvs hvb HI
      go_enter Try.func4, Try.ntmps4
      go_wp2_with fail
      refine (mfact_any _).mono ?_
      rintro e w1 ⟨rfl, hb1⟩
      have HB1 : Hid (Below w.heap.size w w1) := hb1
      clear hb1
      go_wp2_with fail
      refine (way_any _ _ xs k (HX.out.later HB1.out)).mono ?_
      rintro e w2 ⟨v2, rfl, hown, hb2⟩
      rw [HE.out, errV_zero]
      have HS : Hid (SidesIs w2 v2 (wayI xs k)) := wayI_own hown
      have HB2 : Hid (Below w.heap.size w w2) := Below.next HB1.out hb2
      clear hb2 hown
      go_wp2_with (go_at_call 10; refine (in_yes _ _ _ _ HIN.out).mono ?_; rintro e w' ⟨rfl, rfl⟩)
      refine (up_any _ _ _ _ HS.out).mono ?_
      rintro e w3 ⟨rfl, hb3⟩
      rw [HU.out]
      have HB3 : Hid (Below w.heap.size w w3) := Below.next HB2.out hb3
      clear hb3
      go_wp2_with fail
      refine (setc_any _ _ xs k x (HX.out.later HB3.out).is (by rw [hn]; exact HK.out.1) (by rw [hn]; exact HK.out.2)).mono ?_
      rintro e w4 ⟨v4, rfl, hs4, hb4⟩
      have HS4 : Hid (SliceC w4 v4 (xs.set k x)) := hs4
      have HB4 : Hid (Below w.heap.size w w4) := Below.next HB3.out hb4
      clear hb4 hs4
      go_wp2_with fail
      refine (root_any _ _ _ HS4.out).mono ?_
      rintro e w5 ⟨rfl, hb5⟩
      rw [HR.out]
      have HB5 : Hid (Below w.heap.size w w5) := Below.next HB4.out hb5
      clear hb5
      go_wp2_with (go_at_call 10; refine (in_no _ _ _ _ HIX.out).mono ?_; rintro e w' ⟨rfl, rfl⟩)
      go_ret
      exact ⟨rfl, HB5.out⟩
  · have HE : Hid (errV (wayE xs i) = _) := errV_pos hw
    clear hw hx
    go_enter Try.func4, Try.ntmps4
    go_wp2_with fail
    refine (mfact_any _).mono ?_
    rintro e w1 ⟨rfl, hb1⟩
    have HB1 : Hid (Below w.heap.size w w1) := hb1
    clear hb1
    go_wp2_with fail
    refine (way_any _ _ xs i (HX.out.later HB1.out)).mono ?_
    rintro e w2 ⟨v2, rfl, hown, hb2⟩
    rw [HE.out]
    have HB2 : Hid (Below w.heap.size w w2) := Below.next HB1.out hb2
    clear hb2 hown
    go_wp2
    go_ret
    exact ⟨rfl, HB2.out⟩

end Go.Proofs.Ytfokhdoeehdegaa
