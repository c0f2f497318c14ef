/- This text proves that platterholdtop.TopSums returns true for any list of numbers and any number, and lets all old memory be; the only condition is that the slice lies there and can be cut. -/
import Derived.Test.YtfokhdoeehdegaaM7
import Derived.Test.YtfokhdoeehdegaaHf
import Derived.Test.YtfokhdoeehdegaaTin
namespace Go.Proofs.Ytfokhdoeehdegaa
open Go.RowKit Go.Deep

theorem tfact_a : rootV [0] = .tuple #[.int .i64 3, .nilIface] := by rw [rootV_ok (by decide), show rootL [0] = 3 by decide]

theorem chkE_low {xs : List Int} {k : Nat} (h : chkE xs = 0) (h1 : 1 ≤ k) (h2 : k ≤ xs.length) : chkE (xs.take k) = 0 := by
  obtain ⟨g1, g2, g3⟩ := chkE_zero h
  refine chkE_ok ?_ ?_ (isV_low g3 k)
  · rw [List.length_take]; omega
  · rw [List.length_take]; omega
theorem chkE_high {xs : List Int} {k : Nat} (h : chkE xs = 0) (h2 : k < xs.length) : chkE (xs.drop k) = 0 := by
  obtain ⟨g1, g2, g3⟩ := chkE_zero h
  refine chkE_ok ?_ ?_ (isV_high g3 k)
  · rw [List.length_drop]; omega
  · rw [List.length_drop]; omega

/-- The last side of a way is the other part's sum. -/
theorem way_last_low {xs : List Int} {i : Nat} (h2 : 2 ≤ xs.length) (h16 : xs.length ≤ 16) (hi : i < hf xs.length) : wayL xs i = way 15 (xs.take (hf xs.length)) i ++ [(false, rootL (xs.drop (hf xs.length)))] := by
  obtain ⟨p1, p2, p3, p4, _⟩ := parts (f := 15) (xs := xs) (by omega) (by omega) h16
  unfold wayL rootL
  rw [way_low (f := 15) (by omega) hi, root_more 15 16 (xs.drop (hf xs.length)) p3 p4 (by omega)]
theorem way_last_high {xs : List Int} {i : Nat} (h2 : 2 ≤ xs.length) (h16 : xs.length ≤ 16) (hi : ¬ i < hf xs.length) : wayL xs i = way 15 (xs.drop (hf xs.length)) (i - hf xs.length) ++ [(true, rootL (xs.take (hf xs.length)))] := by
  obtain ⟨p1, p2, p3, p4, _⟩ := parts (f := 15) (xs := xs) (by omega) (by omega) h16
  unfold wayL rootL
  rw [way_high (f := 15) (by omega) hi, root_more 15 16 (xs.take (hf xs.length)) p1 p2 (by omega)]

theorem sAt_last (l : List (Bool × Int)) (x : Bool × Int) : sAt (l ++ [x]) l.length = x := by
  unfold sAt; simp

theorem SliceC.low {w : World} {a : Option Addr} {n c : Nat} {xs : List Int} (h : SliceIs w (.slice a n c) xs) (hc : n ≤ c) {k : Nat} (hk : k ≤ n) : SliceC w (.slice a k c) (xs.take k) := by
  have hl := h.len
  have e : (xs.take k).length = k := by rw [List.length_take]; omega
  exact ⟨a, c, by rw [e], by rw [e]; omega, h.low hk⟩
theorem SliceC.high {w : World} {b o n c : Nat} {xs : List Int} (h : SliceIs w (.slice (some ⟨b, o, none⟩) n c) xs) (hc : n ≤ c) {k : Nat} (hk : k < n) : SliceC w (.slice (some ⟨b, o + k, none⟩) (n - k) (c - k)) (xs.drop k) := by
  have hl := h.len
  have e : (xs.drop k).length = n - k := by rw [List.length_drop]; omega
  exact ⟨_, _, by rw [e], by rw [e]; omega, h.high hk⟩

set_option maxHeartbeats 4000000 in
set_option maxRecDepth 100000 in
theorem topSums_any (w : World) (v : Value) (xs : List Int) (i : Int) (hx : SliceC w v xs) :
    Calls Try.prog 6 #[v, .int .i64 i] w fun e w' => e = .returned (.bool true) ∧ Below w.heap.size w w' := by
  have HX : Hid (SliceC w v xs) := hx
  have HL : Hid _ := lit_c w [0] (by decide)
  by_cases hc : chkE xs = 0
  · have HE : Hid (errV (chkE xs) = .nilIface) := by show errV (chkE xs) = .nilIface; rw [hc]; rfl
    obtain ⟨h1, h16, hvs⟩ := chkE_zero hc
    obtain ⟨a, c, hv, hcc, hs⟩ := hx
    by_cases h2 : xs.length < 2
    · generalize hn : xs.length = n at *
      cases hv
      clear hc hvs hs
      go_enter Try.func6, Try.ntmps6
      go_wp2_with fail
      refine (root_any _ _ [0] HL.out).mono ?_
      rintro e w1 ⟨rfl, hb1⟩
      rw [tfact_a]
      have HB1 : Hid (Below w.heap.size w w1) := Below.next (below_alloc w _) hb1
      clear hb1
      go_wp2_with fail
      refine (check_any _ _ xs (HX.out.later HB1.out).is).mono ?_
      rintro e w' ⟨rfl, rfl⟩
      rw [HE.out]
      go_wp2
      go_ret
      exact ⟨rfl, HB1.out⟩
    · by_cases hi : 0 ≤ i ∧ i < (xs.length : Int)
      · obtain ⟨k, rfl⟩ : ∃ k : Nat, i = (k : Int) := ⟨i.toNat, by omega⟩
        have hk : k < xs.length := by omega
        have hw : wayE xs k = 0 := by unfold wayE; rw [if_pos hc, if_pos hi]
        have HW : Hid (wayE xs k = 0) := hw
        have hI : wayI xs k = wayL xs k := by rw [show wayI xs (k : Int) = wayL xs (k : Int).toNat from if_pos hw, Int.toNat_natCast]
        have hp1 := hf_pos xs.length
        have hp2 := hf_lt (n := xs.length) (by omega)
        have HRA : Hid (rootV (xs.take (hf xs.length)) = _) := rootV_ok (chkE_low hc hp1 (by omega))
        have HRB : Hid (rootV (xs.drop (hf xs.length)) = _) := rootV_ok (chkE_high hc hp2)
        obtain ⟨a', c', b, o, hv', _, ha, _⟩ := hs.where
        have haa := ha (by omega)
        subst haa
        rw [hv'] at hv hs
        cases hv
        have HLO : Hid (∀ w', Below w.heap.size w w' → SliceC w' (.slice (some ⟨b, o, none⟩) (hf xs.length) c) (xs.take (hf xs.length))) := fun w' hb => SliceC.low (hs.later hb) hcc (by omega)
        have HHI : Hid (∀ w', Below w.heap.size w w' → SliceC w' (.slice (some ⟨b, o + hf xs.length, none⟩) (xs.length - hf xs.length) (c - hf xs.length)) (xs.drop (hf xs.length))) := fun w' hb => SliceC.high (hs.later hb) hcc hp2
        obtain ⟨q, x, hq, hlow, hhigh⟩ : ∃ q x, wayI xs k = q ++ [x] ∧ (k < hf xs.length → x = (false, rootL (xs.drop (hf xs.length)))) ∧ (¬ k < hf xs.length → x = (true, rootL (xs.take (hf xs.length)))) := by
          by_cases hlow : k < hf xs.length
          · exact ⟨_, _, hI.trans (way_last_low (by omega) h16 hlow), fun _ => rfl, fun h => absurd hlow h⟩
          · exact ⟨_, _, hI.trans (way_last_high (by omega) h16 hlow), fun h => absurd h hlow, fun _ => rfl⟩
        have HQ : Hid (wayI xs k = q ++ [x]) := hq
        have hq4 : q.length ≤ 4 := by have := wayI_len xs k; rw [hq] at this; simp at this; omega
        generalize rootL (xs.take (hf xs.length)) = ra at HRA hhigh
        generalize rootL (xs.drop (hf xs.length)) = rb at HRB hlow
        generalize hn : xs.length = n at *
        subst hv'
        have HIN : Hid ((0 : Int) ≤ (k : Int) ∧ (k : Int) ≤ (n : Int) - 1) := ⟨by omega, by omega⟩
        have h16' : n ≤ 16 := h16
        have HLOW : Hid (k < hf n → x = (false, rb)) := hlow
        have HHIGH : Hid (¬ k < hf n → x = (true, ra)) := hhigh
        have hq0 : ¬ (((q.length + 1 : Nat) : Int) == 0) = true := by simp; omega
        clear hc hvs hs hi hw hI ha hq hlow hhigh h16
        go_enter Try.func6, Try.ntmps6
        go_wp2_with fail
        refine (root_any _ _ [0] HL.out).mono ?_
        rintro e w1 ⟨rfl, hb1⟩
        rw [tfact_a]
        have HB1 : Hid (Below w.heap.size w w1) := Below.next (below_alloc w _) hb1
        clear hb1
        go_wp2_with fail
        refine (check_any _ _ xs (HX.out.later HB1.out).is).mono ?_
        rintro e w' ⟨rfl, rfl⟩
        rw [HE.out]
        go_wp2_with (go_at_call 14; refine (tin_yes _ _ _ _ HIN.out).mono ?_; rintro e w' ⟨rfl, rfl⟩)
        refine (half_any n _ h16').mono ?_
        rintro e w' ⟨rfl, rfl⟩
        go_wp2_with fail
        refine (way_any _ _ xs k (HX.out.later HB1.out)).mono ?_
        rintro e w3 ⟨v3, rfl, hown, hb3⟩
        rw [HW.out, errV_zero]
        have HB3 : Hid (Below w.heap.size w w3) := Below.next HB1.out hb3
        have hs3 := wayI_own hown
        rw [HQ.out] at hs3
        obtain ⟨a3, c3, b3, o3, hv3, _, ha3, hl3, hc3⟩ := hs3.where
        have hql : (q ++ [x]).length = q.length + 1 := by simp
        rw [hql] at hv3 ha3 hl3 hc3
        have e3 := ha3 (by omega)
        subst e3
        subst hv3
        have h3 := hc3 q.length (by omega)
        rw [sAt_last] at h3
        have HC3 : Hid (∀ w', Below w3.heap.size w3 w' → w'.cell? ⟨b3, o3 + q.length * 2, none⟩ = some (.bool x.1) ∧ w'.cell? ⟨b3, o3 + q.length * 2 + 1, none⟩ = some (.int .i64 x.2)) := fun w' hb =>
          ⟨by rw [hb.cell (p := ⟨b3, o3 + q.length * 2, none⟩) (hl3 (by omega))]; exact h3.1, by rw [hb.cell (p := ⟨b3, o3 + q.length * 2 + 1, none⟩) (hl3 (by omega))]; exact h3.2⟩
        clear hb3 hown hs3 ha3 hl3 hc3 h3 hql
        go_wp2_with fail
        refine (root_any _ _ _ (HLO.out _ HB3.out)).mono ?_
        rintro e w4 ⟨rfl, hb4⟩
        rw [HRA.out]
        have HD4 : Hid (Below w3.heap.size w3 w4) := hb4
        have HB4 : Hid (Below w.heap.size w w4) := Below.next HB3.out hb4
        clear hb4
        go_wp2_with fail
        refine (root_any _ _ _ (HHI.out _ HB4.out)).mono ?_
        rintro e w5 ⟨rfl, hb5⟩
        rw [HRB.out]
        have HD5 : Hid (Below w3.heap.size w3 w5) := Below.next HD4.out hb5
        have HB5 : Hid (Below w.heap.size w w5) := Below.next HB4.out hb5
        obtain ⟨hx1, hx2⟩ := HC3.out w5 HD5.out
        clear hb5 HC3
        obtain ⟨y, z⟩ := x
        simp only at hx1 hx2
        by_cases hlow : k < hf n
        · have hlow' : (k : Int) < (hf n : Int) := by omega
          have e := HLOW.out hlow
          cases e
          clear HLOW HHIGH HQ
          go_wp2
          go_ret
          exact ⟨rfl, HB5.out.alloc HB5.out.size _⟩
        · have hlow' : ¬ (k : Int) < (hf n : Int) := by omega
          have e := HHIGH.out hlow
          cases e
          clear HLOW HHIGH HQ
          go_wp2
          go_ret
          exact ⟨rfl, HB5.out.alloc HB5.out.size _⟩
      · generalize hn : xs.length = n at *
        have HIN : Hid (¬ ((0 : Int) ≤ i ∧ i ≤ (n : Int) - 1)) := fun h => hi ⟨h.1, by omega⟩
        cases hv
        clear hc hvs hs hi
        go_enter Try.func6, Try.ntmps6
        go_wp2_with fail
        refine (root_any _ _ [0] HL.out).mono ?_
        rintro e w1 ⟨rfl, hb1⟩
        rw [tfact_a]
        have HB1 : Hid (Below w.heap.size w w1) := Below.next (below_alloc w _) hb1
        clear hb1
        go_wp2_with fail
        refine (check_any _ _ xs (HX.out.later HB1.out).is).mono ?_
        rintro e w' ⟨rfl, rfl⟩
        rw [HE.out]
        go_wp2_with (go_at_call 14; refine (tin_no _ _ _ _ HIN.out).mono ?_; rintro e w' ⟨rfl, rfl⟩)
        go_ret
        exact ⟨rfl, HB1.out⟩
  · have HE : Hid (errV (chkE xs) = _) := errV_pos hc
    clear hc hx
    go_enter Try.func6, Try.ntmps6
    go_wp2_with fail
    refine (root_any _ _ [0] HL.out).mono ?_
    rintro e w1 ⟨rfl, hb1⟩
    rw [tfact_a]
    have HB1 : Hid (Below w.heap.size w w1) := Below.next (below_alloc w _) hb1
    clear hb1
    go_wp2_with fail
    refine (check_any _ _ xs (HX.out.later HB1.out).is).mono ?_
    rintro e w' ⟨rfl, rfl⟩
    rw [HE.out]
    go_wp2
    go_ret
    exact ⟨rfl, HB1.out⟩

end Go.Proofs.Ytfokhdoeehdegaa
