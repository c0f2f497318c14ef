/- This text proves that platterholdlaw1.GaloisSays returns true for any three numbers and all factors that lie in memory, and writes into nothing that was there; the only condition is that errors.errorType holds what the program lays. -/
import Derived.Test.YtdfapbiilhbokaaDoorRm
import Derived.Test.YtdfapbiilhbokaaDoorIv
namespace Go.Proofs.YtdfapbiilhbokaaDoor
open Go.RowKit Go.Deep

theorem error_nil (w : World) (hL : Laid w) : Calls Tryd.prog 8 #[.nilIface, .int .i64 0] w fun e w' => e = .returned (.bool true) ∧ Below w.heap.size w w' := error_any 0 0 w hL
theorem error_same (n : Nat) (w : World) (hL : Laid w) : Calls Tryd.prog 8 #[errV n, .int .i64 (n : Int)] w fun e w' => e = .returned (.bool true) ∧ Below w.heap.size w w' := by
  have := error_any n n w hL
  rwa [show ((n : Int) == (n : Int)) = true by simp] at this

theorem ne_b {n : Nat} (h : n ≠ 0) : ((n : Int) == 0) = false := by
  have : ¬ (n : Int) = 0 := by omega
  simpa using this

theorem below_drewN (w : World) (B q : Nat) : Below B w (w.drewN q) := ⟨rfl, rfl, rfl, Nat.le_refl _, fun _ _ => rfl⟩

theorem bytesE_good {xs : List Int} (h : bytesE 16 xs = 0) : xs.length ≤ 16 ∧ ∀ i, i < xs.length → isByte (nth xs i) := by
  unfold bytesE at h
  by_cases h1 : (16 : Int) < (xs.length : Int)
  · simp [h1] at h
  · rw [if_neg h1] at h
    cases hb : allB 0 255 xs with
    | false => simp [hb] at h
    | true =>
      refine ⟨by omega, fun i hi => ?_⟩
      unfold allB at hb
      rw [List.all_eq_true] at hb
      have := hb _ (nth_mem hi)
      simpa [isByte] using this

theorem atR_err {xs : List Int} (x : Int) (h : bytesE 16 xs ≠ 0) : atR xs x = .tuple #[.int .i64 0, errV (bytesE 16 xs)] := by
  by_cases h1 : 16 < xs.length
  · rw [atR_full h1]
    have : bytesE 16 xs = 4 := by unfold bytesE; rw [if_pos (by omega)]
    rw [this]; rfl
  · cases hb : allB 0 255 xs with
    | true =>
      exfalso
      apply h
      unfold bytesE
      rw [if_neg (by omega), hb]; rfl
    | false =>
      have e : bytesE 16 xs = 1 := by unfold bytesE; rw [if_neg (by omega), hb]; rfl
      have h2 : ¬ ∀ i, i < xs.length → isByte (nth xs i) := fun k => by
        rw [allB_yes (fun i hi => k i hi)] at hb; simp at hb
      obtain ⟨i, hi⟩ := Classical.not_forall.1 h2
      obtain ⟨hi, hb⟩ := Classical.not_imp.1 hi
      rw [atR_row (by omega) hi hb, e]; rfl

theorem atR_good {xs : List Int} (h : bytesE 16 xs = 0) {x : Nat} (hx : x < 256) : atR xs x = .tuple #[.int .i64 (ev (xs.map Int.toNat) x : Int), .nilIface] := by
  obtain ⟨h1, h2⟩ := bytesE_good h
  have e := evN_all (x := x) (bytes_map h2) hx
  rw [List.length_map] at e
  rw [atR_ok h1 h2 hx, e]

set_option maxHeartbeats 16000000 in
set_option maxRecDepth 100000 in
theorem says_a_good (w : World) (v : Value) (xs : List Int) (x : Int) (y : Int) (n : Int) (hL : Laid w) (hs : SliceIs w v xs) (hx : ¬ isByte x) (hf : bytesE 16 xs = 0) :
    Calls Tryd.prog 3 #[.int .i64 x, .int .i64 y, .int .i64 n, v] w fun e w' => e = .returned (.bool true) ∧ Below w.heap.size w w' := by
  have HL : Hid (Laid w) := hL
  have HS : Hid (SliceIs w v xs) := hs
  have HB0 : Hid (Below w.heap.size w w) := Below.refl _ _
  have HXn : Hid (¬ isByte x) := hx
  clear hx
  have HF : Hid (bytesE 16 xs = 0) := hf
  obtain ⟨c, cap, rfl, hl, hi⟩ := id hs
  clear hi hl hs hL hf
  go_enter Tryd.func3, Tryd.ntmps3
  go_wp2_with fail
  refine (in_no _ _ _ _ HXn.out).mono ?_
  rintro e w' ⟨rfl, rfl⟩
  go_wp2_with fail
  refine (mul_no _ _ _ (fun q => HXn.out q.1)).mono ?_
  rintro e w' ⟨rfl, rfl⟩
  go_wp2_with fail
  refine (error_one _ (HL.out.later HB0.out)).mono ?_
  rintro e w1 ⟨rfl, hb1⟩
  have HB1 : Hid (Below w.heap.size w w1) := HB0.out.trans (hb1.mono HB0.out.size)
  clear hb1
  go_wp2_with fail
  refine (div_no _ _ _ (fun q => HXn.out q.1)).mono ?_
  rintro e w' ⟨rfl, rfl⟩
  go_wp2_with fail
  refine (error_one _ (HL.out.later HB1.out)).mono ?_
  rintro e w2 ⟨rfl, hb2⟩
  have HB2 : Hid (Below w.heap.size w w2) := HB1.out.trans (hb2.mono HB1.out.size)
  clear hb2
  go_wp2_with fail
  refine (in_no _ _ _ _ HXn.out).mono ?_
  rintro e w' ⟨rfl, rfl⟩
  go_wp2_with fail
  refine (pow_no _ _ _ (fun q => HXn.out q.1)).mono ?_
  rintro e w' ⟨rfl, rfl⟩
  go_wp2_with fail
  refine (error_one _ (HL.out.later HB2.out)).mono ?_
  rintro e w3 ⟨rfl, hb3⟩
  have HB3 : Hid (Below w.heap.size w w3) := HB2.out.trans (hb3.mono HB2.out.size)
  clear hb3
  go_wp2_with fail
  refine (bytes_any _ _ xs 16 (HS.out.later HB3.out)).mono ?_
  rintro e w' ⟨rfl, rfl⟩
  rw [HF.out]
  go_wp2_with fail
  refine (in_no _ _ _ _ HXn.out).mono ?_
  rintro e w' ⟨rfl, rfl⟩
  go_wp2_with fail
  refine (at_any _ _ xs x (HS.out.later HB3.out)).mono ?_
  rintro e w' ⟨rfl, rfl⟩
  rw [atR_x (bytesE_good HF.out).1 HXn.out]
  go_wp2_with fail
  refine (error_one _ (HL.out.later HB3.out)).mono ?_
  rintro e w4 ⟨rfl, hb4⟩
  have HB4 : Hid (Below w.heap.size w w4) := HB3.out.trans (hb4.mono HB3.out.size)
  clear hb4
  go_wp2
  go_ret
  exact ⟨rfl, HB4.out⟩

set_option maxHeartbeats 16000000 in
set_option maxRecDepth 100000 in
theorem says_a_bad (w : World) (v : Value) (xs : List Int) (x : Int) (y : Int) (n : Int) (hL : Laid w) (hs : SliceIs w v xs) (hx : ¬ isByte x) (hf : bytesE 16 xs ≠ 0) :
    Calls Tryd.prog 3 #[.int .i64 x, .int .i64 y, .int .i64 n, v] w fun e w' => e = .returned (.bool true) ∧ Below w.heap.size w w' := by
  have HL : Hid (Laid w) := hL
  have HS : Hid (SliceIs w v xs) := hs
  have HB0 : Hid (Below w.heap.size w w) := Below.refl _ _
  have HXn : Hid (¬ isByte x) := hx
  clear hx
  have HF : Hid (bytesE 16 xs ≠ 0) := hf
  have hfz : ((bytesE 16 xs : Int) == 0) = false := ne_b hf
  obtain ⟨c, cap, rfl, hl, hi⟩ := id hs
  clear hi hl hs hL hf
  go_enter Tryd.func3, Tryd.ntmps3
  go_wp2_with fail
  refine (in_no _ _ _ _ HXn.out).mono ?_
  rintro e w' ⟨rfl, rfl⟩
  go_wp2_with fail
  refine (mul_no _ _ _ (fun q => HXn.out q.1)).mono ?_
  rintro e w' ⟨rfl, rfl⟩
  go_wp2_with fail
  refine (error_one _ (HL.out.later HB0.out)).mono ?_
  rintro e w1 ⟨rfl, hb1⟩
  have HB1 : Hid (Below w.heap.size w w1) := HB0.out.trans (hb1.mono HB0.out.size)
  clear hb1
  go_wp2_with fail
  refine (div_no _ _ _ (fun q => HXn.out q.1)).mono ?_
  rintro e w' ⟨rfl, rfl⟩
  go_wp2_with fail
  refine (error_one _ (HL.out.later HB1.out)).mono ?_
  rintro e w2 ⟨rfl, hb2⟩
  have HB2 : Hid (Below w.heap.size w w2) := HB1.out.trans (hb2.mono HB1.out.size)
  clear hb2
  go_wp2_with fail
  refine (in_no _ _ _ _ HXn.out).mono ?_
  rintro e w' ⟨rfl, rfl⟩
  go_wp2_with fail
  refine (pow_no _ _ _ (fun q => HXn.out q.1)).mono ?_
  rintro e w' ⟨rfl, rfl⟩
  go_wp2_with fail
  refine (error_one _ (HL.out.later HB2.out)).mono ?_
  rintro e w3 ⟨rfl, hb3⟩
  have HB3 : Hid (Below w.heap.size w w3) := HB2.out.trans (hb3.mono HB2.out.size)
  clear hb3
  go_wp2_with fail
  refine (bytes_any _ _ xs 16 (HS.out.later HB3.out)).mono ?_
  rintro e w' ⟨rfl, rfl⟩
  go_wp2_with fail
  refine (at_any _ _ xs _ (HS.out.later HB3.out)).mono ?_
  rintro e w' ⟨rfl, rfl⟩
  rw [atR_err _ HF.out]
  go_wp2_with fail
  refine (error_same _ _ (HL.out.later HB3.out)).mono ?_
  rintro e w4 ⟨rfl, hb4⟩
  have HB4 : Hid (Below w.heap.size w w4) := HB3.out.trans (hb4.mono HB3.out.size)
  clear hb4
  go_wp2
  go_ret
  exact ⟨rfl, HB4.out⟩

set_option maxHeartbeats 16000000 in
set_option maxRecDepth 100000 in
theorem says_no_no_good (w : World) (v : Value) (xs : List Int) (a : Nat) (y : Int) (n : Int) (hL : Laid w) (hs : SliceIs w v xs) (ha : a < 256) (hy : ¬ isByte y) (hn : ¬ (0 ≤ n ∧ n ≤ 1000)) (hf : bytesE 16 xs = 0) :
    Calls Tryd.prog 3 #[.int .i64 (a : Int), .int .i64 y, .int .i64 n, v] w fun e w' => e = .returned (.bool true) ∧ Below w.heap.size w w' := by
  have HL : Hid (Laid w) := hL
  have HS : Hid (SliceIs w v xs) := hs
  have HB0 : Hid (Below w.heap.size w w) := Below.refl _ _
  have HYn : Hid (¬ isByte y) := hy
  clear hy
  have HNn : Hid (¬ (0 ≤ n ∧ n ≤ 1000)) := hn
  clear hn
  have HF : Hid (bytesE 16 xs = 0) := hf
  obtain ⟨c, cap, rfl, hl, hi⟩ := id hs
  clear hi hl hs hL hf
  go_enter Tryd.func3, Tryd.ntmps3
  go_wp2_with fail
  refine (in_yes _ _ _ _ (byte_of ha)).mono ?_
  rintro e w' ⟨rfl, rfl⟩
  go_wp2_with fail
  refine (in_no _ _ _ _ HYn.out).mono ?_
  rintro e w' ⟨rfl, rfl⟩
  go_wp2_with fail
  refine (mul_no _ _ _ (fun q => HYn.out q.2)).mono ?_
  rintro e w' ⟨rfl, rfl⟩
  go_wp2_with fail
  refine (error_one _ (HL.out.later HB0.out)).mono ?_
  rintro e w1 ⟨rfl, hb1⟩
  have HB1 : Hid (Below w.heap.size w w1) := HB0.out.trans (hb1.mono HB0.out.size)
  clear hb1
  go_wp2_with fail
  refine (div_no _ _ _ (fun q => HYn.out q.2)).mono ?_
  rintro e w' ⟨rfl, rfl⟩
  go_wp2_with fail
  refine (error_one _ (HL.out.later HB1.out)).mono ?_
  rintro e w2 ⟨rfl, hb2⟩
  have HB2 : Hid (Below w.heap.size w w2) := HB1.out.trans (hb2.mono HB1.out.size)
  clear hb2
  go_wp2_with fail
  refine (in_yes _ _ _ _ (byte_of ha)).mono ?_
  rintro e w' ⟨rfl, rfl⟩
  go_wp2_with fail
  refine (in_no _ _ _ _ HNn.out).mono ?_
  rintro e w' ⟨rfl, rfl⟩
  go_wp2_with fail
  refine (pow_no _ _ _ (fun q => HNn.out q.2)).mono ?_
  rintro e w' ⟨rfl, rfl⟩
  go_wp2_with fail
  refine (error_one _ (HL.out.later HB2.out)).mono ?_
  rintro e w3 ⟨rfl, hb3⟩
  have HB3 : Hid (Below w.heap.size w w3) := HB2.out.trans (hb3.mono HB2.out.size)
  clear hb3
  go_wp2_with fail
  refine (bytes_any _ _ xs 16 (HS.out.later HB3.out)).mono ?_
  rintro e w' ⟨rfl, rfl⟩
  rw [HF.out]
  go_wp2_with fail
  refine (in_yes _ _ _ _ (byte_of ha)).mono ?_
  rintro e w' ⟨rfl, rfl⟩
  go_wp2_with fail
  refine (rat_any _ _ xs a (HS.out.later HB3.out) (bytesE_good HF.out).1 (bytesE_good HF.out).2 ha).mono ?_
  rintro e w' ⟨rfl, q, rfl⟩
  have HB4 : Hid (Below w.heap.size w (w3.drewN q)) := HB3.out.trans (below_drewN _ _ _)
  go_wp2_with fail
  refine (at_any _ _ xs a (HS.out.later HB4.out)).mono ?_
  rintro e w' ⟨rfl, rfl⟩
  rw [atR_good HF.out ha]
  go_wp2_with fail
  refine (error_nil _ (HL.out.later HB4.out)).mono ?_
  rintro e w5 ⟨rfl, hb5⟩
  have HB5 : Hid (Below w.heap.size w w5) := HB4.out.trans (hb5.mono HB4.out.size)
  clear hb5
  go_wp2
  go_ret
  exact ⟨rfl, HB5.out⟩

set_option maxHeartbeats 16000000 in
set_option maxRecDepth 100000 in
theorem says_no_no_bad (w : World) (v : Value) (xs : List Int) (a : Nat) (y : Int) (n : Int) (hL : Laid w) (hs : SliceIs w v xs) (ha : a < 256) (hy : ¬ isByte y) (hn : ¬ (0 ≤ n ∧ n ≤ 1000)) (hf : bytesE 16 xs ≠ 0) :
    Calls Tryd.prog 3 #[.int .i64 (a : Int), .int .i64 y, .int .i64 n, v] w fun e w' => e = .returned (.bool true) ∧ Below w.heap.size w w' := by
  have HL : Hid (Laid w) := hL
  have HS : Hid (SliceIs w v xs) := hs
  have HB0 : Hid (Below w.heap.size w w) := Below.refl _ _
  have HYn : Hid (¬ isByte y) := hy
  clear hy
  have HNn : Hid (¬ (0 ≤ n ∧ n ≤ 1000)) := hn
  clear hn
  have HF : Hid (bytesE 16 xs ≠ 0) := hf
  have hfz : ((bytesE 16 xs : Int) == 0) = false := ne_b hf
  obtain ⟨c, cap, rfl, hl, hi⟩ := id hs
  clear hi hl hs hL hf
  go_enter Tryd.func3, Tryd.ntmps3
  go_wp2_with fail
  refine (in_yes _ _ _ _ (byte_of ha)).mono ?_
  rintro e w' ⟨rfl, rfl⟩
  go_wp2_with fail
  refine (in_no _ _ _ _ HYn.out).mono ?_
  rintro e w' ⟨rfl, rfl⟩
  go_wp2_with fail
  refine (mul_no _ _ _ (fun q => HYn.out q.2)).mono ?_
  rintro e w' ⟨rfl, rfl⟩
  go_wp2_with fail
  refine (error_one _ (HL.out.later HB0.out)).mono ?_
  rintro e w1 ⟨rfl, hb1⟩
  have HB1 : Hid (Below w.heap.size w w1) := HB0.out.trans (hb1.mono HB0.out.size)
  clear hb1
  go_wp2_with fail
  refine (div_no _ _ _ (fun q => HYn.out q.2)).mono ?_
  rintro e w' ⟨rfl, rfl⟩
  go_wp2_with fail
  refine (error_one _ (HL.out.later HB1.out)).mono ?_
  rintro e w2 ⟨rfl, hb2⟩
  have HB2 : Hid (Below w.heap.size w w2) := HB1.out.trans (hb2.mono HB1.out.size)
  clear hb2
  go_wp2_with fail
  refine (in_yes _ _ _ _ (byte_of ha)).mono ?_
  rintro e w' ⟨rfl, rfl⟩
  go_wp2_with fail
  refine (in_no _ _ _ _ HNn.out).mono ?_
  rintro e w' ⟨rfl, rfl⟩
  go_wp2_with fail
  refine (pow_no _ _ _ (fun q => HNn.out q.2)).mono ?_
  rintro e w' ⟨rfl, rfl⟩
  go_wp2_with fail
  refine (error_one _ (HL.out.later HB2.out)).mono ?_
  rintro e w3 ⟨rfl, hb3⟩
  have HB3 : Hid (Below w.heap.size w w3) := HB2.out.trans (hb3.mono HB2.out.size)
  clear hb3
  go_wp2_with fail
  refine (bytes_any _ _ xs 16 (HS.out.later HB3.out)).mono ?_
  rintro e w' ⟨rfl, rfl⟩
  go_wp2_with fail
  refine (at_any _ _ xs _ (HS.out.later HB3.out)).mono ?_
  rintro e w' ⟨rfl, rfl⟩
  rw [atR_err _ HF.out]
  go_wp2_with fail
  refine (error_same _ _ (HL.out.later HB3.out)).mono ?_
  rintro e w4 ⟨rfl, hb4⟩
  have HB4 : Hid (Below w.heap.size w w4) := HB3.out.trans (hb4.mono HB3.out.size)
  clear hb4
  go_wp2
  go_ret
  exact ⟨rfl, HB4.out⟩

set_option maxHeartbeats 16000000 in
set_option maxRecDepth 100000 in
theorem says_no_ok_good (w : World) (v : Value) (xs : List Int) (a : Nat) (y : Int) (k : Nat) (hL : Laid w) (hs : SliceIs w v xs) (ha : a < 256) (hy : ¬ isByte y) (hk : k ≤ 1000) (hf : bytesE 16 xs = 0) :
    Calls Tryd.prog 3 #[.int .i64 (a : Int), .int .i64 y, .int .i64 (k : Int), v] w fun e w' => e = .returned (.bool true) ∧ Below w.heap.size w w' := by
  have HL : Hid (Laid w) := hL
  have HS : Hid (SliceIs w v xs) := hs
  have HB0 : Hid (Below w.heap.size w w) := Below.refl _ _
  have HYn : Hid (¬ isByte y) := hy
  clear hy
  have HK : Hid ((0 : Int) ≤ (k : Int) ∧ (k : Int) ≤ 1000) := ⟨by omega, by omega⟩
  have HF : Hid (bytesE 16 xs = 0) := hf
  obtain ⟨c, cap, rfl, hl, hi⟩ := id hs
  clear hi hl hs hL hf
  go_enter Tryd.func3, Tryd.ntmps3
  go_wp2_with fail
  refine (in_yes _ _ _ _ (byte_of ha)).mono ?_
  rintro e w' ⟨rfl, rfl⟩
  go_wp2_with fail
  refine (in_no _ _ _ _ HYn.out).mono ?_
  rintro e w' ⟨rfl, rfl⟩
  go_wp2_with fail
  refine (mul_no _ _ _ (fun q => HYn.out q.2)).mono ?_
  rintro e w' ⟨rfl, rfl⟩
  go_wp2_with fail
  refine (error_one _ (HL.out.later HB0.out)).mono ?_
  rintro e w1 ⟨rfl, hb1⟩
  have HB1 : Hid (Below w.heap.size w w1) := HB0.out.trans (hb1.mono HB0.out.size)
  clear hb1
  go_wp2_with fail
  refine (div_no _ _ _ (fun q => HYn.out q.2)).mono ?_
  rintro e w' ⟨rfl, rfl⟩
  go_wp2_with fail
  refine (error_one _ (HL.out.later HB1.out)).mono ?_
  rintro e w2 ⟨rfl, hb2⟩
  have HB2 : Hid (Below w.heap.size w w2) := HB1.out.trans (hb2.mono HB1.out.size)
  clear hb2
  go_wp2_with fail
  refine (in_yes _ _ _ _ (byte_of ha)).mono ?_
  rintro e w' ⟨rfl, rfl⟩
  go_wp2_with fail
  refine (in_yes _ _ _ _ HK.out).mono ?_
  rintro e w' ⟨rfl, rfl⟩
  go_wp2_with fail
  refine (rpow_any a k _ ha hk).mono ?_
  rintro e w' ⟨rfl, rfl⟩
  go_wp2_with fail
  refine (pow_ok a k _ ha hk).mono ?_
  rintro e w' ⟨rfl, rfl⟩
  go_wp2_with fail
  refine (error_nil _ (HL.out.later HB2.out)).mono ?_
  rintro e w3 ⟨rfl, hb3⟩
  have HB3 : Hid (Below w.heap.size w w3) := HB2.out.trans (hb3.mono HB2.out.size)
  clear hb3
  go_wp2_with fail
  refine (bytes_any _ _ xs 16 (HS.out.later HB3.out)).mono ?_
  rintro e w' ⟨rfl, rfl⟩
  rw [HF.out]
  go_wp2_with fail
  refine (in_yes _ _ _ _ (byte_of ha)).mono ?_
  rintro e w' ⟨rfl, rfl⟩
  go_wp2_with fail
  refine (rat_any _ _ xs a (HS.out.later HB3.out) (bytesE_good HF.out).1 (bytesE_good HF.out).2 ha).mono ?_
  rintro e w' ⟨rfl, q, rfl⟩
  have HB4 : Hid (Below w.heap.size w (w3.drewN q)) := HB3.out.trans (below_drewN _ _ _)
  go_wp2_with fail
  refine (at_any _ _ xs a (HS.out.later HB4.out)).mono ?_
  rintro e w' ⟨rfl, rfl⟩
  rw [atR_good HF.out ha]
  go_wp2_with fail
  refine (error_nil _ (HL.out.later HB4.out)).mono ?_
  rintro e w5 ⟨rfl, hb5⟩
  have HB5 : Hid (Below w.heap.size w w5) := HB4.out.trans (hb5.mono HB4.out.size)
  clear hb5
  go_wp2
  go_ret
  exact ⟨rfl, HB5.out⟩

set_option maxHeartbeats 16000000 in
set_option maxRecDepth 100000 in
theorem says_no_ok_bad (w : World) (v : Value) (xs : List Int) (a : Nat) (y : Int) (k : Nat) (hL : Laid w) (hs : SliceIs w v xs) (ha : a < 256) (hy : ¬ isByte y) (hk : k ≤ 1000) (hf : bytesE 16 xs ≠ 0) :
    Calls Tryd.prog 3 #[.int .i64 (a : Int), .int .i64 y, .int .i64 (k : Int), v] w fun e w' => e = .returned (.bool true) ∧ Below w.heap.size w w' := by
  have HL : Hid (Laid w) := hL
  have HS : Hid (SliceIs w v xs) := hs
  have HB0 : Hid (Below w.heap.size w w) := Below.refl _ _
  have HYn : Hid (¬ isByte y) := hy
  clear hy
  have HK : Hid ((0 : Int) ≤ (k : Int) ∧ (k : Int) ≤ 1000) := ⟨by omega, by omega⟩
  have HF : Hid (bytesE 16 xs ≠ 0) := hf
  have hfz : ((bytesE 16 xs : Int) == 0) = false := ne_b hf
  obtain ⟨c, cap, rfl, hl, hi⟩ := id hs
  clear hi hl hs hL hf
  go_enter Tryd.func3, Tryd.ntmps3
  go_wp2_with fail
  refine (in_yes _ _ _ _ (byte_of ha)).mono ?_
  rintro e w' ⟨rfl, rfl⟩
  go_wp2_with fail
  refine (in_no _ _ _ _ HYn.out).mono ?_
  rintro e w' ⟨rfl, rfl⟩
  go_wp2_with fail
  refine (mul_no _ _ _ (fun q => HYn.out q.2)).mono ?_
  rintro e w' ⟨rfl, rfl⟩
  go_wp2_with fail
  refine (error_one _ (HL.out.later HB0.out)).mono ?_
  rintro e w1 ⟨rfl, hb1⟩
  have HB1 : Hid (Below w.heap.size w w1) := HB0.out.trans (hb1.mono HB0.out.size)
  clear hb1
  go_wp2_with fail
  refine (div_no _ _ _ (fun q => HYn.out q.2)).mono ?_
  rintro e w' ⟨rfl, rfl⟩
  go_wp2_with fail
  refine (error_one _ (HL.out.later HB1.out)).mono ?_
  rintro e w2 ⟨rfl, hb2⟩
  have HB2 : Hid (Below w.heap.size w w2) := HB1.out.trans (hb2.mono HB1.out.size)
  clear hb2
  go_wp2_with fail
  refine (in_yes _ _ _ _ (byte_of ha)).mono ?_
  rintro e w' ⟨rfl, rfl⟩
  go_wp2_with fail
  refine (in_yes _ _ _ _ HK.out).mono ?_
  rintro e w' ⟨rfl, rfl⟩
  go_wp2_with fail
  refine (rpow_any a k _ ha hk).mono ?_
  rintro e w' ⟨rfl, rfl⟩
  go_wp2_with fail
  refine (pow_ok a k _ ha hk).mono ?_
  rintro e w' ⟨rfl, rfl⟩
  go_wp2_with fail
  refine (error_nil _ (HL.out.later HB2.out)).mono ?_
  rintro e w3 ⟨rfl, hb3⟩
  have HB3 : Hid (Below w.heap.size w w3) := HB2.out.trans (hb3.mono HB2.out.size)
  clear hb3
  go_wp2_with fail
  refine (bytes_any _ _ xs 16 (HS.out.later HB3.out)).mono ?_
  rintro e w' ⟨rfl, rfl⟩
  go_wp2_with fail
  refine (at_any _ _ xs _ (HS.out.later HB3.out)).mono ?_
  rintro e w' ⟨rfl, rfl⟩
  rw [atR_err _ HF.out]
  go_wp2_with fail
  refine (error_same _ _ (HL.out.later HB3.out)).mono ?_
  rintro e w4 ⟨rfl, hb4⟩
  have HB4 : Hid (Below w.heap.size w w4) := HB3.out.trans (hb4.mono HB3.out.size)
  clear hb4
  go_wp2
  go_ret
  exact ⟨rfl, HB4.out⟩

set_option maxHeartbeats 16000000 in
set_option maxRecDepth 100000 in
theorem says_zero_no_good (w : World) (v : Value) (xs : List Int) (a : Nat) (n : Int) (hL : Laid w) (hs : SliceIs w v xs) (ha : a < 256) (hn : ¬ (0 ≤ n ∧ n ≤ 1000)) (hf : bytesE 16 xs = 0) :
    Calls Tryd.prog 3 #[.int .i64 (a : Int), .int .i64 0, .int .i64 n, v] w fun e w' => e = .returned (.bool true) ∧ Below w.heap.size w w' := by
  have HL : Hid (Laid w) := hL
  have HS : Hid (SliceIs w v xs) := hs
  have HB0 : Hid (Below w.heap.size w w) := Below.refl _ _
  have HNn : Hid (¬ (0 ≤ n ∧ n ≤ 1000)) := hn
  clear hn
  have HF : Hid (bytesE 16 xs = 0) := hf
  obtain ⟨c, cap, rfl, hl, hi⟩ := id hs
  clear hi hl hs hL hf
  go_enter Tryd.func3, Tryd.ntmps3
  go_wp2_with fail
  refine (in_yes _ _ _ _ (byte_of ha)).mono ?_
  rintro e w' ⟨rfl, rfl⟩
  go_wp2_with fail
  refine (in_yes _ _ _ _ (by omega)).mono ?_
  rintro e w' ⟨rfl, rfl⟩
  go_wp2_with fail
  refine (rmul_any a 0 _ ha (by omega)).mono ?_
  rintro e w' ⟨rfl, rfl⟩
  go_wp2_with fail
  refine (mul_ok a 0 _ ha (by omega)).mono ?_
  rintro e w' ⟨rfl, rfl⟩
  go_wp2_with fail
  refine (error_nil _ (HL.out.later HB0.out)).mono ?_
  rintro e w1 ⟨rfl, hb1⟩
  have HB1 : Hid (Below w.heap.size w w1) := HB0.out.trans (hb1.mono HB0.out.size)
  clear hb1
  go_wp2_with fail
  refine (div_none a _ ha).mono ?_
  rintro e w' ⟨rfl, rfl⟩
  go_wp2_with fail
  refine (error_five _ (HL.out.later HB1.out)).mono ?_
  rintro e w2 ⟨rfl, hb2⟩
  have HB2 : Hid (Below w.heap.size w w2) := HB1.out.trans (hb2.mono HB1.out.size)
  clear hb2
  go_wp2_with fail
  refine (in_yes _ _ _ _ (byte_of ha)).mono ?_
  rintro e w' ⟨rfl, rfl⟩
  go_wp2_with fail
  refine (in_no _ _ _ _ HNn.out).mono ?_
  rintro e w' ⟨rfl, rfl⟩
  go_wp2_with fail
  refine (pow_no _ _ _ (fun q => HNn.out q.2)).mono ?_
  rintro e w' ⟨rfl, rfl⟩
  go_wp2_with fail
  refine (error_one _ (HL.out.later HB2.out)).mono ?_
  rintro e w3 ⟨rfl, hb3⟩
  have HB3 : Hid (Below w.heap.size w w3) := HB2.out.trans (hb3.mono HB2.out.size)
  clear hb3
  go_wp2_with fail
  refine (bytes_any _ _ xs 16 (HS.out.later HB3.out)).mono ?_
  rintro e w' ⟨rfl, rfl⟩
  rw [HF.out]
  go_wp2_with fail
  refine (in_yes _ _ _ _ (byte_of ha)).mono ?_
  rintro e w' ⟨rfl, rfl⟩
  go_wp2_with fail
  refine (rat_any _ _ xs a (HS.out.later HB3.out) (bytesE_good HF.out).1 (bytesE_good HF.out).2 ha).mono ?_
  rintro e w' ⟨rfl, q, rfl⟩
  have HB4 : Hid (Below w.heap.size w (w3.drewN q)) := HB3.out.trans (below_drewN _ _ _)
  go_wp2_with fail
  refine (at_any _ _ xs a (HS.out.later HB4.out)).mono ?_
  rintro e w' ⟨rfl, rfl⟩
  rw [atR_good HF.out ha]
  go_wp2_with fail
  refine (error_nil _ (HL.out.later HB4.out)).mono ?_
  rintro e w5 ⟨rfl, hb5⟩
  have HB5 : Hid (Below w.heap.size w w5) := HB4.out.trans (hb5.mono HB4.out.size)
  clear hb5
  go_wp2
  go_ret
  exact ⟨rfl, HB5.out⟩

set_option maxHeartbeats 16000000 in
set_option maxRecDepth 100000 in
theorem says_zero_no_bad (w : World) (v : Value) (xs : List Int) (a : Nat) (n : Int) (hL : Laid w) (hs : SliceIs w v xs) (ha : a < 256) (hn : ¬ (0 ≤ n ∧ n ≤ 1000)) (hf : bytesE 16 xs ≠ 0) :
    Calls Tryd.prog 3 #[.int .i64 (a : Int), .int .i64 0, .int .i64 n, v] w fun e w' => e = .returned (.bool true) ∧ Below w.heap.size w w' := by
  have HL : Hid (Laid w) := hL
  have HS : Hid (SliceIs w v xs) := hs
  have HB0 : Hid (Below w.heap.size w w) := Below.refl _ _
  have HNn : Hid (¬ (0 ≤ n ∧ n ≤ 1000)) := hn
  clear hn
  have HF : Hid (bytesE 16 xs ≠ 0) := hf
  have hfz : ((bytesE 16 xs : Int) == 0) = false := ne_b hf
  obtain ⟨c, cap, rfl, hl, hi⟩ := id hs
  clear hi hl hs hL hf
  go_enter Tryd.func3, Tryd.ntmps3
  go_wp2_with fail
  refine (in_yes _ _ _ _ (byte_of ha)).mono ?_
  rintro e w' ⟨rfl, rfl⟩
  go_wp2_with fail
  refine (in_yes _ _ _ _ (by omega)).mono ?_
  rintro e w' ⟨rfl, rfl⟩
  go_wp2_with fail
  refine (rmul_any a 0 _ ha (by omega)).mono ?_
  rintro e w' ⟨rfl, rfl⟩
  go_wp2_with fail
  refine (mul_ok a 0 _ ha (by omega)).mono ?_
  rintro e w' ⟨rfl, rfl⟩
  go_wp2_with fail
  refine (error_nil _ (HL.out.later HB0.out)).mono ?_
  rintro e w1 ⟨rfl, hb1⟩
  have HB1 : Hid (Below w.heap.size w w1) := HB0.out.trans (hb1.mono HB0.out.size)
  clear hb1
  go_wp2_with fail
  refine (div_none a _ ha).mono ?_
  rintro e w' ⟨rfl, rfl⟩
  go_wp2_with fail
  refine (error_five _ (HL.out.later HB1.out)).mono ?_
  rintro e w2 ⟨rfl, hb2⟩
  have HB2 : Hid (Below w.heap.size w w2) := HB1.out.trans (hb2.mono HB1.out.size)
  clear hb2
  go_wp2_with fail
  refine (in_yes _ _ _ _ (byte_of ha)).mono ?_
  rintro e w' ⟨rfl, rfl⟩
  go_wp2_with fail
  refine (in_no _ _ _ _ HNn.out).mono ?_
  rintro e w' ⟨rfl, rfl⟩
  go_wp2_with fail
  refine (pow_no _ _ _ (fun q => HNn.out q.2)).mono ?_
  rintro e w' ⟨rfl, rfl⟩
  go_wp2_with fail
  refine (error_one _ (HL.out.later HB2.out)).mono ?_
  rintro e w3 ⟨rfl, hb3⟩
  have HB3 : Hid (Below w.heap.size w w3) := HB2.out.trans (hb3.mono HB2.out.size)
  clear hb3
  go_wp2_with fail
  refine (bytes_any _ _ xs 16 (HS.out.later HB3.out)).mono ?_
  rintro e w' ⟨rfl, rfl⟩
  go_wp2_with fail
  refine (at_any _ _ xs _ (HS.out.later HB3.out)).mono ?_
  rintro e w' ⟨rfl, rfl⟩
  rw [atR_err _ HF.out]
  go_wp2_with fail
  refine (error_same _ _ (HL.out.later HB3.out)).mono ?_
  rintro e w4 ⟨rfl, hb4⟩
  have HB4 : Hid (Below w.heap.size w w4) := HB3.out.trans (hb4.mono HB3.out.size)
  clear hb4
  go_wp2
  go_ret
  exact ⟨rfl, HB4.out⟩

set_option maxHeartbeats 16000000 in
set_option maxRecDepth 100000 in
theorem says_zero_ok_good (w : World) (v : Value) (xs : List Int) (a : Nat) (k : Nat) (hL : Laid w) (hs : SliceIs w v xs) (ha : a < 256) (hk : k ≤ 1000) (hf : bytesE 16 xs = 0) :
    Calls Tryd.prog 3 #[.int .i64 (a : Int), .int .i64 0, .int .i64 (k : Int), v] w fun e w' => e = .returned (.bool true) ∧ Below w.heap.size w w' := by
  have HL : Hid (Laid w) := hL
  have HS : Hid (SliceIs w v xs) := hs
  have HB0 : Hid (Below w.heap.size w w) := Below.refl _ _
  have HK : Hid ((0 : Int) ≤ (k : Int) ∧ (k : Int) ≤ 1000) := ⟨by omega, by omega⟩
  have HF : Hid (bytesE 16 xs = 0) := hf
  obtain ⟨c, cap, rfl, hl, hi⟩ := id hs
  clear hi hl hs hL hf
  go_enter Tryd.func3, Tryd.ntmps3
  go_wp2_with fail
  refine (in_yes _ _ _ _ (byte_of ha)).mono ?_
  rintro e w' ⟨rfl, rfl⟩
  go_wp2_with fail
  refine (in_yes _ _ _ _ (by omega)).mono ?_
  rintro e w' ⟨rfl, rfl⟩
  go_wp2_with fail
  refine (rmul_any a 0 _ ha (by omega)).mono ?_
  rintro e w' ⟨rfl, rfl⟩
  go_wp2_with fail
  refine (mul_ok a 0 _ ha (by omega)).mono ?_
  rintro e w' ⟨rfl, rfl⟩
  go_wp2_with fail
  refine (error_nil _ (HL.out.later HB0.out)).mono ?_
  rintro e w1 ⟨rfl, hb1⟩
  have HB1 : Hid (Below w.heap.size w w1) := HB0.out.trans (hb1.mono HB0.out.size)
  clear hb1
  go_wp2_with fail
  refine (div_none a _ ha).mono ?_
  rintro e w' ⟨rfl, rfl⟩
  go_wp2_with fail
  refine (error_five _ (HL.out.later HB1.out)).mono ?_
  rintro e w2 ⟨rfl, hb2⟩
  have HB2 : Hid (Below w.heap.size w w2) := HB1.out.trans (hb2.mono HB1.out.size)
  clear hb2
  go_wp2_with fail
  refine (in_yes _ _ _ _ (byte_of ha)).mono ?_
  rintro e w' ⟨rfl, rfl⟩
  go_wp2_with fail
  refine (in_yes _ _ _ _ HK.out).mono ?_
  rintro e w' ⟨rfl, rfl⟩
  go_wp2_with fail
  refine (rpow_any a k _ ha hk).mono ?_
  rintro e w' ⟨rfl, rfl⟩
  go_wp2_with fail
  refine (pow_ok a k _ ha hk).mono ?_
  rintro e w' ⟨rfl, rfl⟩
  go_wp2_with fail
  refine (error_nil _ (HL.out.later HB2.out)).mono ?_
  rintro e w3 ⟨rfl, hb3⟩
  have HB3 : Hid (Below w.heap.size w w3) := HB2.out.trans (hb3.mono HB2.out.size)
  clear hb3
  go_wp2_with fail
  refine (bytes_any _ _ xs 16 (HS.out.later HB3.out)).mono ?_
  rintro e w' ⟨rfl, rfl⟩
  rw [HF.out]
  go_wp2_with fail
  refine (in_yes _ _ _ _ (byte_of ha)).mono ?_
  rintro e w' ⟨rfl, rfl⟩
  go_wp2_with fail
  refine (rat_any _ _ xs a (HS.out.later HB3.out) (bytesE_good HF.out).1 (bytesE_good HF.out).2 ha).mono ?_
  rintro e w' ⟨rfl, q, rfl⟩
  have HB4 : Hid (Below w.heap.size w (w3.drewN q)) := HB3.out.trans (below_drewN _ _ _)
  go_wp2_with fail
  refine (at_any _ _ xs a (HS.out.later HB4.out)).mono ?_
  rintro e w' ⟨rfl, rfl⟩
  rw [atR_good HF.out ha]
  go_wp2_with fail
  refine (error_nil _ (HL.out.later HB4.out)).mono ?_
  rintro e w5 ⟨rfl, hb5⟩
  have HB5 : Hid (Below w.heap.size w w5) := HB4.out.trans (hb5.mono HB4.out.size)
  clear hb5
  go_wp2
  go_ret
  exact ⟨rfl, HB5.out⟩

set_option maxHeartbeats 16000000 in
set_option maxRecDepth 100000 in
theorem says_zero_ok_bad (w : World) (v : Value) (xs : List Int) (a : Nat) (k : Nat) (hL : Laid w) (hs : SliceIs w v xs) (ha : a < 256) (hk : k ≤ 1000) (hf : bytesE 16 xs ≠ 0) :
    Calls Tryd.prog 3 #[.int .i64 (a : Int), .int .i64 0, .int .i64 (k : Int), v] w fun e w' => e = .returned (.bool true) ∧ Below w.heap.size w w' := by
  have HL : Hid (Laid w) := hL
  have HS : Hid (SliceIs w v xs) := hs
  have HB0 : Hid (Below w.heap.size w w) := Below.refl _ _
  have HK : Hid ((0 : Int) ≤ (k : Int) ∧ (k : Int) ≤ 1000) := ⟨by omega, by omega⟩
  have HF : Hid (bytesE 16 xs ≠ 0) := hf
  have hfz : ((bytesE 16 xs : Int) == 0) = false := ne_b hf
  obtain ⟨c, cap, rfl, hl, hi⟩ := id hs
  clear hi hl hs hL hf
  go_enter Tryd.func3, Tryd.ntmps3
  go_wp2_with fail
  refine (in_yes _ _ _ _ (byte_of ha)).mono ?_
  rintro e w' ⟨rfl, rfl⟩
  go_wp2_with fail
  refine (in_yes _ _ _ _ (by omega)).mono ?_
  rintro e w' ⟨rfl, rfl⟩
  go_wp2_with fail
  refine (rmul_any a 0 _ ha (by omega)).mono ?_
  rintro e w' ⟨rfl, rfl⟩
  go_wp2_with fail
  refine (mul_ok a 0 _ ha (by omega)).mono ?_
  rintro e w' ⟨rfl, rfl⟩
  go_wp2_with fail
  refine (error_nil _ (HL.out.later HB0.out)).mono ?_
  rintro e w1 ⟨rfl, hb1⟩
  have HB1 : Hid (Below w.heap.size w w1) := HB0.out.trans (hb1.mono HB0.out.size)
  clear hb1
  go_wp2_with fail
  refine (div_none a _ ha).mono ?_
  rintro e w' ⟨rfl, rfl⟩
  go_wp2_with fail
  refine (error_five _ (HL.out.later HB1.out)).mono ?_
  rintro e w2 ⟨rfl, hb2⟩
  have HB2 : Hid (Below w.heap.size w w2) := HB1.out.trans (hb2.mono HB1.out.size)
  clear hb2
  go_wp2_with fail
  refine (in_yes _ _ _ _ (byte_of ha)).mono ?_
  rintro e w' ⟨rfl, rfl⟩
  go_wp2_with fail
  refine (in_yes _ _ _ _ HK.out).mono ?_
  rintro e w' ⟨rfl, rfl⟩
  go_wp2_with fail
  refine (rpow_any a k _ ha hk).mono ?_
  rintro e w' ⟨rfl, rfl⟩
  go_wp2_with fail
  refine (pow_ok a k _ ha hk).mono ?_
  rintro e w' ⟨rfl, rfl⟩
  go_wp2_with fail
  refine (error_nil _ (HL.out.later HB2.out)).mono ?_
  rintro e w3 ⟨rfl, hb3⟩
  have HB3 : Hid (Below w.heap.size w w3) := HB2.out.trans (hb3.mono HB2.out.size)
  clear hb3
  go_wp2_with fail
  refine (bytes_any _ _ xs 16 (HS.out.later HB3.out)).mono ?_
  rintro e w' ⟨rfl, rfl⟩
  go_wp2_with fail
  refine (at_any _ _ xs _ (HS.out.later HB3.out)).mono ?_
  rintro e w' ⟨rfl, rfl⟩
  rw [atR_err _ HF.out]
  go_wp2_with fail
  refine (error_same _ _ (HL.out.later HB3.out)).mono ?_
  rintro e w4 ⟨rfl, hb4⟩
  have HB4 : Hid (Below w.heap.size w w4) := HB3.out.trans (hb4.mono HB3.out.size)
  clear hb4
  go_wp2
  go_ret
  exact ⟨rfl, HB4.out⟩

set_option maxHeartbeats 16000000 in
set_option maxRecDepth 100000 in
theorem says_ok_no_good (w : World) (v : Value) (xs : List Int) (a : Nat) (b : Nat) (n : Int) (hL : Laid w) (hs : SliceIs w v xs) (ha : a < 256) (hb : b < 256) (h0 : b ≠ 0) (hn : ¬ (0 ≤ n ∧ n ≤ 1000)) (hf : bytesE 16 xs = 0) :
    Calls Tryd.prog 3 #[.int .i64 (a : Int), .int .i64 (b : Int), .int .i64 n, v] w fun e w' => e = .returned (.bool true) ∧ Below w.heap.size w w' := by
  have HL : Hid (Laid w) := hL
  have HS : Hid (SliceIs w v xs) := hs
  have HB0 : Hid (Below w.heap.size w w) := Below.refl _ _
  have hbn : ((b : Int) == 0) = false := by simpa using h0
  have HNn : Hid (¬ (0 ≤ n ∧ n ≤ 1000)) := hn
  clear hn
  have HF : Hid (bytesE 16 xs = 0) := hf
  obtain ⟨c, cap, rfl, hl, hi⟩ := id hs
  clear hi hl hs hL hf
  go_enter Tryd.func3, Tryd.ntmps3
  go_wp2_with fail
  refine (in_yes _ _ _ _ (byte_of ha)).mono ?_
  rintro e w' ⟨rfl, rfl⟩
  go_wp2_with fail
  refine (in_yes _ _ _ _ (byte_of hb)).mono ?_
  rintro e w' ⟨rfl, rfl⟩
  go_wp2_with fail
  refine (rmul_any a b _ ha hb).mono ?_
  rintro e w' ⟨rfl, rfl⟩
  go_wp2_with fail
  refine (mul_ok a b _ ha hb).mono ?_
  rintro e w' ⟨rfl, rfl⟩
  go_wp2_with fail
  refine (error_nil _ (HL.out.later HB0.out)).mono ?_
  rintro e w1 ⟨rfl, hb1⟩
  have HB1 : Hid (Below w.heap.size w w1) := HB0.out.trans (hb1.mono HB0.out.size)
  clear hb1
  go_wp2_with fail
  refine (rdiv_any a b _ ha hb h0).mono ?_
  rintro e w' ⟨rfl, rfl⟩
  go_wp2_with fail
  refine (div_ok a b _ ha hb h0).mono ?_
  rintro e w' ⟨rfl, rfl⟩
  go_wp2_with fail
  refine (error_nil _ (HL.out.later HB1.out)).mono ?_
  rintro e w2 ⟨rfl, hb2⟩
  have HB2 : Hid (Below w.heap.size w w2) := HB1.out.trans (hb2.mono HB1.out.size)
  clear hb2
  go_wp2_with fail
  refine (in_yes _ _ _ _ (byte_of ha)).mono ?_
  rintro e w' ⟨rfl, rfl⟩
  go_wp2_with fail
  refine (in_no _ _ _ _ HNn.out).mono ?_
  rintro e w' ⟨rfl, rfl⟩
  go_wp2_with fail
  refine (pow_no _ _ _ (fun q => HNn.out q.2)).mono ?_
  rintro e w' ⟨rfl, rfl⟩
  go_wp2_with fail
  refine (error_one _ (HL.out.later HB2.out)).mono ?_
  rintro e w3 ⟨rfl, hb3⟩
  have HB3 : Hid (Below w.heap.size w w3) := HB2.out.trans (hb3.mono HB2.out.size)
  clear hb3
  go_wp2_with fail
  refine (bytes_any _ _ xs 16 (HS.out.later HB3.out)).mono ?_
  rintro e w' ⟨rfl, rfl⟩
  rw [HF.out]
  go_wp2_with fail
  refine (in_yes _ _ _ _ (byte_of ha)).mono ?_
  rintro e w' ⟨rfl, rfl⟩
  go_wp2_with fail
  refine (rat_any _ _ xs a (HS.out.later HB3.out) (bytesE_good HF.out).1 (bytesE_good HF.out).2 ha).mono ?_
  rintro e w' ⟨rfl, q, rfl⟩
  have HB4 : Hid (Below w.heap.size w (w3.drewN q)) := HB3.out.trans (below_drewN _ _ _)
  go_wp2_with fail
  refine (at_any _ _ xs a (HS.out.later HB4.out)).mono ?_
  rintro e w' ⟨rfl, rfl⟩
  rw [atR_good HF.out ha]
  go_wp2_with fail
  refine (error_nil _ (HL.out.later HB4.out)).mono ?_
  rintro e w5 ⟨rfl, hb5⟩
  have HB5 : Hid (Below w.heap.size w w5) := HB4.out.trans (hb5.mono HB4.out.size)
  clear hb5
  go_wp2
  go_ret
  exact ⟨rfl, HB5.out⟩

set_option maxHeartbeats 16000000 in
set_option maxRecDepth 100000 in
theorem says_ok_no_bad (w : World) (v : Value) (xs : List Int) (a : Nat) (b : Nat) (n : Int) (hL : Laid w) (hs : SliceIs w v xs) (ha : a < 256) (hb : b < 256) (h0 : b ≠ 0) (hn : ¬ (0 ≤ n ∧ n ≤ 1000)) (hf : bytesE 16 xs ≠ 0) :
    Calls Tryd.prog 3 #[.int .i64 (a : Int), .int .i64 (b : Int), .int .i64 n, v] w fun e w' => e = .returned (.bool true) ∧ Below w.heap.size w w' := by
  have HL : Hid (Laid w) := hL
  have HS : Hid (SliceIs w v xs) := hs
  have HB0 : Hid (Below w.heap.size w w) := Below.refl _ _
  have hbn : ((b : Int) == 0) = false := by simpa using h0
  have HNn : Hid (¬ (0 ≤ n ∧ n ≤ 1000)) := hn
  clear hn
  have HF : Hid (bytesE 16 xs ≠ 0) := hf
  have hfz : ((bytesE 16 xs : Int) == 0) = false := ne_b hf
  obtain ⟨c, cap, rfl, hl, hi⟩ := id hs
  clear hi hl hs hL hf
  go_enter Tryd.func3, Tryd.ntmps3
  go_wp2_with fail
  refine (in_yes _ _ _ _ (byte_of ha)).mono ?_
  rintro e w' ⟨rfl, rfl⟩
  go_wp2_with fail
  refine (in_yes _ _ _ _ (byte_of hb)).mono ?_
  rintro e w' ⟨rfl, rfl⟩
  go_wp2_with fail
  refine (rmul_any a b _ ha hb).mono ?_
  rintro e w' ⟨rfl, rfl⟩
  go_wp2_with fail
  refine (mul_ok a b _ ha hb).mono ?_
  rintro e w' ⟨rfl, rfl⟩
  go_wp2_with fail
  refine (error_nil _ (HL.out.later HB0.out)).mono ?_
  rintro e w1 ⟨rfl, hb1⟩
  have HB1 : Hid (Below w.heap.size w w1) := HB0.out.trans (hb1.mono HB0.out.size)
  clear hb1
  go_wp2_with fail
  refine (rdiv_any a b _ ha hb h0).mono ?_
  rintro e w' ⟨rfl, rfl⟩
  go_wp2_with fail
  refine (div_ok a b _ ha hb h0).mono ?_
  rintro e w' ⟨rfl, rfl⟩
  go_wp2_with fail
  refine (error_nil _ (HL.out.later HB1.out)).mono ?_
  rintro e w2 ⟨rfl, hb2⟩
  have HB2 : Hid (Below w.heap.size w w2) := HB1.out.trans (hb2.mono HB1.out.size)
  clear hb2
  go_wp2_with fail
  refine (in_yes _ _ _ _ (byte_of ha)).mono ?_
  rintro e w' ⟨rfl, rfl⟩
  go_wp2_with fail
  refine (in_no _ _ _ _ HNn.out).mono ?_
  rintro e w' ⟨rfl, rfl⟩
  go_wp2_with fail
  refine (pow_no _ _ _ (fun q => HNn.out q.2)).mono ?_
  rintro e w' ⟨rfl, rfl⟩
  go_wp2_with fail
  refine (error_one _ (HL.out.later HB2.out)).mono ?_
  rintro e w3 ⟨rfl, hb3⟩
  have HB3 : Hid (Below w.heap.size w w3) := HB2.out.trans (hb3.mono HB2.out.size)
  clear hb3
  go_wp2_with fail
  refine (bytes_any _ _ xs 16 (HS.out.later HB3.out)).mono ?_
  rintro e w' ⟨rfl, rfl⟩
  go_wp2_with fail
  refine (at_any _ _ xs _ (HS.out.later HB3.out)).mono ?_
  rintro e w' ⟨rfl, rfl⟩
  rw [atR_err _ HF.out]
  go_wp2_with fail
  refine (error_same _ _ (HL.out.later HB3.out)).mono ?_
  rintro e w4 ⟨rfl, hb4⟩
  have HB4 : Hid (Below w.heap.size w w4) := HB3.out.trans (hb4.mono HB3.out.size)
  clear hb4
  go_wp2
  go_ret
  exact ⟨rfl, HB4.out⟩

set_option maxHeartbeats 16000000 in
set_option maxRecDepth 100000 in
theorem says_ok_ok_good (w : World) (v : Value) (xs : List Int) (a : Nat) (b : Nat) (k : Nat) (hL : Laid w) (hs : SliceIs w v xs) (ha : a < 256) (hb : b < 256) (h0 : b ≠ 0) (hk : k ≤ 1000) (hf : bytesE 16 xs = 0) :
    Calls Tryd.prog 3 #[.int .i64 (a : Int), .int .i64 (b : Int), .int .i64 (k : Int), v] w fun e w' => e = .returned (.bool true) ∧ Below w.heap.size w w' := by
  have HL : Hid (Laid w) := hL
  have HS : Hid (SliceIs w v xs) := hs
  have HB0 : Hid (Below w.heap.size w w) := Below.refl _ _
  have hbn : ((b : Int) == 0) = false := by simpa using h0
  have HK : Hid ((0 : Int) ≤ (k : Int) ∧ (k : Int) ≤ 1000) := ⟨by omega, by omega⟩
  have HF : Hid (bytesE 16 xs = 0) := hf
  obtain ⟨c, cap, rfl, hl, hi⟩ := id hs
  clear hi hl hs hL hf
  go_enter Tryd.func3, Tryd.ntmps3
  go_wp2_with fail
  refine (in_yes _ _ _ _ (byte_of ha)).mono ?_
  rintro e w' ⟨rfl, rfl⟩
  go_wp2_with fail
  refine (in_yes _ _ _ _ (byte_of hb)).mono ?_
  rintro e w' ⟨rfl, rfl⟩
  go_wp2_with fail
  refine (rmul_any a b _ ha hb).mono ?_
  rintro e w' ⟨rfl, rfl⟩
  go_wp2_with fail
  refine (mul_ok a b _ ha hb).mono ?_
  rintro e w' ⟨rfl, rfl⟩
  go_wp2_with fail
  refine (error_nil _ (HL.out.later HB0.out)).mono ?_
  rintro e w1 ⟨rfl, hb1⟩
  have HB1 : Hid (Below w.heap.size w w1) := HB0.out.trans (hb1.mono HB0.out.size)
  clear hb1
  go_wp2_with fail
  refine (rdiv_any a b _ ha hb h0).mono ?_
  rintro e w' ⟨rfl, rfl⟩
  go_wp2_with fail
  refine (div_ok a b _ ha hb h0).mono ?_
  rintro e w' ⟨rfl, rfl⟩
  go_wp2_with fail
  refine (error_nil _ (HL.out.later HB1.out)).mono ?_
  rintro e w2 ⟨rfl, hb2⟩
  have HB2 : Hid (Below w.heap.size w w2) := HB1.out.trans (hb2.mono HB1.out.size)
  clear hb2
  go_wp2_with fail
  refine (in_yes _ _ _ _ (byte_of ha)).mono ?_
  rintro e w' ⟨rfl, rfl⟩
  go_wp2_with fail
  refine (in_yes _ _ _ _ HK.out).mono ?_
  rintro e w' ⟨rfl, rfl⟩
  go_wp2_with fail
  refine (rpow_any a k _ ha hk).mono ?_
  rintro e w' ⟨rfl, rfl⟩
  go_wp2_with fail
  refine (pow_ok a k _ ha hk).mono ?_
  rintro e w' ⟨rfl, rfl⟩
  go_wp2_with fail
  refine (error_nil _ (HL.out.later HB2.out)).mono ?_
  rintro e w3 ⟨rfl, hb3⟩
  have HB3 : Hid (Below w.heap.size w w3) := HB2.out.trans (hb3.mono HB2.out.size)
  clear hb3
  go_wp2_with fail
  refine (bytes_any _ _ xs 16 (HS.out.later HB3.out)).mono ?_
  rintro e w' ⟨rfl, rfl⟩
  rw [HF.out]
  go_wp2_with fail
  refine (in_yes _ _ _ _ (byte_of ha)).mono ?_
  rintro e w' ⟨rfl, rfl⟩
  go_wp2_with fail
  refine (rat_any _ _ xs a (HS.out.later HB3.out) (bytesE_good HF.out).1 (bytesE_good HF.out).2 ha).mono ?_
  rintro e w' ⟨rfl, q, rfl⟩
  have HB4 : Hid (Below w.heap.size w (w3.drewN q)) := HB3.out.trans (below_drewN _ _ _)
  go_wp2_with fail
  refine (at_any _ _ xs a (HS.out.later HB4.out)).mono ?_
  rintro e w' ⟨rfl, rfl⟩
  rw [atR_good HF.out ha]
  go_wp2_with fail
  refine (error_nil _ (HL.out.later HB4.out)).mono ?_
  rintro e w5 ⟨rfl, hb5⟩
  have HB5 : Hid (Below w.heap.size w w5) := HB4.out.trans (hb5.mono HB4.out.size)
  clear hb5
  go_wp2
  go_ret
  exact ⟨rfl, HB5.out⟩

set_option maxHeartbeats 16000000 in
set_option maxRecDepth 100000 in
theorem says_ok_ok_bad (w : World) (v : Value) (xs : List Int) (a : Nat) (b : Nat) (k : Nat) (hL : Laid w) (hs : SliceIs w v xs) (ha : a < 256) (hb : b < 256) (h0 : b ≠ 0) (hk : k ≤ 1000) (hf : bytesE 16 xs ≠ 0) :
    Calls Tryd.prog 3 #[.int .i64 (a : Int), .int .i64 (b : Int), .int .i64 (k : Int), v] w fun e w' => e = .returned (.bool true) ∧ Below w.heap.size w w' := by
  have HL : Hid (Laid w) := hL
  have HS : Hid (SliceIs w v xs) := hs
  have HB0 : Hid (Below w.heap.size w w) := Below.refl _ _
  have hbn : ((b : Int) == 0) = false := by simpa using h0
  have HK : Hid ((0 : Int) ≤ (k : Int) ∧ (k : Int) ≤ 1000) := ⟨by omega, by omega⟩
  have HF : Hid (bytesE 16 xs ≠ 0) := hf
  have hfz : ((bytesE 16 xs : Int) == 0) = false := ne_b hf
  obtain ⟨c, cap, rfl, hl, hi⟩ := id hs
  clear hi hl hs hL hf
  go_enter Tryd.func3, Tryd.ntmps3
  go_wp2_with fail
  refine (in_yes _ _ _ _ (byte_of ha)).mono ?_
  rintro e w' ⟨rfl, rfl⟩
  go_wp2_with fail
  refine (in_yes _ _ _ _ (byte_of hb)).mono ?_
  rintro e w' ⟨rfl, rfl⟩
  go_wp2_with fail
  refine (rmul_any a b _ ha hb).mono ?_
  rintro e w' ⟨rfl, rfl⟩
  go_wp2_with fail
  refine (mul_ok a b _ ha hb).mono ?_
  rintro e w' ⟨rfl, rfl⟩
  go_wp2_with fail
  refine (error_nil _ (HL.out.later HB0.out)).mono ?_
  rintro e w1 ⟨rfl, hb1⟩
  have HB1 : Hid (Below w.heap.size w w1) := HB0.out.trans (hb1.mono HB0.out.size)
  clear hb1
  go_wp2_with fail
  refine (rdiv_any a b _ ha hb h0).mono ?_
  rintro e w' ⟨rfl, rfl⟩
  go_wp2_with fail
  refine (div_ok a b _ ha hb h0).mono ?_
  rintro e w' ⟨rfl, rfl⟩
  go_wp2_with fail
  refine (error_nil _ (HL.out.later HB1.out)).mono ?_
  rintro e w2 ⟨rfl, hb2⟩
  have HB2 : Hid (Below w.heap.size w w2) := HB1.out.trans (hb2.mono HB1.out.size)
  clear hb2
  go_wp2_with fail
  refine (in_yes _ _ _ _ (byte_of ha)).mono ?_
  rintro e w' ⟨rfl, rfl⟩
  go_wp2_with fail
  refine (in_yes _ _ _ _ HK.out).mono ?_
  rintro e w' ⟨rfl, rfl⟩
  go_wp2_with fail
  refine (rpow_any a k _ ha hk).mono ?_
  rintro e w' ⟨rfl, rfl⟩
  go_wp2_with fail
  refine (pow_ok a k _ ha hk).mono ?_
  rintro e w' ⟨rfl, rfl⟩
  go_wp2_with fail
  refine (error_nil _ (HL.out.later HB2.out)).mono ?_
  rintro e w3 ⟨rfl, hb3⟩
  have HB3 : Hid (Below w.heap.size w w3) := HB2.out.trans (hb3.mono HB2.out.size)
  clear hb3
  go_wp2_with fail
  refine (bytes_any _ _ xs 16 (HS.out.later HB3.out)).mono ?_
  rintro e w' ⟨rfl, rfl⟩
  go_wp2_with fail
  refine (at_any _ _ xs _ (HS.out.later HB3.out)).mono ?_
  rintro e w' ⟨rfl, rfl⟩
  rw [atR_err _ HF.out]
  go_wp2_with fail
  refine (error_same _ _ (HL.out.later HB3.out)).mono ?_
  rintro e w4 ⟨rfl, hb4⟩
  have HB4 : Hid (Below w.heap.size w w4) := HB3.out.trans (hb4.mono HB3.out.size)
  clear hb4
  go_wp2
  go_ret
  exact ⟨rfl, HB4.out⟩

theorem says_any (w : World) (v : Value) (xs : List Int) (x y n : Int) (hL : Laid w) (hs : SliceIs w v xs) :
    Calls Tryd.prog 3 #[.int .i64 x, .int .i64 y, .int .i64 n, v] w fun e w' => e = .returned (.bool true) ∧ Below w.heap.size w w' := by
  by_cases hx : isByte x
  · obtain ⟨a, rfl, ha⟩ := isByte_nat hx
    by_cases hf : bytesE 16 xs = 0
    · by_cases hn : 0 ≤ n ∧ n ≤ 1000
      · obtain ⟨k, rfl⟩ := Int.eq_ofNat_of_zero_le hn.1
        have hk : k ≤ 1000 := by have := hn.2; omega
        by_cases hy : isByte y
        · obtain ⟨b, rfl, hb⟩ := isByte_nat hy
          by_cases h0 : b = 0
          · subst h0; exact says_zero_ok_good w v xs a k hL hs ha hk hf
          · exact says_ok_ok_good w v xs a b k hL hs ha hb h0 hk hf
        · exact says_no_ok_good w v xs a y k hL hs ha hy hk hf
      · by_cases hy : isByte y
        · obtain ⟨b, rfl, hb⟩ := isByte_nat hy
          by_cases h0 : b = 0
          · subst h0; exact says_zero_no_good w v xs a n hL hs ha hn hf
          · exact says_ok_no_good w v xs a b n hL hs ha hb h0 hn hf
        · exact says_no_no_good w v xs a y n hL hs ha hy hn hf
    · by_cases hn : 0 ≤ n ∧ n ≤ 1000
      · obtain ⟨k, rfl⟩ := Int.eq_ofNat_of_zero_le hn.1
        have hk : k ≤ 1000 := by have := hn.2; omega
        by_cases hy : isByte y
        · obtain ⟨b, rfl, hb⟩ := isByte_nat hy
          by_cases h0 : b = 0
          · subst h0; exact says_zero_ok_bad w v xs a k hL hs ha hk hf
          · exact says_ok_ok_bad w v xs a b k hL hs ha hb h0 hk hf
        · exact says_no_ok_bad w v xs a y k hL hs ha hy hk hf
      · by_cases hy : isByte y
        · obtain ⟨b, rfl, hb⟩ := isByte_nat hy
          by_cases h0 : b = 0
          · subst h0; exact says_zero_no_bad w v xs a n hL hs ha hn hf
          · exact says_ok_no_bad w v xs a b n hL hs ha hb h0 hn hf
        · exact says_no_no_bad w v xs a y n hL hs ha hy hn hf
  · by_cases hf : bytesE 16 xs = 0
    · exact says_a_good w v xs x y n hL hs hx hf
    · exact says_a_bad w v xs x y n hL hs hx hf

end Go.Proofs.YtdfapbiilhbokaaDoor
