/- This text proves what extent.Check, Has and Size and the comparison of two sets answer: the first error that the document names, whether a place is there, how many places there are, and whether two sets are the same; old memory stays; the only condition is that the slice lies there. -/
import Derived.Test.YtihefpnagdacpaaDoorX1
import Derived.Deep.RegionHeld3
import Derived.Deep.DrawnRows
namespace Go.Proofs.YtihefpnagdacpaaDoor
open Go.RowKit Go.Deep

theorem wrap_in {x : Int} (h0 : 0 ≤ x) (h1 : x ≤ 1000) : IntKind.i64.wrap x = x := by
  unfold IntKind.wrap
  simp [IntKind.bits, IntKind.signed]
  omega

/-- Where the run ahead of a place in the list ends. -/
def eAt (l : List Rn) : Nat → Int
  | 0 => -1
  | k + 1 => (rAt l k).1 + (rAt l k).2

theorem goE_at {l : List Rn} {k : Nat} (h : k < l.length) : goE (eAt l k) (l.drop k) = if rB (rAt l k) = false then 1 else if eAt l k ≥ (rAt l k).1 then 3 else goE (eAt l (k + 1)) (l.drop (k + 1)) := by
  rw [drop_at h]; rfl
theorem goE_end {l : List Rn} {k : Nat} (h : l.length ≤ k) : goE (eAt l k) (l.drop k) = 0 := by rw [List.drop_of_length_le h]; rfl

theorem undrew2 {B : Nat} {w w' : World} (h : Below B w w') : Below B w w'.drew := ⟨h.os, h.tape, h.output, h.size, h.block⟩
theorem undrew1 {B : Nat} {w w' : World} (h : Below B w.drew w') : Below B w w' := ⟨h.os, h.tape, h.output, h.size, h.block⟩
theorem undrew {B q : Nat} {w w' : World} (h : Below B (w.drewN q) w') : Below B w w' := ⟨h.os, h.tape, h.output, h.size, h.block⟩

set_option maxHeartbeats 4000000 in
set_option maxRecDepth 100000 in
theorem check_any (w : World) (v : Value) (l : List Rn) (hx : RunsIs w v l) :
    Calls Tryd.prog 6 #[v] w fun e w' => e = .returned (errV (runsE l)) ∧ Below w.heap.size w w' := by
  obtain ⟨a, c, b, o, rfl, hl, ha, hb, hc⟩ := hx.where
  obtain ⟨n, hxn⟩ : ∃ n, n = l.length := ⟨_, rfl⟩
  have HX : Hid (n = l.length) := hxn
  rw [← hxn] at hl ha hb hc ⊢
  have HC : Hid (∀ i, i < n → w.cell? ⟨b, o + i * 2, none⟩ = some (.int .i64 (rAt l i).1) ∧ w.cell? ⟨b, o + i * 2 + 1, none⟩ = some (.int .i64 (rAt l i).2)) := hc
  unfold maxLen at hl
  clear hc hxn hx
  by_cases h16 : 16 < n
  · have HE : Hid (runsE l = 4) := by show runsE l = 4; unfold runsE; rw [if_pos (by rw [← HX.out]; exact h16)]
    go_enter Tryd.func6, Tryd.ntmps6
    go_wp2
    go_ret
    exact ⟨by rw [HE.out]; rfl, Below.refl _ _⟩
  · have h16' : n ≤ 16 := by omega
    have HE : Hid (runsE l = goE (-1) l) := by show runsE l = goE (-1) l; unfold runsE; rw [if_neg (by rw [← HX.out]; omega)]
    go_enter Tryd.func6, Tryd.ntmps6
    go_wp2
    go_loopw [3, 4, 11] (fun _ _ i wr => ∃ k : Nat, k ≤ n ∧ i = .int .i64 k ∧ Below w.heap.size w wr ∧ (∀ j, j < k → isR (rAt l j)) ∧ runsE l = goE (eAt l k) (l.drop k)) (fun _ _ i _ => n - (intOf i).toNat)
    case atStart => exact ⟨0, Nat.zero_le _, rfl, Below.refl _ _, fun j hj => absurd hj (Nat.not_lt_zero _), HE.out⟩
    case round =>
      obtain ⟨k, hk, rfl, hbr, hall, hgo⟩ := hrel
      have HA : Hid (∀ j, j < k → isR (rAt l j)) := hall
      have HG : Hid (runsE l = goE (eAt l k) (l.drop k)) := hgo
      have HBr : Hid (Below w.heap.size w wr) := hbr
      clear hall hgo
      by_cases hlt : k < n
      · have haa := ha (by omega)
        subst haa
        have hbw : b < wr.heap.size := Nat.lt_of_lt_of_le (hb (by omega)) hbr.size
        have c0 : wr.cell? ⟨b, o + k * 2, none⟩ = some (.int .i64 (rAt l k).1) := by rw [hbr.cell (p := ⟨b, o + k * 2, none⟩) (hb (by omega))]; exact (HC.out k hlt).1
        have c1 : wr.cell? ⟨b, o + k * 2 + 1, none⟩ = some (.int .i64 (rAt l k).2) := by rw [hbr.cell (p := ⟨b, o + k * 2 + 1, none⟩) (hb (by omega))]; exact (HC.out k hlt).2
        have HG2 : Hid (runsE l = if rB (rAt l k) = false then 1 else if eAt l k ≥ (rAt l k).1 then 3 else goE (eAt l (k + 1)) (l.drop (k + 1))) := by
          have := HG.out
          rw [goE_at (by rw [← HX.out]; exact hlt)] at this
          exact this
        clear hbr HG
        cases hi : rB (rAt l k) with
        | false =>
          have HI : Hid (rB ((rAt l k).1, (rAt l k).2) = false) := hi
          have HF : Hid (runsE l = 1) := by show runsE l = 1; rw [HG2.out, if_pos hi]
          clear hi
          go_wp2_with (go_at_call 16; refine (isRun_any _ _ _).mono ?_; rintro e w2 ⟨rfl, hb2⟩; rw [HI.out])
          go_ret
          exact ⟨by rw [HF.out]; rfl, Below.next (Below.next HBr.out (below_one _ _)) hb2⟩
        | true =>
          have HI : Hid (rB ((rAt l k).1, (rAt l k).2) = true) := hi
          have HN : Hid (¬ rB (rAt l k) = false) := by show ¬ rB (rAt l k) = false; rw [hi]; simp
          have HR : Hid (isR (rAt l k)) := (rB_iff _).1 hi
          clear hi
          go_wp2_with fail
          refine (isRun_any _ _ _).mono ?_
          rintro e w2 ⟨rfl, hb2⟩
          rw [HI.out]
          have b1 : Below wr.heap.size wr (wr.alloc (.cells #[.int .i64 (rAt l k).1, .int .i64 (rAt l k).2] 24)) := below_one _ _
          have HB2 : Hid (Below w.heap.size w w2) := Below.next (Below.next HBr.out b1) hb2
          have HB3 : Hid (Below wr.heap.size wr w2) := Below.next b1 hb2
          have d0 : w2.cell? ⟨wr.heap.size, 0, none⟩ = some (.int .i64 (rAt l k).1) := by
            rw [hb2.cell (p := ⟨wr.heap.size, 0, none⟩) (by simp)]; exact cell_new _ _ _ _
          have hlr : wr.heap.size < w2.heap.size := by have := hb2.size; simp at this; omega
          clear hb2 b1 c0 c1
          by_cases hk0 : k = 0
          · subst hk0
            have HG3 : Hid (runsE l = goE (eAt l (0 + 1)) (l.drop (0 + 1))) := by
              show runsE l = _
              rw [HG2.out, if_neg HN.out, if_neg]
              have := HR.out
              unfold isR at this
              show ¬ (-1 : Int) ≥ _
              omega
            go_wp2_with fail
            go_region
            go_wp2
            go_roundw
            case rel =>
              refine ⟨0 + 1, by omega, by go_num, undrew2 HB2.out, fun j hj => ?_, HG3.out⟩
              obtain rfl : j = 0 := by omega
              exact HR.out
            case measure => simp [intOf]; omega
          · obtain ⟨m, rfl⟩ : ∃ m, k = m + 1 := ⟨k - 1, by omega⟩
            have hbb := hb (by omega)
            have f0 : w2.cell? ⟨b, o + m * 2, none⟩ = some (.int .i64 (rAt l m).1) := by rw [HB2.out.cell (p := ⟨b, o + m * 2, none⟩) hbb]; exact (HC.out m (by omega)).1
            have f1 : w2.cell? ⟨b, o + m * 2 + 1, none⟩ = some (.int .i64 (rAt l m).2) := by rw [HB2.out.cell (p := ⟨b, o + m * 2 + 1, none⟩) hbb]; exact (HC.out m (by omega)).2
            have HK : Hid _ := fun w => endOf_any (rAt l m) w (HA.out m (by omega))
            have hm1 : (m : Int) < (n : Int) := by omega
            have hm0 : (0 : Int) ≤ (m : Int) := by omega
            have hw1 : IntKind.i64.wrap (m : Int) = (m : Int) := wrap_in (by omega) (by omega)
            have HKp : Hid (∀ w3, Below w2.heap.size w2 w3 → w3.cell? ⟨b, o + m * 2, none⟩ = some (.int .i64 (rAt l m).1) ∧ w3.cell? ⟨b, o + m * 2 + 1, none⟩ = some (.int .i64 (rAt l m).2) ∧ w3.cell? ⟨wr.heap.size, 0, none⟩ = some (.int .i64 (rAt l (m + 1)).1)) := fun w3 h3 => by
              have hs := HB2.out.size
              exact ⟨by rw [h3.cell (p := ⟨b, o + m * 2, none⟩) (by show b < w2.heap.size; omega)]; exact f0, by rw [h3.cell (p := ⟨b, o + m * 2 + 1, none⟩) (by show b < w2.heap.size; omega)]; exact f1, by rw [h3.cell (p := ⟨wr.heap.size, 0, none⟩) hlr]; exact d0⟩
            have HG3 : Hid (runsE l = if (rAt l m).1 + (rAt l m).2 ≥ (rAt l (m + 1)).1 then 3 else goE (eAt l (m + 1 + 1)) (l.drop (m + 1 + 1))) := by
              show runsE l = _
              rw [HG2.out, if_neg HN.out]; rfl
            go_wp2_with fail
            go_region_held3 (fun w' => w'.cell? ⟨b, o + m * 2, none⟩ = some (.int .i64 (rAt l m).1) ∧ w'.cell? ⟨b, o + m * 2 + 1, none⟩ = some (.int .i64 (rAt l m).2) ∧ w'.cell? ⟨wr.heap.size, 0, none⟩ = some (.int .i64 (rAt l (m + 1)).1))
              (first | go_keep | (go_split_ands; exact HKp.out _ HB4.out))
              (first | (go_at_call 17; refine (HK.out _).mono ?_; rintro e w3 ⟨rfl, hb4⟩; have HB4 : Hid (Below w2.heap.size w2 w3) := undrew1 hb4))
            clear hb4
            by_cases hge : (rAt l (m + 1)).1 ≤ (rAt l m).1 + (rAt l m).2
            · have HF : Hid (runsE l = 3) := by show runsE l = 3; rw [HG3.out, if_pos hge]
              go_wp2
              go_ret
              exact ⟨by rw [HF.out]; rfl, Below.next HB2.out HB4.out⟩
            · have HF : Hid (runsE l = goE (eAt l (m + 1 + 1)) (l.drop (m + 1 + 1))) := by show runsE l = _; rw [HG3.out, if_neg hge]
              go_wp2
              go_roundw
              case rel =>
                refine ⟨m + 1 + 1, by omega, by go_num, Below.next HB2.out HB4.out, fun j hj => ?_, HF.out⟩
                by_cases e : j = m + 1
                · subst e; exact HR.out
                · exact HA.out j (by omega)
              case measure => simp [intOf]; omega
      · have hkn : k = n := by omega
        subst hkn
        have HF : Hid (runsE l = 0) := by show runsE l = 0; rw [HG.out, goE_end (by rw [← HX.out]; exact Nat.le_refl _)]
        clear hbr
        go_wp2
        go_ret
        exact ⟨by rw [HF.out]; rfl, HBr.out⟩

theorem ok_each {l : List Rn} (h : runsE l = 0) : ∀ x ∈ l, isR x := fun x hx => by
  have := ((runsE_ok l).1 h).2.each x hx
  unfold isR
  omega

set_option maxHeartbeats 2000000 in
/-- Is a place there? -/
theorem has_any (w : World) (v : Value) (l : List Rn) (p : Int) (hx : RunsIs w v l) :
    Calls Tryd.prog 8 #[v, .int .i64 p] w fun e w' => e = .returned (.tuple #[.bool (decide (runsE l = 0) && memR l p), errV (runsE l)]) ∧ Below w.heap.size w w' := by
  have HC : Hid _ := fun (_ : Nat) => check_any w v l hx
  by_cases h0 : runsE l = 0
  · have HS : Hid _ := fun (w' : World) (hb : Below w.heap.size w w') => setHas_any w' v l p (hx.later hb) (ok_each h0)
    rw [h0] at HC ⊢
    clear hx h0
    go_enter Tryd.func8, Tryd.ntmps8
    go_wp2_with (first | (go_at_call 6; refine (HC.out 0).mono ?_; rintro e w1 ⟨rfl, hb1⟩; rw [errV_zero]) | (go_at_call 18; refine (HS.out _ hb1).mono ?_; rintro e w2 ⟨rfl, hb2⟩))
    go_ret2
    exact ⟨by rw [errV_zero]; simp, Below.next hb1 hb2⟩
  · rw [decide_eq_false h0, Bool.false_and]
    have HV : Hid (errV (runsE l) = .iface 42 (.int .i64 ((runsE l : Nat) : Int))) := errV_pos h0
    rw [HV.out] at HC ⊢
    clear hx h0
    generalize ((runsE l : Nat) : Int) = z at HC ⊢
    go_enter Tryd.func8, Tryd.ntmps8
    go_wp2_with (first | (go_at_call 6; refine (HC.out 0).mono ?_; rintro e w1 ⟨rfl, hb1⟩))
    go_ret2
    exact ⟨rfl, hb1⟩

theorem szL_take {l : List Rn} {k : Nat} (h : k < l.length) : szL (l.take (k + 1)) = szL (l.take k) + (rAt l k).2 := by
  rw [List.take_succ_eq_append_getElem h, szL_append, rAt_lt h]
  simp [szL]
theorem szL_low : ∀ (l : List Rn), (∀ x ∈ l, isR x) → 0 ≤ szL l ∧ szL l ≤ 1000 * (l.length : Int)
  | [], _ => by simp [szL]
  | x :: l, h => by
    have h1 := h x (by simp)
    have h2 := szL_low l fun y hy => h y (by simp [hy])
    unfold isR at h1
    simp only [szL, List.length_cons]
    omega

set_option maxHeartbeats 2000000 in
/-- How many places are there? -/
theorem size_any (w : World) (v : Value) (l : List Rn) (hx : RunsIs w v l) :
    Calls Tryd.prog 7 #[v] w fun e w' => e = .returned (.tuple #[.int .i64 (if runsE l = 0 then szL l else 0), errV (runsE l)]) ∧ Below w.heap.size w w' := by
  have HC : Hid _ := fun (_ : Nat) => check_any w v l hx
  by_cases h0 : runsE l = 0
  · rw [if_pos h0]
    have HR : Hid (∀ x ∈ l, isR x) := ok_each h0
    have h16 : l.length ≤ 16 := ((runsE_ok l).1 h0).1
    rw [h0] at HC ⊢
    clear h0
    obtain ⟨a, c, b, o, rfl, hl, ha, hb, hc⟩ := hx.where
    obtain ⟨n, hxn⟩ : ∃ n, n = l.length := ⟨_, rfl⟩
    have HX : Hid (n = l.length) := hxn
    rw [← hxn] at hl ha hb hc HC h16 ⊢
    have HCc : Hid (∀ i, i < n → w.cell? ⟨b, o + i * 2, none⟩ = some (.int .i64 (rAt l i).1) ∧ w.cell? ⟨b, o + i * 2 + 1, none⟩ = some (.int .i64 (rAt l i).2)) := hc
    clear hc hxn hx hl
    go_enter Tryd.func7, Tryd.ntmps7
    go_wp2_with (first | (go_at_call 6; refine (HC.out 0).mono ?_; rintro e w1 ⟨rfl, hb1⟩; rw [errV_zero]))
    have HB1 : Hid (Below w.heap.size w w1) := hb1
    clear hb1
    go_loopw [5, 7, 15] (fun s _ i wr => ∃ k : Nat, k ≤ n ∧ i = .int .i64 k ∧ s = .int .i64 (szL (l.take k)) ∧ Below w.heap.size w wr) (fun _ _ i _ => n - (intOf i).toNat)
    case atStart => exact ⟨0, Nat.zero_le _, rfl, rfl, HB1.out⟩
    case round =>
      obtain ⟨k, hk, rfl, rfl, hbr⟩ := hrel
      have HBr : Hid (Below w.heap.size w wr) := hbr
      by_cases hlt : k < n
      · have haa := ha (by omega)
        subst haa
        have hbw : b < wr.heap.size := Nat.lt_of_lt_of_le (hb (by omega)) hbr.size
        have c0 : wr.cell? ⟨b, o + k * 2, none⟩ = some (.int .i64 (rAt l k).1) := by rw [hbr.cell (p := ⟨b, o + k * 2, none⟩) (hb (by omega))]; exact (HCc.out k hlt).1
        have c1 : wr.cell? ⟨b, o + k * 2 + 1, none⟩ = some (.int .i64 (rAt l k).2) := by rw [hbr.cell (p := ⟨b, o + k * 2 + 1, none⟩) (hb (by omega))]; exact (HCc.out k hlt).2
        have HS : Hid (szL (l.take (k + 1)) = szL (l.take k) + (rAt l k).2) := szL_take (by rw [← HX.out]; exact hlt)
        have h1 := szL_low (l.take k) (fun x hx => HR.out x (List.mem_of_mem_take hx))
        have h2 := HR.out (rAt l k) (rAt_mem (by rw [← HX.out]; exact hlt))
        unfold isR at h2
        have h3 : ((l.take k).length : Int) ≤ 16 := by rw [List.length_take]; omega
        have h4 : 0 ≤ szL (l.take k) ∧ szL (l.take k) ≤ 16000 ∧ 1 ≤ (rAt l k).2 ∧ (rAt l k).2 ≤ 1000 := by omega
        obtain ⟨h5, h6, h7, h8⟩ := h4
        clear hbr h1 h2 h3
        generalize szL (l.take k) = S at h5 h6 HS ⊢
        generalize (rAt l k).1 = F at c0 ⊢
        generalize (rAt l k).2 = T at c1 h7 h8 HS ⊢
        go_wp2
        go_roundw
        case rel => exact ⟨k + 1, by omega, by go_num, by rw [HS.out], Below.next HBr.out (below_one _ _)⟩
        case measure => simp [intOf]; omega
      · have hkn : k = n := by omega
        subst hkn
        clear hbr
        have HS : Hid (szL (l.take k) = szL l) := by show szL (l.take k) = szL l; rw [HX.out, List.take_length]
        go_wp2
        go_ret2
        exact ⟨by rw [← HS.out]; rfl, HBr.out⟩
  · rw [if_neg h0]
    have HV : Hid (errV (runsE l) = .iface 42 (.int .i64 ((runsE l : Nat) : Int))) := errV_pos h0
    rw [HV.out] at HC ⊢
    clear hx h0
    generalize ((runsE l : Nat) : Int) = z at HC ⊢
    go_enter Tryd.func7, Tryd.ntmps7
    go_wp2_with (first | (go_at_call 6; refine (HC.out 0).mono ?_; rintro e w1 ⟨rfl, hb1⟩))
    go_ret2
    exact ⟨rfl, hb1⟩

end Go.Proofs.YtihefpnagdacpaaDoor
