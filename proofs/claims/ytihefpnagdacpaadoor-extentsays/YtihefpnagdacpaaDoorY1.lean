/- This text proves what the document's own functions Runs and InRuns (package platterholdref1) answer: what is wrong with a set, and whether a place is in one; old memory stays; the only condition is that the slice lies there and, for the second, that its runs are right. -/
import Derived.Test.YtihefpnagdacpaaDoorX2
import Derived.Test.YtihefpnagdacpaaDoorX8
namespace Go.Proofs.YtihefpnagdacpaaDoor
open Go.RowKit Go.Deep

set_option maxHeartbeats 4000000 in
set_option maxRecDepth 100000 in
theorem refRuns_any (w : World) (v : Value) (l : List Rn) (hx : RunsIs w v l) :
    Calls Tryd.prog 4 #[v] w fun e w' => e = .returned (.int .i64 ((runsE l : Nat) : Int)) ∧ Below w.heap.size w w' := by
  obtain ⟨a, c, b, o, rfl, hl, ha, hb, hc⟩ := hx.where
  obtain ⟨n, hxn⟩ : ∃ n, n = l.length := ⟨_, rfl⟩
  have HX : Hid (n = l.length) := hxn
  rw [← hxn] at hl ha hb hc ⊢
  have HC : Hid (∀ i, i < n → w.cell? ⟨b, o + i * 2, none⟩ = some (.int .i64 (rAt l i).1) ∧ w.cell? ⟨b, o + i * 2 + 1, none⟩ = some (.int .i64 (rAt l i).2)) := hc
  unfold maxLen at hl
  clear hc hxn hx
  by_cases h16 : 16 < n
  · have HE : Hid (runsE l = 4) := by show runsE l = 4; unfold runsE; rw [if_pos (by rw [← HX.out]; exact h16)]
    go_enter Tryd.func4, Tryd.ntmps4
    go_wp2
    go_ret
    exact ⟨by rw [HE.out]; rfl, Below.refl _ _⟩
  · have h16' : n ≤ 16 := by omega
    have HE : Hid (runsE l = goE (-1) l) := by show runsE l = goE (-1) l; unfold runsE; rw [if_neg (by rw [← HX.out]; omega)]
    go_enter Tryd.func4, Tryd.ntmps4
    go_wp2
    go_loopw [3] (fun i wr => ∃ k : Nat, k ≤ n ∧ i = .int .i64 k ∧ Below w.heap.size w wr ∧ (∀ j, j < k → isR (rAt l j)) ∧ runsE l = goE (eAt l k) (l.drop k)) (fun i _ => n - (intOf i).toNat)
    case atStart => exact ⟨0, Nat.zero_le _, rfl, Below.refl _ _, fun j hj => absurd hj (Nat.not_lt_zero _), HE.out⟩
    case round =>
      obtain ⟨k, hk, rfl, hbr, hall, hgo⟩ := hrel
      have HA : Hid (∀ j, j < k → isR (rAt l j)) := hall
      have HG : Hid (runsE l = goE (eAt l k) (l.drop k)) := hgo
      have HBr : Hid (Below w.heap.size w wr) := hbr
      clear hall hgo
      by_cases hlt : k < n
      · have haa := ha (by omega)
        subst haa
        have hbw : b < wr.heap.size := Nat.lt_of_lt_of_le (hb (by omega)) hbr.size
        have c0 : wr.cell? ⟨b, o + k * 2, none⟩ = some (.int .i64 (rAt l k).1) := by rw [hbr.cell (p := ⟨b, o + k * 2, none⟩) (hb (by omega))]; exact (HC.out k hlt).1
        have c1 : wr.cell? ⟨b, o + k * 2 + 1, none⟩ = some (.int .i64 (rAt l k).2) := by rw [hbr.cell (p := ⟨b, o + k * 2 + 1, none⟩) (hb (by omega))]; exact (HC.out k hlt).2
        have HG2 : Hid (runsE l = if rB (rAt l k) = false then 1 else if eAt l k ≥ (rAt l k).1 then 3 else goE (eAt l (k + 1)) (l.drop (k + 1))) := by
          have := HG.out
          rw [goE_at (by rw [← HX.out]; exact hlt)] at this
          exact this
        clear hbr HG
        cases hi : rB (rAt l k) with
        | false =>
          have HI : Hid (rB ((rAt l k).1, (rAt l k).2) = false) := hi
          have HF : Hid (runsE l = 1) := by show runsE l = 1; rw [HG2.out, if_pos hi]
          clear hi
          go_wp2_with (go_at_call 14; refine (refRun_any _ _ _).mono ?_; rintro e w2 ⟨rfl, hb2⟩; rw [HI.out])
          go_ret
          exact ⟨by rw [HF.out]; rfl, Below.next HBr.out hb2⟩
        | true =>
          have HI : Hid (rB ((rAt l k).1, (rAt l k).2) = true) := hi
          have HN : Hid (¬ rB (rAt l k) = false) := by show ¬ rB (rAt l k) = false; rw [hi]; simp
          have HR : Hid (isR (rAt l k)) := (rB_iff _).1 hi
          clear hi
          go_wp2_with fail
          refine (refRun_any _ _ _).mono ?_
          rintro e w2 ⟨rfl, hb2⟩
          rw [HI.out]
          have HB2 : Hid (Below w.heap.size w w2) := Below.next HBr.out hb2
          have d0 : w2.cell? ⟨b, o + k * 2, none⟩ = some (.int .i64 (rAt l k).1) := by rw [hb2.cell (p := ⟨b, o + k * 2, none⟩) hbw]; exact c0
          clear hb2 c0 c1
          by_cases hk0 : k = 0
          · subst hk0
            have HG3 : Hid (runsE l = goE (eAt l (0 + 1)) (l.drop (0 + 1))) := by
              show runsE l = _
              rw [HG2.out, if_neg HN.out, if_neg]
              have := HR.out
              unfold isR at this
              show ¬ (-1 : Int) ≥ _
              omega
            go_wp2_with fail
            go_region
            go_wp2
            go_roundw
            case rel =>
              refine ⟨0 + 1, by omega, by go_num, undrew2 HB2.out, fun j hj => ?_, HG3.out⟩
              obtain rfl : j = 0 := by omega
              exact HR.out
            case measure => simp [intOf]; omega
          · obtain ⟨m, rfl⟩ : ∃ m, k = m + 1 := ⟨k - 1, by omega⟩
            have hbb := hb (by omega)
            have f0 : w2.cell? ⟨b, o + m * 2, none⟩ = some (.int .i64 (rAt l m).1) := by rw [HB2.out.cell (p := ⟨b, o + m * 2, none⟩) hbb]; exact (HC.out m (by omega)).1
            have f1 : w2.cell? ⟨b, o + m * 2 + 1, none⟩ = some (.int .i64 (rAt l m).2) := by rw [HB2.out.cell (p := ⟨b, o + m * 2 + 1, none⟩) hbb]; exact (HC.out m (by omega)).2
            have hm1 : (m : Int) < (n : Int) := by omega
            have hm0 : (0 : Int) ≤ (m : Int) := by omega
            have hw1 : IntKind.i64.wrap (m : Int) = (m : Int) := wrap_in (by omega) (by omega)
            have HG3 : Hid (runsE l = if (rAt l m).1 + (rAt l m).2 ≥ (rAt l (m + 1)).1 then 3 else goE (eAt l (m + 1 + 1)) (l.drop (m + 1 + 1))) := by
              show runsE l = _
              rw [HG2.out, if_neg HN.out]; rfl
            have hq1 := HA.out m (by omega)
            have hq2 := HR.out
            unfold isR at hq1 hq2
            have hm2 : ((m + 1 : Nat) : Int) < (n : Int) := by omega
            generalize (rAt l m).1 = x1 at f0 hq1 HG3
            generalize (rAt l m).2 = x2 at f1 hq1 HG3
            generalize (rAt l (m + 1)).1 = y1 at d0 hq2 HG3
            generalize (rAt l (m + 1)).2 = y2 at hq2
            obtain ⟨g1, g2, g3, g4⟩ := hq1
            by_cases hge : y1 ≤ x1 + x2
            · have HF : Hid (runsE l = 3) := by show runsE l = 3; rw [HG3.out, if_pos hge]
              go_wp2_with fail
              go_quiet (fail)
              go_wp2
              go_ret
              exact ⟨by rw [HF.out]; rfl, Below.next HB2.out (below_drew _ _ _)⟩
            · have HF : Hid (runsE l = goE (eAt l (m + 1 + 1)) (l.drop (m + 1 + 1))) := by show runsE l = _; rw [HG3.out, if_neg hge]
              go_wp2_with fail
              go_quiet (fail)
              go_wp2
              go_roundw
              case rel =>
                refine ⟨m + 1 + 1, by omega, by go_num, Below.next HB2.out (below_drew _ _ _), fun j hj => ?_, HF.out⟩
                by_cases e : j = m + 1
                · subst e; exact HR.out
                · exact HA.out j (by omega)
              case measure => simp [intOf]; omega
      · have hkn : k = n := by omega
        subst hkn
        have HF : Hid (runsE l = 0) := by show runsE l = 0; rw [HG.out, goE_end (by rw [← HX.out]; exact Nat.le_refl _)]
        clear hbr
        go_wp2
        go_ret
        exact ⟨by rw [HF.out]; rfl, HBr.out⟩

set_option maxHeartbeats 4000000 in
theorem inRuns_any (w : World) (v : Value) (l : List Rn) (p : Int) (hx : RunsIs w v l) (hr : ∀ x ∈ l, isR x) :
    Calls Tryd.prog 9 #[v, .int .i64 p] w fun e w' => e = .returned (.bool (memR l p)) ∧ ∃ q, w' = w.drewN q := by
  obtain ⟨a, c, b, o, rfl, hl, ha, hb, hc⟩ := hx.where
  obtain ⟨n, hxn⟩ : ∃ n, n = l.length := ⟨_, rfl⟩
  have HX : Hid (n = l.length) := hxn
  rw [← hxn] at hl ha hb hc ⊢
  have HC : Hid (∀ i, i < n → w.cell? ⟨b, o + i * 2, none⟩ = some (.int .i64 (rAt l i).1) ∧ w.cell? ⟨b, o + i * 2 + 1, none⟩ = some (.int .i64 (rAt l i).2)) := hc
  have HR : Hid (∀ i, i < n → isR (rAt l i)) := fun i hi => hr _ (rAt_mem (by omega))
  unfold maxLen at hl
  clear hc hxn hx hr
  go_enter Tryd.func9, Tryd.ntmps9
  go_wp2
  go_loopw [5] (fun i wr => ∃ k : Nat, k ≤ n ∧ i = .int .i64 k ∧ (∀ j, j < k → inR (rAt l j) p = false) ∧ ∃ q, wr = w.drewN q) (fun i _ => n - (intOf i).toNat)
  case atStart => exact ⟨0, Nat.zero_le _, rfl, fun j hj => absurd hj (Nat.not_lt_zero _), 0, rfl⟩
  case round =>
    obtain ⟨k, hk, rfl, hall, q, rfl⟩ := hrel
    have HA : Hid (∀ j, j < k → inR (rAt l j) p = false) := hall
    clear hall
    by_cases hlt : k < n
    · have haa := ha (by omega)
      subst haa
      obtain ⟨c0, c1⟩ := HC.out k hlt
      have hkn : (k : Int) < (n : Int) := by omega
      have hk0 : (0 : Int) ≤ (k : Int) := by omega
      have hq := HR.out k hlt
      unfold isR at hq
      have HI : Hid (∀ i, inR (rAt l k) p = i → i = decide ((rAt l k).1 ≤ p ∧ p < (rAt l k).1 + (rAt l k).2)) := fun i h => h.symm
      have HM : Hid (inR (rAt l k) p = true → memR l p = true) := fun h => memR_at (by rw [← HX.out]; exact hlt) h
      have HIe : Hid (inR (rAt l k) p = decide ((rAt l k).1 ≤ p ∧ p < (rAt l k).1 + (rAt l k).2)) := rfl
      generalize (rAt l k).1 = f at c0 hq HIe
      generalize (rAt l k).2 = s at c1 hq HIe
      obtain ⟨q1, q2, q3, q4⟩ := hq
      clear HI
      by_cases h1 : f ≤ p
      · by_cases h2 : p < f + s
        · have HT : Hid (memR l p = true) := HM.out (by rw [HIe.out, decide_eq_true ⟨h1, h2⟩])
          go_wp2_with fail
          go_quiet (fail)
          go_wp2
          go_ret
          exact ⟨by rw [HT.out]; rfl, q + nq, by rw [World.drewN_drewN]⟩
        · have HF : Hid (inR (rAt l k) p = false) := by show inR (rAt l k) p = false; rw [HIe.out]; exact decide_eq_false (fun h => h2 h.2)
          go_wp2_with fail
          go_quiet (fail)
          go_wp2
          go_roundw
          case rel =>
            refine ⟨k + 1, by omega, by go_num, fun j hj => ?_, q + nq, rfl⟩
            by_cases e : j = k
            · subst e; exact HF.out
            · exact HA.out j (by omega)
          case measure => simp [intOf]; omega
      · have HF : Hid (inR (rAt l k) p = false) := by show inR (rAt l k) p = false; rw [HIe.out]; exact decide_eq_false (fun h => h1 h.1)
        have hd : decide (f ≤ p) = false := decide_eq_false h1
        go_wp2_with fail
        go_quiet (fail)
        go_wp2
        go_roundw
        case rel =>
          refine ⟨k + 1, by omega, by go_num, fun j hj => ?_, q + nq, rfl⟩
          by_cases e : j = k
          · subst e; exact HF.out
          · exact HA.out j (by omega)
        case measure => simp [intOf]; omega
    · have hkn : k = n := by omega
      subst hkn
      go_wp2
      go_ret
      exact ⟨by rw [memR_none (by rw [← HX.out]; exact HA.out)]; rfl, q, rfl⟩

end Go.Proofs.YtihefpnagdacpaaDoor
