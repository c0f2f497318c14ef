/- This text proves that platterholdlaw2.RangesOne returns true: locks stand in order, each may be, and no two beside each other are alike; old memory is as it was; the conditions: the rows lie there, and the library's variable errors.errorType holds what the program's own text lays. -/
import Derived.Test.YtigoacnbbichoaaDoorL10
import Derived.Test.YtigoacnbbichoaaDoorL11
namespace Go.Proofs.YtigoacnbbichoaaDoor
open Go.RowKit Go.Deep

theorem below_drawN (w : World) (B q : Nat) : Below B w (w.drewN q) := ⟨rfl, rfl, rfl, Nat.le_refl _, fun _ _ => rfl⟩

/-- A lock that is listed may be. -/
theorem lk_right {S : Nat → Nat} (hS : Bd S) {i : Nat} (hi : i < (lsN S 256).length) : okK (((lAt (lsN S 256) i).p / 64 : Nat) : Int) (((lAt (lsN S 256) i).p % 64 : Nat) : Int) ((lAt (lsN S 256) i).z : Int) = true := by
  obtain ⟨a1, a2, a3, _⟩ := lk_one hS hi
  rw [okK_iff]
  omega
/-- Two locks beside each other. -/
theorem lk_next {S : Nat → Nat} (hS : Bd S) {i : Nat} (hi : i + 1 < (lsN S 256).length) :
    (lAt (lsN S 256) i).p / 64 ≤ (lAt (lsN S 256) (i + 1)).p / 64 ∧ ((lAt (lsN S 256) i).p / 64 = (lAt (lsN S 256) (i + 1)).p / 64 → (lAt (lsN S 256) i).p % 64 + (lAt (lsN S 256) i).z ≤ (lAt (lsN S 256) (i + 1)).p % 64 ∧
      ((lAt (lsN S 256) i).p % 64 + (lAt (lsN S 256) i).z = (lAt (lsN S 256) (i + 1)).p % 64 → (lAt (lsN S 256) i).a ≠ (lAt (lsN S 256) (i + 1)).a)) := by
  obtain ⟨a1, _⟩ := lk_one hS (show i < (lsN S 256).length by omega)
  obtain ⟨c1, c2⟩ := lk_pair hS (show i < i + 1 by omega) hi
  refine ⟨by omega, fun he => ⟨by omega, fun h => c2 (by omega) (by omega)⟩⟩

set_option maxHeartbeats 8000000 in
set_option maxRecDepth 100000 in
theorem rangesOne_any (w : World) (v : Value) (rs : List (List Int)) (hr : RowsW w v rs) (hL : Laid w) :
    Calls Tryd.prog 4 #[v] w fun e w' => e = .returned (.bool true) ∧ Below w.heap.size w w' := by
  have HF : Hid _ := fun (_ : Nat) => fact_any w hL
  have HO : Hid _ := fun (w' : World) (hb : Below w.heap.size w w') => locked_any w' v rs ⟨hr.1.later hb, hr.2⟩
  clear hr hL
  go_enter Tryd.func4, Tryd.ntmps4
  go_wp2_with (first
    | (go_at_call 7; refine (HF.out 0).mono ?_; rintro e w1 ⟨rfl, hb1⟩; have HB1 : Hid (Below w.heap.size w w1) := hb1; clear hb1)
    | (go_at_call 8; refine (HO.out w1 HB1.out).mono ?_; rintro e w2 ⟨rfl, S, hT, hGd, hb2⟩; have HGd : Hid (Good S) := hGd; have HT : Hid (TabAt w2 w1.heap.size S) := hT; have HB2 : Hid (Below w1.heap.size w1 w2) := hb2; clear hT hGd hb2)
    | (go_at_call 9; refine (list_read w2 w1.heap.size S HT.out HGd.out.bd).mono ?_; rintro e w3 ⟨va, vc, b, rfl, hva, hcs, hb3⟩; have HB3 : Hid (Below w.heap.size w w3) := Below.next HB1.out (Below.next HB2.out hb3); clear hb3))
  have HP : Hid (∀ i, i + 1 < (lsN S 256).length → _) := fun i hi => lk_next HGd.out.bd hi
  have HO1 : Hid (∀ i, i < (lsN S 256).length → _) := fun i hi => lk_right HGd.out.bd hi
  have HOz : Hid (∀ i, i < (lsN S 256).length → (lAt (lsN S 256) i).p % 64 + (lAt (lsN S 256) i).z ≤ 64) := fun i hi => (lk_one HGd.out.bd hi).2.2.1
  have HN24 : Hid _ := HGd.out.few
  obtain ⟨N, hN⟩ : ∃ N, (lsN S 256).length = N := ⟨_, rfl⟩
  have HC : Hid (∀ w', Below w3.heap.size w3 w' → ∀ i, i < (lsN S 256).length → FourAt w' b i (lAt (lsN S 256) i)) := hcs
  clear hcs
  rw [hN] at hva HC HP HO1 HN24 HOz ⊢
  generalize lAt (lsN S 256) = L at HC HP HO1 HOz
  clear hN HO HF
  go_wp2
  go_loopw [5] (fun i wr => ∃ n : Nat, n ≤ N ∧ i = .int .i64 n ∧ Below w3.heap.size w3 wr) (fun i _ => N - (intOf i).toNat)
  case atStart => exact ⟨0, Nat.zero_le _, rfl, Below.refl _ _⟩
  case round =>
    obtain ⟨n, hn, rfl, hbr⟩ := hrel
    have HR : Hid (Below w3.heap.size w3 wr) := hbr
    clear hbr
    by_cases hlt : n < N
    · have hlt' : (n : Int) < (N : Int) := by omega
      have hn24 : n < 24 := by have := HN24.out; omega
      have haa := hva (by omega)
      subst haa
      have HCn : Hid (∀ w', Below w3.heap.size w3 w' → FourAt w' b n (L n)) := fun w' h => HC.out w' h n hlt
      have HRi : Hid _ := fun (w' : World) => right_any (((L n).p / 64 : Nat) : Int) (((L n).p % 64 : Nat) : Int) ((L n).z : Int) (L n).a w' (by unfold Fit; omega)
      rw [HO1.out n hlt] at HRi
      have hf1 := HOz.out n hlt
      obtain ⟨c0, c1, c2, c3⟩ := HCn.out wr HR.out
      unfold lkV at HRi
      by_cases h0 : n = 0
      · have hb0 : ((n : Int) == 0) = true := by simp [h0]
        generalize L n = x at HRi c0 c1 c2 c3
        generalize x.p % 64 = F at HRi c1
        generalize x.p / 64 = O at HRi c0
        generalize x.z = Z at HRi c2
        generalize x.a = A at HRi c3
        clear hf1 HCn h0
        go_wp2_with (go_at_call 10; refine (HRi.out _).mono ?_; rintro e w4 ⟨rfl, hb4⟩; have HR4 : Hid (Below w3.heap.size w3 w4) := HR.out.trans (hb4.mono HR.out.size); clear hb4)
        clear c0 c1 c2 c3
        go_wp2_with fail
        go_quiet (fail)
        have HR5 : Hid (Below w3.heap.size w3 (w4.drewN nq)) := HR4.out.trans (below_drawN _ _ _)
        generalize w4.drewN nq = w5 at HR5
        go_wp2
        go_roundw
        case rel => exact ⟨n + 1, by omega, by go_num, HR5.out⟩
        case measure => simp [intOf]; omega
      · have hb0 : ((n : Int) == 0) = false := by simp; omega
        obtain ⟨m, hm⟩ : ∃ m, m + 1 = n := ⟨n - 1, by omega⟩
        have hmn : (n : Int) - 1 = (m : Int) := by omega
        have hmN : (m : Int) < (N : Int) := by omega
        have HPm := HP.out m (by omega)
        rw [hm] at HPm
        have HCm : Hid (∀ w', Below w3.heap.size w3 w' → FourAt w' b m (L m)) := fun w' h => HC.out w' h m (by omega)
        have hf2 := HOz.out m (by omega)
        generalize L n = x at HRi c0 c1 c2 c3 HPm HCn hf1
        generalize L m = y at HPm HCm hf2
        unfold FourAt at HCn HCm
        generalize x.p % 64 = F at HRi c1 HPm HCn hf1
        generalize x.p / 64 = O at HRi c0 HPm HCn
        generalize x.z = Z at HRi c2 HCn hf1
        generalize x.a = A at HRi c3 HPm HCn
        generalize y.p % 64 = F' at HPm HCm hf2
        generalize y.p / 64 = O' at HPm HCm
        generalize y.z = Z' at HPm HCm hf2
        generalize y.a = A' at HPm HCm
        obtain ⟨p1, p2⟩ := HPm
        have HM : Hid (O' = O → F' + Z' ≤ F ∧ (F' + Z' = F → A' ≠ A)) := p2
        clear p2 hm h0
        go_wp2_with (go_at_call 10; refine (HRi.out _).mono ?_; rintro e w4 ⟨rfl, hb4⟩; have HR4 : Hid (Below w3.heap.size w3 w4) := HR.out.trans (hb4.mono HR.out.size); clear hb4)
        obtain ⟨d0, d1, d2, d3⟩ := HCn.out w4 HR4.out
        obtain ⟨e0, e1, e2, e3⟩ := HCm.out w4 HR4.out
        clear c0 c1 c2 c3
        by_cases hO : O' < O
        · have g1 : decide (O' < O) = true := by simp [hO]
          clear HM p1
          go_wp2_with fail
          go_quiet (fail)
          have HR5 : Hid (Below w3.heap.size w3 (w4.drewN nq)) := HR4.out.trans (below_drawN _ _ _)
          generalize w4.drewN nq = w5 at HR5
          go_wp2
          go_roundw
          case rel => exact ⟨n + 1, by omega, by go_num, HR5.out⟩
          case measure => simp [intOf]; omega
        · obtain rfl : O' = O := by omega
          obtain ⟨q1, q2⟩ := HM.out rfl
          have HQ : Hid (F' + Z' = F → A' ≠ A) := q2
          have g2 : decide ((F : Int) < (F' : Int) + (Z' : Int)) = false := by simp; omega
          clear HM hO p1 q2
          go_wp2_with fail
          go_quiet (fail)
          have HR5 : Hid (Below w3.heap.size w3 (w4.drewN nq)) := HR4.out.trans (below_drawN _ _ _)
          generalize w4.drewN nq = w5 at HR5
          clear d0 d1 d2 d3 e0 e1 e2 e3
          obtain ⟨d0, d1, d2, d3⟩ := HCn.out w5 HR5.out
          obtain ⟨e0, e1, e2, e3⟩ := HCm.out w5 HR5.out
          go_wp2_with fail
          go_quiet (fail)
          have HR6 : Hid (Below w3.heap.size w3 (w5.drewN nq)) := HR5.out.trans (below_drawN _ _ _)
          generalize w5.drewN nq = w6 at HR6
          clear d0 d1 d2 d3 e0 e1 e2 e3
          obtain ⟨d0, d1, d2, d3⟩ := HCn.out w6 HR6.out
          obtain ⟨e0, e1, e2, e3⟩ := HCm.out w6 HR6.out
          by_cases hF : F' + Z' = F
          · have hA := HQ.out hF
            have g3 : ((F' : Int) + (Z' : Int) == (F : Int)) = true := by simp; omega
            have g4 : (A' == A) = false := by simp [hA]
            clear hF hA q1 HQ
            go_wp2_with fail
            go_quiet (fail)
            have HR7 : Hid (Below w3.heap.size w3 (w6.drewN nq)) := HR6.out.trans (below_drawN _ _ _)
            generalize w6.drewN nq = w7 at HR7
            go_wp2
            go_roundw
            case rel => exact ⟨n + 1, by omega, by go_num, HR7.out⟩
            case measure => simp [intOf]; omega
          · have g3 : ((F' : Int) + (Z' : Int) == (F : Int)) = false := by simp; omega
            clear hF q1 HQ
            go_wp2_with fail
            go_quiet (fail)
            have HR7 : Hid (Below w3.heap.size w3 (w6.drewN nq)) := HR6.out.trans (below_drawN _ _ _)
            generalize w6.drewN nq = w7 at HR7
            go_wp2
            go_roundw
            case rel => exact ⟨n + 1, by omega, by go_num, HR7.out⟩
            case measure => simp [intOf]; omega
    · go_wp2
      go_ret
      exact ⟨rfl, HB3.out.trans (HR.out.mono HB3.out.size)⟩

end Go.Proofs.YtigoacnbbichoaaDoor
