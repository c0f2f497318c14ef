/- This text proves that platterholdlaw2.RangesAlone returns true: no two locks of two owners meet, unless both are shared, and there are never too many; old memory is as it was; the conditions: the rows lie there, and the library's variable errors.errorType holds what the program's own text lays. -/
import Derived.Test.YtigoacnbbichoaaDoorL10
namespace Go.Proofs.YtigoacnbbichoaaDoor
open Go.RowKit Go.Deep

theorem below_drawN (w : World) (B q : Nat) : Below B w (w.drewN q) := ⟨rfl, rfl, rfl, Nat.le_refl _, fun _ _ => rfl⟩

set_option maxHeartbeats 8000000 in
set_option maxRecDepth 100000 in
theorem rangesAlone_any (w : World) (v : Value) (rs : List (List Int)) (hr : RowsW w v rs) (hL : Laid w) :
    Calls Tryd.prog 3 #[v] w fun e w' => e = .returned (.bool true) ∧ Below w.heap.size w w' := by
  have HF : Hid _ := fun (_ : Nat) => fact_any w hL
  have HO : Hid _ := fun (w' : World) (hb : Below w.heap.size w w') => locked_any w' v rs ⟨hr.1.later hb, hr.2⟩
  clear hr hL
  go_enter Tryd.func3, Tryd.ntmps3
  go_wp2_with (first
    | (go_at_call 7; refine (HF.out 0).mono ?_; rintro e w1 ⟨rfl, hb1⟩; have HB1 : Hid (Below w.heap.size w w1) := hb1; clear hb1)
    | (go_at_call 8; refine (HO.out w1 HB1.out).mono ?_; rintro e w2 ⟨rfl, S, hT, hGd, hb2⟩; have HGd : Hid (Good S) := hGd; have HT : Hid (TabAt w2 w1.heap.size S) := hT; have HB2 : Hid (Below w1.heap.size w1 w2) := hb2; clear hT hGd hb2)
    | (go_at_call 9; refine (list_read w2 w1.heap.size S HT.out HGd.out.bd).mono ?_; rintro e w3 ⟨va, vc, b, rfl, hva, hcs, hb3⟩; have HB3 : Hid (Below w.heap.size w w3) := Below.next HB1.out (Below.next HB2.out hb3); clear hb3))
  have HP : Hid (∀ i k, k < i → i < (lsN S 256).length → _) := fun i k hk hi => lk_meet HGd.out hk hi
  have HO1 : Hid (∀ i, i < (lsN S 256).length → _) := fun i hi => lk_one HGd.out.bd hi
  have HN24 : Hid _ := HGd.out.few
  obtain ⟨N, hN⟩ : ∃ N, (lsN S 256).length = N := ⟨_, rfl⟩
  have HC : Hid (∀ w', Below w3.heap.size w3 w' → ∀ i, i < (lsN S 256).length → FourAt w' b i (lAt (lsN S 256) i)) := hcs
  clear hcs
  rw [hN] at hva HC HP HO1 HN24 ⊢
  generalize lAt (lsN S 256) = L at HC HP HO1
  clear hN HO HF
  go_wp2
  go_loopw [5] (fun i wr => ∃ n : Nat, n ≤ N ∧ i = .int .i64 n ∧ Below w3.heap.size w3 wr) (fun i _ => N - (intOf i).toNat)
  case atStart => exact ⟨0, Nat.zero_le _, rfl, Below.refl _ _⟩
  case round =>
    obtain ⟨n, hn, rfl, hbr⟩ := hrel
    have HR : Hid (Below w3.heap.size w3 wr) := hbr
    clear hbr
    by_cases hlt : n < N
    · have hlt' : (n : Int) < (N : Int) := by omega
      have hn24 : n < 24 := by have := HN24.out; omega
      go_wp2
      go_loopw [6] (fun k wr2 => ∃ m : Nat, m ≤ n ∧ k = .int .i64 m ∧ Below w3.heap.size w3 wr2) (fun k _ => n - (intOf k).toNat)
      case atStart => exact ⟨0, Nat.zero_le _, rfl, HR.out⟩
      case round =>
        obtain ⟨m, hm, rfl, hbr⟩ := hrel
        have HR2 : Hid (Below w3.heap.size w3 wr) := hbr
        clear hbr
        by_cases hmn : m < n
        · have hmn' : (m : Int) < (n : Int) := by omega
          have hmN' : (m : Int) < (N : Int) := by omega
          have haa := hva (by omega)
          subst haa
          have HCn : Hid (∀ w', Below w3.heap.size w3 w' → FourAt w' b n (L n)) := fun w' h => HC.out w' h n hlt
          have HCm : Hid (∀ w', Below w3.heap.size w3 w' → FourAt w' b m (L m)) := fun w' h => HC.out w' h m (by omega)
          have HPm := HP.out n m hmn hlt
          obtain ⟨a1, a2, a3, _⟩ := HO1.out n hlt
          obtain ⟨b1, b2, b3, _⟩ := HO1.out m (by omega)
          generalize L n = x at HCn HPm a1 a2 a3
          generalize L m = y at HCm HPm b1 b2 b3
          unfold FourAt at HCn HCm
          have hf1 : x.p % 64 + x.z ≤ 64 := a3
          have hf2 : y.p % 64 + y.z ≤ 64 := b3
          generalize x.p % 64 = F at HCn HPm hf1
          generalize y.p % 64 = F' at HCm HPm hf2
          generalize x.p / 64 = O at HCn HPm
          generalize y.p / 64 = O' at HCm HPm
          generalize x.z = Z at HCn HPm hf1
          generalize y.z = Z' at HCm HPm hf2
          generalize x.a = A at HCn HPm
          generalize y.a = A' at HCm HPm
          clear a1 a2 a3 b1 b2 b3
          have HM : Hid _ := HPm
          clear HPm
          obtain ⟨c0, c1, c2, c3⟩ := HCn.out wr HR2.out
          obtain ⟨e0, e1, e2, e3⟩ := HCm.out wr HR2.out
          by_cases h1 : F < F' + Z'
          · have g1 : decide ((F : Int) < (F' : Int) + (Z' : Int)) = true := by simp; omega
            by_cases h2 : F' < F + Z
            · have g2 : decide ((F' : Int) < (F : Int) + (Z : Int)) = true := by simp; omega
              obtain ⟨m1, m2, m3⟩ := HM.out h1 h2
              subst m2 m3
              have g3 : ((O : Int) == (O' : Int)) = false := by simp; omega
              clear h1 h2 m1
              go_wp2_with fail
              go_quiet (fail)
              have HR3 : Hid (Below w3.heap.size w3 (wr.drewN nq)) := HR2.out.trans (below_drawN _ _ _)
              generalize wr.drewN nq = w7 at HR3
              clear c0 c1 c2 c3 e0 e1 e2 e3
              obtain ⟨c0, c1, c2, c3⟩ := HCn.out w7 HR3.out
              obtain ⟨e0, e1, e2, e3⟩ := HCm.out w7 HR3.out
              go_wp2_with fail
              go_quiet (fail)
              have HR4 : Hid (Below w3.heap.size w3 (w7.drewN nq)) := HR3.out.trans (below_drawN _ _ _)
              generalize w7.drewN nq = w8 at HR4
              go_wp2
              go_roundw
              case rel => exact ⟨m + 1, by omega, by go_num, HR4.out⟩
              case measure => simp [intOf]; omega
            · have g2 : decide ((F' : Int) < (F : Int) + (Z : Int)) = false := by simp; omega
              clear h1 h2 HM
              go_wp2_with fail
              go_quiet (fail)
              have HR3 : Hid (Below w3.heap.size w3 (wr.drewN nq)) := HR2.out.trans (below_drawN _ _ _)
              generalize wr.drewN nq = w7 at HR3
              clear c0 c1 c2 c3 e0 e1 e2 e3
              go_wp2_with fail
              go_quiet (fail)
              have HR4 : Hid (Below w3.heap.size w3 (w7.drewN nq)) := HR3.out.trans (below_drawN _ _ _)
              generalize w7.drewN nq = w8 at HR4
              go_wp2
              go_roundw
              case rel => exact ⟨m + 1, by omega, by go_num, HR4.out⟩
              case measure => simp [intOf]; omega
          · have g1 : decide ((F : Int) < (F' : Int) + (Z' : Int)) = false := by simp; omega
            clear h1 HM
            go_wp2_with fail
            go_quiet (fail)
            have HR3 : Hid (Below w3.heap.size w3 (wr.drewN nq)) := HR2.out.trans (below_drawN _ _ _)
            generalize wr.drewN nq = w7 at HR3
            clear c0 c1 c2 c3 e0 e1 e2 e3
            go_wp2_with fail
            go_quiet (fail)
            have HR4 : Hid (Below w3.heap.size w3 (w7.drewN nq)) := HR3.out.trans (below_drawN _ _ _)
            generalize w7.drewN nq = w8 at HR4
            go_wp2
            go_roundw
            case rel => exact ⟨m + 1, by omega, by go_num, HR4.out⟩
            case measure => simp [intOf]; omega
        · have hmn : m = n := by omega
          subst hmn
          go_wp2
          go_roundw
          case rel => exact ⟨m + 1, by omega, by go_num, HR2.out⟩
          case measure => simp [intOf]; omega
    · have hN24 := HN24.out
      have hnN : n = N := by omega
      subst hnN
      have h24 : (n : Int) ≤ 24 := by omega
      go_wp2
      go_ret
      exact ⟨rfl, HB3.out.trans (HR.out.mono HB3.out.size)⟩

end Go.Proofs.YtigoacnbbichoaaDoor
