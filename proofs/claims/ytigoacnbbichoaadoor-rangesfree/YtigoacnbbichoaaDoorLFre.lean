/- This text proves that platterholdlaw2.RangesFree returns true: when one owner frees all it stands against nobody, and what is set then may be tested again and again; old memory is as it was; the conditions: the rows lie there, the lock is one, and the library's variable errors.errorType holds what the program's own text lays. -/
import Derived.Test.YtigoacnbbichoaaDoorL10
import Derived.Test.YtigoacnbbichoaaDoorL11
import Derived.Test.YtigoacnbbichoaaDoorL12
import Derived.Test.YtigoacnbbichoaaDoorIn2
namespace Go.Proofs.YtigoacnbbichoaaDoor
open Go.RowKit Go.Deep

set_option maxHeartbeats 8000000 in
set_option maxRecDepth 100000 in
theorem rangesFree_any (w : World) (v : Value) (rs : List (List Int)) (hr : RowsW w v rs) (x : Int) (kv : Value) (kq : Int × Int × Int × Bool) (hkv : kv = lkV kq.1 kq.2.1 kq.2.2.1 kq.2.2.2 ∧ Fit kq.2.1) (hL : Laid w) :
    Calls Tryd.prog 5 #[v, .int .i64 x, kv] w fun e w' => e = .returned (.bool true) ∧ Below w.heap.size w w' := by
  obtain ⟨o, f, z, a⟩ := kq
  obtain ⟨rfl, hf⟩ := hkv
  have hf : Fit f := hf
  show Calls _ _ #[v, .int .i64 x, lkV o f z a] _ _
  obtain ⟨W, hW⟩ : ∃ W, W = w.alloc (.cells #[.int .i64 o, .int .i64 f, .int .i64 z, .bool a] 29) := ⟨_, rfl⟩
  have HWe : Hid (W = w.alloc (.cells #[.int .i64 o, .int .i64 f, .int .i64 z, .bool a] 29)) := hW
  have HW : Hid (Below w.heap.size w W) := by rw [hW]; exact below_one _ _
  have HK : Hid (∀ w', Below W.heap.size W w' → LkAt w' w.heap.size o f z a) := fun w' h => by rw [hW] at h; exact lk_new w o f z a h
  have HF : Hid _ := fun (_ : Nat) => fact_any W (hL.later HW.out)
  have HO : Hid _ := fun (w' : World) (hb : Below W.heap.size W w') => locked_any w' v rs ⟨hr.1.later (Below.next HW.out hb), hr.2⟩
  have HE : Hid _ := fun (n : Nat) (m : Int) (w' : World) (hb : Below w.heap.size w w') => error_any n m w' (hL.later hb)
  have HIn : Hid _ := fun (w' : World) => in_any x 0 3 w'
  rw [← own_ok] at HIn
  have HFr : Hid _ := fun (g : Nat) (S : Nat → Nat) (w' : World) (hT : TabAt w' g S) (hS : Bd S) => free_any w' g S x 0 64 false hT hS (by unfold Fit; omega)
  have HTs : Hid _ := fun (g : Nat) (S : Nat → Nat) (w' : World) (hT : TabAt w' g S) => test_any w' g S o f z a hT hf
  have HSt : Hid _ := fun (g : Nat) (S : Nat → Nat) (w' : World) (hT : TabAt w' g S) (hS : Bd S) => set_any w' g S o f z a hT hS hf
  have HRi : Hid _ := fun (w' : World) => right_any o f z a w' hf
  unfold lkV at HFr HTs HSt HRi ⊢
  clear hr hL hW hf
  cases hx : okK x 0 64 with
  | false =>
    rw [hx] at HIn
    go_enter Tryd.func5, Tryd.ntmps5
    go_wp2_with (first
      | (go_at_call 7; rw [← HWe.out]; refine (HF.out 0).mono ?_; rintro e w1 ⟨rfl, hb1⟩; have HB1 : Hid (Below W.heap.size W w1) := hb1; clear hb1)
      | (go_at_call 8; refine (HO.out w1 HB1.out).mono ?_; rintro e w2 ⟨rfl, S, hO2⟩; have HO2 : Hid (OnT w1 w2 w1.heap.size S) := hO2; clear hO2)
      | (go_at_call 11; refine (HFr.out _ S w2 HO2.out.1 HO2.out.2.1.bd).mono ?_; rintro e w3 ⟨rfl, ht3, hc3⟩; rw [(fr_out hx).1, errV_pos (by decide)]; have HB3 : Hid (Below w1.heap.size w1 w3) := (HO2.out.2.2).trans (hc3.below (Nat.le_refl _) (Nat.le_of_lt HO2.out.1.lt)))
      | (go_at_call 12; refine (HIn.out _).mono ?_; rintro e w4 ⟨rfl, rfl⟩))
    go_ret
    exact ⟨rfl, Below.next HW.out (Below.next HB1.out HB3.out)⟩
  | true =>
    have hx0 : 0 ≤ x := (okK_iff.1 hx).1
    go_enter Tryd.func5, Tryd.ntmps5
    go_wp2_with (first
      | (go_at_call 7; rw [← HWe.out]; refine (HF.out 0).mono ?_; rintro e w1 ⟨rfl, hb1⟩; have HB1 : Hid (Below W.heap.size W w1) := hb1; clear hb1)
      | (go_at_call 8; refine (HO.out w1 HB1.out).mono ?_; rintro e w2 ⟨rfl, S, hO2⟩; have HO2 : Hid (OnT w1 w2 w1.heap.size S) := hO2; clear hO2)
      | (go_at_call 11; refine (HFr.out _ S w2 HO2.out.1 HO2.out.2.1.bd).mono ?_; rintro e w3 ⟨rfl, ht3, hc3⟩; rw [(fr_all HO2.out.2.1 hx).1, errV_zero]; have HB3 : Hid (Below w1.heap.size w1 w3) := (HO2.out.2.2).trans (hc3.below (Nat.le_refl _) (Nat.le_of_lt HO2.out.1.lt)); have HCl : Hid (Clr (frS S x 0 64) x) := (fr_all HO2.out.2.1 hx).2; have HT3 : Hid (TabAt w3 w1.heap.size (frS S x 0 64)) := ht3; obtain ⟨c0, c1, c2, c3⟩ := HK.out w3 (Below.next HB1.out HB3.out); clear ht3 hc3))
    generalize frS S x 0 64 = S1 at HCl HT3
    obtain ⟨g, hg⟩ : ∃ g, w1.heap.size = g := ⟨_, rfl⟩
    have HGw : Hid (W.heap.size ≤ g ∧ w.heap.size ≤ g) := by rw [← hg]; exact ⟨HB1.out.size, Nat.le_trans HW.out.size HB1.out.size⟩
    rw [hg] at HT3 HB3 ⊢
    have HKk : Hid (∀ w', Below g w1 w' → LkAt w' w.heap.size o f z a) := fun w' h => HK.out w' (HB1.out.trans (h.mono HGw.out.1))
    have HEnd : Hid (∀ w', Below g w1 w' → Below w.heap.size w w') := fun w' h => Below.next HW.out (HB1.out.trans (h.mono HGw.out.1))
    clear hg HFr HO HF HK
    have HX3 : Hid (OnT w1 w3 g S1) := ⟨HT3.out, HCl.out.good, HB3.out⟩
    clear HT3 HB3
    cases hk : okK o f z with
    | false =>
      have HT4 : Hid _ := fun (_ : Nat) => HTs.out g S1 w3 HX3.out.1
      rw [(ts_out (S := S1) (a := a) hk).1, (ts_out (S := S1) (a := a) hk).2, errV_pos (by decide)] at HT4
      rw [hk] at HRi
      refine (HT4.out 0).mono ?_
      rintro e w4 ⟨rfl, hb4⟩
      have HX4 : Hid (OnT w1 w4 g S1) := HX3.out.later hb4
      obtain ⟨d0, d1, d2, d3⟩ := HKk.out w4 HX4.out.2.2
      clear hb4 c0 c1 c2 c3
      go_wp2_with (go_at_call 10; refine (HRi.out _).mono ?_; rintro e w5 ⟨rfl, hb5⟩; have HX5 : Hid (OnT w1 w5 g S1) := HX4.out.later hb5; clear hb5)
      go_ret
      exact ⟨rfl, HEnd.out _ HX5.out.2.2⟩
    | true =>
    have HT4 : Hid _ := fun (_ : Nat) => HTs.out g S1 w3 HX3.out.1
    by_cases hts : tsN S1 o f z a = -1
    · rw [hts, ts_e hk, errV_zero] at HT4
      have HGs : Hid (Good (stS S1 o f z a)) := good_st HCl.out.good o f z a
      have HAg : Hid (tsN (stS S1 o f z a) o f z a = -1) := st_again hk hts
      have HE2 : Hid (stE S1 o f z a = 0 ∨ stE S1 o f z a = 4) := by
        show _ ∨ _
        rw [(st_in hk hts).1]; exact pu_two _
      have HTe : Hid (tsE o f z = 0) := ts_e hk
      clear hts hk
      refine (HT4.out 0).mono ?_
      rintro e w4 ⟨rfl, hb4⟩
      have HX4 : Hid (OnT w1 w4 g S1) := HX3.out.later hb4
      have HNo : Hid (∀ i, i < (lsN S1 256).length → (((lAt (lsN S1 256) i).p / 64 : Nat) : Int) ≠ x) := fun i hi => clr_list HCl.out hx0 hi
      have HN24 : Hid ((lsN S1 256).length ≤ 24) := HCl.out.good.few
      have HLi : Hid _ := fun (_ : Nat) => list_read w4 g S1 HX4.out.1 HX4.out.2.1.bd
      generalize lAt (lsN S1 256) = L at HNo HLi
      generalize (lsN S1 256).length = N at HNo HLi HN24
      clear hb4 c0 c1 c2 c3
      go_wp2_with (go_at_call 9; refine (HLi.out 0).mono ?_; rintro e w5 ⟨va, vc, b, rfl, hva, hcs, hb5⟩; have HX5 : Hid (OnT w1 w5 g S1) := HX4.out.later hb5; have HC : Hid (∀ w', Below w5.heap.size w5 w' → ∀ i, i < N → FourAt w' b i (L i)) := hcs; clear hb5 hcs)
      go_loopw [12] (fun i wr => ∃ n : Nat, n ≤ N ∧ i = .int .i64 n ∧ Below w5.heap.size w5 wr) (fun i _ => N - (intOf i).toNat)
      case atStart => exact ⟨0, Nat.zero_le _, rfl, Below.refl _ _⟩
      case round =>
        obtain ⟨n, hn, rfl, hbr⟩ := hrel
        have HR : Hid (Below w5.heap.size w5 wr) := hbr
        clear hbr HLi
        by_cases hlt : n < N
        · have hlt' : (n : Int) < (N : Int) := by omega
          have hn24 : n < 24 := by have := HN24.out; omega
          have haa := hva (by omega)
          subst haa
          obtain ⟨e0, _, _, _⟩ := HC.out wr HR.out n hlt
          have hno := HNo.out n hlt
          have hnb : (((L n).p / 64 : Nat) : Int) ≠ x := hno
          generalize (L n).p / 64 = O at e0 hnb
          have hnb2 : ((O : Int) == x) = false := by simp; omega
          clear hno hnb
          go_wp2
          go_roundw
          case rel => exact ⟨n + 1, by omega, by go_num, HR.out⟩
          case measure => simp [intOf]; omega
        · have HXr : Hid (OnT w1 wr g S1) := HX5.out.later HR.out
          have HS6 : Hid _ := fun (_ : Nat) => HSt.out g S1 wr HXr.out.1 HXr.out.2.1.bd
          obtain ⟨d0, d1, d2, d3⟩ := HKk.out wr HXr.out.2.2
          have hnN : n = N := by omega
          clear HX4 HX5 hlt
          generalize stE S1 o f z a = E at HE2 HS6
          have HT7 : Hid _ := fun (w' : World) (h : OnT w1 w' g (stS S1 o f z a)) => HTs.out g _ w' h.1
          rw [HAg.out, HTe.out, errV_zero] at HT7
          generalize stS S1 o f z a = S2 at HS6 HGs HT7 HAg
          rcases HE2.out with e0 | e0
          · subst e0
            rw [errV_zero] at HS6
            go_wp2_with (first
              | (go_at_call 14; refine (HS6.out 0).mono ?_; rintro e w6 ⟨rfl, ht6, hc6⟩; have HX6 : Hid (OnT w1 w6 g S2) := HXr.out.tch ht6 HGs.out hc6; obtain ⟨k0, k1, k2, k3⟩ := HKk.out w6 HX6.out.2.2; clear ht6 hc6)
              | (go_at_call 13; refine (HT7.out w6 HX6.out).mono ?_; rintro e w7 ⟨rfl, hb7⟩; have HX7 : Hid (OnT w1 w7 g S2) := HX6.out.later hb7; clear hb7))
            go_ret
            exact ⟨rfl, HEnd.out _ HX7.out.2.2⟩
          · subst e0
            have HE7 : Hid _ := fun (w' : World) (h : OnT w1 w' g S2) => HE.out 4 4 w' (HEnd.out w' h.2.2)
            rw [errV_pos (by decide)] at HS6 HE7
            go_wp2_with (first
              | (go_at_call 14; refine (HS6.out 0).mono ?_; rintro e w6 ⟨rfl, ht6, hc6⟩; have HX6 : Hid (OnT w1 w6 g S2) := HXr.out.tch ht6 HGs.out hc6; obtain ⟨k0, k1, k2, k3⟩ := HKk.out w6 HX6.out.2.2; clear ht6 hc6)
              | (go_at_call 13; refine (HT7.out w6 HX6.out).mono ?_; rintro e w7 ⟨rfl, hb7⟩; have HX7 : Hid (OnT w1 w7 g S2) := HX6.out.later hb7; clear hb7)
              | (go_at_call 15; refine (HE7.out w7 HX7.out).mono ?_; rintro e w8 ⟨rfl, hb8⟩; have HX8 : Hid (OnT w1 w8 g S2) := HX7.out.later hb8; clear hb8))
            go_ret
            exact ⟨rfl, HEnd.out _ HX8.out.2.2⟩
    · obtain ⟨j, hj, hjo, hjx⟩ := clr_test HCl.out hk hts
      have hjo2 : ((j : Int) != o) = true := by simp; omega
      have hjx2 : ((j : Int) != x) = true := by simp; omega
      have HS1 : Hid (stE S1 o f z a = 6 ∧ stS S1 o f z a = S1) := st_hit hk hts
      rw [hj, ts_e hk, errV_zero] at HT4
      clear hts hk hj hjo hjx
      refine (HT4.out 0).mono ?_
      rintro e w4 ⟨rfl, hb4⟩
      have HX4 : Hid (OnT w1 w4 g S1) := HX3.out.later hb4
      have HNo : Hid (∀ i, i < (lsN S1 256).length → (((lAt (lsN S1 256) i).p / 64 : Nat) : Int) ≠ x) := fun i hi => clr_list HCl.out hx0 hi
      have HN24 : Hid ((lsN S1 256).length ≤ 24) := HCl.out.good.few
      have HLi : Hid _ := fun (_ : Nat) => list_read w4 g S1 HX4.out.1 HX4.out.2.1.bd
      generalize lAt (lsN S1 256) = L at HNo HLi
      generalize (lsN S1 256).length = N at HNo HLi HN24
      clear hb4 c0 c1 c2 c3
      go_wp2_with (go_at_call 9; refine (HLi.out 0).mono ?_; rintro e w5 ⟨va, vc, b, rfl, hva, hcs, hb5⟩; have HX5 : Hid (OnT w1 w5 g S1) := HX4.out.later hb5; have HC : Hid (∀ w', Below w5.heap.size w5 w' → ∀ i, i < N → FourAt w' b i (L i)) := hcs; clear hb5 hcs)
      go_loopw [12] (fun i wr => ∃ n : Nat, n ≤ N ∧ i = .int .i64 n ∧ Below w5.heap.size w5 wr) (fun i _ => N - (intOf i).toNat)
      case atStart => exact ⟨0, Nat.zero_le _, rfl, Below.refl _ _⟩
      case round =>
        obtain ⟨n, hn, rfl, hbr⟩ := hrel
        have HR : Hid (Below w5.heap.size w5 wr) := hbr
        clear hbr HLi
        by_cases hlt : n < N
        · have hlt' : (n : Int) < (N : Int) := by omega
          have hn24 : n < 24 := by have := HN24.out; omega
          have haa := hva (by omega)
          subst haa
          obtain ⟨e0, _, _, _⟩ := HC.out wr HR.out n hlt
          have hno := HNo.out n hlt
          have hnb : (((L n).p / 64 : Nat) : Int) ≠ x := hno
          generalize (L n).p / 64 = O at e0 hnb
          have hnb2 : ((O : Int) == x) = false := by simp; omega
          clear hno hnb
          go_wp2
          go_roundw
          case rel => exact ⟨n + 1, by omega, by go_num, HR.out⟩
          case measure => simp [intOf]; omega
        · have HXr : Hid (OnT w1 wr g S1) := HX5.out.later HR.out
          have HS6 : Hid _ := fun (_ : Nat) => HSt.out g S1 wr HXr.out.1 HXr.out.2.1.bd
          obtain ⟨d0, d1, d2, d3⟩ := HKk.out wr HXr.out.2.2
          have hnN : n = N := by omega
          clear HX4 HX5 hlt
          rw [HS1.out.1, HS1.out.2, errV_pos (by decide)] at HS6
          have HE7 : Hid _ := fun (w' : World) (h : OnT w1 w' g S1) => HE.out 6 6 w' (HEnd.out w' h.2.2)
          rw [errV_pos (by decide)] at HE7
          go_wp2_with (first
            | (go_at_call 14; refine (HS6.out 0).mono ?_; rintro e w6 ⟨rfl, ht6, hc6⟩; have HX6 : Hid (OnT w1 w6 g S1) := HXr.out.tch ht6 HCl.out.good hc6; obtain ⟨k0, k1, k2, k3⟩ := HKk.out w6 HX6.out.2.2; clear ht6 hc6)
            | (go_at_call 15; refine (HE7.out w6 HX6.out).mono ?_; rintro e w8 ⟨rfl, hb8⟩; have HX8 : Hid (OnT w1 w8 g S1) := HX6.out.later hb8; clear hb8))
          go_ret
          exact ⟨rfl, HEnd.out _ HX8.out.2.2⟩

end Go.Proofs.YtigoacnbbichoaaDoor
