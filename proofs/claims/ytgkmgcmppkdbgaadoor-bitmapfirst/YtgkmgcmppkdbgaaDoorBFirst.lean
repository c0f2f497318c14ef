/- This text proves that platterholdlaw1.BitmapFirst returns true for any rows and any number, and lets all old memory be; the conditions: the rows lie there, and the library's variable errors.errorType holds what the program's own text lays. -/
import Derived.Test.YtgkmgcmppkdbgaaDoorV4
import Derived.Test.YtgkmgcmppkdbgaaDoorV5
import Derived.Test.YtgkmgcmppkdbgaaDoorV6
import Derived.Test.YtgkmgcmppkdbgaaDoorIn
namespace Go.Proofs.YtgkmgcmppkdbgaaDoor
open Go.RowKit Go.Deep

/-- A call that leaves the world as it was, as a quiet region takes it. -/
theorem quiet_at {P : Program} {f : FuncId} {args : Array Value} {w : World} {q n : Nat} {v : Value}
    (h : Calls P f args (w.drewN (q + n)) fun e w' => e = .returned v ∧ w.drewN (q + n) = w') : Calls P f args (w.drewN (q + n)) fun e w'' => e = .returned v ∧ ∃ m, w'' = w.drewN (q + m) :=
  h.mono fun _ _ ⟨he, hm⟩ => ⟨he, n, hm.symm⟩

set_option maxHeartbeats 16000000 in
set_option maxRecDepth 100000 in
theorem bitmapFirst_any (w : World) (v : Value) (rs : List (List Int)) (n : Int) (hr : RowsIs w v rs) (hL : Laid w) :
    Calls Tryd.prog 3 #[v, .int .i64 n] w fun e w' => e = .returned (.bool true) ∧ Below w.heap.size w w' := by
  have HR : Hid (RowsIs w v rs) := hr
  have HL : Hid (Laid w) := hL
  clear hr hL
  go_enter Tryd.func3, Tryd.ntmps3
  go_wp2_with fail
  refine (bitmapFact_any _).mono ?_
  rintro e w1 ⟨rfl, hb⟩
  have HB1 : Hid (Below w.heap.size w w1) := hb
  clear hb
  go_wp2_with fail
  refine (taken_any w1 v rs (HR.out.later HB1.out)).mono ?_
  rintro e w2 ⟨rfl, hb, m, hm⟩
  have HM : Hid (MapAt w2 w1.heap.size m) := hm
  have HB2 : Hid (Below w.heap.size w w2) := Below.next HB1.out hb
  have HG : Hid (w.heap.size ≤ w1.heap.size) := HB1.out.size
  generalize w1.heap.size = G at HM HG ⊢
  clear hb hm
  go_wp2_with fail
  refine (free_any G m w2 HM.out).mono ?_
  rintro e w3 ⟨rfl, q, rfl⟩
  have HM3 : Hid (MapAt (w2.drewN q) G m) := HM.out.drew q
  have HB3 : Hid (Below w.heap.size w (w2.drewN q)) := HB2.out.trans (below_drew _ _ _)
  generalize w2.drewN q = w3 at HM3 HB3 ⊢
  clear HM HB2
  go_wp2
  go_loopw [9, 10] (fun s i wr => ∃ k : Nat, k ≤ 32 ∧ i = .int .i64 (k : Int) ∧ wr.ownsRow w3.heap.size 4 1 s k (cB k m.testBit) ∧ Below w3.heap.size w3 wr) (fun _ i _ => 32 - (intOf i).toNat)
  case atStart => exact ⟨0, by omega, rfl, World.ownsRow_nil _ _ _ _, Below.refl _ _⟩
  case round =>
    obtain ⟨k, hk, rfl, hown, hbel⟩ := hrel
    have HO : Hid (wr.ownsRow w3.heap.size 4 1 u9 k (cB k m.testBit)) := hown
    have HBr : Hid (Below w3.heap.size w3 wr) := hbel
    clear hown hbel
    by_cases hlt : k < 32
    · have hl : (k : Int) < 32 := by omega
      have HMr : Hid (MapAt wr G m) := HM3.out.later HBr.out
      go_wp2_with fail
      refine (has_in G m k _ HMr.out.lt hlt HMr.out.cell).mono ?_
      rintro e w' ⟨rfl, rfl⟩
      go_wp2_with (at_builtin; refine wpList_append_bool rfl (.tmp 31) (.tmp 35) rfl w3.heap.size u9 k m.testBit rfl HO.out rfl (by omega) HBr.out.size ?q1)
      case q1 =>
        intro v' w' h1 h2
        have HO1 : Hid _ := h1
        have HB4 : Hid (Below w3.heap.size w3 w') := HBr.out.trans h2
        clear h1 h2
        go_wp2
        go_roundw
        case rel => exact ⟨k + 1, by omega, by go_num, HO1.out, HB4.out⟩
        case measure => simp [intOf]; omega
    · obtain rfl : k = 32 := by omega
      obtain ⟨gw, cw, hu, hg1, hg2⟩ := own_where HO.out (by decide)
      subst hu
      have HMr : Hid (MapAt wr G m) := HM3.out.later HBr.out
      have HBw : Hid (Below w.heap.size w wr) := HB3.out.trans (HBr.out.mono HB3.out.size)
      have HGs : Hid (G < w3.heap.size) := HM3.out.inside
      clear hg1 hg2
      go_wp2_with fail
      refine (take_any G m n wr HMr.out).mono ?_
      rintro e w5 ⟨rfl, hm, hc⟩
      have HM5 : Hid (MapAt w5 G (tkM m n)) := hm
      have HB5 : Hid (Below w.heap.size w w5) := below_chg HBw.out HG.out hc
      have HO5 : Hid (w5.ownsRow w3.heap.size 4 1 (.slice (some ⟨gw, 0, none⟩) 32 cw) 32 (cB 32 m.testBit)) := hc.own HGs.out HO.out
      clear hm hc HO HBr HMr HBw
      go_wp2_with fail
      refine (in_any _ _ _ _).mono ?_
      rintro e w' ⟨rfl, rfl⟩
      by_cases hn : 1 ≤ n ∧ n ≤ 32
      · rw [decide_eq_true hn]
        obtain ⟨j, rfl⟩ : ∃ j : Nat, n = (j : Int) := ⟨n.toNat, by omega⟩
        rcases tk_in m j (by omega) (by omega) with ⟨h1, -, -, h4⟩ | ⟨h1, h2, h3, h4, h5⟩
        · have hgt : ((ms m 32 : Nat) : Int) < (j : Int) := by
            have : ¬ j ≤ ms m 32 := fun h => by
              obtain ⟨a, k1, k2⟩ := (ms_iff m j).1 h
              exact h4 a k1 k2
            omega
          rw [h1]
          clear h1 h4
          go_wp2_with fail
          refine (error_any (4) (4) _ (HL.out.later HB5.out)).mono ?_
          rintro e w9 ⟨rfl, hb⟩
          have HB9 : Hid (Below w.heap.size w w9) := Below.next HB5.out hb
          rw [show (((4 : Nat) : Int) == (4)) = true from rfl]
          clear hb
          go_wp2
          go_ret
          exact ⟨rfl, HB9.out⟩
        · have hgt : ¬ ((ms m 32 : Nat) : Int) < (j : Int) := by
            have := (ms_iff m j).2 ⟨_, h3, h4⟩
            omega
          have HM5 : Hid (MapAt w5 G (put m (tkAt m (j : Int)) j)) := by rw [← h2]; exact HM5.out
          rw [h1, errV_zero]
          have H5 : Hid (∀ a, a < tkAt m (j : Int) → ¬ fr m a j) := h5
          have H4 : Hid (fr m (tkAt m (j : Int)) j) := h4
          clear h1 h2 h4 h5
          generalize tkAt m (j : Int) = K at HM5 h3 H4 H5 ⊢
          have HIN : Hid (decide ((0 : Int) ≤ (K : Int) ∧ (K : Int) ≤ 32 - (j : Int)) = true) := decide_eq_true (by omega)
          go_wp2_with fail
          refine (in_any _ _ _ _).mono ?_
          rintro e w' ⟨rfl, rfl⟩
          rw [HIN.out]
          go_wp2
          have HC : Hid (∀ i, i < 32 → w5.cell? ⟨gw, i, none⟩ = some (.bool (m.testBit i))) := fun i hi => by
            have := HO5.out.cellAt i hi
            rw [cB_get hi] at this
            exact this
          go_loopw [13] (fun i wv => ∃ t : Nat, t ≤ 32 ∧ i = .int .i64 (t : Int) ∧ ∃ q, wv = w5.drewN q) (fun i _ => 32 - (intOf i).toNat)
          case atStart => exact ⟨0, by omega, rfl, 0, rfl⟩
          case round =>
            obtain ⟨t, ht, rfl, q5, rfl⟩ := hrel
            by_cases hlt2 : t < 32
            · have hl2 : (t : Int) < 32 := by omega
              have hc := HC.out t hlt2
              have hP := put_bit m K j t
              cases hb : m.testBit t with
              | true =>
                rw [hb] at hc hP
                have HP : Hid ((put m K j).testBit t = true) := hP
                clear hb hP
                go_wp2_with fail
                go_quiet (first | (go_at_call 9; exact quiet_at (has_in G _ t _ HM5.out.lt hlt2 (HM5.out.drew _).cell)))
                rw [HP.out]
                go_wp2
                go_roundw
                case rel => exact ⟨t + 1, by omega, by go_num, q5 + nq, rfl⟩
                case measure => simp [intOf]; omega
              | false =>
                rw [hb, Bool.false_or] at hP
                rw [hb] at hc
                by_cases hA : K ≤ t
                · have hA' : (K : Int) ≤ (t : Int) := by omega
                  by_cases hD : t < K + j
                  · have hD' : (t : Int) < (K : Int) + (j : Int) := by omega
                    rw [decide_eq_true ⟨hA, hD⟩] at hP
                    have HP : Hid ((put m K j).testBit t = true) := hP
                    clear hb hP
                    go_wp2_with fail
                    go_quiet (first | (go_at_call 9; exact quiet_at (has_in G _ t _ HM5.out.lt hlt2 (HM5.out.drew _).cell)))
                    rw [HP.out]
                    go_wp2
                    go_roundw
                    case rel => exact ⟨t + 1, by omega, by go_num, q5 + nq, rfl⟩
                    case measure => simp [intOf]; omega
                  · have hD' : decide ((t : Int) < (K : Int) + (j : Int)) = false := decide_eq_false (by omega)
                    rw [decide_eq_false (by omega)] at hP
                    have HP : Hid ((put m K j).testBit t = false) := hP
                    clear hb hP
                    go_wp2_with fail
                    go_quiet (first | (go_at_call 9; exact quiet_at (has_in G _ t _ HM5.out.lt hlt2 (HM5.out.drew _).cell)))
                    rw [HP.out]
                    go_wp2
                    go_roundw
                    case rel => exact ⟨t + 1, by omega, by go_num, q5 + nq, rfl⟩
                    case measure => simp [intOf]; omega
                · have hA' : decide ((K : Int) ≤ (t : Int)) = false := decide_eq_false (by omega)
                  rw [decide_eq_false (by omega)] at hP
                  have HP : Hid ((put m K j).testBit t = false) := hP
                  clear hb hP
                  go_wp2_with fail
                  go_quiet (first | (go_at_call 9; exact quiet_at (has_in G _ t _ HM5.out.lt hlt2 (HM5.out.drew _).cell)))
                  rw [HP.out]
                  go_wp2
                  go_roundw
                  case rel => exact ⟨t + 1, by omega, by go_num, q5 + nq, rfl⟩
                  case measure => simp [intOf]; omega
            · obtain rfl : t = 32 := by omega
              go_wp2
              go_loop [14, 15, 16] (fun p _ _ => ∃ P : Nat, P ≤ K + 1 ∧ p = .int .i64 (P : Int)) (fun p _ _ => K + 1 - (intOf p).toNat)
              case atStart => exact ⟨0, by omega, rfl⟩
              case round =>
                obtain ⟨P, hP, rfl⟩ := hrel
                by_cases hPK : P ≤ K
                · have hPK' : (P : Int) ≤ (K : Int) := by omega
                  go_wp2
                  go_loop [15, 16] (fun f i => ∃ I : Nat, P ≤ I ∧ I ≤ P + j ∧ i = .int .i64 (I : Int) ∧ f = .bool (frB m P (I - P))) (fun _ i => P + j - (intOf i).toNat)
                  case atStart => exact ⟨P, by omega, by omega, rfl, by rw [Nat.sub_self]; rfl⟩
                  case round =>
                    obtain ⟨I, hI1, hI2, rfl, rfl⟩ := hrel
                    by_cases hlt3 : I < P + j
                    · have hl3 : (I : Int) < (P : Int) + (j : Int) := by omega
                      have hI32 : (I : Int) < 32 := by omega
                      have hc := HC.out I (by omega)
                      have HF : Hid (frB m P (I + 1 - P) = (frB m P (I - P) && !m.testBit I)) := by
                        show frB m P (I + 1 - P) = (frB m P (I - P) && !m.testBit I)
                        rw [show I + 1 - P = I - P + 1 by omega, frB, show P + (I - P) = I by omega]
                      cases hf : frB m P (I - P) with
                      | true =>
                        have HF : Hid (frB m P (I + 1 - P) = !m.testBit I) := by rw [HF.out, hf]; rfl
                        generalize m.testBit I = b at hc HF
                        clear hf
                        go_wp2
                        refine ⟨⟨I + 1, by omega, by omega, by go_num, by rw [HF.out]⟩, ?_⟩
                        simp [intOf]; omega
                      | false =>
                        have HF : Hid (frB m P (I + 1 - P) = false) := by rw [HF.out, hf]; rfl
                        clear hf
                        go_wp2
                        refine ⟨⟨I + 1, by omega, by omega, by go_num, by rw [HF.out]⟩, ?_⟩
                        simp [intOf]; omega
                    · obtain rfl : I = P + j := by omega
                      have hl3 : ¬ ((P + j : Nat) : Int) < (P : Int) + (j : Int) := by omega
                      rw [Nat.add_sub_cancel_left]
                      by_cases hE : P = K
                      · subst hE
                        rw [(frB_iff m P j).2 H4.out]
                        go_wp2
                        refine ⟨⟨P + 1, by omega, by go_num⟩, ?_⟩
                        simp [intOf]
                      · have hE' : ¬ (P : Int) = (K : Int) := by omega
                        have hfB : frB m P j = false := by
                          cases h : frB m P j with
                          | true => exact absurd ((frB_iff m P j).1 h) (H5.out P (by omega))
                          | false => rfl
                        rw [hfB]
                        clear hfB
                        go_wp2
                        refine ⟨⟨P + 1, by omega, by go_num⟩, ?_⟩
                        simp [intOf]; omega
                · have hPK' : ¬ (P : Int) ≤ (K : Int) := by omega
                  go_wp2
                  go_ret
                  exact ⟨rfl, HB5.out.trans (below_drew _ _ _)⟩
      · rw [decide_eq_false hn]
        obtain ⟨h1, -, -⟩ := tk_range (m := m) hn
        rw [h1]
        go_wp2_with fail
        refine (error_any (1) (1) _ (HL.out.later HB5.out)).mono ?_
        rintro e w9 ⟨rfl, hb⟩
        have HB9 : Hid (Below w.heap.size w w9) := Below.next HB5.out hb
        rw [show (((1 : Nat) : Int) == (1)) = true from rfl]
        clear hb
        go_wp2
        go_ret
        exact ⟨rfl, HB9.out⟩

end Go.Proofs.YtgkmgcmppkdbgaaDoor
