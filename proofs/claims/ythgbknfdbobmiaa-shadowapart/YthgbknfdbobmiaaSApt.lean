/- This text proves that platterholdlaw3.ShadowApart returns true: no two pages are in one slot, and what is written is read; old memory is as it was; the condition is that the steps' rows lie there. -/
import Derived.Test.YthgbknfdbobmiaaS6
import Derived.Deep.QuietTactic
import Derived.BigQuiet
namespace Go.Proofs.Ythgbknfdbobmiaa
open Go.RowKit Go.Deep

theorem quiet0 {P : Program} {f : FuncId} {args : Array Value} {w : World} {n : Nat} {v : Value}
    (h : Calls P f args (w.drewN n) fun e w' => e = .returned v ∧ w.drewN n = w') : Calls P f args (w.drewN n) fun e w'' => e = .returned v ∧ ∃ m, w'' = w.drewN m :=
  h.mono fun _ _ ⟨he, hm⟩ => ⟨he, n, hm.symm⟩

set_option maxHeartbeats 8000000 in
set_option maxRecDepth 100000 in
theorem shadowApart_any (w : World) (v : Value) (rs : List (List Int)) (hr : RowsIs w v rs) (p x : Int) :
    Calls Try.prog 4 #[v, .int .i64 p, .int .i64 x] w fun e w' => e = .returned (.bool true) ∧ Below w.heap.size w w' := by
  have HR : Hid (RowsIs w v rs) := hr
  obtain ⟨a, c, hv, _, _⟩ := hr
  subst hv
  go_enter Try.func4, Try.ntmps4
  go_wp2_with fail
  refine (factS_any w).mono ?_
  rintro e w0 ⟨rfl, hb⟩
  have B0 : Hid (Below w.heap.size w w0) := hb
  have HR0 : Hid (RowsIs w0 _ rs) := HR.out.later hb
  clear hb HR
  go_wp2_with fail
  refine (beside_any w0 _ rs HR0.out).mono ?_
  rintro e w1 ⟨g, C, rfl, hst⟩
  have S1 : Hid (OnS w0 w1 g C) := hst
  clear hst HR0
  go_wp2_with fail
  refine (valuesS_any w1 _ _ _ S1.out.disk).mono ?_
  rintro e w2 ⟨E, E2, rfl, hA, _, hb, hA1, _⟩
  have S2 : Hid (OnS w0 w2 g C ∧ SeenS w2 g E (vlS C 24)) := ⟨S1.out.later hb, SeenS.new S1.out.disk hA hA1⟩
  clear hA hb hA1 S1
  have HW : Hid _ := fun (_ : Nat) => writeS_any w2 _ _ _ S2.out.1.disk p x
  unfold toS erS noS at HW
  by_cases hok : 0 ≤ p ∧ p < 8 ∧ 0 ≤ x ∧ x ≤ 1000
  · rw [if_pos hok, if_pos hok, if_pos hok, errV_zero] at HW
    obtain ⟨h0, h1, h2, h3⟩ := hok
    obtain ⟨P, rfl⟩ : ∃ P : Nat, p = (P : Int) := ⟨_, (Int.toNat_of_nonneg h0).symm⟩
    rw [Int.toNat_natCast] at HW
    have hP : P < 8 := by omega
    go_wp2_with fail
    refine (HW.out 0).mono ?_
    rintro e w3 ⟨rfl, hst⟩
    have HG : Hid (GoodS C) := S2.out.1.disk.good
    have S3 : Hid (OnS w0 w3 g (wrS C P x) ∧ SeenS w3 g E (vlS C 24)) := ⟨S2.out.1.step hst, S2.out.2.step hst⟩
    clear hst HW S2
    go_wp2_with fail
    refine (slots_any w3 _ _ _ S3.out.1.disk).mono ?_
    rintro e w4 ⟨A, rfl, hA, hb, hA1⟩
    have S4 : Hid (OnS w0 w4 g (wrS C P x) ∧ SeenS w4 g E (vlS C 24) ∧ VlI w4 A (fun i => wrS C P x (24 + i))) := ⟨S3.out.1.later hb, S3.out.2.later hb, hA⟩
    clear hA hb hA1 S3
    go_wp2_with fail
    refine (valuesS_any w4 _ _ _ S4.out.1.disk).mono ?_
    rintro e w5 ⟨D, D2, rfl, hA, _, hb, hA1, _⟩
    have S5 : Hid (OnS w0 w5 g (wrS C P x) ∧ VlI w5 E (vlS C 24) ∧ VlI w5 A (fun i => wrS C P x (24 + i)) ∧ VlI w5 D (vlS (wrS C P x) 24)) := ⟨S4.out.1.later hb, S4.out.2.1.at'.later hb, S4.out.2.2.later hb, hA⟩
    clear hA hb hA1 S4
    obtain ⟨L, hL⟩ : ∃ L : Nat → Int, L = fun i => wrS C P x (24 + i) := ⟨_, rfl⟩
    obtain ⟨G, hG⟩ : ∃ G, G = vlS (wrS C P x) 24 := ⟨_, rfl⟩
    obtain ⟨F, hF⟩ : ∃ F, F = vlS C 24 := ⟨_, rfl⟩
    rw [← hL, ← hG, ← hF] at S5
    have HLt : Hid (∀ i, i < 8 → -1 ≤ L i ∧ L i ≤ 15) := fun i hi => by rw [hL]; exact (HG.out.write hP x).tabN hi
    have HLd : Hid (∀ i k, i < 8 → k < i → L i = L k → L i = -1) := fun i k hi hk e => by rw [hL] at e ⊢; exact (HG.out.write hP x).now i k hi (by omega) (by omega) e
    have HGF : Hid (∀ i, i < 8 → i ≠ P → G i = F i) := fun i hi k => by rw [hG, hF, HG.out.now_is hP x i hi, if_neg k]
    have e1 : L P = (atS C P : Int) := by rw [hL]; show wrS C P x (24 + P) = _; rw [HG.out.wr_now hP x P hP, if_pos rfl]
    have e2 : G P = x := by rw [hG, HG.out.now_is hP x P hP, if_pos rfl]
    have HX : Hid (∀ wr, Below w5.heap.size w5 wr → ∀ i, i < 8 → wr.cell? ⟨A, i, none⟩ = some (.int .i64 (L i)) ∧ wr.cell? ⟨D, i, none⟩ = some (.int .i64 (G i)) ∧ wr.cell? ⟨E, i, none⟩ = some (.int .i64 (F i))) := fun wr hb i hi =>
      ⟨(S5.out.2.2.1.later hb).cell hi, (S5.out.2.2.2.later hb).cell hi, (S5.out.2.1.later hb).cell hi⟩
    have B5 : Hid (Below w.heap.size w w5) := Below.next B0.out S5.out.1.old
    obtain ⟨x1, x2, _⟩ := HX.out w5 (Below.refl _ _) P hP
    rw [e1] at x1
    rw [e2] at x2
    have hPi : (P : Int) < 8 := h1
    generalize ((atS C P : Nat) : Int) = T at x1
    clear hL hG hF e1 e2 S5
    go_wp2_with fail
    refine (in_yes (P : Int) 0 7 _ (by omega)).mono ?_
    rintro e w6 ⟨rfl, rfl⟩
    go_wp2
    clear x1 x2
    go_loopw [16, 17] (fun i _ wr => ∃ k : Nat, k ≤ 8 ∧ i = .int .i64 (k : Int) ∧ Below w5.heap.size w5 wr) (fun i _ _ => 8 - (Go.RowKit.intOf i).toNat)
    case atStart => exact ⟨0, by omega, rfl, Below.refl _ _⟩
    case round =>
      obtain ⟨k, hk, rfl, hb⟩ := hrel
      by_cases hlt : k < 8
      · obtain ⟨x1, x2, x3⟩ := HX.out wr hb k hlt
        have BR : Hid (Below w5.heap.size w5 wr) := hb
        obtain ⟨t0, t1⟩ := HLt.out k hlt
        clear hb
        by_cases hkP : k = P
        · subst hkP
          go_wp2_with fail
          go_quiet (first | (go_at_call 14; exact quiet0 (in_yes (L k) (-1) 15 _ ⟨t0, t1⟩)))
          generalize hwq : wr.drewN _ = wq
          have BQ : Hid (Below w5.heap.size w5 wq) := by rw [← hwq]; exact Below.next BR.out (below_drew _ _ _)
          clear hwq x1 x2 x3 BR
          go_wp2
          go_loopw [17] (fun i w2 => ∃ m : Nat, m ≤ k ∧ i = .int .i64 (m : Int) ∧ Below w5.heap.size w5 w2) (fun i _ => 8 - (Go.RowKit.intOf i).toNat)
          case atStart => exact ⟨0, by omega, rfl, BQ.out⟩
          case round =>
            obtain ⟨m, hm, rfl, hb2⟩ := hrel
            rename_i wz _
            by_cases hmk : m < k
            · have hmk' : (m : Int) < (k : Int) := by omega
              obtain ⟨y1, _, _⟩ := HX.out _ hb2 k hlt
              obtain ⟨y2, _, _⟩ := HX.out _ hb2 m (by omega)
              have HD : Hid (L k = L m → L k = -1) := HLd.out k m hlt hmk
              have BZ : Hid _ := hb2
              clear hb2
              by_cases hneg : 0 ≤ L k
              · have he : (L k == L m) = false := by simp; intro e; have := HD.out e; omega
                obtain ⟨q1, hq1⟩ : ∃ q : Nat, L k = (q : Int) := ⟨_, (Int.toNat_of_nonneg hneg).symm⟩
                generalize L m = q2 at y2 he
                rw [hq1] at y1 he
                have hq0 : (0 : Int) ≤ (q1 : Int) := by omega
                clear hneg hq1 t0 t1
                go_wp2_with fail
                go_quiet (fail)
                go_wp2
                go_roundw
                case rel => exact ⟨m + 1, by omega, by go_num, Below.next BZ.out (below_drew _ _ _)⟩
                case measure => simp [Go.RowKit.intOf]; omega
              · have hm1 : L k = -1 := by omega
                generalize L m = q2 at y2
                rw [hm1] at y1
                clear hneg hm1 t0 t1
                go_wp2_with fail
                go_quiet (fail)
                go_wp2
                go_roundw
                case rel => exact ⟨m + 1, by omega, by go_num, Below.next BZ.out (below_drew _ _ _)⟩
                case measure => simp [Go.RowKit.intOf]; omega
            · obtain rfl : m = k := by omega
              have BZ : Hid _ := hb2
              clear hb2
              go_wp2
              go_roundw
              case rel => exact ⟨m + 1, by omega, by go_num, BZ.out⟩
              case measure => simp [Go.RowKit.intOf]; omega
        · have hne : ((k : Int) != (P : Int)) = true := by simp <;> omega
          have e3 := HGF.out k hlt hkP
          rw [e3] at x2
          go_wp2_with fail
          go_quiet (first | (go_at_call 14; exact quiet0 (in_yes (L k) (-1) 15 _ ⟨t0, t1⟩)))
          generalize hwq : wr.drewN _ = wq
          have BQ : Hid (Below w5.heap.size w5 wq) := by rw [← hwq]; exact Below.next BR.out (below_drew _ _ _)
          clear hwq x1 x2 x3 BR
          go_wp2
          go_loopw [17] (fun i w2 => ∃ m : Nat, m ≤ k ∧ i = .int .i64 (m : Int) ∧ Below w5.heap.size w5 w2) (fun i _ => 8 - (Go.RowKit.intOf i).toNat)
          case atStart => exact ⟨0, by omega, rfl, BQ.out⟩
          case round =>
            obtain ⟨m, hm, rfl, hb2⟩ := hrel
            rename_i wz _
            by_cases hmk : m < k
            · have hmk' : (m : Int) < (k : Int) := by omega
              obtain ⟨y1, _, _⟩ := HX.out _ hb2 k hlt
              obtain ⟨y2, _, _⟩ := HX.out _ hb2 m (by omega)
              have HD : Hid (L k = L m → L k = -1) := HLd.out k m hlt hmk
              have BZ : Hid _ := hb2
              clear hb2
              by_cases hneg : 0 ≤ L k
              · have he : (L k == L m) = false := by simp; intro e; have := HD.out e; omega
                obtain ⟨q1, hq1⟩ : ∃ q : Nat, L k = (q : Int) := ⟨_, (Int.toNat_of_nonneg hneg).symm⟩
                generalize L m = q2 at y2 he
                rw [hq1] at y1 he
                have hq0 : (0 : Int) ≤ (q1 : Int) := by omega
                clear hneg hq1 t0 t1
                go_wp2_with fail
                go_quiet (fail)
                go_wp2
                go_roundw
                case rel => exact ⟨m + 1, by omega, by go_num, Below.next BZ.out (below_drew _ _ _)⟩
                case measure => simp [Go.RowKit.intOf]; omega
              · have hm1 : L k = -1 := by omega
                generalize L m = q2 at y2
                rw [hm1] at y1
                clear hneg hm1 t0 t1
                go_wp2_with fail
                go_quiet (fail)
                go_wp2
                go_roundw
                case rel => exact ⟨m + 1, by omega, by go_num, Below.next BZ.out (below_drew _ _ _)⟩
                case measure => simp [Go.RowKit.intOf]; omega
            · obtain rfl : m = k := by omega
              have BZ : Hid _ := hb2
              clear hb2
              go_wp2
              go_roundw
              case rel => exact ⟨m + 1, by omega, by go_num, BZ.out⟩
              case measure => simp [Go.RowKit.intOf]; omega
      · obtain rfl : k = 8 := by omega
        go_wp2
        go_ret
        exact ⟨rfl, B5.out.trans (hb.mono B5.out.size)⟩
  · rw [if_neg hok, if_neg hok, if_neg hok, errV_pos (by decide)] at HW
    go_wp2_with fail
    refine (HW.out 0).mono ?_
    rintro e w3 ⟨rfl, hst⟩
    have B3 : Hid (Below w.heap.size w w3) := Below.next B0.out (S2.out.1.step hst).old
    clear hst HW S2
    by_cases hp : 0 ≤ p ∧ p ≤ 7
    · have hx : ¬ (0 ≤ x ∧ x ≤ 1000) := by omega
      go_wp2_with fail
      refine (in_yes p 0 7 _ hp).mono ?_
      rintro e w6 ⟨rfl, rfl⟩
      go_wp2_with fail
      refine (in_no x 0 1000 _ hx).mono ?_
      rintro e w6 ⟨rfl, rfl⟩
      go_wp2
      go_ret
      exact ⟨rfl, B3.out⟩
    · go_wp2_with fail
      refine (in_no p 0 7 _ hp).mono ?_
      rintro e w6 ⟨rfl, rfl⟩
      go_wp2
      go_ret
      exact ⟨rfl, B3.out⟩

end Go.Proofs.Ythgbknfdbobmiaa
