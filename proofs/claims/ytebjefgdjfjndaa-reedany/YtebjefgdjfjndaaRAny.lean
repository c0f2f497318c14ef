/- This text proves that platterholdlaw1.ReedAny returns true for any data, any number and any places lost, and lets all old memory be; the only condition is that the slices lie there. -/
import Derived.Test.YtebjefgdjfjndaaRe8
namespace Go.Proofs.Ytebjefgdjfjndaa
open Go.RowKit Go.Deep

set_option maxHeartbeats 4000000 in
theorem reedAny_err (w : World) (va vb : Value) (xa : List Int) (more : Int) (ha : SliceIs w va xa) (he : makeE xa more ≠ 0) :
    Calls Try.prog 3 #[va, .int .i64 more, vb] w fun e w' => e = .returned (.bool true) ∧ Below w.heap.size w w' := by
  have HE : Hid (errV (makeE xa more) = .iface 45 (.int .i64 (makeE xa more : Int))) := errV_pos he
  have HA : Hid (SliceIs w va xa) := ha
  have HZ : Hid (makeE xa more ≠ 0) := he
  clear he ha
  go_enter Try.func3, Try.ntmps3
  go_wp2_with fail
  refine (rfact_any w).mono ?_
  rintro e w1 ⟨rfl, hb1⟩
  have HB1 : Hid (Below w.heap.size w w1) := hb1
  clear hb1
  go_wp2_with fail
  refine (make_err w1 va xa more (HA.out.later HB1.out) HZ.out).mono ?_
  rintro e w2 ⟨rfl, rfl⟩
  rw [HE.out]
  go_wp2
  go_ret
  exact ⟨rfl, HB1.out⟩

theorem data_head {xa : List Int} {f : Nat → Nat} (ht : Thru xa.length (fun i => i) (fun i => (nth xa i).toNat) f) (hb : ∀ i, i < xa.length → isByte (nth xa i)) : fl xa.length (fun i => evF f i xa.length) = xa := by
  have e : fl xa.length (fun i => evF f i xa.length) = fl xa.length (fun i => (nth xa i).toNat) := fl_congr fun i hi => ht.2 i hi
  rw [e, ← fl_of hb]

set_option maxHeartbeats 8000000 in
theorem reedAny_good (w : World) (va vb : Value) (xa xb : List Int) (more : Int) (ha : SliceIs w va xa) (hb : SliceIs w vb xb) (he : makeE xa more = 0) :
    Calls Try.prog 3 #[va, .int .i64 more, vb] w fun e w' => e = .returned (.bool true) ∧ Below w.heap.size w w' := by
  obtain ⟨h0, h8, hba, hm0, hm4⟩ := makeE_zero he
  have HZ : Hid (makeE xa more = 0) := he
  have HA : Hid (SliceIs w va xa) := ha
  have HB : Hid (SliceIs w vb xb) := hb
  have HBA : Hid (∀ i, i < xa.length → isByte (nth xa i)) := hba
  obtain ⟨aa, ca, hva, _⟩ := id ha
  obtain ⟨n, hn⟩ : ∃ n, n = xa.length := ⟨_, rfl⟩
  have HN : Hid (n = xa.length) := hn
  rw [← hn] at hva h8 h0
  obtain ⟨k, rfl⟩ : ∃ k : Nat, more = k := ⟨more.toNat, by omega⟩
  have hk4 : k ≤ 4 := by omega
  subst hva
  clear he ha hb hba hn hm0 hm4
  go_enter Try.func3, Try.ntmps3
  go_wp2_with fail
  refine (rfact_any w).mono ?_
  rintro e w1 ⟨rfl, hb1⟩
  have HB1 : Hid (Below w.heap.size w w1) := hb1
  clear hb1
  go_wp2_with fail
  refine (make_okq w1 _ xa k (HA.out.later HB1.out) HZ.out).mono ?_
  rintro e w2 ⟨v2, f, q, hv2, ht, rfl, hs2, hb2⟩
  rw [← HN.out, Int.toNat_natCast] at hv2 hs2
  have HF : Hid (Thru n (fun i => i) (fun i => (nth xa i).toNat) f) := by rw [← HN.out] at ht; exact ht
  have HD : Hid (fl n (fun i => evF f i n) = xa) := by
    have := data_head ht HBA.out
    rw [← HN.out] at this
    exact this
  subst hv2
  have HS2 : Hid (SliceIs w2 (.slice (some ⟨q, 0, none⟩) (n + k) (n + k)) (fl (n + k) (fun i => evF f i n))) := hs2
  have HB2 : Hid (Below w.heap.size w w2) := Below.next HB1.out hb2
  have HS3 : Hid (SliceIs w2 (.slice (some ⟨q, 0, none⟩) n (n + k)) (fl n (fun i => evF f i n))) := by
    obtain ⟨a, c, e1, e2, e3⟩ := hs2
    rw [fl_len] at e1 e2
    cases e1
    refine ⟨_, n + k, by rw [fl_len], by rw [fl_len]; omega, fun _ => ?_⟩
    obtain ⟨b, o, e4, e5, e6⟩ := e3 (fun e => by have := fl_len (n + k) (fun i => evF f i n); rw [e] at this; simp at this; omega)
    refine ⟨b, o, e4, e5, fun i hi => ?_⟩
    rw [fl_len] at hi
    rw [fl_nth hi, e6 i (by rw [fl_len]; omega), fl_nth (by omega)]
  clear hs2 hb2 ht
  obtain ⟨N, hNe⟩ : ∃ N, N = n + k := ⟨_, rfl⟩
  have HNK : Hid (N = n + k) := hNe
  rw [← hNe] at HS2 HS3 ⊢
  have hN12 : N ≤ 12 := by omega
  have hne : ((N : Int) != (n : Int) + (k : Int)) = false := by simp; omega
  have hnN : (n : Int) ≤ (N : Int) := by omega
  clear hNe
  go_wp2_with fail
  refine (ints_any w2 _ _ (fl n (fun i => evF f i n)) xa HS3.out (HA.out.later HB2.out)).mono ?_
  rintro e w3 ⟨rfl, q3, hw3⟩
  have hb3 : Below w2.heap.size w2 w3 := by rw [hw3]; exact below_drewN _ _ _
  rw [HD.out, eqB_refl]
  have HS4 : Hid (SliceIs w3 (.slice (some ⟨q, 0, none⟩) N N) (fl N (fun i => evF f i n))) := HS2.out.later hb3
  have HB3 : Hid (Below w.heap.size w w3) := Below.next HB2.out hb3
  clear hw3 hb3
  obtain ⟨ab, cb, bb, ob, hvb, hlb, hab, hcb⟩ := HB.out.where
  obtain ⟨L, hL⟩ : ∃ L, L = xb.length := ⟨_, rfl⟩
  rw [← hL] at hvb hlb hab hcb
  unfold maxLen at hlb
  subst hvb
  have HCB : Hid (∀ i, i < L → w.cell? ⟨bb, ob + i, none⟩ = some (.int .i64 (nth xb i))) := hcb
  have HWB : Hid (0 < L → bb < w.heap.size) := fun h => by
    obtain ⟨_, _, e1, _, i1⟩ := HB.out
    obtain ⟨b1, o1, e3, l1, _⟩ := i1 (fun e => by rw [e, List.length_nil] at hL; omega)
    have q1 := (Value.slice.inj e1).1
    rw [hab h, e3] at q1
    cases q1
    exact l1
  clear hcb hL
  go_wp2
  go_loopw [10, 11, 12] (fun v10 v11 v12 wr => ∃ (i many : Nat) (ls : List Int), i ≤ L ∧ v12 = .int .i64 i ∧ v11 = .int .i64 many ∧ many ≤ k ∧ SliceIs wr v10 ls ∧ LostIs f n N many ls ∧ SliceIs wr (.slice (some ⟨q, 0, none⟩) N N) (fl N (fun i => evF f i n)) ∧ Below w.heap.size w wr) (fun _ _ i _ => L - (intOf i).toNat)
  case atStart => exact ⟨0, 0, _, Nat.zero_le _, rfl, rfl, Nat.zero_le _, HS4.out, lost_none, HS4.out, HB3.out⟩
  case round =>
    obtain ⟨i, many, ls, hi, rfl, rfl, hmk, hsl, hlo, hsq, hbel⟩ := hrel
    have HSQ : Hid (SliceIs wr (.slice (some ⟨q, 0, none⟩) N N) (fl N (fun i => evF f i n))) := hsq
    have HLO : Hid (LostIs f n N many ls) := hlo
    have HBL : Hid (Below w.heap.size w wr) := hbel
    have HSL := show Hid _ from hsl
    obtain ⟨al, cl, bl, ol, hvl, _, hal, hcl⟩ := hsl.where
    rw [hlo.1] at hvl hal hcl
    subst hvl
    have haq := hal (by omega)
    subst haq
    have HCL : Hid (∀ i, i < N → wr.cell? ⟨bl, ol + i, none⟩ = some (.int .i64 (nth ls i))) := hcl
    clear hsl hlo hsq hbel hal hcl
    by_cases hc : i < L ∧ many < k
    · have hi' : (i : Int) < (L : Int) := by omega
      have hm' : (many : Int) < (k : Int) := by omega
      have hia : i + 1 ≤ L := by omega
      have haa := hab (by omega)
      subst haa
      clear hab
      have h1 : wr.cell? ⟨bb, ob + i, none⟩ = some (.int .i64 (nth xb i)) := by rw [HBL.out.cell (p := ⟨bb, ob + i, none⟩) (HWB.out (by omega))]; exact HCB.out i hc.1
      obtain ⟨x, hx⟩ : ∃ x, x = nth xb i := ⟨_, rfl⟩
      rw [← hx] at h1
      clear hx
      by_cases hin : 0 ≤ x ∧ x ≤ (N : Int) - 1
      · obtain ⟨p, rfl⟩ : ∃ p : Nat, x = p := ⟨x.toNat, by omega⟩
        have hp : p < N := by omega
        have h2 := HCL.out p hp
        have hin' : Hid (0 ≤ (p : Int) ∧ (p : Int) ≤ (N : Int) - 1) := hin
        by_cases ht : nth ls p = -1
        · rw [ht] at h2
          clear ht hin
          go_wp2_with fail
          refine (in_yes _ _ _ _ hin'.out).mono ?_
          rintro e w' ⟨rfl, rfl⟩
          go_wp2
          go_roundw
          case rel => exact ⟨i + 1, many, ls, by omega, by go_num, rfl, hmk, HSL.out, HLO.out, HSQ.out, HBL.out⟩
          case measure => simp [intOf]; omega
        · have hge : 0 ≤ nth ls p := by
            rcases HLO.out.2.1 p hp with e | e
            · exact absurd e ht
            · rw [e]; omega
          have HNT : Hid (nth ls p ≠ -1) := ht
          clear ht hin
          go_wp2_with fail
          refine (in_yes _ _ _ _ hin'.out).mono ?_
          rintro e w' ⟨rfl, rfl⟩
          go_wp2_with fail
          refine (set_any wr _ ls p (-1) HSL.out (by rw [HLO.out.1]; exact hp) (by rw [HLO.out.1]; omega)).mono ?_
          rintro e w4 ⟨v4, rfl, hs4, hb4⟩
          have HS5 : Hid (SliceIs w4 v4 (ls.set p (-1))) := hs4
          have HL5 : Hid (LostIs f n N (many + 1) (ls.set p (-1))) := lost_set HLO.out hp HNT.out
          have HSQ5 : Hid (SliceIs w4 (.slice (some ⟨q, 0, none⟩) N N) (fl N (fun i => evF f i n))) := HSQ.out.later hb4
          have HB5 : Hid (Below w.heap.size w w4) := Below.next HBL.out hb4
          clear hs4 hb4
          go_wp2
          go_roundw
          case rel => exact ⟨i + 1, many + 1, _, by omega, by go_num, by go_num, by omega, HS5.out, HL5.out, HSQ5.out, HB5.out⟩
          case measure => simp [intOf]; omega
      · have hin' : Hid (¬ (0 ≤ x ∧ x ≤ (N : Int) - 1)) := hin
        clear hin
        go_wp2_with fail
        refine (in_no _ _ _ _ hin'.out).mono ?_
        rintro e w' ⟨rfl, rfl⟩
        go_wp2
        go_roundw
        case rel => exact ⟨i + 1, many, ls, by omega, by go_num, rfl, hmk, HSL.out, HLO.out, HSQ.out, HBL.out⟩
        case measure => simp [intOf]; omega
    · have hcs : (¬ (i : Int) < (L : Int)) ∨ ((i : Int) < (L : Int) ∧ ¬ (many : Int) < (k : Int)) := by omega
      clear hc
      rcases hcs with hc1 | ⟨hc1, hc2⟩
      all_goals
        go_wp2_with fail
        refine (again_lost wr _ f n N many ls HSL.out HLO.out HF.out.1 h0 h8 (by have := HNK.out; omega) (by have := HNK.out; omega)).mono ?_
        rintro e w4 ⟨v4, rfl, hs4, hb4⟩
        have HS6 : Hid (SliceIs w4 v4 (fl N (fun i => evF f i n))) := hs4
        have HSQ6 : Hid (SliceIs w4 (.slice (some ⟨q, 0, none⟩) N N) (fl N (fun i => evF f i n))) := HSQ.out.later hb4
        have HB6 : Hid (Below w.heap.size w w4) := Below.next HBL.out hb4
        clear hs4 hb4
        go_wp2_with fail
        refine (ints_any w4 v4 _ _ _ HS6.out HSQ6.out).mono ?_
        rintro e w5 ⟨rfl, q5, hw5⟩
        have HB7 : Hid (Below w.heap.size w w5) := by rw [hw5]; exact Below.next HB6.out (below_drewN _ _ _)
        rw [eqB_refl]
        clear hw5
        go_wp2
        go_ret
        exact ⟨rfl, HB7.out⟩

theorem reedAny_any (w : World) (va vb : Value) (xa xb : List Int) (more : Int) (ha : SliceIs w va xa) (hb : SliceIs w vb xb) :
    Calls Try.prog 3 #[va, .int .i64 more, vb] w fun e w' => e = .returned (.bool true) ∧ Below w.heap.size w w' := by
  by_cases h1 : makeE xa more = 0
  · exact reedAny_good w va vb xa xb more ha hb h1
  · exact reedAny_err w va vb xa more ha h1

end Go.Proofs.Ytebjefgdjfjndaa
