/- This text proves that platterholdlaw1.ReedApart returns true for any two lists and any number, and lets all old memory be; the only condition is that the slices lie there. -/
import Derived.Test.YtebjefgdjfjndaaRe7
namespace Go.Proofs.Ytebjefgdjfjndaa
open Go.RowKit Go.Deep

set_option maxHeartbeats 4000000 in
theorem apart_err1 (w : World) (va vb : Value) (xa xb : List Int) (more : Int) (ha : SliceIs w va xa) (hb : SliceIs w vb xb) (he : makeE xa more ≠ 0) :
    Calls Try.prog 4 #[va, vb, .int .i64 more] w fun e w' => e = .returned (.bool true) ∧ Below w.heap.size w w' := by
  have HE : Hid (errV (makeE xa more) = .iface 45 (.int .i64 (makeE xa more : Int))) := errV_pos he
  have HA : Hid (SliceIs w va xa) := ha
  have HB : Hid (SliceIs w vb xb) := hb
  clear he ha hb
  go_enter Try.func4, Try.ntmps4
  go_wp2_with fail
  refine (rfact_any w).mono ?_
  rintro e w1 ⟨rfl, hb1⟩
  have HB1 : Hid (Below w.heap.size w w1) := hb1
  clear hb1
  go_wp2_with fail
  refine (make_any w1 va xa more (HA.out.later HB1.out)).mono ?_
  rintro e w2 ⟨v2, y2, rfl, _, hb2, _, _⟩
  have HB2 : Hid (Below w.heap.size w w2) := Below.next HB1.out hb2
  rw [HE.out]
  clear hb2
  go_wp2_with fail
  refine (make_any w2 vb xb more (HB.out.later HB2.out)).mono ?_
  rintro e w3 ⟨v3, y3, rfl, _, hb3, _, _⟩
  have HB3 : Hid (Below w.heap.size w w3) := Below.next HB2.out hb3
  clear hb3
  go_wp2
  go_ret
  exact ⟨rfl, HB3.out⟩

set_option maxHeartbeats 4000000 in
theorem apart_err2 (w : World) (va vb : Value) (xa xb : List Int) (more : Int) (ha : SliceIs w va xa) (hb : SliceIs w vb xb) (he : makeE xa more = 0) (he2 : makeE xb more ≠ 0) :
    Calls Try.prog 4 #[va, vb, .int .i64 more] w fun e w' => e = .returned (.bool true) ∧ Below w.heap.size w w' := by
  have HE : Hid (errV (makeE xa more) = .nilIface) := by show errV (makeE xa more) = .nilIface; rw [he]; rfl
  have HE2 : Hid (errV (makeE xb more) = .iface 45 (.int .i64 (makeE xb more : Int))) := errV_pos he2
  have HA : Hid (SliceIs w va xa) := ha
  have HB : Hid (SliceIs w vb xb) := hb
  clear he he2 ha hb
  go_enter Try.func4, Try.ntmps4
  go_wp2_with fail
  refine (rfact_any w).mono ?_
  rintro e w1 ⟨rfl, hb1⟩
  have HB1 : Hid (Below w.heap.size w w1) := hb1
  clear hb1
  go_wp2_with fail
  refine (make_any w1 va xa more (HA.out.later HB1.out)).mono ?_
  rintro e w2 ⟨v2, y2, rfl, _, hb2, _, _⟩
  have HB2 : Hid (Below w.heap.size w w2) := Below.next HB1.out hb2
  rw [HE.out]
  clear hb2
  go_wp2_with fail
  refine (make_any w2 vb xb more (HB.out.later HB2.out)).mono ?_
  rintro e w3 ⟨v3, y3, rfl, _, hb3, _, _⟩
  have HB3 : Hid (Below w.heap.size w w3) := Below.next HB2.out hb3
  rw [HE2.out]
  clear hb3
  go_wp2
  go_ret
  exact ⟨rfl, HB3.out⟩

set_option maxHeartbeats 4000000 in
theorem apart_len (w : World) (va vb : Value) (xa xb : List Int) (more : Int) (ha : SliceIs w va xa) (hb : SliceIs w vb xb) (he : makeE xa more = 0) (he2 : makeE xb more = 0) (hl : xa.length ≠ xb.length) :
    Calls Try.prog 4 #[va, vb, .int .i64 more] w fun e w' => e = .returned (.bool true) ∧ Below w.heap.size w w' := by
  have HE : Hid (errV (makeE xa more) = .nilIface) := by show errV (makeE xa more) = .nilIface; rw [he]; rfl
  have HE2 : Hid (errV (makeE xb more) = .nilIface) := by show errV (makeE xb more) = .nilIface; rw [he2]; rfl
  have HA : Hid (SliceIs w va xa) := ha
  have HB : Hid (SliceIs w vb xb) := hb
  obtain ⟨aa, ca, rfl, _⟩ := id ha
  obtain ⟨ab, cb, rfl, _⟩ := id hb
  have hne : ((xa.length : Int) != (xb.length : Int)) = true := by simp; omega
  clear he he2 ha hb hl
  go_enter Try.func4, Try.ntmps4
  go_wp2_with fail
  refine (rfact_any w).mono ?_
  rintro e w1 ⟨rfl, hb1⟩
  have HB1 : Hid (Below w.heap.size w w1) := hb1
  clear hb1
  go_wp2_with fail
  refine (make_any w1 _ xa more (HA.out.later HB1.out)).mono ?_
  rintro e w2 ⟨v2, y2, rfl, _, hb2, _, _⟩
  have HB2 : Hid (Below w.heap.size w w2) := Below.next HB1.out hb2
  rw [HE.out]
  clear hb2
  go_wp2_with fail
  refine (make_any w2 _ xb more (HB.out.later HB2.out)).mono ?_
  rintro e w3 ⟨v3, y3, rfl, _, hb3, _, _⟩
  have HB3 : Hid (Below w.heap.size w w3) := Below.next HB2.out hb3
  rw [HE2.out]
  clear hb3
  go_wp2
  go_ret
  exact ⟨rfl, HB3.out⟩

set_option maxHeartbeats 8000000 in
theorem apart_good (w : World) (va vb : Value) (xa xb : List Int) (more : Int) (ha : SliceIs w va xa) (hb : SliceIs w vb xb) (he : makeE xa more = 0) (he2 : makeE xb more = 0) (hl : xa.length = xb.length) :
    Calls Try.prog 4 #[va, vb, .int .i64 more] w fun e w' => e = .returned (.bool true) ∧ Below w.heap.size w w' := by
  obtain ⟨_, h8, hba, hm0, hm4⟩ := makeE_zero he
  obtain ⟨_, _, hbb, _, _⟩ := makeE_zero he2
  have HE : Hid (errV (makeE xa more) = .nilIface) := by show errV (makeE xa more) = .nilIface; rw [he]; rfl
  have HE2 : Hid (errV (makeE xb more) = .nilIface) := by show errV (makeE xb more) = .nilIface; rw [he2]; rfl
  have HZ : Hid (makeE xa more = 0) := he
  have HZ2 : Hid (makeE xb more = 0) := he2
  have HA : Hid (SliceIs w va xa) := ha
  have HB : Hid (SliceIs w vb xb) := hb
  have HBA : Hid (∀ i, i < xa.length → isByte (nth xa i)) := hba
  have HBB : Hid (∀ i, i < xb.length → isByte (nth xb i)) := hbb
  have HL : Hid (xa.length = xb.length) := hl
  obtain ⟨aa, ca, hva, _⟩ := id ha
  obtain ⟨ab, cb, hvb, _⟩ := id hb
  rw [← hl] at hvb
  obtain ⟨n, hn⟩ : ∃ n, n = xa.length := ⟨_, rfl⟩
  have HN : Hid (n = xa.length) := hn
  rw [← hn] at hva hvb h8
  obtain ⟨k, rfl⟩ : ∃ k : Nat, more = k := ⟨more.toNat, by omega⟩
  have hk4 : k ≤ 4 := by omega
  subst hva hvb
  clear he he2 ha hb hba hbb hl hn hm0 hm4
  go_enter Try.func4, Try.ntmps4
  go_wp2_with fail
  refine (rfact_any w).mono ?_
  rintro e w1 ⟨rfl, hb1⟩
  have HB1 : Hid (Below w.heap.size w w1) := hb1
  clear hb1
  go_wp2_with fail
  refine (make_any w1 _ xa k (HA.out.later HB1.out)).mono ?_
  rintro e w2 ⟨v2, y2, rfl, hs2, hb2, hc2, _⟩
  obtain ⟨f, hf⟩ := hc2 HZ.out
  have HF : Hid (Code xa k f y2) := hf
  have HS2 : Hid (SliceIs w2 v2 y2) := hs2
  have HB2 : Hid (Below w.heap.size w w2) := Below.next HB1.out hb2
  rw [HE.out]
  clear hb2 hc2 hf hs2
  go_wp2_with fail
  refine (make_any w2 _ xb k (HB.out.later HB2.out)).mono ?_
  rintro e w3 ⟨v3, y3, rfl, hs3, hb3, hc3, _⟩
  obtain ⟨g, hg⟩ := hc3 HZ2.out
  have HG : Hid (Code xb k g y3) := hg
  have HS3 : Hid (SliceIs w3 v3 y3) := hs3
  have HS2' : Hid (SliceIs w3 v2 y2) := HS2.out.later hb3
  have HB3 : Hid (Below w.heap.size w w3) := Below.next HB2.out hb3
  rw [HE2.out]
  clear hb3 hc3 hg hs3
  have hl2 : y2.length = n + k := by rw [code_len HF.out, ← HN.out]; rfl
  have hl3 : y3.length = n + k := by rw [code_len HG.out, ← HL.out, ← HN.out]; rfl
  obtain ⟨a2, c2, b2, o2, hv2, _, ha2, hc2⟩ := HS2'.out.where
  obtain ⟨a3, c3, b3, o3, hv3, _, ha3, hc3⟩ := HS3.out.where
  rw [hl2] at hv2 ha2 hc2
  rw [hl3] at hv3 ha3 hc3
  have HC2 : Hid (∀ i, i < n + k → w3.cell? ⟨b2, o2 + i, none⟩ = some (.int .i64 (evF f i n : Int))) := fun i hi => by rw [hc2 i hi, code_nth HF.out (by rw [← HN.out]; exact hi), ← HN.out]
  have HC3 : Hid (∀ i, i < n + k → w3.cell? ⟨b3, o3 + i, none⟩ = some (.int .i64 (evF g i n : Int))) := fun i hi => by rw [hc3 i hi, code_nth HG.out (by rw [← HL.out, ← HN.out]; exact hi), ← HL.out, ← HN.out]
  subst hv2 hv3
  clear hc2 hc3 hl2 hl3 HS2 HS2' HS3
  obtain ⟨N, hNe⟩ : ∃ N, N = n + k := ⟨_, rfl⟩
  have HNK : Hid (N = n + k) := hNe
  rw [← hNe] at ha2 ha3 HC2 HC3 ⊢
  have hN12 : N ≤ 12 := by omega
  clear hNe
  go_wp2
  go_loopw [12, 13] (fun c i wr => ∃ j : Nat, j ≤ N ∧ i = .int .i64 j ∧ c = .int .i64 ((cnt1 (partB f g n) j : Nat) : Int) ∧ ∃ q, wr = w3.drewN q) (fun _ i _ => N - (intOf i).toNat)
  case atStart => exact ⟨0, Nat.zero_le _, rfl, rfl, 0, rfl⟩
  case round =>
    obtain ⟨j, hj, rfl, rfl, q, rfl⟩ := hrel
    by_cases hlt : j < N
    · have e2 := ha2 (by omega)
      have e3 := ha3 (by omega)
      subst e2 e3
      have h1 := HC2.out j hlt
      have h2 := HC3.out j hlt
      have hj' : (j : Int) < (N : Int) := by omega
      have hcl := cnt1_le (partB f g n) j
      clear ha2 ha3
      by_cases hp : evF f j n = evF g j n
      · have HP : Hid (cnt1 (partB f g n) (j + 1) = cnt1 (partB f g n) j) := by
          show cnt1 (partB f g n) (j + 1) = cnt1 (partB f g n) j
          rw [cnt1, if_neg (by simp [partB, hp])]; rfl
        have hpb : ((evF f j n : Int) != (evF g j n : Int)) = false := by simp [hp]
        clear hp
        generalize cnt1 (partB f g n) j = cj at HP hcl ⊢
        generalize (evF f j n : Int) = ef at h1 hpb
        generalize (evF g j n : Int) = eg at h2 hpb
        go_wp2
        go_quiet (fail)
        go_wp2
        go_roundw
        case rel => exact ⟨j + 1, by omega, by go_num, by rw [HP.out], q + nq, rfl⟩
        case measure => simp [intOf]; omega
      · have HP : Hid (cnt1 (partB f g n) (j + 1) = cnt1 (partB f g n) j + 1) := by
          show cnt1 (partB f g n) (j + 1) = cnt1 (partB f g n) j + 1
          rw [cnt1, if_pos (by simp [partB, hp])]
        have hpb : ((evF f j n : Int) != (evF g j n : Int)) = true := by simp; omega
        clear hp
        generalize cnt1 (partB f g n) j = cj at HP hcl ⊢
        generalize (evF f j n : Int) = ef at h1 hpb
        generalize (evF g j n : Int) = eg at h2 hpb
        go_wp2
        go_quiet (fail)
        go_wp2
        go_roundw
        case rel => exact ⟨j + 1, by omega, by go_num, by rw [HP.out]; go_num, q + nq, rfl⟩
        case measure => simp [intOf]; omega
    · have hjN : j = N := by omega
      subst hjN
      have hcl := cnt1_le (partB f g n) j
      have HB4 : Hid (Below w.heap.size w (w3.drewN q)) := Below.next HB3.out (below_drewN _ _ _)
      go_wp2_with fail
      refine (ints_any _ _ _ xa xb (HA.out.later HB4.out) (HB.out.later HB4.out)).mono ?_
      rintro e w4 ⟨rfl, q4, hw4⟩
      have HB5 : Hid (Below w.heap.size w w4) := by rw [hw4]; exact Below.next HB4.out (below_drewN _ _ _)
      clear hw4
      cases hab : eqB xa xb with
      | true =>
        have hz : cnt1 (partB f g n) j = 0 := by
          refine part_none (fun i => ?_) j
          have e := eqB_iff.1 hab
          subst e
          rw [HN.out]
          exact HF.out.1.same (grows_id _) (fun i hi => by rw [← HN.out] at hi; omega) HG.out.1 i
        rw [hz]
        clear hz hcl
        go_wp2
        go_ret
        exact ⟨rfl, HB5.out⟩
      | false =>
        have hz : (k : Int) < (cnt1 (partB f g n) j : Int) := by
          obtain ⟨i, hi, hne⟩ := eqB_ext HL.out hab
          have h := part_many (f := f) (g := g) (n := n) (m := k) HF.out.1.1 HG.out.1.1 (by omega) (i := i) (by
            intro e
            apply hne
            rw [code_data HF.out HBA.out hi, code_data HG.out HBB.out (by rw [← HL.out]; exact hi), ← HL.out, ← HN.out, e])
          rw [← HNK.out] at h
          omega
        generalize cnt1 (partB f g n) j = cj at hz hcl ⊢
        go_wp2
        go_ret
        exact ⟨rfl, HB5.out⟩

theorem apart_any (w : World) (va vb : Value) (xa xb : List Int) (more : Int) (ha : SliceIs w va xa) (hb : SliceIs w vb xb) :
    Calls Try.prog 4 #[va, vb, .int .i64 more] w fun e w' => e = .returned (.bool true) ∧ Below w.heap.size w w' := by
  by_cases h1 : makeE xa more = 0
  · by_cases h2 : makeE xb more = 0
    · by_cases h3 : xa.length = xb.length
      · exact apart_good w va vb xa xb more ha hb h1 h2 h3
      · exact apart_len w va vb xa xb more ha hb h1 h2 h3
    · exact apart_err2 w va vb xa xb more ha hb h1 h2
  · exact apart_err1 w va vb xa xb more ha hb h1

end Go.Proofs.Ytebjefgdjfjndaa
