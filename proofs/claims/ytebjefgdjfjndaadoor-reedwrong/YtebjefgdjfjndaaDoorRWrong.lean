/- This text proves that platterholdlaw1.ReedWrong returns true for any data and any three numbers, and lets all old memory be; the conditions: the slice lies there, and the library's variable errors.errorType holds what the program's own text lays. -/
import Derived.Test.YtebjefgdjfjndaaDoorRe8
namespace Go.Proofs.YtebjefgdjfjndaaDoor
open Go.RowKit Go.Deep

set_option maxHeartbeats 4000000 in
theorem wrong_err (w : World) (va : Value) (xa : List Int) (more k is : Int) (ha : SliceIs w va xa) (he : makeE xa more ≠ 0) :
    Calls Tryd.prog 4 #[va, .int .i64 more, .int .i64 k, .int .i64 is] w fun e w' => e = .returned (.bool true) ∧ Below w.heap.size w w' := by
  have HE : Hid (errV (makeE xa more) = .iface 44 (.int .i64 (makeE xa more : Int))) := errV_pos he
  have HA : Hid (SliceIs w va xa) := ha
  have HZ : Hid (makeE xa more ≠ 0) := he
  clear he ha
  go_enter Tryd.func4, Tryd.ntmps4
  go_wp2_with fail
  refine (rfact_any w).mono ?_
  rintro e w1 ⟨rfl, hb1⟩
  have HB1 : Hid (Below w.heap.size w w1) := hb1
  clear hb1
  go_wp2_with fail
  refine (make_err w1 va xa more (HA.out.later HB1.out) HZ.out).mono ?_
  rintro e w2 ⟨rfl, rfl⟩
  rw [HE.out]
  go_wp2
  go_ret
  exact ⟨rfl, HB1.out⟩

set_option maxHeartbeats 8000000 in
theorem wrong_good (w : World) (va : Value) (xa : List Int) (more k is : Int) (hL : Laid w) (ha : SliceIs w va xa) (he : makeE xa more = 0) :
    Calls Tryd.prog 4 #[va, .int .i64 more, .int .i64 k, .int .i64 is] w fun e w' => e = .returned (.bool true) ∧ Below w.heap.size w w' := by
  obtain ⟨h0, h8, _, hm0, hm4⟩ := makeE_zero he
  have HZ : Hid (makeE xa more = 0) := he
  have HA : Hid (SliceIs w va xa) := ha
  have HLD : Hid (Laid w) := hL
  obtain ⟨aa, ca, hva, _⟩ := id ha
  obtain ⟨n, hn⟩ : ∃ n, n = xa.length := ⟨_, rfl⟩
  have HN : Hid (n = xa.length) := hn
  rw [← hn] at hva h8 h0
  obtain ⟨m, rfl⟩ : ∃ m : Nat, more = m := ⟨more.toNat, by omega⟩
  have hm4 : m ≤ 4 := by omega
  subst hva
  clear he ha hn hm0 hL
  go_enter Tryd.func4, Tryd.ntmps4
  go_wp2_with fail
  refine (rfact_any w).mono ?_
  rintro e w1 ⟨rfl, hb1⟩
  have HB1 : Hid (Below w.heap.size w w1) := hb1
  clear hb1
  go_wp2_with fail
  refine (make_okq w1 _ xa m (HA.out.later HB1.out) HZ.out).mono ?_
  rintro e w2 ⟨v2, f, q, hv2, ht, rfl, hs2, hb2⟩
  rw [← HN.out, Int.toNat_natCast] at hv2 hs2
  have HF : Hid (BytesF f) := ht.1
  subst hv2
  have HS2 : Hid (SliceIs w2 (.slice (some ⟨q, 0, none⟩) (n + m) (n + m)) (fl (n + m) (fun i => evF f i n))) := hs2
  have HB2 : Hid (Below w.heap.size w w2) := Below.next HB1.out hb2
  have HC2 : Hid (∀ i, i < n + m → w2.cell? ⟨q, i, none⟩ = some (.int .i64 (evF f i n : Int))) := by
    intro i hi
    obtain ⟨a, c, b, o, e1, _, e2, e3⟩ := hs2.where
    rw [fl_len] at e1 e2 e3
    have e4 := (Value.slice.inj e1).1
    rw [e2 (by omega)] at e4
    cases e4
    have e5 := e3 i hi
    rw [fl_nth hi, Nat.zero_add] at e5
    exact e5
  clear hs2 hb2 ht
  obtain ⟨N, hNe⟩ : ∃ N, N = n + m := ⟨_, rfl⟩
  have HNK : Hid (N = n + m) := hNe
  rw [← hNe] at HS2 HC2 ⊢
  have hN12 : N ≤ 12 := by omega
  clear hNe
  by_cases hk : 0 ≤ k ∧ k ≤ (N : Int) - 1
  · have HK : Hid (0 ≤ k ∧ k ≤ (N : Int) - 1) := hk
    obtain ⟨p, rfl⟩ : ∃ p : Nat, k = p := ⟨k.toNat, by omega⟩
    have hp : p < N := by omega
    have hp' : (p : Int) < (N : Int) := by omega
    have h1 := HC2.out p hp
    clear hk
    by_cases hi : 0 ≤ is ∧ is ≤ 255
    · have HI : Hid (0 ≤ is ∧ is ≤ 255) := hi
      clear hi
      by_cases he : (evF f p n : Int) = is
      · have heb : ((evF f p n : Int) == is) = true := by simpa using he
        clear he
        generalize (evF f p n : Int) = z at h1 heb
        go_wp2_with (first | (go_at_call_of 12 (Value.int IntKind.i64 (p : Int)); refine (in_yes _ _ _ _ HK.out).mono ?_; rintro e w' ⟨rfl, rfl⟩) | (go_at_call 12; refine (in_yes _ _ _ _ HI.out).mono ?_; rintro e w' ⟨rfl, rfl⟩))
        go_ret
        exact ⟨rfl, HB2.out⟩
      · have heb : ((evF f p n : Int) == is) = false := by simpa using he
        have HNE : Hid (is ≠ (evF f p n : Int)) := fun e => he e.symm
        clear he
        generalize hz : (evF f p n : Int) = z at h1 heb
        clear hz
        by_cases hm : m = 0
        · subst hm
          go_wp2_with (first | (go_at_call_of 12 (Value.int IntKind.i64 (p : Int)); refine (in_yes _ _ _ _ HK.out).mono ?_; rintro e w' ⟨rfl, rfl⟩) | (go_at_call 12; refine (in_yes _ _ _ _ HI.out).mono ?_; rintro e w' ⟨rfl, rfl⟩))
          go_ret
          exact ⟨rfl, HB2.out⟩
        · have hmb : ((m : Int) == 0) = false := by simp; omega
          go_wp2_with (first | (go_at_call_of 12 (Value.int IntKind.i64 (p : Int)); refine (in_yes _ _ _ _ HK.out).mono ?_; rintro e w' ⟨rfl, rfl⟩) | (go_at_call 12; refine (in_yes _ _ _ _ HI.out).mono ?_; rintro e w' ⟨rfl, rfl⟩) | fail)
          refine (set_any w2 _ _ p is HS2.out (by rw [fl_len]; exact hp) (by rw [fl_len]; omega)).mono ?_
          rintro e w3 ⟨v3, rfl, hs3, hb3⟩
          have HS3 : Hid (SliceIs w3 v3 ((fl N (fun i => evF f i n)).set p is)) := hs3
          have HB3 : Hid (Below w.heap.size w w3) := Below.next HB2.out hb3
          clear hs3 hb3
          go_wp2_with fail
          refine (again_wrong w3 v3 f n N p is _ HS3.out rfl HF.out h0 h8 (by have := HNK.out; omega) (by have := HNK.out; omega) hp HI.out HNE.out).mono ?_
          rintro e w4 ⟨rfl, hb4⟩
          have HB4 : Hid (Below w.heap.size w w4) := Below.next HB3.out hb4
          clear hb4
          go_wp2_with fail
          refine (error_any 6 6 w4 (HLD.out.later HB4.out)).mono ?_
          rintro e w5 ⟨rfl, hb5⟩
          have HB5 : Hid (Below w.heap.size w w5) := Below.next HB4.out hb5
          clear hb5
          go_wp2
          go_ret
          exact ⟨rfl, HB5.out⟩
    · have HI : Hid (¬ (0 ≤ is ∧ is ≤ 255)) := hi
      clear hi
      go_wp2_with (first | (go_at_call_of 12 (Value.int IntKind.i64 (p : Int)); refine (in_yes _ _ _ _ HK.out).mono ?_; rintro e w' ⟨rfl, rfl⟩) | (go_at_call 12; refine (in_no _ _ _ _ HI.out).mono ?_; rintro e w' ⟨rfl, rfl⟩))
      go_ret
      exact ⟨rfl, HB2.out⟩
  · have HK : Hid (¬ (0 ≤ k ∧ k ≤ (N : Int) - 1)) := hk
    clear hk
    go_wp2_with (go_at_call 12; refine (in_no _ _ _ _ HK.out).mono ?_; rintro e w' ⟨rfl, rfl⟩)
    go_ret
    exact ⟨rfl, HB2.out⟩

theorem wrong_any (w : World) (va : Value) (xa : List Int) (more k is : Int) (hL : Laid w) (ha : SliceIs w va xa) :
    Calls Tryd.prog 4 #[va, .int .i64 more, .int .i64 k, .int .i64 is] w fun e w' => e = .returned (.bool true) ∧ Below w.heap.size w w' := by
  by_cases h1 : makeE xa more = 0
  · exact wrong_good w va xa more k is hL ha h1
  · exact wrong_err w va xa more k is ha h1

end Go.Proofs.YtebjefgdjfjndaaDoor
