/- This text proves that platterholdtop.TopLocks returns true: of two owners who both want to be alone on a place just the first one is, and to whom all bits are taken away nothing is let, but the root; old memory is as it was; the conditions: the place fits its kind of number, and the library's variable errors.errorType holds what the program's own text lays. -/
import Derived.Test.YtigoacnbbichoaaDoorL10
import Derived.Test.YtigoacnbbichoaaDoorL12
import Derived.Test.YtigoacnbbichoaaDoorD3r
import Derived.Test.YtigoacnbbichoaaDoorTin
namespace Go.Proofs.YtigoacnbbichoaaDoor
open Go.RowKit Go.Deep

theorem top_may : mayB 511 1 1 2 2 7 = true ∧ mayE 511 1 1 2 2 7 = 0 := by decide +kernel
theorem top_new : newN 511 511 = 0 ∧ newE 511 511 = 0 := by decide +kernel
theorem bf_nought (o s : Bool) : bf 0 o s = 0 := by cases o <;> cases s <;> decide +kernel
theorem top_two (x y : Int) : (mayE 0 1 1 x y 1 = 0 ∧ mayB 0 1 1 x y 1 = (x == 0)) ∨ (mayE 0 1 1 x y 1 = 1 ∧ mayB 0 1 1 x y 1 = false) := by
  by_cases h : mayE 0 1 1 x y 1 = 0
  · refine .inl ⟨h, ?_⟩
    unfold mayB mayR
    rw [if_pos h]
    show (decide (x = 0) || decide (an 1 (bf 0 (decide (x = 1)) (decide (y = 1))) = 0)) = (x == 0)
    rw [bf_nought, show decide (an 1 0 = 0) = false by decide +kernel, Bool.or_false]
    rfl
  · refine .inr ⟨?_, ?_⟩
    · unfold mayE at h ⊢
      split at h
      · exact absurd rfl h
      · rename_i h1; rw [if_neg h1]
    · unfold mayB; rw [if_neg h]

theorem no_ag {f z : Nat} {k : Nat} {a : Bool} : ag (row nS k) a f z = false := ag_false.2 fun _ _ => rfl
theorem ts_nought {o f z : Int} {a : Bool} (hk : okK o f z = true) : tsN nS o f z a = -1 := (tsN_none hk).2 fun _ _ _ _ _ => rfl
/-- The first one's lock. -/
theorem top_first {o f z : Int} (hk : okK o f z = true) : stE nS o f z true = 0 ∧ stS nS o f z true = puS nS o f z 2 := by
  obtain ⟨h1, h2, h3, h4, h5⟩ := okK_iff.1 hk
  have hl := len_one (k := o.toNat) (f := f.toNat) (z := z.toNat) (s := 2) (by omega) 256
  have he : puE (puS nS o f z 2) = 0 := pu_room (by
    show (lsN (upS nS (o.toNat * 64 + f.toNat) (o.toNat * 64 + f.toNat + z.toNat) 2) 256).length ≤ 24
    rw [if_pos (by omega)] at hl
    omega)
  have h6 := st_in hk (ts_nought (a := true) hk)
  refine ⟨h6.1.trans he, h6.2.trans ?_⟩
  show puR nS (puS nS o f z 2) = _
  unfold puR
  rw [if_pos he]
/-- The same one once more. -/
theorem top_same {o f z : Int} (hk : okK o f z = true) : stE (puS nS o f z 2) o f 1 true = 0 := by
  obtain ⟨h1, h2, h3, h4, h5⟩ := okK_iff.1 hk
  have hk1 : okK o f 1 = true := okK_iff.2 ⟨h1, h2, h3, by omega, by omega⟩
  have ht : tsN (puS nS o f z 2) o f 1 true = -1 := (tsN_none hk1).2 fun j hj ho i hi => by
    rw [pu_own hk ho (by have : i < 1 := hi; omega)]; rfl
  rw [(st_in hk1 ht).1]
  have hp : puS (puS nS o f z 2) o f 1 2 = puS nS o f z 2 := by
    funext p
    show upS (upS nS (o.toNat * 64 + f.toNat) (o.toNat * 64 + f.toNat + z.toNat) 2) (o.toNat * 64 + f.toNat) (o.toNat * 64 + f.toNat + 1) 2 p = upS nS (o.toNat * 64 + f.toNat) (o.toNat * 64 + f.toNat + z.toNat) 2 p
    unfold upS
    by_cases h : o.toNat * 64 + f.toNat ≤ p ∧ p < o.toNat * 64 + f.toNat + 1
    · rw [if_pos h, if_pos (by omega)]
    · rw [if_neg h]
  show puE (puS (puS nS o f z 2) o f 1 2) = 0
  rw [hp]
  exact (st_in hk (ts_nought (a := true) hk)).1.symm.trans (top_first hk).1
/-- Another one. -/
theorem top_other {o f z b : Int} (hk : okK o f z = true) (hb : 0 ≤ b ∧ b ≤ 3) (hne : o ≠ b) : stE (puS nS o f z 2) b f 1 true = 6 := by
  obtain ⟨h1, h2, h3, h4, h5⟩ := okK_iff.1 hk
  have hk1 : okK b f 1 = true := okK_iff.2 ⟨hb.1, by omega, h3, by omega, by omega⟩
  refine (st_hit hk1 fun ht => ?_).1
  have := (tsN_none hk1).1 ht o.toNat (by omega) (by omega) 0 (by decide)
  rw [show puS nS o f z 2 (o.toNat * 64 + (f.toNat + 0)) = 2 from upS_in (by omega)] at this
  cases this
theorem top_none {S : Nat → Nat} {f b : Int} (hb : ¬ (0 ≤ b ∧ b ≤ 3)) : stE S b f 1 true = 1 := by
  refine (st_out ?_).1
  cases hk : okK b f 1 with
  | false => rfl
  | true => have := okK_iff.1 hk; omega

set_option maxHeartbeats 8000000 in
set_option maxRecDepth 100000 in
theorem topLocks_any (w : World) (a b f z x y : Int) (hf : Fit f) (hL : Laid w) :
    Calls Tryd.prog 6 #[.int .i64 a, .int .i64 b, .int .i64 f, .int .i64 z, .int .i64 x, .int .i64 y] w fun e w' => e = .returned (.bool true) ∧ Below w.heap.size w w' := by
  obtain ⟨G, hG⟩ : ∃ G, G = w.heap.size := ⟨_, rfl⟩
  have HG : Hid (G = w.heap.size) := hG
  have HNe : Hid (TabAt (w.alloc (.cells (celN nS 256) 52)) G nS) := by rw [hG]; exact heap_alloc_new _ _
  have HM1 : Hid _ := fun (w' : World) => may_any 511 1 1 2 2 7 w'
  rw [top_may.1, top_may.2, errV_zero] at HM1
  have HS1 : Hid _ := fun (w' : World) (h : OnT w w' G nS) => set_any w' G nS a f z true h.1 h.2.1.bd hf
  have HE : Hid _ := fun (n : Nat) (m : Int) (w' : World) (hb : Below G w w') => error_any n m w' (hL.later (by rw [hG] at hb; exact hb))
  have HIn : Hid _ := fun (w' : World) => tin_any b 0 3 w'
  have HN : Hid _ := fun (w' : World) => new_any 511 511 w'
  rw [top_new.1, top_new.2, errV_zero] at HN
  have HN : Hid (∀ w', Calls Tryd.prog 19 #[.int .i64 511, .int .i64 511] w' fun e w'' => e = .returned (.tuple #[.int .i64 0, .nilIface]) ∧ w' = w'') := HN.out
  have HM2 : Hid _ := fun (w' : World) => may_any 0 1 1 x y 1 w'
  have HT : Hid _ := top_two x y
  generalize mayB 0 1 1 x y 1 = may at HM2 HT
  generalize mayE 0 1 1 x y 1 = em at HM2 HT
  clear hL
  cases hk : okK a f z with
  | false =>
    have HLi : Hid _ := fun (w' : World) (h : OnT w w' G nS) => list_form w' G nS h.1 h.2.1.bd
    rw [lsN_nought] at HLi
    have HE1 : Hid _ := fun (w' : World) (h : OnT w w' G nS) => HE.out 1 1 w' h.2.2
    rw [(st_out (S := nS) (a := true) hk).1, (st_out (S := nS) (a := true) hk).2, errV_pos (by decide)] at HS1
    rw [errV_pos (by decide)] at HE1
    unfold lkV at HS1
    clear hk hf
    go_enter Tryd.func6, Tryd.ntmps6
    go_wp2_with fail
    refine (new_tab _).mono ?_
    rintro e w1 ⟨rfl, hT, hb⟩
    have ST : Hid (OnT w w1 G nS) := by rw [hG]; exact ⟨hT, good_n, hb⟩
    rw [← hG]
    clear hG hT hb HNe
    go_wp2_with (first
      | (go_at_call_of 17 (Value.int .i64 511); refine (HM1.out _).mono ?_; rintro e w2 ⟨rfl, hb2⟩; have ST2 : Hid (OnT w w2 G nS) := ST.out.later hb2; clear hb2)
      | (go_at_call 14; refine (HS1.out _ ST2.out).mono ?_; rintro e w3 ⟨rfl, ht3, hc3⟩; have ST3 : Hid (OnT w w3 G nS) := ST2.out.tch ht3 good_n hc3; clear ht3 hc3)
      | (go_at_call 15; refine (HE1.out _ ST3.out).mono ?_; rintro e w4 ⟨rfl, hb4⟩; have ST4 : Hid (OnT w w4 G nS) := ST3.out.later hb4; clear hb4)
      | (go_at_call 9; refine (HLi.out _ ST4.out).mono ?_; rintro e w5 ⟨va, vc, rfl, _, hb5⟩; have ST5 : Hid (OnT w w5 G nS) := ST4.out.later hb5; clear hb5))
    go_ret
    exact ⟨rfl, by rw [← HG.out]; exact ST5.out.2.2⟩
  | true =>
    have HG1 : Hid (Good (puS nS a f z 2)) := by have := good_st good_n a f z true; rw [(top_first hk).2] at this; exact this
    have HS2 : Hid _ := fun (w' : World) (h : OnT w w' G (puS nS a f z 2)) => set_any w' G (puS nS a f z 2) b f 1 true h.1 h.2.1.bd hf
    have HG2 : Hid (Good (stS (puS nS a f z 2) b f 1 true)) := good_st HG1.out b f 1 true
    have HTo : Hid (stE (puS nS a f z 2) b f 1 true = if 0 ≤ b ∧ b ≤ 3 then (if a = b then 0 else 6) else 1) := by
      show _ = _
      by_cases hb : 0 ≤ b ∧ b ≤ 3
      · rw [if_pos hb]
        by_cases he : a = b
        · rw [if_pos he]; subst he; exact top_same hk
        · rw [if_neg he]; exact top_other hk hb he
      · rw [if_neg hb]; exact top_none hb
    rw [(top_first hk).1, (top_first hk).2, errV_zero] at HS1
    generalize puS nS a f z 2 = S1 at HS1 HS2 HG1 HG2 HTo
    generalize stS S1 b f 1 true = S2 at HS2 HG2
    generalize stE S1 b f 1 true = E at HS2 HTo
    unfold lkV at HS1 HS2
    have HS1 : Hid (∀ w', OnT w w' G nS → Calls Tryd.prog 14 #[.pointer (some ⟨G, 0, none⟩), .agg #[.int .i64 a, .int .i64 f, .int .i64 z, .bool true]] w' fun e w'' => e = .returned .nilIface ∧ TabAt w'' G S1 ∧ Tch G w' w'') := HS1.out
    have HS2 : Hid (∀ w', OnT w w' G S1 → Calls Tryd.prog 14 #[.pointer (some ⟨G, 0, none⟩), .agg #[.int .i64 b, .int .i64 f, .int .i64 1, .bool true]] w' fun e w'' => e = .returned (errV E) ∧ TabAt w'' G S2 ∧ Tch G w' w'') := HS2.out
    clear hk hf
    by_cases hb : 0 ≤ b ∧ b ≤ 3
    · rw [decide_eq_true hb] at HIn
      rw [if_pos hb] at HTo
      clear hb
      by_cases he : a = b
      · rw [if_pos he] at HTo
        have hE : E = 0 := HTo.out
        subst hE
        rw [errV_zero] at HS2
        have hab : (a == b) = true := by simp [he]
        clear he
        rcases HT.out with hm | hm
        · obtain ⟨rfl, rfl⟩ := hm
          rw [errV_zero] at HM2
          have HM2 : Hid (∀ w', Calls Tryd.prog 17 #[.int .i64 0, .int .i64 1, .int .i64 1, .int .i64 x, .int .i64 y, .int .i64 1] w' fun e w'' => e = .returned (.tuple #[.bool (x == 0), .nilIface]) ∧ Below w'.heap.size w' w'') := HM2.out
          go_enter Tryd.func6, Tryd.ntmps6
          go_wp2_with fail
          refine (new_tab _).mono ?_
          rintro e w1 ⟨rfl, hT, hb⟩
          have ST : Hid (OnT w w1 G nS) := by rw [hG]; exact ⟨hT, good_n, hb⟩
          rw [← hG]
          clear hG hT hb HNe
          go_wp2_with (first
            | (go_at_call_of 17 (Value.int .i64 511); refine (HM1.out _).mono ?_; rintro e w2 ⟨rfl, hb2⟩; have ST2 : Hid (OnT w w2 G nS) := ST.out.later hb2; clear hb2)
            | (go_at_call_of 14 (Value.agg #[.int .i64 a, .int .i64 f, .int .i64 z, .bool true]); refine (HS1.out _ ST2.out).mono ?_; rintro e w3 ⟨rfl, ht3, hc3⟩; have ST3 : Hid (OnT w w3 G S1) := ST2.out.tch ht3 HG1.out hc3; clear ht3 hc3)
            | (go_at_call_of 14 (Value.agg #[.int .i64 b, .int .i64 f, .int .i64 1, .bool true]); refine (HS2.out _ ST3.out).mono ?_; rintro e w4 ⟨rfl, ht4, hc4⟩; have ST4 : Hid (OnT w w4 G S2) := ST3.out.tch ht4 HG2.out hc4; clear ht4 hc4)
            | (go_at_call 18; refine (HIn.out _).mono ?_; rintro e w5 ⟨rfl, rfl⟩)
            | (go_at_call 19; refine (HN.out _).mono ?_; rintro e w7 ⟨rfl, rfl⟩)
            | (go_at_call_of 17 x; refine (HM2.out _).mono ?_; rintro e w8 ⟨rfl, hb8⟩; have ST8 : Hid (OnT w w8 G S2) := ST4.out.later hb8; clear hb8))
          go_ret
          exact ⟨by simp, by rw [← HG.out]; exact ST8.out.2.2⟩
        · obtain ⟨rfl, rfl⟩ := hm
          rw [errV_pos (by decide)] at HM2
          have HM2 : Hid (∀ w', Calls Tryd.prog 17 #[.int .i64 0, .int .i64 1, .int .i64 1, .int .i64 x, .int .i64 y, .int .i64 1] w' fun e w'' => e = .returned (.tuple #[.bool false, .iface 53 (.int .i64 1)]) ∧ Below w'.heap.size w' w'') := HM2.out
          go_enter Tryd.func6, Tryd.ntmps6
          go_wp2_with fail
          refine (new_tab _).mono ?_
          rintro e w1 ⟨rfl, hT, hb⟩
          have ST : Hid (OnT w w1 G nS) := by rw [hG]; exact ⟨hT, good_n, hb⟩
          rw [← hG]
          clear hG hT hb HNe
          go_wp2_with (first
            | (go_at_call_of 17 (Value.int .i64 511); refine (HM1.out _).mono ?_; rintro e w2 ⟨rfl, hb2⟩; have ST2 : Hid (OnT w w2 G nS) := ST.out.later hb2; clear hb2)
            | (go_at_call_of 14 (Value.agg #[.int .i64 a, .int .i64 f, .int .i64 z, .bool true]); refine (HS1.out _ ST2.out).mono ?_; rintro e w3 ⟨rfl, ht3, hc3⟩; have ST3 : Hid (OnT w w3 G S1) := ST2.out.tch ht3 HG1.out hc3; clear ht3 hc3)
            | (go_at_call_of 14 (Value.agg #[.int .i64 b, .int .i64 f, .int .i64 1, .bool true]); refine (HS2.out _ ST3.out).mono ?_; rintro e w4 ⟨rfl, ht4, hc4⟩; have ST4 : Hid (OnT w w4 G S2) := ST3.out.tch ht4 HG2.out hc4; clear ht4 hc4)
            | (go_at_call 18; refine (HIn.out _).mono ?_; rintro e w5 ⟨rfl, rfl⟩)
            | (go_at_call 19; refine (HN.out _).mono ?_; rintro e w7 ⟨rfl, rfl⟩)
            | (go_at_call_of 17 x; refine (HM2.out _).mono ?_; rintro e w8 ⟨rfl, hb8⟩; have ST8 : Hid (OnT w w8 G S2) := ST4.out.later hb8; clear hb8))
          go_ret
          exact ⟨rfl, by rw [← HG.out]; exact ST8.out.2.2⟩
      · rw [if_neg he] at HTo
        have hE : E = 6 := HTo.out
        subst hE
        rw [errV_pos (by decide)] at HS2
        have hab : (a == b) = false := by simp [he]
        clear he
        rcases HT.out with hm | hm
        · obtain ⟨rfl, rfl⟩ := hm
          rw [errV_zero] at HM2
          have HM2 : Hid (∀ w', Calls Tryd.prog 17 #[.int .i64 0, .int .i64 1, .int .i64 1, .int .i64 x, .int .i64 y, .int .i64 1] w' fun e w'' => e = .returned (.tuple #[.bool (x == 0), .nilIface]) ∧ Below w'.heap.size w' w'') := HM2.out
          go_enter Tryd.func6, Tryd.ntmps6
          go_wp2_with fail
          refine (new_tab _).mono ?_
          rintro e w1 ⟨rfl, hT, hb⟩
          have ST : Hid (OnT w w1 G nS) := by rw [hG]; exact ⟨hT, good_n, hb⟩
          rw [← hG]
          clear hG hT hb HNe
          go_wp2_with (first
            | (go_at_call_of 17 (Value.int .i64 511); refine (HM1.out _).mono ?_; rintro e w2 ⟨rfl, hb2⟩; have ST2 : Hid (OnT w w2 G nS) := ST.out.later hb2; clear hb2)
            | (go_at_call_of 14 (Value.agg #[.int .i64 a, .int .i64 f, .int .i64 z, .bool true]); refine (HS1.out _ ST2.out).mono ?_; rintro e w3 ⟨rfl, ht3, hc3⟩; have ST3 : Hid (OnT w w3 G S1) := ST2.out.tch ht3 HG1.out hc3; clear ht3 hc3)
            | (go_at_call_of 14 (Value.agg #[.int .i64 b, .int .i64 f, .int .i64 1, .bool true]); refine (HS2.out _ ST3.out).mono ?_; rintro e w4 ⟨rfl, ht4, hc4⟩; have ST4 : Hid (OnT w w4 G S2) := ST3.out.tch ht4 HG2.out hc4; clear ht4 hc4)
            | (go_at_call 18; refine (HIn.out _).mono ?_; rintro e w5 ⟨rfl, rfl⟩)
            | (go_at_call 19; refine (HN.out _).mono ?_; rintro e w7 ⟨rfl, rfl⟩)
            | (go_at_call_of 17 x; refine (HM2.out _).mono ?_; rintro e w8 ⟨rfl, hb8⟩; have ST8 : Hid (OnT w w8 G S2) := ST4.out.later hb8; clear hb8))
          go_ret
          exact ⟨by simp, by rw [← HG.out]; exact ST8.out.2.2⟩
        · obtain ⟨rfl, rfl⟩ := hm
          rw [errV_pos (by decide)] at HM2
          have HM2 : Hid (∀ w', Calls Tryd.prog 17 #[.int .i64 0, .int .i64 1, .int .i64 1, .int .i64 x, .int .i64 y, .int .i64 1] w' fun e w'' => e = .returned (.tuple #[.bool false, .iface 53 (.int .i64 1)]) ∧ Below w'.heap.size w' w'') := HM2.out
          go_enter Tryd.func6, Tryd.ntmps6
          go_wp2_with fail
          refine (new_tab _).mono ?_
          rintro e w1 ⟨rfl, hT, hb⟩
          have ST : Hid (OnT w w1 G nS) := by rw [hG]; exact ⟨hT, good_n, hb⟩
          rw [← hG]
          clear hG hT hb HNe
          go_wp2_with (first
            | (go_at_call_of 17 (Value.int .i64 511); refine (HM1.out _).mono ?_; rintro e w2 ⟨rfl, hb2⟩; have ST2 : Hid (OnT w w2 G nS) := ST.out.later hb2; clear hb2)
            | (go_at_call_of 14 (Value.agg #[.int .i64 a, .int .i64 f, .int .i64 z, .bool true]); refine (HS1.out _ ST2.out).mono ?_; rintro e w3 ⟨rfl, ht3, hc3⟩; have ST3 : Hid (OnT w w3 G S1) := ST2.out.tch ht3 HG1.out hc3; clear ht3 hc3)
            | (go_at_call_of 14 (Value.agg #[.int .i64 b, .int .i64 f, .int .i64 1, .bool true]); refine (HS2.out _ ST3.out).mono ?_; rintro e w4 ⟨rfl, ht4, hc4⟩; have ST4 : Hid (OnT w w4 G S2) := ST3.out.tch ht4 HG2.out hc4; clear ht4 hc4)
            | (go_at_call 18; refine (HIn.out _).mono ?_; rintro e w5 ⟨rfl, rfl⟩)
            | (go_at_call 19; refine (HN.out _).mono ?_; rintro e w7 ⟨rfl, rfl⟩)
            | (go_at_call_of 17 x; refine (HM2.out _).mono ?_; rintro e w8 ⟨rfl, hb8⟩; have ST8 : Hid (OnT w w8 G S2) := ST4.out.later hb8; clear hb8))
          go_ret
          exact ⟨rfl, by rw [← HG.out]; exact ST8.out.2.2⟩
    · rw [decide_eq_false hb] at HIn
      rw [if_neg hb] at HTo
      clear hb
      have hE : E = 1 := HTo.out
      subst hE
      have HE1 : Hid _ := fun (w' : World) (h : OnT w w' G S2) => HE.out 1 1 w' h.2.2
      rw [errV_pos (by decide)] at HS2 HE1
      rcases HT.out with hm | hm
      · obtain ⟨rfl, rfl⟩ := hm
        rw [errV_zero] at HM2
        have HM2 : Hid (∀ w', Calls Tryd.prog 17 #[.int .i64 0, .int .i64 1, .int .i64 1, .int .i64 x, .int .i64 y, .int .i64 1] w' fun e w'' => e = .returned (.tuple #[.bool (x == 0), .nilIface]) ∧ Below w'.heap.size w' w'') := HM2.out
        go_enter Tryd.func6, Tryd.ntmps6
        go_wp2_with fail
        refine (new_tab _).mono ?_
        rintro e w1 ⟨rfl, hT, hb⟩
        have ST : Hid (OnT w w1 G nS) := by rw [hG]; exact ⟨hT, good_n, hb⟩
        rw [← hG]
        clear hG hT hb HNe
        go_wp2_with (first
          | (go_at_call_of 17 (Value.int .i64 511); refine (HM1.out _).mono ?_; rintro e w2 ⟨rfl, hb2⟩; have ST2 : Hid (OnT w w2 G nS) := ST.out.later hb2; clear hb2)
          | (go_at_call_of 14 (Value.agg #[.int .i64 a, .int .i64 f, .int .i64 z, .bool true]); refine (HS1.out _ ST2.out).mono ?_; rintro e w3 ⟨rfl, ht3, hc3⟩; have ST3 : Hid (OnT w w3 G S1) := ST2.out.tch ht3 HG1.out hc3; clear ht3 hc3)
          | (go_at_call_of 14 (Value.agg #[.int .i64 b, .int .i64 f, .int .i64 1, .bool true]); refine (HS2.out _ ST3.out).mono ?_; rintro e w4 ⟨rfl, ht4, hc4⟩; have ST4 : Hid (OnT w w4 G S2) := ST3.out.tch ht4 HG2.out hc4; clear ht4 hc4)
          | (go_at_call 18; refine (HIn.out _).mono ?_; rintro e w5 ⟨rfl, rfl⟩)
          | (go_at_call 15; refine (HE1.out _ ST4.out).mono ?_; rintro e w6 ⟨rfl, hb6⟩; have ST5 : Hid (OnT w w6 G S2) := ST4.out.later hb6; clear hb6)
          | (go_at_call 19; refine (HN.out _).mono ?_; rintro e w7 ⟨rfl, rfl⟩)
          | (go_at_call_of 17 x; refine (HM2.out _).mono ?_; rintro e w8 ⟨rfl, hb8⟩; have ST8 : Hid (OnT w w8 G S2) := ST5.out.later hb8; clear hb8))
        go_ret
        exact ⟨by simp, by rw [← HG.out]; exact ST8.out.2.2⟩
      · obtain ⟨rfl, rfl⟩ := hm
        rw [errV_pos (by decide)] at HM2
        have HM2 : Hid (∀ w', Calls Tryd.prog 17 #[.int .i64 0, .int .i64 1, .int .i64 1, .int .i64 x, .int .i64 y, .int .i64 1] w' fun e w'' => e = .returned (.tuple #[.bool false, .iface 53 (.int .i64 1)]) ∧ Below w'.heap.size w' w'') := HM2.out
        go_enter Tryd.func6, Tryd.ntmps6
        go_wp2_with fail
        refine (new_tab _).mono ?_
        rintro e w1 ⟨rfl, hT, hb⟩
        have ST : Hid (OnT w w1 G nS) := by rw [hG]; exact ⟨hT, good_n, hb⟩
        rw [← hG]
        clear hG hT hb HNe
        go_wp2_with (first
          | (go_at_call_of 17 (Value.int .i64 511); refine (HM1.out _).mono ?_; rintro e w2 ⟨rfl, hb2⟩; have ST2 : Hid (OnT w w2 G nS) := ST.out.later hb2; clear hb2)
          | (go_at_call_of 14 (Value.agg #[.int .i64 a, .int .i64 f, .int .i64 z, .bool true]); refine (HS1.out _ ST2.out).mono ?_; rintro e w3 ⟨rfl, ht3, hc3⟩; have ST3 : Hid (OnT w w3 G S1) := ST2.out.tch ht3 HG1.out hc3; clear ht3 hc3)
          | (go_at_call_of 14 (Value.agg #[.int .i64 b, .int .i64 f, .int .i64 1, .bool true]); refine (HS2.out _ ST3.out).mono ?_; rintro e w4 ⟨rfl, ht4, hc4⟩; have ST4 : Hid (OnT w w4 G S2) := ST3.out.tch ht4 HG2.out hc4; clear ht4 hc4)
          | (go_at_call 18; refine (HIn.out _).mono ?_; rintro e w5 ⟨rfl, rfl⟩)
          | (go_at_call 15; refine (HE1.out _ ST4.out).mono ?_; rintro e w6 ⟨rfl, hb6⟩; have ST5 : Hid (OnT w w6 G S2) := ST4.out.later hb6; clear hb6)
          | (go_at_call 19; refine (HN.out _).mono ?_; rintro e w7 ⟨rfl, rfl⟩)
          | (go_at_call_of 17 x; refine (HM2.out _).mono ?_; rintro e w8 ⟨rfl, hb8⟩; have ST8 : Hid (OnT w w8 G S2) := ST5.out.later hb8; clear hb8))
        go_ret
        exact ⟨rfl, by rw [← HG.out]; exact ST8.out.2.2⟩

end Go.Proofs.YtigoacnbbichoaaDoor
