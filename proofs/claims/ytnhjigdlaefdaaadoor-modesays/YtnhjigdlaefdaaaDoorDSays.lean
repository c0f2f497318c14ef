/- This text proves what the law ModeSays answers: true, for any six numbers and any text; old memory is as it was; the only condition is that errors.errorType holds what is laid. -/
import Derived.Test.YtnhjigdlaefdaaaDoorD3
import Derived.Test.YtnhjigdlaefdaaaDoorD4
import Derived.Test.YtnhjigdlaefdaaaDoorD5
import Derived.Test.YtnhjigdlaefdaaaDoorD8
import Derived.Test.YtnhjigdlaefdaaaDoorD9
import Derived.Test.YtnhjigdlaefdaaaDoorIn2
namespace Go.Proofs.YtnhjigdlaefdaaaDoor
open Go.RowKit Go.Deep

theorem okM_form {m : Int} (h : okM m = true) : ∃ M : Nat, m = M ∧ M < 512 := by
  simp only [okM, decide_eq_true_iff] at h
  exact ⟨m.toNat, by omega, by omega⟩
theorem okM_nat {m : Nat} (h : m < 512) : okM (m : Int) = true := by simp only [okM, decide_eq_true_iff]; omega
theorem okT_form {t : Int} (h : okT t = true) : ∃ T : Nat, t = T ∧ T < 8 := by
  simp only [okT, decide_eq_true_iff] at h
  exact ⟨t.toNat, by omega, by omega⟩
theorem new_ok {a b : Nat} (ha : a < 512) (hb : b < 512) : newE (a : Int) (b : Int) = 0 ∧ newN (a : Int) (b : Int) = an a b := by
  have e : newE (a : Int) (b : Int) = 0 := by unfold newE; rw [okM_nat ha, okM_nat hb]; rfl
  exact ⟨e, by unfold newN; rw [if_pos e]; rfl⟩
theorem new_bad {a b : Int} (h : okM a = false ∨ okM b = false) : newE a b = 1 ∧ newN a b = 0 := by
  have e : newE a b = 1 := by
    unfold newE
    rcases h with h | h <;> rw [h] <;> simp
  exact ⟨e, by unfold newN; rw [e]; rfl⟩
theorem sh_ok {m : Nat} (h : m < 512) : shE (m : Int) = 0 ∧ shT (m : Int) = ⟨(lets m).toArray⟩ := by
  have e : shE (m : Int) = 0 := by unfold shE; rw [okM_nat h]; rfl
  exact ⟨e, by unfold shT; rw [if_pos e]; rfl⟩
theorem sh_bad {m : Int} (h : okM m = false) : shE m = 1 ∧ shT m = ⟨#[]⟩ := by
  have e : shE m = 1 := by unfold shE; rw [h]; rfl
  exact ⟨e, by unfold shT; rw [e]; rfl⟩
theorem may_bad {m o s wh h t : Int} (hb : okM m = false ∨ okW o = false ∨ okW s = false ∨ okW wh = false ∨ okW h = false ∨ okT t = false) : mayE m o s wh h t = 1 ∧ mayB m o s wh h t = false := by
  have e : mayE m o s wh h t = 1 := by
    unfold mayE
    rcases hb with hb | hb | hb | hb | hb | hb <;> rw [hb] <;> simp
  exact ⟨e, by unfold mayB; rw [e]; rfl⟩
theorem may_ok {m o s wh h t : Int} (h1 : okM m = true) (h2 : okW o = true) (h3 : okW s = true) (h4 : okW wh = true) (h5 : okW h = true) (h6 : okT t = true) : mayE m o s wh h t = 0 ∧ mayB m o s wh h t = mayR m o s wh h t := by
  have e : mayE m o s wh h t = 0 := by unfold mayE; rw [h1, h2, h3, h4, h5, h6]; rfl
  exact ⟨e, by unfold mayB; rw [if_pos e]⟩

set_option maxRecDepth 20000 in
set_option maxHeartbeats 4000000 in
theorem says_0 (w : World) (m o s wh h t : Int) (x : ByteArray) (hL : Laid w) (gm : okM m = false) :
    Calls Tryd.prog 3 #[.int .i64 m, .int .i64 o, .int .i64 s, .int .i64 wh, .int .i64 h, .int .i64 t, .string x] w fun e w' => e = .returned (.bool true) ∧ Below w.heap.size w w' := by
  have HL : Hid (Laid w) := hL
  clear hL
  have Im : Hid (∀ w, Calls Tryd.prog 4 #[.int .i64 m, .int .i64 0, .int .i64 511] w fun e w' => e = .returned (.bool false) ∧ w = w') := fun w => by have := in_any m 0 511 w; rwa [show decide (0 ≤ m ∧ m ≤ 511) = false from gm] at this
  have E0 : Hid (∀ w, Laid w → Calls Tryd.prog 6 #[errV 0, .int .i64 0] w fun e w' => e = .returned (.bool true) ∧ Below w.heap.size w w') := fun w h => error_any 0 0 w h
  have E1 : Hid (∀ w, Laid w → Calls Tryd.prog 6 #[errV 1, .int .i64 1] w fun e w' => e = .returned (.bool true) ∧ Below w.heap.size w w') := fun w h => error_any 1 1 w h
  have ER : Hid (∀ w, Laid w → Calls Tryd.prog 6 #[errV (rdE x.data.toList), .int .i64 (rdE x.data.toList : Int)] w fun e w' => e = .returned (.bool true) ∧ Below w.heap.size w w') := fun w h => by have := error_any (rdE x.data.toList) (rdE x.data.toList : Int) w h; rwa [beq_self_eq_true] at this
  have Rd : Hid _ := fun (w : World) => read_any x w
  have Md : Hid _ := fun (w : World) => rmode_any x w
  generalize rdE x.data.toList = RE at ER Rd Md
  generalize rdM x.data.toList = RM at Rd Md
  have My : Hid _ := fun (w : World) => may_any m o s wh h t w
  have Nw : Hid _ := fun (w : World) => new_any m t w
  have Sh : Hid _ := fun (w : World) => show_any m w
  rw [(may_bad (m := m) (o := o) (s := s) (wh := wh) (h := h) (t := t) (.inl gm)).1, (may_bad (m := m) (o := o) (s := s) (wh := wh) (h := h) (t := t) (.inl gm)).2] at My
  rw [(new_bad (.inl gm)).1, (new_bad (.inl gm)).2] at Nw
  rw [(sh_bad gm).1, (sh_bad gm).2] at Sh
  clear gm
  generalize errV 0 = N0 at *
  generalize errV 1 = N1 at *
  go_enter Tryd.func3, Tryd.ntmps3
  go_wp2_with fail
  refine (Im.out _).mono ?_
  rintro e w' ⟨rfl, rfl⟩
  go_wp2_with fail
  refine (My.out _).mono ?_
  rintro e w1 ⟨rfl, hb1⟩
  have HL1 : Hid (Laid w1) := HL.out.later hb1
  go_wp2_with fail
  refine (E1.out _ HL1.out).mono ?_
  rintro e w2 ⟨rfl, hb2⟩
  have HL2 : Hid (Laid w2) := HL1.out.later hb2
  go_wp2_with fail
  refine (Im.out _).mono ?_
  rintro e w' ⟨rfl, rfl⟩
  go_wp2_with fail
  refine (Nw.out _).mono ?_
  rintro e w' ⟨rfl, rfl⟩
  go_wp2_with fail
  refine (E1.out _ HL2.out).mono ?_
  rintro e w3 ⟨rfl, hb3⟩
  have HL3 : Hid (Laid w3) := HL2.out.later hb3
  go_wp2_with fail
  refine (Im.out _).mono ?_
  rintro e w' ⟨rfl, rfl⟩
  go_wp2_with fail
  refine (Sh.out _).mono ?_
  rintro e w4 ⟨rfl, hb4⟩
  have HL4 : Hid (Laid w4) := HL3.out.later hb4
  go_wp2_with fail
  refine (E1.out _ HL4.out).mono ?_
  rintro e w5 ⟨rfl, hb5⟩
  have HL5 : Hid (Laid w5) := HL4.out.later hb5
  go_wp2_with fail
  refine (Md.out _).mono ?_
  rintro e w' ⟨rfl, rfl⟩
  go_wp2_with fail
  refine (Rd.out _).mono ?_
  rintro e w' ⟨rfl, rfl⟩
  go_wp2_with fail
  refine (ER.out _ HL5.out).mono ?_
  rintro e w6 ⟨rfl, hb6⟩
  have HL6 : Hid (Laid w6) := HL5.out.later hb6
  go_wp2
  go_ret
  exact ⟨rfl, (Below.next hb1 (Below.next hb2 (Below.next hb3 (Below.next hb4 (Below.next hb5 hb6)))))⟩

set_option maxRecDepth 20000 in
set_option maxHeartbeats 4000000 in
theorem says_1 (w : World) (m o s wh h t : Int) (x : ByteArray) (hL : Laid w) (gm : okM m = true) (go : okW o = false) (gb : okM t = true) :
    Calls Tryd.prog 3 #[.int .i64 m, .int .i64 o, .int .i64 s, .int .i64 wh, .int .i64 h, .int .i64 t, .string x] w fun e w' => e = .returned (.bool true) ∧ Below w.heap.size w w' := by
  have HL : Hid (Laid w) := hL
  clear hL
  have Im : Hid (∀ w, Calls Tryd.prog 4 #[.int .i64 m, .int .i64 0, .int .i64 511] w fun e w' => e = .returned (.bool true) ∧ w = w') := fun w => by have := in_any m 0 511 w; rwa [show decide (0 ≤ m ∧ m ≤ 511) = true from gm] at this
  have Io : Hid (∀ w, Calls Tryd.prog 4 #[.int .i64 o, .int .i64 0, .int .i64 9] w fun e w' => e = .returned (.bool false) ∧ w = w') := fun w => by have := in_any o 0 9 w; rwa [show decide (0 ≤ o ∧ o ≤ 9) = false from go] at this
  have Ib : Hid (∀ w, Calls Tryd.prog 4 #[.int .i64 t, .int .i64 0, .int .i64 511] w fun e w' => e = .returned (.bool true) ∧ w = w') := fun w => by have := in_any t 0 511 w; rwa [show decide (0 ≤ t ∧ t ≤ 511) = true from gb] at this
  have E0 : Hid (∀ w, Laid w → Calls Tryd.prog 6 #[errV 0, .int .i64 0] w fun e w' => e = .returned (.bool true) ∧ Below w.heap.size w w') := fun w h => error_any 0 0 w h
  have E1 : Hid (∀ w, Laid w → Calls Tryd.prog 6 #[errV 1, .int .i64 1] w fun e w' => e = .returned (.bool true) ∧ Below w.heap.size w w') := fun w h => error_any 1 1 w h
  have ER : Hid (∀ w, Laid w → Calls Tryd.prog 6 #[errV (rdE x.data.toList), .int .i64 (rdE x.data.toList : Int)] w fun e w' => e = .returned (.bool true) ∧ Below w.heap.size w w') := fun w h => by have := error_any (rdE x.data.toList) (rdE x.data.toList : Int) w h; rwa [beq_self_eq_true] at this
  have Rd : Hid _ := fun (w : World) => read_any x w
  have Md : Hid _ := fun (w : World) => rmode_any x w
  generalize rdE x.data.toList = RE at ER Rd Md
  generalize rdM x.data.toList = RM at Rd Md
  have My : Hid _ := fun (w : World) => may_any m o s wh h t w
  have Nw : Hid _ := fun (w : World) => new_any m t w
  have Sh : Hid _ := fun (w : World) => show_any m w
  rw [(may_bad (m := m) (o := o) (s := s) (wh := wh) (h := h) (t := t) (.inr (.inl go))).1, (may_bad (m := m) (o := o) (s := s) (wh := wh) (h := h) (t := t) (.inr (.inl go))).2] at My
  obtain ⟨M, rfl, hM⟩ := okM_form gm
  obtain ⟨T, rfl, hT⟩ := okM_form gb
  have Ls : Hid _ := fun (w : World) => less_any M T w hM hT
  rw [(new_ok hM hT).1, (new_ok hM hT).2] at Nw
  generalize an M T = N at Nw Ls
  have Lt : Hid _ := fun (w : World) => letters_any M w hM
  rw [(sh_ok hM).1, (sh_ok hM).2] at Sh
  generalize (⟨(lets M).toArray⟩ : ByteArray) = X at Lt Sh
  clear gm go gb
  generalize errV 0 = N0 at *
  generalize errV 1 = N1 at *
  go_enter Tryd.func3, Tryd.ntmps3
  go_wp2_with fail
  refine (Im.out _).mono ?_
  rintro e w' ⟨rfl, rfl⟩
  go_wp2_with fail
  refine (Io.out _).mono ?_
  rintro e w' ⟨rfl, rfl⟩
  go_wp2_with fail
  refine (My.out _).mono ?_
  rintro e w1 ⟨rfl, hb1⟩
  have HL1 : Hid (Laid w1) := HL.out.later hb1
  go_wp2_with fail
  refine (E1.out _ HL1.out).mono ?_
  rintro e w2 ⟨rfl, hb2⟩
  have HL2 : Hid (Laid w2) := HL1.out.later hb2
  go_wp2_with fail
  refine (Im.out _).mono ?_
  rintro e w' ⟨rfl, rfl⟩
  go_wp2_with fail
  refine (Ib.out _).mono ?_
  rintro e w' ⟨rfl, rfl⟩
  go_wp2_with fail
  refine (Ls.out _).mono ?_
  rintro e w' ⟨rfl, rfl⟩
  go_wp2_with fail
  refine (Nw.out _).mono ?_
  rintro e w' ⟨rfl, rfl⟩
  go_wp2_with fail
  refine (E0.out _ HL2.out).mono ?_
  rintro e w3 ⟨rfl, hb3⟩
  have HL3 : Hid (Laid w3) := HL2.out.later hb3
  go_wp2_with fail
  refine (Im.out _).mono ?_
  rintro e w' ⟨rfl, rfl⟩
  go_wp2_with fail
  refine (Lt.out _).mono ?_
  rintro e w' ⟨rfl, rfl⟩
  go_wp2_with fail
  refine (Sh.out _).mono ?_
  rintro e w4 ⟨rfl, hb4⟩
  have HL4 : Hid (Laid w4) := HL3.out.later hb4
  go_wp2_with fail
  refine (E0.out _ HL4.out).mono ?_
  rintro e w5 ⟨rfl, hb5⟩
  have HL5 : Hid (Laid w5) := HL4.out.later hb5
  go_wp2_with fail
  refine (Md.out _).mono ?_
  rintro e w' ⟨rfl, rfl⟩
  go_wp2_with fail
  refine (Rd.out _).mono ?_
  rintro e w' ⟨rfl, rfl⟩
  go_wp2_with fail
  refine (ER.out _ HL5.out).mono ?_
  rintro e w6 ⟨rfl, hb6⟩
  have HL6 : Hid (Laid w6) := HL5.out.later hb6
  go_wp2
  go_ret
  exact ⟨rfl, (Below.next hb1 (Below.next hb2 (Below.next hb3 (Below.next hb4 (Below.next hb5 hb6)))))⟩

set_option maxRecDepth 20000 in
set_option maxHeartbeats 4000000 in
theorem says_2 (w : World) (m o s wh h t : Int) (x : ByteArray) (hL : Laid w) (gm : okM m = true) (go : okW o = false) (gb : okM t = false) :
    Calls Tryd.prog 3 #[.int .i64 m, .int .i64 o, .int .i64 s, .int .i64 wh, .int .i64 h, .int .i64 t, .string x] w fun e w' => e = .returned (.bool true) ∧ Below w.heap.size w w' := by
  have HL : Hid (Laid w) := hL
  clear hL
  have Im : Hid (∀ w, Calls Tryd.prog 4 #[.int .i64 m, .int .i64 0, .int .i64 511] w fun e w' => e = .returned (.bool true) ∧ w = w') := fun w => by have := in_any m 0 511 w; rwa [show decide (0 ≤ m ∧ m ≤ 511) = true from gm] at this
  have Io : Hid (∀ w, Calls Tryd.prog 4 #[.int .i64 o, .int .i64 0, .int .i64 9] w fun e w' => e = .returned (.bool false) ∧ w = w') := fun w => by have := in_any o 0 9 w; rwa [show decide (0 ≤ o ∧ o ≤ 9) = false from go] at this
  have Ib : Hid (∀ w, Calls Tryd.prog 4 #[.int .i64 t, .int .i64 0, .int .i64 511] w fun e w' => e = .returned (.bool false) ∧ w = w') := fun w => by have := in_any t 0 511 w; rwa [show decide (0 ≤ t ∧ t ≤ 511) = false from gb] at this
  have E0 : Hid (∀ w, Laid w → Calls Tryd.prog 6 #[errV 0, .int .i64 0] w fun e w' => e = .returned (.bool true) ∧ Below w.heap.size w w') := fun w h => error_any 0 0 w h
  have E1 : Hid (∀ w, Laid w → Calls Tryd.prog 6 #[errV 1, .int .i64 1] w fun e w' => e = .returned (.bool true) ∧ Below w.heap.size w w') := fun w h => error_any 1 1 w h
  have ER : Hid (∀ w, Laid w → Calls Tryd.prog 6 #[errV (rdE x.data.toList), .int .i64 (rdE x.data.toList : Int)] w fun e w' => e = .returned (.bool true) ∧ Below w.heap.size w w') := fun w h => by have := error_any (rdE x.data.toList) (rdE x.data.toList : Int) w h; rwa [beq_self_eq_true] at this
  have Rd : Hid _ := fun (w : World) => read_any x w
  have Md : Hid _ := fun (w : World) => rmode_any x w
  generalize rdE x.data.toList = RE at ER Rd Md
  generalize rdM x.data.toList = RM at Rd Md
  have My : Hid _ := fun (w : World) => may_any m o s wh h t w
  have Nw : Hid _ := fun (w : World) => new_any m t w
  have Sh : Hid _ := fun (w : World) => show_any m w
  rw [(may_bad (m := m) (o := o) (s := s) (wh := wh) (h := h) (t := t) (.inr (.inl go))).1, (may_bad (m := m) (o := o) (s := s) (wh := wh) (h := h) (t := t) (.inr (.inl go))).2] at My
  obtain ⟨M, rfl, hM⟩ := okM_form gm
  rw [(new_bad (.inr gb)).1, (new_bad (.inr gb)).2] at Nw
  have Lt : Hid _ := fun (w : World) => letters_any M w hM
  rw [(sh_ok hM).1, (sh_ok hM).2] at Sh
  generalize (⟨(lets M).toArray⟩ : ByteArray) = X at Lt Sh
  clear gm go gb
  generalize errV 0 = N0 at *
  generalize errV 1 = N1 at *
  go_enter Tryd.func3, Tryd.ntmps3
  go_wp2_with fail
  refine (Im.out _).mono ?_
  rintro e w' ⟨rfl, rfl⟩
  go_wp2_with fail
  refine (Io.out _).mono ?_
  rintro e w' ⟨rfl, rfl⟩
  go_wp2_with fail
  refine (My.out _).mono ?_
  rintro e w1 ⟨rfl, hb1⟩
  have HL1 : Hid (Laid w1) := HL.out.later hb1
  go_wp2_with fail
  refine (E1.out _ HL1.out).mono ?_
  rintro e w2 ⟨rfl, hb2⟩
  have HL2 : Hid (Laid w2) := HL1.out.later hb2
  go_wp2_with fail
  refine (Im.out _).mono ?_
  rintro e w' ⟨rfl, rfl⟩
  go_wp2_with fail
  refine (Ib.out _).mono ?_
  rintro e w' ⟨rfl, rfl⟩
  go_wp2_with fail
  refine (Nw.out _).mono ?_
  rintro e w' ⟨rfl, rfl⟩
  go_wp2_with fail
  refine (E1.out _ HL2.out).mono ?_
  rintro e w3 ⟨rfl, hb3⟩
  have HL3 : Hid (Laid w3) := HL2.out.later hb3
  go_wp2_with fail
  refine (Im.out _).mono ?_
  rintro e w' ⟨rfl, rfl⟩
  go_wp2_with fail
  refine (Lt.out _).mono ?_
  rintro e w' ⟨rfl, rfl⟩
  go_wp2_with fail
  refine (Sh.out _).mono ?_
  rintro e w4 ⟨rfl, hb4⟩
  have HL4 : Hid (Laid w4) := HL3.out.later hb4
  go_wp2_with fail
  refine (E0.out _ HL4.out).mono ?_
  rintro e w5 ⟨rfl, hb5⟩
  have HL5 : Hid (Laid w5) := HL4.out.later hb5
  go_wp2_with fail
  refine (Md.out _).mono ?_
  rintro e w' ⟨rfl, rfl⟩
  go_wp2_with fail
  refine (Rd.out _).mono ?_
  rintro e w' ⟨rfl, rfl⟩
  go_wp2_with fail
  refine (ER.out _ HL5.out).mono ?_
  rintro e w6 ⟨rfl, hb6⟩
  have HL6 : Hid (Laid w6) := HL5.out.later hb6
  go_wp2
  go_ret
  exact ⟨rfl, (Below.next hb1 (Below.next hb2 (Below.next hb3 (Below.next hb4 (Below.next hb5 hb6)))))⟩

set_option maxRecDepth 20000 in
set_option maxHeartbeats 4000000 in
theorem says_3 (w : World) (m o s wh h t : Int) (x : ByteArray) (hL : Laid w) (gm : okM m = true) (go : okW o = true) (gs : okW s = false) (gb : okM t = true) :
    Calls Tryd.prog 3 #[.int .i64 m, .int .i64 o, .int .i64 s, .int .i64 wh, .int .i64 h, .int .i64 t, .string x] w fun e w' => e = .returned (.bool true) ∧ Below w.heap.size w w' := by
  have HL : Hid (Laid w) := hL
  clear hL
  have Im : Hid (∀ w, Calls Tryd.prog 4 #[.int .i64 m, .int .i64 0, .int .i64 511] w fun e w' => e = .returned (.bool true) ∧ w = w') := fun w => by have := in_any m 0 511 w; rwa [show decide (0 ≤ m ∧ m ≤ 511) = true from gm] at this
  have Io : Hid (∀ w, Calls Tryd.prog 4 #[.int .i64 o, .int .i64 0, .int .i64 9] w fun e w' => e = .returned (.bool true) ∧ w = w') := fun w => by have := in_any o 0 9 w; rwa [show decide (0 ≤ o ∧ o ≤ 9) = true from go] at this
  have Is : Hid (∀ w, Calls Tryd.prog 4 #[.int .i64 s, .int .i64 0, .int .i64 9] w fun e w' => e = .returned (.bool false) ∧ w = w') := fun w => by have := in_any s 0 9 w; rwa [show decide (0 ≤ s ∧ s ≤ 9) = false from gs] at this
  have Ib : Hid (∀ w, Calls Tryd.prog 4 #[.int .i64 t, .int .i64 0, .int .i64 511] w fun e w' => e = .returned (.bool true) ∧ w = w') := fun w => by have := in_any t 0 511 w; rwa [show decide (0 ≤ t ∧ t ≤ 511) = true from gb] at this
  have E0 : Hid (∀ w, Laid w → Calls Tryd.prog 6 #[errV 0, .int .i64 0] w fun e w' => e = .returned (.bool true) ∧ Below w.heap.size w w') := fun w h => error_any 0 0 w h
  have E1 : Hid (∀ w, Laid w → Calls Tryd.prog 6 #[errV 1, .int .i64 1] w fun e w' => e = .returned (.bool true) ∧ Below w.heap.size w w') := fun w h => error_any 1 1 w h
  have ER : Hid (∀ w, Laid w → Calls Tryd.prog 6 #[errV (rdE x.data.toList), .int .i64 (rdE x.data.toList : Int)] w fun e w' => e = .returned (.bool true) ∧ Below w.heap.size w w') := fun w h => by have := error_any (rdE x.data.toList) (rdE x.data.toList : Int) w h; rwa [beq_self_eq_true] at this
  have Rd : Hid _ := fun (w : World) => read_any x w
  have Md : Hid _ := fun (w : World) => rmode_any x w
  generalize rdE x.data.toList = RE at ER Rd Md
  generalize rdM x.data.toList = RM at Rd Md
  have My : Hid _ := fun (w : World) => may_any m o s wh h t w
  have Nw : Hid _ := fun (w : World) => new_any m t w
  have Sh : Hid _ := fun (w : World) => show_any m w
  rw [(may_bad (m := m) (o := o) (s := s) (wh := wh) (h := h) (t := t) (.inr (.inr (.inl gs)))).1, (may_bad (m := m) (o := o) (s := s) (wh := wh) (h := h) (t := t) (.inr (.inr (.inl gs)))).2] at My
  obtain ⟨M, rfl, hM⟩ := okM_form gm
  obtain ⟨T, rfl, hT⟩ := okM_form gb
  have Ls : Hid _ := fun (w : World) => less_any M T w hM hT
  rw [(new_ok hM hT).1, (new_ok hM hT).2] at Nw
  generalize an M T = N at Nw Ls
  have Lt : Hid _ := fun (w : World) => letters_any M w hM
  rw [(sh_ok hM).1, (sh_ok hM).2] at Sh
  generalize (⟨(lets M).toArray⟩ : ByteArray) = X at Lt Sh
  clear gm go gs gb
  generalize errV 0 = N0 at *
  generalize errV 1 = N1 at *
  go_enter Tryd.func3, Tryd.ntmps3
  go_wp2_with fail
  refine (Im.out _).mono ?_
  rintro e w' ⟨rfl, rfl⟩
  go_wp2_with fail
  refine (Io.out _).mono ?_
  rintro e w' ⟨rfl, rfl⟩
  go_wp2_with fail
  refine (Is.out _).mono ?_
  rintro e w' ⟨rfl, rfl⟩
  go_wp2_with fail
  refine (My.out _).mono ?_
  rintro e w1 ⟨rfl, hb1⟩
  have HL1 : Hid (Laid w1) := HL.out.later hb1
  go_wp2_with fail
  refine (E1.out _ HL1.out).mono ?_
  rintro e w2 ⟨rfl, hb2⟩
  have HL2 : Hid (Laid w2) := HL1.out.later hb2
  go_wp2_with fail
  refine (Im.out _).mono ?_
  rintro e w' ⟨rfl, rfl⟩
  go_wp2_with fail
  refine (Ib.out _).mono ?_
  rintro e w' ⟨rfl, rfl⟩
  go_wp2_with fail
  refine (Ls.out _).mono ?_
  rintro e w' ⟨rfl, rfl⟩
  go_wp2_with fail
  refine (Nw.out _).mono ?_
  rintro e w' ⟨rfl, rfl⟩
  go_wp2_with fail
  refine (E0.out _ HL2.out).mono ?_
  rintro e w3 ⟨rfl, hb3⟩
  have HL3 : Hid (Laid w3) := HL2.out.later hb3
  go_wp2_with fail
  refine (Im.out _).mono ?_
  rintro e w' ⟨rfl, rfl⟩
  go_wp2_with fail
  refine (Lt.out _).mono ?_
  rintro e w' ⟨rfl, rfl⟩
  go_wp2_with fail
  refine (Sh.out _).mono ?_
  rintro e w4 ⟨rfl, hb4⟩
  have HL4 : Hid (Laid w4) := HL3.out.later hb4
  go_wp2_with fail
  refine (E0.out _ HL4.out).mono ?_
  rintro e w5 ⟨rfl, hb5⟩
  have HL5 : Hid (Laid w5) := HL4.out.later hb5
  go_wp2_with fail
  refine (Md.out _).mono ?_
  rintro e w' ⟨rfl, rfl⟩
  go_wp2_with fail
  refine (Rd.out _).mono ?_
  rintro e w' ⟨rfl, rfl⟩
  go_wp2_with fail
  refine (ER.out _ HL5.out).mono ?_
  rintro e w6 ⟨rfl, hb6⟩
  have HL6 : Hid (Laid w6) := HL5.out.later hb6
  go_wp2
  go_ret
  exact ⟨rfl, (Below.next hb1 (Below.next hb2 (Below.next hb3 (Below.next hb4 (Below.next hb5 hb6)))))⟩

set_option maxRecDepth 20000 in
set_option maxHeartbeats 4000000 in
theorem says_4 (w : World) (m o s wh h t : Int) (x : ByteArray) (hL : Laid w) (gm : okM m = true) (go : okW o = true) (gs : okW s = false) (gb : okM t = false) :
    Calls Tryd.prog 3 #[.int .i64 m, .int .i64 o, .int .i64 s, .int .i64 wh, .int .i64 h, .int .i64 t, .string x] w fun e w' => e = .returned (.bool true) ∧ Below w.heap.size w w' := by
  have HL : Hid (Laid w) := hL
  clear hL
  have Im : Hid (∀ w, Calls Tryd.prog 4 #[.int .i64 m, .int .i64 0, .int .i64 511] w fun e w' => e = .returned (.bool true) ∧ w = w') := fun w => by have := in_any m 0 511 w; rwa [show decide (0 ≤ m ∧ m ≤ 511) = true from gm] at this
  have Io : Hid (∀ w, Calls Tryd.prog 4 #[.int .i64 o, .int .i64 0, .int .i64 9] w fun e w' => e = .returned (.bool true) ∧ w = w') := fun w => by have := in_any o 0 9 w; rwa [show decide (0 ≤ o ∧ o ≤ 9) = true from go] at this
  have Is : Hid (∀ w, Calls Tryd.prog 4 #[.int .i64 s, .int .i64 0, .int .i64 9] w fun e w' => e = .returned (.bool false) ∧ w = w') := fun w => by have := in_any s 0 9 w; rwa [show decide (0 ≤ s ∧ s ≤ 9) = false from gs] at this
  have Ib : Hid (∀ w, Calls Tryd.prog 4 #[.int .i64 t, .int .i64 0, .int .i64 511] w fun e w' => e = .returned (.bool false) ∧ w = w') := fun w => by have := in_any t 0 511 w; rwa [show decide (0 ≤ t ∧ t ≤ 511) = false from gb] at this
  have E0 : Hid (∀ w, Laid w → Calls Tryd.prog 6 #[errV 0, .int .i64 0] w fun e w' => e = .returned (.bool true) ∧ Below w.heap.size w w') := fun w h => error_any 0 0 w h
  have E1 : Hid (∀ w, Laid w → Calls Tryd.prog 6 #[errV 1, .int .i64 1] w fun e w' => e = .returned (.bool true) ∧ Below w.heap.size w w') := fun w h => error_any 1 1 w h
  have ER : Hid (∀ w, Laid w → Calls Tryd.prog 6 #[errV (rdE x.data.toList), .int .i64 (rdE x.data.toList : Int)] w fun e w' => e = .returned (.bool true) ∧ Below w.heap.size w w') := fun w h => by have := error_any (rdE x.data.toList) (rdE x.data.toList : Int) w h; rwa [beq_self_eq_true] at this
  have Rd : Hid _ := fun (w : World) => read_any x w
  have Md : Hid _ := fun (w : World) => rmode_any x w
  generalize rdE x.data.toList = RE at ER Rd Md
  generalize rdM x.data.toList = RM at Rd Md
  have My : Hid _ := fun (w : World) => may_any m o s wh h t w
  have Nw : Hid _ := fun (w : World) => new_any m t w
  have Sh : Hid _ := fun (w : World) => show_any m w
  rw [(may_bad (m := m) (o := o) (s := s) (wh := wh) (h := h) (t := t) (.inr (.inr (.inl gs)))).1, (may_bad (m := m) (o := o) (s := s) (wh := wh) (h := h) (t := t) (.inr (.inr (.inl gs)))).2] at My
  obtain ⟨M, rfl, hM⟩ := okM_form gm
  rw [(new_bad (.inr gb)).1, (new_bad (.inr gb)).2] at Nw
  have Lt : Hid _ := fun (w : World) => letters_any M w hM
  rw [(sh_ok hM).1, (sh_ok hM).2] at Sh
  generalize (⟨(lets M).toArray⟩ : ByteArray) = X at Lt Sh
  clear gm go gs gb
  generalize errV 0 = N0 at *
  generalize errV 1 = N1 at *
  go_enter Tryd.func3, Tryd.ntmps3
  go_wp2_with fail
  refine (Im.out _).mono ?_
  rintro e w' ⟨rfl, rfl⟩
  go_wp2_with fail
  refine (Io.out _).mono ?_
  rintro e w' ⟨rfl, rfl⟩
  go_wp2_with fail
  refine (Is.out _).mono ?_
  rintro e w' ⟨rfl, rfl⟩
  go_wp2_with fail
  refine (My.out _).mono ?_
  rintro e w1 ⟨rfl, hb1⟩
  have HL1 : Hid (Laid w1) := HL.out.later hb1
  go_wp2_with fail
  refine (E1.out _ HL1.out).mono ?_
  rintro e w2 ⟨rfl, hb2⟩
  have HL2 : Hid (Laid w2) := HL1.out.later hb2
  go_wp2_with fail
  refine (Im.out _).mono ?_
  rintro e w' ⟨rfl, rfl⟩
  go_wp2_with fail
  refine (Ib.out _).mono ?_
  rintro e w' ⟨rfl, rfl⟩
  go_wp2_with fail
  refine (Nw.out _).mono ?_
  rintro e w' ⟨rfl, rfl⟩
  go_wp2_with fail
  refine (E1.out _ HL2.out).mono ?_
  rintro e w3 ⟨rfl, hb3⟩
  have HL3 : Hid (Laid w3) := HL2.out.later hb3
  go_wp2_with fail
  refine (Im.out _).mono ?_
  rintro e w' ⟨rfl, rfl⟩
  go_wp2_with fail
  refine (Lt.out _).mono ?_
  rintro e w' ⟨rfl, rfl⟩
  go_wp2_with fail
  refine (Sh.out _).mono ?_
  rintro e w4 ⟨rfl, hb4⟩
  have HL4 : Hid (Laid w4) := HL3.out.later hb4
  go_wp2_with fail
  refine (E0.out _ HL4.out).mono ?_
  rintro e w5 ⟨rfl, hb5⟩
  have HL5 : Hid (Laid w5) := HL4.out.later hb5
  go_wp2_with fail
  refine (Md.out _).mono ?_
  rintro e w' ⟨rfl, rfl⟩
  go_wp2_with fail
  refine (Rd.out _).mono ?_
  rintro e w' ⟨rfl, rfl⟩
  go_wp2_with fail
  refine (ER.out _ HL5.out).mono ?_
  rintro e w6 ⟨rfl, hb6⟩
  have HL6 : Hid (Laid w6) := HL5.out.later hb6
  go_wp2
  go_ret
  exact ⟨rfl, (Below.next hb1 (Below.next hb2 (Below.next hb3 (Below.next hb4 (Below.next hb5 hb6)))))⟩

set_option maxRecDepth 20000 in
set_option maxHeartbeats 4000000 in
theorem says_5 (w : World) (m o s wh h t : Int) (x : ByteArray) (hL : Laid w) (gm : okM m = true) (go : okW o = true) (gs : okW s = true) (gw : okW wh = false) (gb : okM t = true) :
    Calls Tryd.prog 3 #[.int .i64 m, .int .i64 o, .int .i64 s, .int .i64 wh, .int .i64 h, .int .i64 t, .string x] w fun e w' => e = .returned (.bool true) ∧ Below w.heap.size w w' := by
  have HL : Hid (Laid w) := hL
  clear hL
  have Im : Hid (∀ w, Calls Tryd.prog 4 #[.int .i64 m, .int .i64 0, .int .i64 511] w fun e w' => e = .returned (.bool true) ∧ w = w') := fun w => by have := in_any m 0 511 w; rwa [show decide (0 ≤ m ∧ m ≤ 511) = true from gm] at this
  have Io : Hid (∀ w, Calls Tryd.prog 4 #[.int .i64 o, .int .i64 0, .int .i64 9] w fun e w' => e = .returned (.bool true) ∧ w = w') := fun w => by have := in_any o 0 9 w; rwa [show decide (0 ≤ o ∧ o ≤ 9) = true from go] at this
  have Is : Hid (∀ w, Calls Tryd.prog 4 #[.int .i64 s, .int .i64 0, .int .i64 9] w fun e w' => e = .returned (.bool true) ∧ w = w') := fun w => by have := in_any s 0 9 w; rwa [show decide (0 ≤ s ∧ s ≤ 9) = true from gs] at this
  have Iw : Hid (∀ w, Calls Tryd.prog 4 #[.int .i64 wh, .int .i64 0, .int .i64 9] w fun e w' => e = .returned (.bool false) ∧ w = w') := fun w => by have := in_any wh 0 9 w; rwa [show decide (0 ≤ wh ∧ wh ≤ 9) = false from gw] at this
  have Ib : Hid (∀ w, Calls Tryd.prog 4 #[.int .i64 t, .int .i64 0, .int .i64 511] w fun e w' => e = .returned (.bool true) ∧ w = w') := fun w => by have := in_any t 0 511 w; rwa [show decide (0 ≤ t ∧ t ≤ 511) = true from gb] at this
  have E0 : Hid (∀ w, Laid w → Calls Tryd.prog 6 #[errV 0, .int .i64 0] w fun e w' => e = .returned (.bool true) ∧ Below w.heap.size w w') := fun w h => error_any 0 0 w h
  have E1 : Hid (∀ w, Laid w → Calls Tryd.prog 6 #[errV 1, .int .i64 1] w fun e w' => e = .returned (.bool true) ∧ Below w.heap.size w w') := fun w h => error_any 1 1 w h
  have ER : Hid (∀ w, Laid w → Calls Tryd.prog 6 #[errV (rdE x.data.toList), .int .i64 (rdE x.data.toList : Int)] w fun e w' => e = .returned (.bool true) ∧ Below w.heap.size w w') := fun w h => by have := error_any (rdE x.data.toList) (rdE x.data.toList : Int) w h; rwa [beq_self_eq_true] at this
  have Rd : Hid _ := fun (w : World) => read_any x w
  have Md : Hid _ := fun (w : World) => rmode_any x w
  generalize rdE x.data.toList = RE at ER Rd Md
  generalize rdM x.data.toList = RM at Rd Md
  have My : Hid _ := fun (w : World) => may_any m o s wh h t w
  have Nw : Hid _ := fun (w : World) => new_any m t w
  have Sh : Hid _ := fun (w : World) => show_any m w
  rw [(may_bad (m := m) (o := o) (s := s) (wh := wh) (h := h) (t := t) (.inr (.inr (.inr (.inl gw))))).1, (may_bad (m := m) (o := o) (s := s) (wh := wh) (h := h) (t := t) (.inr (.inr (.inr (.inl gw))))).2] at My
  obtain ⟨M, rfl, hM⟩ := okM_form gm
  obtain ⟨T, rfl, hT⟩ := okM_form gb
  have Ls : Hid _ := fun (w : World) => less_any M T w hM hT
  rw [(new_ok hM hT).1, (new_ok hM hT).2] at Nw
  generalize an M T = N at Nw Ls
  have Lt : Hid _ := fun (w : World) => letters_any M w hM
  rw [(sh_ok hM).1, (sh_ok hM).2] at Sh
  generalize (⟨(lets M).toArray⟩ : ByteArray) = X at Lt Sh
  clear gm go gs gw gb
  generalize errV 0 = N0 at *
  generalize errV 1 = N1 at *
  go_enter Tryd.func3, Tryd.ntmps3
  go_wp2_with fail
  refine (Im.out _).mono ?_
  rintro e w' ⟨rfl, rfl⟩
  go_wp2_with fail
  refine (Io.out _).mono ?_
  rintro e w' ⟨rfl, rfl⟩
  go_wp2_with fail
  refine (Is.out _).mono ?_
  rintro e w' ⟨rfl, rfl⟩
  go_wp2_with fail
  refine (Iw.out _).mono ?_
  rintro e w' ⟨rfl, rfl⟩
  go_wp2_with fail
  refine (My.out _).mono ?_
  rintro e w1 ⟨rfl, hb1⟩
  have HL1 : Hid (Laid w1) := HL.out.later hb1
  go_wp2_with fail
  refine (E1.out _ HL1.out).mono ?_
  rintro e w2 ⟨rfl, hb2⟩
  have HL2 : Hid (Laid w2) := HL1.out.later hb2
  go_wp2_with fail
  refine (Im.out _).mono ?_
  rintro e w' ⟨rfl, rfl⟩
  go_wp2_with fail
  refine (Ib.out _).mono ?_
  rintro e w' ⟨rfl, rfl⟩
  go_wp2_with fail
  refine (Ls.out _).mono ?_
  rintro e w' ⟨rfl, rfl⟩
  go_wp2_with fail
  refine (Nw.out _).mono ?_
  rintro e w' ⟨rfl, rfl⟩
  go_wp2_with fail
  refine (E0.out _ HL2.out).mono ?_
  rintro e w3 ⟨rfl, hb3⟩
  have HL3 : Hid (Laid w3) := HL2.out.later hb3
  go_wp2_with fail
  refine (Im.out _).mono ?_
  rintro e w' ⟨rfl, rfl⟩
  go_wp2_with fail
  refine (Lt.out _).mono ?_
  rintro e w' ⟨rfl, rfl⟩
  go_wp2_with fail
  refine (Sh.out _).mono ?_
  rintro e w4 ⟨rfl, hb4⟩
  have HL4 : Hid (Laid w4) := HL3.out.later hb4
  go_wp2_with fail
  refine (E0.out _ HL4.out).mono ?_
  rintro e w5 ⟨rfl, hb5⟩
  have HL5 : Hid (Laid w5) := HL4.out.later hb5
  go_wp2_with fail
  refine (Md.out _).mono ?_
  rintro e w' ⟨rfl, rfl⟩
  go_wp2_with fail
  refine (Rd.out _).mono ?_
  rintro e w' ⟨rfl, rfl⟩
  go_wp2_with fail
  refine (ER.out _ HL5.out).mono ?_
  rintro e w6 ⟨rfl, hb6⟩
  have HL6 : Hid (Laid w6) := HL5.out.later hb6
  go_wp2
  go_ret
  exact ⟨rfl, (Below.next hb1 (Below.next hb2 (Below.next hb3 (Below.next hb4 (Below.next hb5 hb6)))))⟩

set_option maxRecDepth 20000 in
set_option maxHeartbeats 4000000 in
theorem says_6 (w : World) (m o s wh h t : Int) (x : ByteArray) (hL : Laid w) (gm : okM m = true) (go : okW o = true) (gs : okW s = true) (gw : okW wh = false) (gb : okM t = false) :
    Calls Tryd.prog 3 #[.int .i64 m, .int .i64 o, .int .i64 s, .int .i64 wh, .int .i64 h, .int .i64 t, .string x] w fun e w' => e = .returned (.bool true) ∧ Below w.heap.size w w' := by
  have HL : Hid (Laid w) := hL
  clear hL
  have Im : Hid (∀ w, Calls Tryd.prog 4 #[.int .i64 m, .int .i64 0, .int .i64 511] w fun e w' => e = .returned (.bool true) ∧ w = w') := fun w => by have := in_any m 0 511 w; rwa [show decide (0 ≤ m ∧ m ≤ 511) = true from gm] at this
  have Io : Hid (∀ w, Calls Tryd.prog 4 #[.int .i64 o, .int .i64 0, .int .i64 9] w fun e w' => e = .returned (.bool true) ∧ w = w') := fun w => by have := in_any o 0 9 w; rwa [show decide (0 ≤ o ∧ o ≤ 9) = true from go] at this
  have Is : Hid (∀ w, Calls Tryd.prog 4 #[.int .i64 s, .int .i64 0, .int .i64 9] w fun e w' => e = .returned (.bool true) ∧ w = w') := fun w => by have := in_any s 0 9 w; rwa [show decide (0 ≤ s ∧ s ≤ 9) = true from gs] at this
  have Iw : Hid (∀ w, Calls Tryd.prog 4 #[.int .i64 wh, .int .i64 0, .int .i64 9] w fun e w' => e = .returned (.bool false) ∧ w = w') := fun w => by have := in_any wh 0 9 w; rwa [show decide (0 ≤ wh ∧ wh ≤ 9) = false from gw] at this
  have Ib : Hid (∀ w, Calls Tryd.prog 4 #[.int .i64 t, .int .i64 0, .int .i64 511] w fun e w' => e = .returned (.bool false) ∧ w = w') := fun w => by have := in_any t 0 511 w; rwa [show decide (0 ≤ t ∧ t ≤ 511) = false from gb] at this
  have E0 : Hid (∀ w, Laid w → Calls Tryd.prog 6 #[errV 0, .int .i64 0] w fun e w' => e = .returned (.bool true) ∧ Below w.heap.size w w') := fun w h => error_any 0 0 w h
  have E1 : Hid (∀ w, Laid w → Calls Tryd.prog 6 #[errV 1, .int .i64 1] w fun e w' => e = .returned (.bool true) ∧ Below w.heap.size w w') := fun w h => error_any 1 1 w h
  have ER : Hid (∀ w, Laid w → Calls Tryd.prog 6 #[errV (rdE x.data.toList), .int .i64 (rdE x.data.toList : Int)] w fun e w' => e = .returned (.bool true) ∧ Below w.heap.size w w') := fun w h => by have := error_any (rdE x.data.toList) (rdE x.data.toList : Int) w h; rwa [beq_self_eq_true] at this
  have Rd : Hid _ := fun (w : World) => read_any x w
  have Md : Hid _ := fun (w : World) => rmode_any x w
  generalize rdE x.data.toList = RE at ER Rd Md
  generalize rdM x.data.toList = RM at Rd Md
  have My : Hid _ := fun (w : World) => may_any m o s wh h t w
  have Nw : Hid _ := fun (w : World) => new_any m t w
  have Sh : Hid _ := fun (w : World) => show_any m w
  rw [(may_bad (m := m) (o := o) (s := s) (wh := wh) (h := h) (t := t) (.inr (.inr (.inr (.inl gw))))).1, (may_bad (m := m) (o := o) (s := s) (wh := wh) (h := h) (t := t) (.inr (.inr (.inr (.inl gw))))).2] at My
  obtain ⟨M, rfl, hM⟩ := okM_form gm
  rw [(new_bad (.inr gb)).1, (new_bad (.inr gb)).2] at Nw
  have Lt : Hid _ := fun (w : World) => letters_any M w hM
  rw [(sh_ok hM).1, (sh_ok hM).2] at Sh
  generalize (⟨(lets M).toArray⟩ : ByteArray) = X at Lt Sh
  clear gm go gs gw gb
  generalize errV 0 = N0 at *
  generalize errV 1 = N1 at *
  go_enter Tryd.func3, Tryd.ntmps3
  go_wp2_with fail
  refine (Im.out _).mono ?_
  rintro e w' ⟨rfl, rfl⟩
  go_wp2_with fail
  refine (Io.out _).mono ?_
  rintro e w' ⟨rfl, rfl⟩
  go_wp2_with fail
  refine (Is.out _).mono ?_
  rintro e w' ⟨rfl, rfl⟩
  go_wp2_with fail
  refine (Iw.out _).mono ?_
  rintro e w' ⟨rfl, rfl⟩
  go_wp2_with fail
  refine (My.out _).mono ?_
  rintro e w1 ⟨rfl, hb1⟩
  have HL1 : Hid (Laid w1) := HL.out.later hb1
  go_wp2_with fail
  refine (E1.out _ HL1.out).mono ?_
  rintro e w2 ⟨rfl, hb2⟩
  have HL2 : Hid (Laid w2) := HL1.out.later hb2
  go_wp2_with fail
  refine (Im.out _).mono ?_
  rintro e w' ⟨rfl, rfl⟩
  go_wp2_with fail
  refine (Ib.out _).mono ?_
  rintro e w' ⟨rfl, rfl⟩
  go_wp2_with fail
  refine (Nw.out _).mono ?_
  rintro e w' ⟨rfl, rfl⟩
  go_wp2_with fail
  refine (E1.out _ HL2.out).mono ?_
  rintro e w3 ⟨rfl, hb3⟩
  have HL3 : Hid (Laid w3) := HL2.out.later hb3
  go_wp2_with fail
  refine (Im.out _).mono ?_
  rintro e w' ⟨rfl, rfl⟩
  go_wp2_with fail
  refine (Lt.out _).mono ?_
  rintro e w' ⟨rfl, rfl⟩
  go_wp2_with fail
  refine (Sh.out _).mono ?_
  rintro e w4 ⟨rfl, hb4⟩
  have HL4 : Hid (Laid w4) := HL3.out.later hb4
  go_wp2_with fail
  refine (E0.out _ HL4.out).mono ?_
  rintro e w5 ⟨rfl, hb5⟩
  have HL5 : Hid (Laid w5) := HL4.out.later hb5
  go_wp2_with fail
  refine (Md.out _).mono ?_
  rintro e w' ⟨rfl, rfl⟩
  go_wp2_with fail
  refine (Rd.out _).mono ?_
  rintro e w' ⟨rfl, rfl⟩
  go_wp2_with fail
  refine (ER.out _ HL5.out).mono ?_
  rintro e w6 ⟨rfl, hb6⟩
  have HL6 : Hid (Laid w6) := HL5.out.later hb6
  go_wp2
  go_ret
  exact ⟨rfl, (Below.next hb1 (Below.next hb2 (Below.next hb3 (Below.next hb4 (Below.next hb5 hb6)))))⟩

set_option maxRecDepth 20000 in
set_option maxHeartbeats 4000000 in
theorem says_7 (w : World) (m o s wh h t : Int) (x : ByteArray) (hL : Laid w) (gm : okM m = true) (go : okW o = true) (gs : okW s = true) (gw : okW wh = true) (gh : okW h = false) (gb : okM t = true) :
    Calls Tryd.prog 3 #[.int .i64 m, .int .i64 o, .int .i64 s, .int .i64 wh, .int .i64 h, .int .i64 t, .string x] w fun e w' => e = .returned (.bool true) ∧ Below w.heap.size w w' := by
  have HL : Hid (Laid w) := hL
  clear hL
  have Im : Hid (∀ w, Calls Tryd.prog 4 #[.int .i64 m, .int .i64 0, .int .i64 511] w fun e w' => e = .returned (.bool true) ∧ w = w') := fun w => by have := in_any m 0 511 w; rwa [show decide (0 ≤ m ∧ m ≤ 511) = true from gm] at this
  have Io : Hid (∀ w, Calls Tryd.prog 4 #[.int .i64 o, .int .i64 0, .int .i64 9] w fun e w' => e = .returned (.bool true) ∧ w = w') := fun w => by have := in_any o 0 9 w; rwa [show decide (0 ≤ o ∧ o ≤ 9) = true from go] at this
  have Is : Hid (∀ w, Calls Tryd.prog 4 #[.int .i64 s, .int .i64 0, .int .i64 9] w fun e w' => e = .returned (.bool true) ∧ w = w') := fun w => by have := in_any s 0 9 w; rwa [show decide (0 ≤ s ∧ s ≤ 9) = true from gs] at this
  have Iw : Hid (∀ w, Calls Tryd.prog 4 #[.int .i64 wh, .int .i64 0, .int .i64 9] w fun e w' => e = .returned (.bool true) ∧ w = w') := fun w => by have := in_any wh 0 9 w; rwa [show decide (0 ≤ wh ∧ wh ≤ 9) = true from gw] at this
  have Ih : Hid (∀ w, Calls Tryd.prog 4 #[.int .i64 h, .int .i64 0, .int .i64 9] w fun e w' => e = .returned (.bool false) ∧ w = w') := fun w => by have := in_any h 0 9 w; rwa [show decide (0 ≤ h ∧ h ≤ 9) = false from gh] at this
  have Ib : Hid (∀ w, Calls Tryd.prog 4 #[.int .i64 t, .int .i64 0, .int .i64 511] w fun e w' => e = .returned (.bool true) ∧ w = w') := fun w => by have := in_any t 0 511 w; rwa [show decide (0 ≤ t ∧ t ≤ 511) = true from gb] at this
  have E0 : Hid (∀ w, Laid w → Calls Tryd.prog 6 #[errV 0, .int .i64 0] w fun e w' => e = .returned (.bool true) ∧ Below w.heap.size w w') := fun w h => error_any 0 0 w h
  have E1 : Hid (∀ w, Laid w → Calls Tryd.prog 6 #[errV 1, .int .i64 1] w fun e w' => e = .returned (.bool true) ∧ Below w.heap.size w w') := fun w h => error_any 1 1 w h
  have ER : Hid (∀ w, Laid w → Calls Tryd.prog 6 #[errV (rdE x.data.toList), .int .i64 (rdE x.data.toList : Int)] w fun e w' => e = .returned (.bool true) ∧ Below w.heap.size w w') := fun w h => by have := error_any (rdE x.data.toList) (rdE x.data.toList : Int) w h; rwa [beq_self_eq_true] at this
  have Rd : Hid _ := fun (w : World) => read_any x w
  have Md : Hid _ := fun (w : World) => rmode_any x w
  generalize rdE x.data.toList = RE at ER Rd Md
  generalize rdM x.data.toList = RM at Rd Md
  have My : Hid _ := fun (w : World) => may_any m o s wh h t w
  have Nw : Hid _ := fun (w : World) => new_any m t w
  have Sh : Hid _ := fun (w : World) => show_any m w
  rw [(may_bad (m := m) (o := o) (s := s) (wh := wh) (h := h) (t := t) (.inr (.inr (.inr (.inr (.inl gh)))))).1, (may_bad (m := m) (o := o) (s := s) (wh := wh) (h := h) (t := t) (.inr (.inr (.inr (.inr (.inl gh)))))).2] at My
  obtain ⟨M, rfl, hM⟩ := okM_form gm
  obtain ⟨T, rfl, hT⟩ := okM_form gb
  have Ls : Hid _ := fun (w : World) => less_any M T w hM hT
  rw [(new_ok hM hT).1, (new_ok hM hT).2] at Nw
  generalize an M T = N at Nw Ls
  have Lt : Hid _ := fun (w : World) => letters_any M w hM
  rw [(sh_ok hM).1, (sh_ok hM).2] at Sh
  generalize (⟨(lets M).toArray⟩ : ByteArray) = X at Lt Sh
  clear gm go gs gw gh gb
  generalize errV 0 = N0 at *
  generalize errV 1 = N1 at *
  go_enter Tryd.func3, Tryd.ntmps3
  go_wp2_with fail
  refine (Im.out _).mono ?_
  rintro e w' ⟨rfl, rfl⟩
  go_wp2_with fail
  refine (Io.out _).mono ?_
  rintro e w' ⟨rfl, rfl⟩
  go_wp2_with fail
  refine (Is.out _).mono ?_
  rintro e w' ⟨rfl, rfl⟩
  go_wp2_with fail
  refine (Iw.out _).mono ?_
  rintro e w' ⟨rfl, rfl⟩
  go_wp2_with fail
  refine (Ih.out _).mono ?_
  rintro e w' ⟨rfl, rfl⟩
  go_wp2_with fail
  refine (My.out _).mono ?_
  rintro e w1 ⟨rfl, hb1⟩
  have HL1 : Hid (Laid w1) := HL.out.later hb1
  go_wp2_with fail
  refine (E1.out _ HL1.out).mono ?_
  rintro e w2 ⟨rfl, hb2⟩
  have HL2 : Hid (Laid w2) := HL1.out.later hb2
  go_wp2_with fail
  refine (Im.out _).mono ?_
  rintro e w' ⟨rfl, rfl⟩
  go_wp2_with fail
  refine (Ib.out _).mono ?_
  rintro e w' ⟨rfl, rfl⟩
  go_wp2_with fail
  refine (Ls.out _).mono ?_
  rintro e w' ⟨rfl, rfl⟩
  go_wp2_with fail
  refine (Nw.out _).mono ?_
  rintro e w' ⟨rfl, rfl⟩
  go_wp2_with fail
  refine (E0.out _ HL2.out).mono ?_
  rintro e w3 ⟨rfl, hb3⟩
  have HL3 : Hid (Laid w3) := HL2.out.later hb3
  go_wp2_with fail
  refine (Im.out _).mono ?_
  rintro e w' ⟨rfl, rfl⟩
  go_wp2_with fail
  refine (Lt.out _).mono ?_
  rintro e w' ⟨rfl, rfl⟩
  go_wp2_with fail
  refine (Sh.out _).mono ?_
  rintro e w4 ⟨rfl, hb4⟩
  have HL4 : Hid (Laid w4) := HL3.out.later hb4
  go_wp2_with fail
  refine (E0.out _ HL4.out).mono ?_
  rintro e w5 ⟨rfl, hb5⟩
  have HL5 : Hid (Laid w5) := HL4.out.later hb5
  go_wp2_with fail
  refine (Md.out _).mono ?_
  rintro e w' ⟨rfl, rfl⟩
  go_wp2_with fail
  refine (Rd.out _).mono ?_
  rintro e w' ⟨rfl, rfl⟩
  go_wp2_with fail
  refine (ER.out _ HL5.out).mono ?_
  rintro e w6 ⟨rfl, hb6⟩
  have HL6 : Hid (Laid w6) := HL5.out.later hb6
  go_wp2
  go_ret
  exact ⟨rfl, (Below.next hb1 (Below.next hb2 (Below.next hb3 (Below.next hb4 (Below.next hb5 hb6)))))⟩

set_option maxRecDepth 20000 in
set_option maxHeartbeats 4000000 in
theorem says_8 (w : World) (m o s wh h t : Int) (x : ByteArray) (hL : Laid w) (gm : okM m = true) (go : okW o = true) (gs : okW s = true) (gw : okW wh = true) (gh : okW h = false) (gb : okM t = false) :
    Calls Tryd.prog 3 #[.int .i64 m, .int .i64 o, .int .i64 s, .int .i64 wh, .int .i64 h, .int .i64 t, .string x] w fun e w' => e = .returned (.bool true) ∧ Below w.heap.size w w' := by
  have HL : Hid (Laid w) := hL
  clear hL
  have Im : Hid (∀ w, Calls Tryd.prog 4 #[.int .i64 m, .int .i64 0, .int .i64 511] w fun e w' => e = .returned (.bool true) ∧ w = w') := fun w => by have := in_any m 0 511 w; rwa [show decide (0 ≤ m ∧ m ≤ 511) = true from gm] at this
  have Io : Hid (∀ w, Calls Tryd.prog 4 #[.int .i64 o, .int .i64 0, .int .i64 9] w fun e w' => e = .returned (.bool true) ∧ w = w') := fun w => by have := in_any o 0 9 w; rwa [show decide (0 ≤ o ∧ o ≤ 9) = true from go] at this
  have Is : Hid (∀ w, Calls Tryd.prog 4 #[.int .i64 s, .int .i64 0, .int .i64 9] w fun e w' => e = .returned (.bool true) ∧ w = w') := fun w => by have := in_any s 0 9 w; rwa [show decide (0 ≤ s ∧ s ≤ 9) = true from gs] at this
  have Iw : Hid (∀ w, Calls Tryd.prog 4 #[.int .i64 wh, .int .i64 0, .int .i64 9] w fun e w' => e = .returned (.bool true) ∧ w = w') := fun w => by have := in_any wh 0 9 w; rwa [show decide (0 ≤ wh ∧ wh ≤ 9) = true from gw] at this
  have Ih : Hid (∀ w, Calls Tryd.prog 4 #[.int .i64 h, .int .i64 0, .int .i64 9] w fun e w' => e = .returned (.bool false) ∧ w = w') := fun w => by have := in_any h 0 9 w; rwa [show decide (0 ≤ h ∧ h ≤ 9) = false from gh] at this
  have Ib : Hid (∀ w, Calls Tryd.prog 4 #[.int .i64 t, .int .i64 0, .int .i64 511] w fun e w' => e = .returned (.bool false) ∧ w = w') := fun w => by have := in_any t 0 511 w; rwa [show decide (0 ≤ t ∧ t ≤ 511) = false from gb] at this
  have E0 : Hid (∀ w, Laid w → Calls Tryd.prog 6 #[errV 0, .int .i64 0] w fun e w' => e = .returned (.bool true) ∧ Below w.heap.size w w') := fun w h => error_any 0 0 w h
  have E1 : Hid (∀ w, Laid w → Calls Tryd.prog 6 #[errV 1, .int .i64 1] w fun e w' => e = .returned (.bool true) ∧ Below w.heap.size w w') := fun w h => error_any 1 1 w h
  have ER : Hid (∀ w, Laid w → Calls Tryd.prog 6 #[errV (rdE x.data.toList), .int .i64 (rdE x.data.toList : Int)] w fun e w' => e = .returned (.bool true) ∧ Below w.heap.size w w') := fun w h => by have := error_any (rdE x.data.toList) (rdE x.data.toList : Int) w h; rwa [beq_self_eq_true] at this
  have Rd : Hid _ := fun (w : World) => read_any x w
  have Md : Hid _ := fun (w : World) => rmode_any x w
  generalize rdE x.data.toList = RE at ER Rd Md
  generalize rdM x.data.toList = RM at Rd Md
  have My : Hid _ := fun (w : World) => may_any m o s wh h t w
  have Nw : Hid _ := fun (w : World) => new_any m t w
  have Sh : Hid _ := fun (w : World) => show_any m w
  rw [(may_bad (m := m) (o := o) (s := s) (wh := wh) (h := h) (t := t) (.inr (.inr (.inr (.inr (.inl gh)))))).1, (may_bad (m := m) (o := o) (s := s) (wh := wh) (h := h) (t := t) (.inr (.inr (.inr (.inr (.inl gh)))))).2] at My
  obtain ⟨M, rfl, hM⟩ := okM_form gm
  rw [(new_bad (.inr gb)).1, (new_bad (.inr gb)).2] at Nw
  have Lt : Hid _ := fun (w : World) => letters_any M w hM
  rw [(sh_ok hM).1, (sh_ok hM).2] at Sh
  generalize (⟨(lets M).toArray⟩ : ByteArray) = X at Lt Sh
  clear gm go gs gw gh gb
  generalize errV 0 = N0 at *
  generalize errV 1 = N1 at *
  go_enter Tryd.func3, Tryd.ntmps3
  go_wp2_with fail
  refine (Im.out _).mono ?_
  rintro e w' ⟨rfl, rfl⟩
  go_wp2_with fail
  refine (Io.out _).mono ?_
  rintro e w' ⟨rfl, rfl⟩
  go_wp2_with fail
  refine (Is.out _).mono ?_
  rintro e w' ⟨rfl, rfl⟩
  go_wp2_with fail
  refine (Iw.out _).mono ?_
  rintro e w' ⟨rfl, rfl⟩
  go_wp2_with fail
  refine (Ih.out _).mono ?_
  rintro e w' ⟨rfl, rfl⟩
  go_wp2_with fail
  refine (My.out _).mono ?_
  rintro e w1 ⟨rfl, hb1⟩
  have HL1 : Hid (Laid w1) := HL.out.later hb1
  go_wp2_with fail
  refine (E1.out _ HL1.out).mono ?_
  rintro e w2 ⟨rfl, hb2⟩
  have HL2 : Hid (Laid w2) := HL1.out.later hb2
  go_wp2_with fail
  refine (Im.out _).mono ?_
  rintro e w' ⟨rfl, rfl⟩
  go_wp2_with fail
  refine (Ib.out _).mono ?_
  rintro e w' ⟨rfl, rfl⟩
  go_wp2_with fail
  refine (Nw.out _).mono ?_
  rintro e w' ⟨rfl, rfl⟩
  go_wp2_with fail
  refine (E1.out _ HL2.out).mono ?_
  rintro e w3 ⟨rfl, hb3⟩
  have HL3 : Hid (Laid w3) := HL2.out.later hb3
  go_wp2_with fail
  refine (Im.out _).mono ?_
  rintro e w' ⟨rfl, rfl⟩
  go_wp2_with fail
  refine (Lt.out _).mono ?_
  rintro e w' ⟨rfl, rfl⟩
  go_wp2_with fail
  refine (Sh.out _).mono ?_
  rintro e w4 ⟨rfl, hb4⟩
  have HL4 : Hid (Laid w4) := HL3.out.later hb4
  go_wp2_with fail
  refine (E0.out _ HL4.out).mono ?_
  rintro e w5 ⟨rfl, hb5⟩
  have HL5 : Hid (Laid w5) := HL4.out.later hb5
  go_wp2_with fail
  refine (Md.out _).mono ?_
  rintro e w' ⟨rfl, rfl⟩
  go_wp2_with fail
  refine (Rd.out _).mono ?_
  rintro e w' ⟨rfl, rfl⟩
  go_wp2_with fail
  refine (ER.out _ HL5.out).mono ?_
  rintro e w6 ⟨rfl, hb6⟩
  have HL6 : Hid (Laid w6) := HL5.out.later hb6
  go_wp2
  go_ret
  exact ⟨rfl, (Below.next hb1 (Below.next hb2 (Below.next hb3 (Below.next hb4 (Below.next hb5 hb6)))))⟩

set_option maxRecDepth 20000 in
set_option maxHeartbeats 4000000 in
theorem says_9 (w : World) (m o s wh h t : Int) (x : ByteArray) (hL : Laid w) (gm : okM m = true) (go : okW o = true) (gs : okW s = true) (gw : okW wh = true) (gh : okW h = true) (gt : okT t = false) (gb : okM t = true) :
    Calls Tryd.prog 3 #[.int .i64 m, .int .i64 o, .int .i64 s, .int .i64 wh, .int .i64 h, .int .i64 t, .string x] w fun e w' => e = .returned (.bool true) ∧ Below w.heap.size w w' := by
  have HL : Hid (Laid w) := hL
  clear hL
  have Im : Hid (∀ w, Calls Tryd.prog 4 #[.int .i64 m, .int .i64 0, .int .i64 511] w fun e w' => e = .returned (.bool true) ∧ w = w') := fun w => by have := in_any m 0 511 w; rwa [show decide (0 ≤ m ∧ m ≤ 511) = true from gm] at this
  have Io : Hid (∀ w, Calls Tryd.prog 4 #[.int .i64 o, .int .i64 0, .int .i64 9] w fun e w' => e = .returned (.bool true) ∧ w = w') := fun w => by have := in_any o 0 9 w; rwa [show decide (0 ≤ o ∧ o ≤ 9) = true from go] at this
  have Is : Hid (∀ w, Calls Tryd.prog 4 #[.int .i64 s, .int .i64 0, .int .i64 9] w fun e w' => e = .returned (.bool true) ∧ w = w') := fun w => by have := in_any s 0 9 w; rwa [show decide (0 ≤ s ∧ s ≤ 9) = true from gs] at this
  have Iw : Hid (∀ w, Calls Tryd.prog 4 #[.int .i64 wh, .int .i64 0, .int .i64 9] w fun e w' => e = .returned (.bool true) ∧ w = w') := fun w => by have := in_any wh 0 9 w; rwa [show decide (0 ≤ wh ∧ wh ≤ 9) = true from gw] at this
  have Ih : Hid (∀ w, Calls Tryd.prog 4 #[.int .i64 h, .int .i64 0, .int .i64 9] w fun e w' => e = .returned (.bool true) ∧ w = w') := fun w => by have := in_any h 0 9 w; rwa [show decide (0 ≤ h ∧ h ≤ 9) = true from gh] at this
  have It : Hid (∀ w, Calls Tryd.prog 4 #[.int .i64 t, .int .i64 0, .int .i64 7] w fun e w' => e = .returned (.bool false) ∧ w = w') := fun w => by have := in_any t 0 7 w; rwa [show decide (0 ≤ t ∧ t ≤ 7) = false from gt] at this
  have Ib : Hid (∀ w, Calls Tryd.prog 4 #[.int .i64 t, .int .i64 0, .int .i64 511] w fun e w' => e = .returned (.bool true) ∧ w = w') := fun w => by have := in_any t 0 511 w; rwa [show decide (0 ≤ t ∧ t ≤ 511) = true from gb] at this
  have E0 : Hid (∀ w, Laid w → Calls Tryd.prog 6 #[errV 0, .int .i64 0] w fun e w' => e = .returned (.bool true) ∧ Below w.heap.size w w') := fun w h => error_any 0 0 w h
  have E1 : Hid (∀ w, Laid w → Calls Tryd.prog 6 #[errV 1, .int .i64 1] w fun e w' => e = .returned (.bool true) ∧ Below w.heap.size w w') := fun w h => error_any 1 1 w h
  have ER : Hid (∀ w, Laid w → Calls Tryd.prog 6 #[errV (rdE x.data.toList), .int .i64 (rdE x.data.toList : Int)] w fun e w' => e = .returned (.bool true) ∧ Below w.heap.size w w') := fun w h => by have := error_any (rdE x.data.toList) (rdE x.data.toList : Int) w h; rwa [beq_self_eq_true] at this
  have Rd : Hid _ := fun (w : World) => read_any x w
  have Md : Hid _ := fun (w : World) => rmode_any x w
  generalize rdE x.data.toList = RE at ER Rd Md
  generalize rdM x.data.toList = RM at Rd Md
  have My : Hid _ := fun (w : World) => may_any m o s wh h t w
  have Nw : Hid _ := fun (w : World) => new_any m t w
  have Sh : Hid _ := fun (w : World) => show_any m w
  rw [(may_bad (m := m) (o := o) (s := s) (wh := wh) (h := h) (t := t) (.inr (.inr (.inr (.inr (.inr gt)))))).1, (may_bad (m := m) (o := o) (s := s) (wh := wh) (h := h) (t := t) (.inr (.inr (.inr (.inr (.inr gt)))))).2] at My
  obtain ⟨M, rfl, hM⟩ := okM_form gm
  obtain ⟨T, rfl, hT⟩ := okM_form gb
  have Ls : Hid _ := fun (w : World) => less_any M T w hM hT
  rw [(new_ok hM hT).1, (new_ok hM hT).2] at Nw
  generalize an M T = N at Nw Ls
  have Lt : Hid _ := fun (w : World) => letters_any M w hM
  rw [(sh_ok hM).1, (sh_ok hM).2] at Sh
  generalize (⟨(lets M).toArray⟩ : ByteArray) = X at Lt Sh
  clear gm go gs gw gh gt gb
  generalize errV 0 = N0 at *
  generalize errV 1 = N1 at *
  go_enter Tryd.func3, Tryd.ntmps3
  go_wp2_with fail
  refine (Im.out _).mono ?_
  rintro e w' ⟨rfl, rfl⟩
  go_wp2_with fail
  refine (Io.out _).mono ?_
  rintro e w' ⟨rfl, rfl⟩
  go_wp2_with fail
  refine (Is.out _).mono ?_
  rintro e w' ⟨rfl, rfl⟩
  go_wp2_with fail
  refine (Iw.out _).mono ?_
  rintro e w' ⟨rfl, rfl⟩
  go_wp2_with fail
  refine (Ih.out _).mono ?_
  rintro e w' ⟨rfl, rfl⟩
  go_wp2_with fail
  refine (It.out _).mono ?_
  rintro e w' ⟨rfl, rfl⟩
  go_wp2_with fail
  refine (My.out _).mono ?_
  rintro e w1 ⟨rfl, hb1⟩
  have HL1 : Hid (Laid w1) := HL.out.later hb1
  go_wp2_with fail
  refine (E1.out _ HL1.out).mono ?_
  rintro e w2 ⟨rfl, hb2⟩
  have HL2 : Hid (Laid w2) := HL1.out.later hb2
  go_wp2_with fail
  refine (Im.out _).mono ?_
  rintro e w' ⟨rfl, rfl⟩
  go_wp2_with fail
  refine (Ib.out _).mono ?_
  rintro e w' ⟨rfl, rfl⟩
  go_wp2_with fail
  refine (Ls.out _).mono ?_
  rintro e w' ⟨rfl, rfl⟩
  go_wp2_with fail
  refine (Nw.out _).mono ?_
  rintro e w' ⟨rfl, rfl⟩
  go_wp2_with fail
  refine (E0.out _ HL2.out).mono ?_
  rintro e w3 ⟨rfl, hb3⟩
  have HL3 : Hid (Laid w3) := HL2.out.later hb3
  go_wp2_with fail
  refine (Im.out _).mono ?_
  rintro e w' ⟨rfl, rfl⟩
  go_wp2_with fail
  refine (Lt.out _).mono ?_
  rintro e w' ⟨rfl, rfl⟩
  go_wp2_with fail
  refine (Sh.out _).mono ?_
  rintro e w4 ⟨rfl, hb4⟩
  have HL4 : Hid (Laid w4) := HL3.out.later hb4
  go_wp2_with fail
  refine (E0.out _ HL4.out).mono ?_
  rintro e w5 ⟨rfl, hb5⟩
  have HL5 : Hid (Laid w5) := HL4.out.later hb5
  go_wp2_with fail
  refine (Md.out _).mono ?_
  rintro e w' ⟨rfl, rfl⟩
  go_wp2_with fail
  refine (Rd.out _).mono ?_
  rintro e w' ⟨rfl, rfl⟩
  go_wp2_with fail
  refine (ER.out _ HL5.out).mono ?_
  rintro e w6 ⟨rfl, hb6⟩
  have HL6 : Hid (Laid w6) := HL5.out.later hb6
  go_wp2
  go_ret
  exact ⟨rfl, (Below.next hb1 (Below.next hb2 (Below.next hb3 (Below.next hb4 (Below.next hb5 hb6)))))⟩

set_option maxRecDepth 20000 in
set_option maxHeartbeats 4000000 in
theorem says_10 (w : World) (m o s wh h t : Int) (x : ByteArray) (hL : Laid w) (gm : okM m = true) (go : okW o = true) (gs : okW s = true) (gw : okW wh = true) (gh : okW h = true) (gt : okT t = false) (gb : okM t = false) :
    Calls Tryd.prog 3 #[.int .i64 m, .int .i64 o, .int .i64 s, .int .i64 wh, .int .i64 h, .int .i64 t, .string x] w fun e w' => e = .returned (.bool true) ∧ Below w.heap.size w w' := by
  have HL : Hid (Laid w) := hL
  clear hL
  have Im : Hid (∀ w, Calls Tryd.prog 4 #[.int .i64 m, .int .i64 0, .int .i64 511] w fun e w' => e = .returned (.bool true) ∧ w = w') := fun w => by have := in_any m 0 511 w; rwa [show decide (0 ≤ m ∧ m ≤ 511) = true from gm] at this
  have Io : Hid (∀ w, Calls Tryd.prog 4 #[.int .i64 o, .int .i64 0, .int .i64 9] w fun e w' => e = .returned (.bool true) ∧ w = w') := fun w => by have := in_any o 0 9 w; rwa [show decide (0 ≤ o ∧ o ≤ 9) = true from go] at this
  have Is : Hid (∀ w, Calls Tryd.prog 4 #[.int .i64 s, .int .i64 0, .int .i64 9] w fun e w' => e = .returned (.bool true) ∧ w = w') := fun w => by have := in_any s 0 9 w; rwa [show decide (0 ≤ s ∧ s ≤ 9) = true from gs] at this
  have Iw : Hid (∀ w, Calls Tryd.prog 4 #[.int .i64 wh, .int .i64 0, .int .i64 9] w fun e w' => e = .returned (.bool true) ∧ w = w') := fun w => by have := in_any wh 0 9 w; rwa [show decide (0 ≤ wh ∧ wh ≤ 9) = true from gw] at this
  have Ih : Hid (∀ w, Calls Tryd.prog 4 #[.int .i64 h, .int .i64 0, .int .i64 9] w fun e w' => e = .returned (.bool true) ∧ w = w') := fun w => by have := in_any h 0 9 w; rwa [show decide (0 ≤ h ∧ h ≤ 9) = true from gh] at this
  have It : Hid (∀ w, Calls Tryd.prog 4 #[.int .i64 t, .int .i64 0, .int .i64 7] w fun e w' => e = .returned (.bool false) ∧ w = w') := fun w => by have := in_any t 0 7 w; rwa [show decide (0 ≤ t ∧ t ≤ 7) = false from gt] at this
  have Ib : Hid (∀ w, Calls Tryd.prog 4 #[.int .i64 t, .int .i64 0, .int .i64 511] w fun e w' => e = .returned (.bool false) ∧ w = w') := fun w => by have := in_any t 0 511 w; rwa [show decide (0 ≤ t ∧ t ≤ 511) = false from gb] at this
  have E0 : Hid (∀ w, Laid w → Calls Tryd.prog 6 #[errV 0, .int .i64 0] w fun e w' => e = .returned (.bool true) ∧ Below w.heap.size w w') := fun w h => error_any 0 0 w h
  have E1 : Hid (∀ w, Laid w → Calls Tryd.prog 6 #[errV 1, .int .i64 1] w fun e w' => e = .returned (.bool true) ∧ Below w.heap.size w w') := fun w h => error_any 1 1 w h
  have ER : Hid (∀ w, Laid w → Calls Tryd.prog 6 #[errV (rdE x.data.toList), .int .i64 (rdE x.data.toList : Int)] w fun e w' => e = .returned (.bool true) ∧ Below w.heap.size w w') := fun w h => by have := error_any (rdE x.data.toList) (rdE x.data.toList : Int) w h; rwa [beq_self_eq_true] at this
  have Rd : Hid _ := fun (w : World) => read_any x w
  have Md : Hid _ := fun (w : World) => rmode_any x w
  generalize rdE x.data.toList = RE at ER Rd Md
  generalize rdM x.data.toList = RM at Rd Md
  have My : Hid _ := fun (w : World) => may_any m o s wh h t w
  have Nw : Hid _ := fun (w : World) => new_any m t w
  have Sh : Hid _ := fun (w : World) => show_any m w
  rw [(may_bad (m := m) (o := o) (s := s) (wh := wh) (h := h) (t := t) (.inr (.inr (.inr (.inr (.inr gt)))))).1, (may_bad (m := m) (o := o) (s := s) (wh := wh) (h := h) (t := t) (.inr (.inr (.inr (.inr (.inr gt)))))).2] at My
  obtain ⟨M, rfl, hM⟩ := okM_form gm
  rw [(new_bad (.inr gb)).1, (new_bad (.inr gb)).2] at Nw
  have Lt : Hid _ := fun (w : World) => letters_any M w hM
  rw [(sh_ok hM).1, (sh_ok hM).2] at Sh
  generalize (⟨(lets M).toArray⟩ : ByteArray) = X at Lt Sh
  clear gm go gs gw gh gt gb
  generalize errV 0 = N0 at *
  generalize errV 1 = N1 at *
  go_enter Tryd.func3, Tryd.ntmps3
  go_wp2_with fail
  refine (Im.out _).mono ?_
  rintro e w' ⟨rfl, rfl⟩
  go_wp2_with fail
  refine (Io.out _).mono ?_
  rintro e w' ⟨rfl, rfl⟩
  go_wp2_with fail
  refine (Is.out _).mono ?_
  rintro e w' ⟨rfl, rfl⟩
  go_wp2_with fail
  refine (Iw.out _).mono ?_
  rintro e w' ⟨rfl, rfl⟩
  go_wp2_with fail
  refine (Ih.out _).mono ?_
  rintro e w' ⟨rfl, rfl⟩
  go_wp2_with fail
  refine (It.out _).mono ?_
  rintro e w' ⟨rfl, rfl⟩
  go_wp2_with fail
  refine (My.out _).mono ?_
  rintro e w1 ⟨rfl, hb1⟩
  have HL1 : Hid (Laid w1) := HL.out.later hb1
  go_wp2_with fail
  refine (E1.out _ HL1.out).mono ?_
  rintro e w2 ⟨rfl, hb2⟩
  have HL2 : Hid (Laid w2) := HL1.out.later hb2
  go_wp2_with fail
  refine (Im.out _).mono ?_
  rintro e w' ⟨rfl, rfl⟩
  go_wp2_with fail
  refine (Ib.out _).mono ?_
  rintro e w' ⟨rfl, rfl⟩
  go_wp2_with fail
  refine (Nw.out _).mono ?_
  rintro e w' ⟨rfl, rfl⟩
  go_wp2_with fail
  refine (E1.out _ HL2.out).mono ?_
  rintro e w3 ⟨rfl, hb3⟩
  have HL3 : Hid (Laid w3) := HL2.out.later hb3
  go_wp2_with fail
  refine (Im.out _).mono ?_
  rintro e w' ⟨rfl, rfl⟩
  go_wp2_with fail
  refine (Lt.out _).mono ?_
  rintro e w' ⟨rfl, rfl⟩
  go_wp2_with fail
  refine (Sh.out _).mono ?_
  rintro e w4 ⟨rfl, hb4⟩
  have HL4 : Hid (Laid w4) := HL3.out.later hb4
  go_wp2_with fail
  refine (E0.out _ HL4.out).mono ?_
  rintro e w5 ⟨rfl, hb5⟩
  have HL5 : Hid (Laid w5) := HL4.out.later hb5
  go_wp2_with fail
  refine (Md.out _).mono ?_
  rintro e w' ⟨rfl, rfl⟩
  go_wp2_with fail
  refine (Rd.out _).mono ?_
  rintro e w' ⟨rfl, rfl⟩
  go_wp2_with fail
  refine (ER.out _ HL5.out).mono ?_
  rintro e w6 ⟨rfl, hb6⟩
  have HL6 : Hid (Laid w6) := HL5.out.later hb6
  go_wp2
  go_ret
  exact ⟨rfl, (Below.next hb1 (Below.next hb2 (Below.next hb3 (Below.next hb4 (Below.next hb5 hb6)))))⟩

set_option maxRecDepth 20000 in
set_option maxHeartbeats 4000000 in
theorem says_11 (w : World) (m o s wh h t : Int) (x : ByteArray) (hL : Laid w) (gm : okM m = true) (go : okW o = true) (gs : okW s = true) (gw : okW wh = true) (gh : okW h = true) (gt : okT t = true) :
    Calls Tryd.prog 3 #[.int .i64 m, .int .i64 o, .int .i64 s, .int .i64 wh, .int .i64 h, .int .i64 t, .string x] w fun e w' => e = .returned (.bool true) ∧ Below w.heap.size w w' := by
  have gb : okM t = true := by simp only [okT, okM, decide_eq_true_iff] at gt ⊢; omega
  have HL : Hid (Laid w) := hL
  clear hL
  have Im : Hid (∀ w, Calls Tryd.prog 4 #[.int .i64 m, .int .i64 0, .int .i64 511] w fun e w' => e = .returned (.bool true) ∧ w = w') := fun w => by have := in_any m 0 511 w; rwa [show decide (0 ≤ m ∧ m ≤ 511) = true from gm] at this
  have Io : Hid (∀ w, Calls Tryd.prog 4 #[.int .i64 o, .int .i64 0, .int .i64 9] w fun e w' => e = .returned (.bool true) ∧ w = w') := fun w => by have := in_any o 0 9 w; rwa [show decide (0 ≤ o ∧ o ≤ 9) = true from go] at this
  have Is : Hid (∀ w, Calls Tryd.prog 4 #[.int .i64 s, .int .i64 0, .int .i64 9] w fun e w' => e = .returned (.bool true) ∧ w = w') := fun w => by have := in_any s 0 9 w; rwa [show decide (0 ≤ s ∧ s ≤ 9) = true from gs] at this
  have Iw : Hid (∀ w, Calls Tryd.prog 4 #[.int .i64 wh, .int .i64 0, .int .i64 9] w fun e w' => e = .returned (.bool true) ∧ w = w') := fun w => by have := in_any wh 0 9 w; rwa [show decide (0 ≤ wh ∧ wh ≤ 9) = true from gw] at this
  have Ih : Hid (∀ w, Calls Tryd.prog 4 #[.int .i64 h, .int .i64 0, .int .i64 9] w fun e w' => e = .returned (.bool true) ∧ w = w') := fun w => by have := in_any h 0 9 w; rwa [show decide (0 ≤ h ∧ h ≤ 9) = true from gh] at this
  have It : Hid (∀ w, Calls Tryd.prog 4 #[.int .i64 t, .int .i64 0, .int .i64 7] w fun e w' => e = .returned (.bool true) ∧ w = w') := fun w => by have := in_any t 0 7 w; rwa [show decide (0 ≤ t ∧ t ≤ 7) = true from gt] at this
  have Ib : Hid (∀ w, Calls Tryd.prog 4 #[.int .i64 t, .int .i64 0, .int .i64 511] w fun e w' => e = .returned (.bool true) ∧ w = w') := fun w => by have := in_any t 0 511 w; rwa [show decide (0 ≤ t ∧ t ≤ 511) = true from gb] at this
  have E0 : Hid (∀ w, Laid w → Calls Tryd.prog 6 #[errV 0, .int .i64 0] w fun e w' => e = .returned (.bool true) ∧ Below w.heap.size w w') := fun w h => error_any 0 0 w h
  have E1 : Hid (∀ w, Laid w → Calls Tryd.prog 6 #[errV 1, .int .i64 1] w fun e w' => e = .returned (.bool true) ∧ Below w.heap.size w w') := fun w h => error_any 1 1 w h
  have ER : Hid (∀ w, Laid w → Calls Tryd.prog 6 #[errV (rdE x.data.toList), .int .i64 (rdE x.data.toList : Int)] w fun e w' => e = .returned (.bool true) ∧ Below w.heap.size w w') := fun w h => by have := error_any (rdE x.data.toList) (rdE x.data.toList : Int) w h; rwa [beq_self_eq_true] at this
  have Rd : Hid _ := fun (w : World) => read_any x w
  have Md : Hid _ := fun (w : World) => rmode_any x w
  generalize rdE x.data.toList = RE at ER Rd Md
  generalize rdM x.data.toList = RM at Rd Md
  have My : Hid _ := fun (w : World) => may_any m o s wh h t w
  have Nw : Hid _ := fun (w : World) => new_any m t w
  have Sh : Hid _ := fun (w : World) => show_any m w
  rw [(may_ok gm go gs gw gh gt).1, (may_ok gm go gs gw gh gt).2] at My
  obtain ⟨M, rfl, hM⟩ := okM_form gm
  obtain ⟨T, rfl, hT8⟩ := okT_form gt
  have hT : T < 512 := by omega
  have Ls : Hid _ := fun (w : World) => less_any M T w hM hT
  rw [(new_ok hM hT).1, (new_ok hM hT).2] at Nw
  generalize an M T = N at Nw Ls
  have Rm : Hid _ := fun (w : World) => rmay_any M T o s wh h w hM hT8
  generalize mayR (M : Int) o s wh h (T : Int) = B at My Rm
  have Lt : Hid _ := fun (w : World) => letters_any M w hM
  rw [(sh_ok hM).1, (sh_ok hM).2] at Sh
  generalize (⟨(lets M).toArray⟩ : ByteArray) = X at Lt Sh
  clear gm go gs gw gh gt gb
  generalize errV 0 = N0 at *
  generalize errV 1 = N1 at *
  go_enter Tryd.func3, Tryd.ntmps3
  go_wp2_with fail
  refine (Im.out _).mono ?_
  rintro e w' ⟨rfl, rfl⟩
  go_wp2_with fail
  refine (Io.out _).mono ?_
  rintro e w' ⟨rfl, rfl⟩
  go_wp2_with fail
  refine (Is.out _).mono ?_
  rintro e w' ⟨rfl, rfl⟩
  go_wp2_with fail
  refine (Iw.out _).mono ?_
  rintro e w' ⟨rfl, rfl⟩
  go_wp2_with fail
  refine (Ih.out _).mono ?_
  rintro e w' ⟨rfl, rfl⟩
  go_wp2_with fail
  refine (It.out _).mono ?_
  rintro e w' ⟨rfl, rfl⟩
  go_wp2_with fail
  refine (My.out _).mono ?_
  rintro e w1 ⟨rfl, hb1⟩
  have HL1 : Hid (Laid w1) := HL.out.later hb1
  go_wp2_with fail
  refine (E0.out _ HL1.out).mono ?_
  rintro e w2 ⟨rfl, hb2⟩
  have HL2 : Hid (Laid w2) := HL1.out.later hb2
  go_wp2_with fail
  refine (Rm.out _).mono ?_
  rintro e w' ⟨rfl, rfl⟩
  go_wp2_with fail
  refine (Im.out _).mono ?_
  rintro e w' ⟨rfl, rfl⟩
  go_wp2_with fail
  refine (Ib.out _).mono ?_
  rintro e w' ⟨rfl, rfl⟩
  go_wp2_with fail
  refine (Ls.out _).mono ?_
  rintro e w' ⟨rfl, rfl⟩
  go_wp2_with fail
  refine (Nw.out _).mono ?_
  rintro e w' ⟨rfl, rfl⟩
  go_wp2_with fail
  refine (E0.out _ HL2.out).mono ?_
  rintro e w3 ⟨rfl, hb3⟩
  have HL3 : Hid (Laid w3) := HL2.out.later hb3
  go_wp2_with fail
  refine (Im.out _).mono ?_
  rintro e w' ⟨rfl, rfl⟩
  go_wp2_with fail
  refine (Lt.out _).mono ?_
  rintro e w' ⟨rfl, rfl⟩
  go_wp2_with fail
  refine (Sh.out _).mono ?_
  rintro e w4 ⟨rfl, hb4⟩
  have HL4 : Hid (Laid w4) := HL3.out.later hb4
  go_wp2_with fail
  refine (E0.out _ HL4.out).mono ?_
  rintro e w5 ⟨rfl, hb5⟩
  have HL5 : Hid (Laid w5) := HL4.out.later hb5
  go_wp2_with fail
  refine (Md.out _).mono ?_
  rintro e w' ⟨rfl, rfl⟩
  go_wp2_with fail
  refine (Rd.out _).mono ?_
  rintro e w' ⟨rfl, rfl⟩
  go_wp2_with fail
  refine (ER.out _ HL5.out).mono ?_
  rintro e w6 ⟨rfl, hb6⟩
  have HL6 : Hid (Laid w6) := HL5.out.later hb6
  go_wp2
  go_ret
  exact ⟨rfl, (Below.next hb1 (Below.next hb2 (Below.next hb3 (Below.next hb4 (Below.next hb5 hb6)))))⟩

theorem modeSays_any (w : World) (m o s wh h t : Int) (x : ByteArray) (hL : Laid w) :
    Calls Tryd.prog 3 #[.int .i64 m, .int .i64 o, .int .i64 s, .int .i64 wh, .int .i64 h, .int .i64 t, .string x] w fun e w' => e = .returned (.bool true) ∧ Below w.heap.size w w' := by
  cases gm : okM m
  · exact says_0 w m o s wh h t x hL gm
  · skip
    cases go : okW o
    · cases gb : okM t
      · exact says_2 w m o s wh h t x hL gm go gb
      · exact says_1 w m o s wh h t x hL gm go gb
    · skip
      cases gs : okW s
      · cases gb : okM t
        · exact says_4 w m o s wh h t x hL gm go gs gb
        · exact says_3 w m o s wh h t x hL gm go gs gb
      · skip
        cases gw : okW wh
        · cases gb : okM t
          · exact says_6 w m o s wh h t x hL gm go gs gw gb
          · exact says_5 w m o s wh h t x hL gm go gs gw gb
        · skip
          cases gh : okW h
          · cases gb : okM t
            · exact says_8 w m o s wh h t x hL gm go gs gw gh gb
            · exact says_7 w m o s wh h t x hL gm go gs gw gh gb
          · skip
            cases gt : okT t
            · cases gb : okM t
              · exact says_10 w m o s wh h t x hL gm go gs gw gh gt gb
              · exact says_9 w m o s wh h t x hL gm go gs gw gh gt gb
            · exact says_11 w m o s wh h t x hL gm go gs gw gh gt

end Go.Proofs.YtnhjigdlaefdaaaDoor
