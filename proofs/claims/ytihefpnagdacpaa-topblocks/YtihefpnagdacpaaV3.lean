/- This text proves what bitmap.Take, Back, Free and Has answer of any map that lies there, and the map's word behind it; all other memory is as it was; the only condition is that the map lies there. -/
import Derived.Test.YtihefpnagdacpaaV2
import Derived.Test.YtihefpnagdacpaaEr
namespace Go.Proofs.Ytihefpnagdacpaa
open Go.RowKit Go.Deep

set_option maxHeartbeats 2000000 in
theorem take_no (g : Nat) (n : Int) (w : World) (hn : ¬ (1 ≤ n ∧ n ≤ 32)) :
    Calls Try.prog 16 #[.pointer (some ⟨g, 0, none⟩), .int .i64 n] w fun e w' => e = .returned (.tuple #[.int .i64 0, errV 1]) ∧ w = w' := by
  have HN : Hid (decide (1 ≤ n ∧ n ≤ 32) = false) := decide_eq_false hn
  clear hn
  go_enter Try.func16, Try.ntmps16
  go_wp2_with fail
  refine (isCount_any _ _).mono ?_
  rintro e w' ⟨rfl, rfl⟩
  rw [HN.out]
  go_wp2
  go_ret2
  exact ⟨rfl, rfl⟩

set_option maxHeartbeats 4000000 in
theorem take_in (g m n : Nat) (w : World) (h : MapAt w g m) (h1 : 1 ≤ n) (h2 : n ≤ 32) :
    Calls Try.prog 16 #[.pointer (some ⟨g, 0, none⟩), .int .i64 (n : Int)] w fun e w' =>
      (∃ k, k + n ≤ 32 ∧ fr m k n ∧ (∀ a, a < k → ¬ fr m a n) ∧ e = .returned (.tuple #[.int .i64 (k : Int), .nilIface]) ∧ w' = w.setCell ⟨g, 0, none⟩ (.int .u32 (put m k n : Int))) ∨
      ((∀ a, a + n ≤ 32 → ¬ fr m a n) ∧ e = .returned (.tuple #[.int .i64 0, errV 4]) ∧ w' = w) := by
  have HN : Hid (decide ((1 : Int) ≤ (n : Int) ∧ (n : Int) ≤ 32) = true) := decide_eq_true (by omega)
  have HM : Hid (MapAt w g m) := h
  have hc := h.cell
  have hz := h.loose
  clear h
  go_enter Try.func16, Try.ntmps16
  go_wp2_with fail
  refine (isCount_any _ _).mono ?_
  rintro e w' ⟨rfl, rfl⟩
  rw [HN.out]
  go_wp2
  go_loop [6, 7, 15] (fun _ _ i => ∃ k : Nat, i = .int .i64 (k : Int) ∧ k + n ≤ 33 ∧ ∀ a, a < k → ¬ fr m a n) (fun _ _ i => 33 - (intOf i).toNat)
  case atStart => exact ⟨0, rfl, by omega, fun a ha => absurd ha (by omega)⟩
  case round =>
    obtain ⟨k, rfl, hk, hno⟩ := hrel
    have HNo : Hid (∀ a, a < k → ¬ fr m a n) := hno
    clear hno
    by_cases hlt : k + n ≤ 32
    · have hl : (k : Int) < 32 - (n : Int) + 1 := by omega
      have hk32 := msk_lt hlt
      have ha : bits .and .u32 (m : Int) (msk k n : Int) = ((m &&& msk k n : Nat) : Int) := and32 HM.out.lt hk32
      have ho : bits .or .u32 (m : Int) (msk k n : Int) = ((put m k n : Nat) : Int) := or32 HM.out.lt hk32
      by_cases hf : fr m k n
      · have HF : Hid (fr m k n) := hf
        rw [and_fr.2 hf] at ha
        clear hf
        go_wp2_with fail
        refine (blocks_any k n _ h1 hlt).mono ?_
        rintro e w' ⟨rfl, rfl⟩
        generalize msk k n = x at ha ho hk32
        go_wp2
        go_ret2
        exact .inl ⟨k, hlt, HF.out, HNo.out, rfl, rfl⟩
      · have HF : Hid (¬ fr m k n) := hf
        have hne : ¬ ((m &&& msk k n : Nat) : Int) = 0 := by
          intro e
          exact hf (and_fr.1 (by omega))
        clear hf
        go_wp2_with fail
        refine (blocks_any k n _ h1 hlt).mono ?_
        rintro e w' ⟨rfl, rfl⟩
        generalize m &&& msk k n = y at ha hne
        generalize msk k n = x at ha ho hk32
        go_wp2
        refine ⟨⟨k + 1, by go_num, by omega, ?_⟩, ?_⟩
        · intro a ha
          by_cases e : a = k
          · rw [e]; exact HF.out
          · exact HNo.out a (by omega)
        · simp [intOf]; omega
    · have hl : ¬ (k : Int) < 32 - (n : Int) + 1 := by omega
      go_wp2
      go_ret2
      exact .inr ⟨fun a ha => HNo.out a (by omega), rfl, rfl⟩

theorem take_any (g m : Nat) (n : Int) (w : World) (h : MapAt w g m) :
    Calls Try.prog 16 #[.pointer (some ⟨g, 0, none⟩), .int .i64 n] w fun e w' => e = .returned (.tuple #[.int .i64 (tkAt m n : Int), errV (tkE m n)]) ∧ MapAt w' g (tkM m n) ∧ Chg g w w' := by
  by_cases hn : 1 ≤ n ∧ n ≤ 32
  · obtain ⟨k, rfl⟩ : ∃ k : Nat, n = (k : Int) := ⟨n.toNat, by omega⟩
    have hm := tkM_lt h.lt (k : Int)
    unfold tkAt tkE tkM
    unfold tkM at hm
    rw [if_pos hn] at hm
    rw [if_pos hn, if_pos hn, if_pos hn]
    rw [Int.toNat_natCast] at hm ⊢
    refine (take_in g m k w h (by omega) (by omega)).mono ?_
    rintro e w' (⟨a, h1, h2, h3, rfl, rfl⟩ | ⟨h1, rfl, rfl⟩)
    · cases hf : fst? m k with
      | none => exact absurd h2 (fst_none hf a h1)
      | some b =>
        obtain ⟨k1, k2, k3⟩ := fst_some hf
        have e : a = b := by
          rcases Nat.lt_trichotomy a b with h | h | h
          · exact absurd h2 (k3 a h)
          · exact h
          · exact absurd k2 (h3 b h)
        subst e
        rw [hf] at hm
        exact ⟨rfl, h.set hm, Chg.set _ _ _⟩
    · cases hf : fst? m k with
      | none => exact ⟨rfl, h, Chg.refl _ _⟩
      | some b => exact absurd (fst_some hf).2.1 (h1 b (fst_some hf).1)
  · unfold tkAt tkE tkM
    rw [if_neg hn, if_neg hn, if_neg hn]
    refine (take_no g n w hn).mono ?_
    rintro e w' ⟨rfl, rfl⟩
    exact ⟨rfl, h, Chg.refl _ _⟩

set_option maxHeartbeats 2000000 in
theorem back_no (g : Nat) (a n : Int) (w : World) (hn : ¬ (1 ≤ n ∧ n ≤ 32 ∧ 0 ≤ a ∧ a ≤ 32 - n)) :
    Calls Try.prog 18 #[.pointer (some ⟨g, 0, none⟩), .int .i64 a, .int .i64 n] w fun e w' => e = .returned (errV 1) ∧ w = w' := by
  by_cases h1 : 1 ≤ n ∧ n ≤ 32
  · have HN : Hid (decide (1 ≤ n ∧ n ≤ 32) = true) := decide_eq_true h1
    by_cases h0 : a < 0
    · clear hn
      go_enter Try.func18, Try.ntmps18
      go_wp2_with fail
      refine (isCount_any _ _).mono ?_
      rintro e w' ⟨rfl, rfl⟩
      rw [HN.out]
      go_wp2
      go_ret
      exact ⟨rfl, rfl⟩
    · have h2 : 32 - n < a := by omega
      clear hn
      go_enter Try.func18, Try.ntmps18
      go_wp2_with fail
      refine (isCount_any _ _).mono ?_
      rintro e w' ⟨rfl, rfl⟩
      rw [HN.out]
      go_wp2
      go_ret
      exact ⟨rfl, rfl⟩
  · have HN : Hid (decide (1 ≤ n ∧ n ≤ 32) = false) := decide_eq_false h1
    clear hn h1
    go_enter Try.func18, Try.ntmps18
    go_wp2_with fail
    refine (isCount_any _ _).mono ?_
    rintro e w' ⟨rfl, rfl⟩
    rw [HN.out]
    go_wp2
    go_ret
    exact ⟨rfl, rfl⟩

set_option maxHeartbeats 2000000 in
theorem back_in (g m a n : Nat) (w : World) (h : MapAt w g m) (h1 : 1 ≤ n) (h2 : a + n ≤ 32) :
    Calls Try.prog 18 #[.pointer (some ⟨g, 0, none⟩), .int .i64 (a : Int), .int .i64 (n : Int)] w fun e w' =>
      (m &&& msk a n = msk a n ∧ e = .returned .nilIface ∧ w' = w.setCell ⟨g, 0, none⟩ (.int .u32 (cut m a n : Int))) ∨
      (¬ m &&& msk a n = msk a n ∧ e = .returned (errV 5) ∧ w' = w) := by
  have HN : Hid (decide ((1 : Int) ≤ (n : Int) ∧ (n : Int) ≤ 32) = true) := decide_eq_true (by omega)
  have HM : Hid (MapAt w g m) := h
  have hc := h.cell
  have hz := h.loose
  have hk32 := msk_lt h2
  have h3 : ¬ (a : Int) > 32 - (n : Int) := by omega
  have ha : bits .and .u32 (m : Int) (msk a n : Int) = ((m &&& msk a n : Nat) : Int) := and32 HM.out.lt hk32
  have ho : bits .andNot .u32 (m : Int) (msk a n : Int) = ((cut m a n : Nat) : Int) := andNot32 HM.out.lt hk32
  clear h
  by_cases he : m &&& msk a n = msk a n
  · have HE : Hid (m &&& msk a n = msk a n) := he
    rw [he] at ha
    clear he
    go_enter Try.func18, Try.ntmps18
    go_wp2_with fail
    refine (isCount_any _ _).mono ?_
    rintro e w' ⟨rfl, rfl⟩
    rw [HN.out]
    go_wp2_with fail
    refine (blocks_any a n _ h1 h2).mono ?_
    rintro e w' ⟨rfl, rfl⟩
    generalize msk a n = x at ha ho hk32
    go_wp2
    go_ret
    exact .inl ⟨HE.out, rfl, rfl⟩
  · have HE : Hid (¬ m &&& msk a n = msk a n) := he
    have hne : ¬ ((m &&& msk a n : Nat) : Int) = ((msk a n : Nat) : Int) := by omega
    clear he
    go_enter Try.func18, Try.ntmps18
    go_wp2_with fail
    refine (isCount_any _ _).mono ?_
    rintro e w' ⟨rfl, rfl⟩
    rw [HN.out]
    go_wp2_with fail
    refine (blocks_any a n _ h1 h2).mono ?_
    rintro e w' ⟨rfl, rfl⟩
    generalize m &&& msk a n = y at ha hne
    generalize msk a n = x at ha ho hk32 hne
    go_wp2
    go_ret
    exact .inr ⟨HE.out, rfl, rfl⟩

theorem back_any (g m : Nat) (a n : Int) (w : World) (h : MapAt w g m) :
    Calls Try.prog 18 #[.pointer (some ⟨g, 0, none⟩), .int .i64 a, .int .i64 n] w fun e w' => e = .returned (errV (bkE m a n)) ∧ MapAt w' g (bkM m a n) ∧ Chg g w w' := by
  by_cases hn : 1 ≤ n ∧ n ≤ 32 ∧ 0 ≤ a ∧ a ≤ 32 - n
  · obtain ⟨k, rfl⟩ : ∃ k : Nat, n = (k : Int) := ⟨n.toNat, by omega⟩
    obtain ⟨b, rfl⟩ : ∃ b : Nat, a = (b : Int) := ⟨a.toNat, by omega⟩
    unfold bkE bkM
    rw [if_pos hn, if_pos hn]
    rw [Int.toNat_natCast, Int.toNat_natCast]
    refine (back_in g m b k w h (by omega) (by omega)).mono ?_
    rintro e w' (⟨h1, rfl, rfl⟩ | ⟨h1, rfl, rfl⟩)
    · rw [if_pos h1, if_pos h1]
      exact ⟨rfl, h.set (cut_lt h.lt), Chg.set _ _ _⟩
    · rw [if_neg h1, if_neg h1]
      exact ⟨rfl, h, Chg.refl _ _⟩
  · unfold bkE bkM
    rw [if_neg hn, if_neg hn]
    refine (back_no g a n w hn).mono ?_
    rintro e w' ⟨rfl, rfl⟩
    exact ⟨rfl, h, Chg.refl _ _⟩

set_option maxHeartbeats 4000000 in
theorem free_any (g m : Nat) (w : World) (h : MapAt w g m) :
    Calls Try.prog 19 #[.pointer (some ⟨g, 0, none⟩)] w fun e w' => e = .returned (.tuple #[.int .i64 (32 - (cnt m 32 : Int)), .int .i64 (ms m 32 : Int)]) ∧ ∃ q, w' = w.drewN q := by
  have HM : Hid (MapAt w g m) := h
  have hc := h.cell
  have hle := cnt_le m 32
  clear h
  go_enter Try.func19, Try.ntmps19
  go_wp2_with fail
  refine (ones_any m _ HM.out.lt).mono ?_
  rintro e w1 ⟨rfl, q, rfl⟩
  have HM1 : Hid (MapAt (w.drewN q) g m) := HM.out.drew q
  clear hc
  go_wp2
  go_loop [3, 4, 5, 12] (fun a b _ i => ∃ k : Nat, k ≤ 32 ∧ i = .int .i64 (k : Int) ∧ a = .int .i64 (ms m k : Int) ∧ b = .int .i64 (gp m k : Int)) (fun _ _ _ i => 32 - (intOf i).toNat)
  case atStart => exact ⟨0, by omega, rfl, rfl, rfl⟩
  case round =>
    obtain ⟨k, hk, rfl, rfl, rfl⟩ := hrel
    by_cases hlt : k < 32
    · have l1 := ms_le m k
      have l2 := gp_le m k
      have hl : (k : Int) < 32 := by omega
      cases hb : m.testBit k with
      | true =>
        have HB : Hid (m.testBit k = true) := hb
        have HG : Hid (gp m (k + 1) = 0) := by show gp m (k + 1) = 0; simp [gp, hb]
        have HS : Hid (ms m (k + 1) = ms m k) := by show ms m (k + 1) = ms m k; simp [ms, hb]
        clear hb
        go_wp2_with fail
        refine (has_in g m k _ HM.out.lt hlt HM1.out.cell).mono ?_
        rintro e w' ⟨rfl, rfl⟩
        rw [HB.out]
        go_wp2
        refine ⟨⟨k + 1, by omega, by go_num, by rw [HS.out], by rw [HG.out]; rfl⟩, ?_⟩
        simp [intOf]; omega
      | false =>
        have HB : Hid (m.testBit k = false) := hb
        have HG : Hid (gp m (k + 1) = gp m k + 1) := by show gp m (k + 1) = gp m k + 1; simp [gp, hb]
        have HS : Hid (ms m (k + 1) = max (ms m k) (gp m k + 1)) := by show ms m (k + 1) = max (ms m k) (gp m k + 1); simp [ms, hb]
        clear hb
        go_wp2_with fail
        refine (has_in g m k _ HM.out.lt hlt HM1.out.cell).mono ?_
        rintro e w' ⟨rfl, rfl⟩
        rw [HB.out]
        go_wp2
        refine ⟨⟨k + 1, by omega, by go_num, ?_, by rw [HG.out]; rfl⟩, ?_⟩
        · rw [HS.out]
          exact congrArg (Value.int IntKind.i64) (by omega)
        · simp [intOf]; omega
    · obtain rfl : k = 32 := by omega
      go_wp2
      go_ret2
      exact ⟨rfl, q, rfl⟩

end Go.Proofs.Ytihefpnagdacpaa
