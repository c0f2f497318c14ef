/- This text proves that platterholdlaw2.FdsShare returns true: two numbers of one file are at one place, whichever moves, and one outlives the other one; old memory is as it was; the condition is that the steps' rows lie there. -/
import Derived.Test.YtekonojkllnejaaJ5
import Derived.Test.YtekonojkllnejaaJ6
namespace Go.Proofs.Ytekonojkllnejaa
open Go.RowKit Go.Deep

theorem dpE_bad {F : Nat → Option Nat} {fd : Int} (h : dpE F fd ≠ 0) : dpN F fd = 0 := by
  unfold dpE at h
  unfold dpN
  cases hf : fo F fd with
  | none => rfl
  | some b => rw [hf] at h; exact dp_bad h
theorem dpE_good {F : Nat → Option Nat} {fd : Int} (h : dpE F fd = 0) : ∃ b d i, fd = ((i : Nat) : Int) ∧ i < 8 ∧ F i = some b ∧ d < 8 ∧ F d = none ∧ dpN F fd = d ∧ dpF F fd = upd F d (some b) := by
  unfold dpE at h
  unfold dpN dpF
  cases hf : fo F fd with
  | none => rw [hf] at h; exact absurd h (opE_none hf)
  | some b =>
    rw [hf] at h
    obtain ⟨k1, k2, k3, k4⟩ := opE_some hf
    simp only at h
    unfold giE at h
    by_cases h1 : lst F < 8
    · refine ⟨b, lst F, fd.toNat, by omega, by omega, k4, h1, lst_free h1, ?_, ?_⟩
      · show giN F = _; unfold giN; rw [if_pos h1]
      · show giF F b = _; unfold giF; rw [if_pos h1]
    · rw [if_neg h1] at h; cases h
/-- What moving leaves, whatever it tells. -/
theorem mv_any {F : Nat → Option Nat} {Z : Nat → Nat × Nat} {fd y : Int} {b S P : Nat} (hf : fo F fd = some b) (hz : Z b = (S, P)) :
    ∃ Q, mvZ F Z fd y b = (S, Q) ∧ ((mvE F Z fd y = 0 ∧ mvN F Z fd y = Q) ∨ (mvE F Z fd y ≠ 0 ∧ Q = P)) := by
  by_cases he : mvE F Z fd y = 0
  · obtain ⟨b', S', P', Q, h1, h2, h3, h4⟩ := mv_good he
    rw [hf] at h1
    cases h1
    obtain ⟨_, e2, e3⟩ := mv_of hf h2 h3 h4
    rw [hz] at h2
    cases h2
    exact ⟨Q, by rw [e3, upd_self], .inl ⟨he, e2⟩⟩
  · exact ⟨P, by rw [(mv_bad he).1, hz], .inr ⟨he, rfl⟩⟩
/-- What opening one more leaves, where a number is free. -/
theorem on_good {F : Nat → Option Nat} {Z : Nat → Nat × Nat} {i q : Nat} {n : Int} (hi : i < 8) (hF : F i = none) (hn : 0 ≤ n ∧ n ≤ 64) :
    ∃ x, x < 8 ∧ F x = none ∧ onN F n = x ∧ onE F n = 0 ∧ onF F n q = upd F x (some q) ∧ onZ Z n q = upd Z q (n.toNat, 0) := by
  have h1 : lst F < 8 := by
    have := lst_le F
    rcases Nat.lt_or_ge (lst F) 8 with h | h
    · exact h
    · exact absurd hF (lst_before (by omega))
  unfold onN onE onF onZ
  rw [if_pos hn, if_pos hn, if_pos hn, if_pos hn]
  unfold giN giE giF
  rw [if_pos h1, if_pos h1, if_pos h1]
  exact ⟨_, h1, lst_free h1, rfl, rfl, rfl, rfl⟩

set_option maxHeartbeats 16000000 in
set_option maxRecDepth 100000 in
theorem fdsShare_any (w : World) (v : Value) (rs : List (List Int)) (hr : RowsIs w v rs) (fd y : Int) :
    Calls Try.prog 3 #[v, .int .i64 fd, .int .i64 y] w fun e w' => e = .returned (.bool true) ∧ Below w.heap.size w w' := by
  have HR : Hid (RowsIs w v rs) := hr
  clear hr
  go_enter Try.func3, Try.ntmps3
  go_wp2_with fail
  refine Calls.mono (fact_any w) ?_
  rintro e w1 ⟨rfl, hb1⟩
  go_wp2_with fail
  refine Calls.mono (did_any w1 v rs (HR.out.later hb1)) ?_
  rintro e w2 ⟨rfl, F, Z, hT⟩
  obtain ⟨G, hG⟩ : ∃ G, G = w1.heap.size := ⟨_, rfl⟩
  rw [← hG] at hT ⊢
  have HB : Hid (Below w.heap.size w w1 ∧ w.heap.size ≤ G) := ⟨hb1, by rw [hG]; exact hb1.size⟩
  have ST : Hid (OnT w1 w2 G F Z) := hT
  clear hb1 hG hT
  have HD : Hid _ := fun (_ : Nat) => dup_any w2 G G F Z ST.out.1 fd
  by_cases he : dpE F fd = 0
  · obtain ⟨b, d, i, rfl, hi, hFi, hd, hFd, e1, e2⟩ := dpE_good he
    obtain ⟨⟨S, P⟩, hz⟩ : ∃ x, Z b = x := ⟨_, rfl⟩
    have hdi : d ≠ i := by rintro rfl; rw [hFi] at hFd; cases hFd
    have hf1 : fo (upd F d (some b)) (d : Int) = some b := fo_upd hd _
    have hf2 : fo (upd F d (some b)) (i : Int) = some b := by rw [fo_other (by omega), fo_nat hi, hFi]
    obtain ⟨Q, hzq, hor⟩ := mv_any (y := y) hf1 hz
    obtain ⟨N, hN⟩ : ∃ N, mvN (upd F d (some b)) Z (d : Int) y = N := ⟨_, rfl⟩
    obtain ⟨E, hE⟩ : ∃ E, mvE (upd F d (some b)) Z (d : Int) y = E := ⟨_, rfl⟩
    have hA0d : atZ (upd F d (some b)) Z (d : Int) = (P : Int) := by rw [atZ_some hf1, hz]
    have hA0i : atZ (upd F d (some b)) Z (i : Int) = (P : Int) := by rw [atZ_some hf2, hz]
    have HM : Hid _ := fun (w3 : World) (h : OnT w1 w3 G (upd F d (some b)) Z) => move_any w3 G G _ Z h.1 (d : Int) y
    rw [hN, hE] at HM hor
    generalize mvZ (upd F d (some b)) Z (d : Int) y = Z1 at *
    have hA1d : atZ (upd F d (some b)) Z1 (d : Int) = (Q : Int) := by rw [atZ_some hf1, hzq]
    have hA1i : atZ (upd F d (some b)) Z1 (i : Int) = (Q : Int) := by rw [atZ_some hf2, hzq]
    have HA0d : Hid _ := fun (w3 : World) (h : OnT w1 w3 G (upd F d (some b)) Z) => at_any w3 G G _ _ h.1 (d : Int)
    have HA0i : Hid _ := fun (w3 : World) (h : OnT w1 w3 G (upd F d (some b)) Z) => at_any w3 G G _ _ h.1 (i : Int)
    have HA1d : Hid _ := fun (w3 : World) (h : OnT w1 w3 G (upd F d (some b)) Z1) => at_any w3 G G _ _ h.1 (d : Int)
    have HA1i : Hid _ := fun (w3 : World) (h : OnT w1 w3 G (upd F d (some b)) Z1) => at_any w3 G G _ _ h.1 (i : Int)
    rw [hA0d] at HA0d
    rw [hA0i] at HA0i
    rw [hA1d] at HA1d
    rw [hA1i] at HA1i
    have hcl : clF (upd F d (some b)) (i : Int) = upd (upd F d (some b)) i none := by
      unfold clF
      rw [if_pos (opE_some hf2).1, Int.toNat_natCast]
    have HC : Hid _ := fun (w3 : World) (h : OnT w1 w3 G (upd F d (some b)) Z1) => close_stp w3 G G _ _ h.1 (i : Int)
    rw [hcl, (opE_some hf2).1, errV_zero] at HC
    obtain ⟨F2, hF2⟩ : ∃ F2, upd (upd F d (some b)) i none = F2 := ⟨_, rfl⟩
    have hf3 : F2 d = some b := by rw [← hF2, upd_other hdi, upd_self]
    have hf4 : F2 i = none := by rw [← hF2, upd_self]
    rw [hF2] at HC
    have HA2d : Hid _ := fun (w3 : World) (h : OnT w1 w3 G F2 Z1) => at_any w3 G G _ _ h.1 (d : Int)
    have hA2d : atZ F2 Z1 (d : Int) = (Q : Int) := by rw [atZ_some (by rw [fo_nat hd]; exact hf3), hzq]
    rw [hA2d] at HA2d
    have HO : Hid (∀ w5, OnT w1 w5 G F2 Z1 → ∃ x F3 Z3, x < 8 ∧ x ≠ d ∧ mvE F3 Z3 (x : Int) 1 = 0 ∧ mvN F3 Z3 (x : Int) 1 = 1 ∧ atZ F3 (mvZ F3 Z3 (x : Int) 1) (d : Int) = (Q : Int) ∧
        Calls Try.prog 11 #[.pointer (some ⟨G, 0, none⟩), .int .i64 64] w5 fun e w6 => e = .returned (.tuple #[.int .i64 (x : Int), .nilIface]) ∧ OnT w1 w6 G F3 Z3) := by
      show ∀ w5, _ → _
      intro w5 h5
      obtain ⟨x, hx, hxF, o1, o2, o3, o4⟩ := on_good (Z := Z1) (q := w5.heap.size) (n := 64) hi hf4 (by decide)
      have hxd : x ≠ d := by rintro rfl; rw [hf3] at hxF; cases hxF
      have hbq : b ≠ w5.heap.size := by
        have := (h5.1.fp (.inr ⟨d, hd, hf3⟩)).2
        omega
      have hfx : fo (upd F2 x (some w5.heap.size)) (x : Int) = some w5.heap.size := fo_upd hx _
      have hfd : fo (upd F2 x (some w5.heap.size)) (d : Int) = some b := by rw [fo_other (by omega), fo_nat hd, hf3]
      obtain ⟨m1, m2, m3⟩ := mv_of (F := upd F2 x (some w5.heap.size)) (Z := upd Z1 w5.heap.size (64, 0)) (fd := (x : Int)) (y := 1) (Q := 1) hfx (upd_self _ _ _) (by decide) (by decide)
      refine ⟨x, upd F2 x (some w5.heap.size), upd Z1 w5.heap.size (64, 0), hx, hxd, m1, m2, ?_, ?_⟩
      · rw [atZ_some hfd, m3, upd_other hbq, upd_other hbq, hzq]
      · have := open_any w5 G G F2 Z1 h5.1 64
        rw [o1, o2, o3, o4, errV_zero] at this
        exact this.mono fun _ _ ⟨r1, r2⟩ => ⟨r1, h5.stp r2⟩
    rw [e1, e2, he, errV_zero] at HD
    clear hA0d hA0i hA1d hA1i hA2d hcl hf1 hf2 hf3 hf4 hF2 hN hE hz hzq e1 e2 he hFi hFd
    rcases hor with ⟨rfl, rfl⟩ | ⟨hE, rfl⟩
    · rw [errV_zero] at HM
      go_wp2_with (first
        | (go_at_call 7; refine (HD.out 0).mono ?_; rintro e w3 ⟨rfl, hs⟩; have ST3 : Hid (OnT w1 w3 G (upd F d (some b)) Z) := ST.out.stp hs; clear hs)
        | (go_at_call_of 8 d; refine (HA2d.out _ ST5.out).mono ?_; rintro e w9 ⟨rfl, rfl⟩)
        | (go_at_call_of 8 d; refine (HA1d.out _ ST4.out).mono ?_; rintro e w9 ⟨rfl, rfl⟩)
        | (go_at_call_of 8 i; refine (HA1i.out _ ST4.out).mono ?_; rintro e w9 ⟨rfl, rfl⟩)
        | (go_at_call_of 8 d; refine (HA0d.out _ ST3.out).mono ?_; rintro e w9 ⟨rfl, rfl⟩)
        | (go_at_call_of 8 i; refine (HA0i.out _ ST3.out).mono ?_; rintro e w9 ⟨rfl, rfl⟩)
        | (go_at_call 9; refine (HM.out _ ST3.out).mono ?_; rintro e w4 ⟨rfl, hs⟩; have ST4 : Hid (OnT w1 w4 G (upd F d (some b)) Z1) := ST3.out.stp hs; clear hs)
        | (go_at_call 10; refine (HC.out _ ST4.out).mono ?_; rintro e w5 ⟨rfl, hs⟩; have ST5 : Hid (OnT w1 w5 G F2 Z1) := ST4.out.stp hs; clear hs))
      obtain ⟨x, F3, Z3, hx, hxd, m1, m2, m3, hop⟩ := HO.out _ ST5.out
      have HOp : Hid _ := fun (_ : Nat) => hop
      have hxd' : ¬ (x : Int) = (d : Int) := by omega
      have HM6 : Hid _ := fun (w6 : World) (h : OnT w1 w6 G F3 Z3) => move_any w6 G G F3 Z3 h.1 (x : Int) 1
      rw [m1, m2, errV_zero] at HM6
      have HA7 : Hid _ := fun (w7 : World) (h : OnT w1 w7 G F3 (mvZ F3 Z3 (x : Int) 1)) => at_any w7 G G F3 _ h.1 (d : Int)
      rw [m3] at HA7
      generalize mvZ F3 Z3 (x : Int) 1 = Z4 at HM6 HA7
      clear hop m1 m2 m3 HA2d HA1d HA1i HA0d HA0i HM HC HD HO
      go_wp2_with (first
        | (go_at_call 11; refine (HOp.out 0).mono ?_; rintro e w6 ⟨rfl, hs⟩; have ST6 : Hid (OnT w1 w6 G F3 Z3) := hs; clear hs)
        | (go_at_call 9; refine (HM6.out _ ST6.out).mono ?_; rintro e w7 ⟨rfl, hs⟩; have ST7 : Hid (OnT w1 w7 G F3 Z4) := ST6.out.stp hs; clear hs)
        | (go_at_call 8; refine (HA7.out _ ST7.out).mono ?_; rintro e w9 ⟨rfl, rfl⟩))
      go_ret
      exact ⟨rfl, HB.out.1.trans (ST7.out.2.mono HB.out.2)⟩
    · rw [errV_pos hE] at HM
      go_wp2_with (first
        | (go_at_call 7; refine (HD.out 0).mono ?_; rintro e w3 ⟨rfl, hs⟩; have ST3 : Hid (OnT w1 w3 G (upd F d (some b)) Z) := ST.out.stp hs; clear hs)
        | (go_at_call_of 8 d; refine (HA2d.out _ ST5.out).mono ?_; rintro e w9 ⟨rfl, rfl⟩)
        | (go_at_call_of 8 d; refine (HA1d.out _ ST4.out).mono ?_; rintro e w9 ⟨rfl, rfl⟩)
        | (go_at_call_of 8 i; refine (HA1i.out _ ST4.out).mono ?_; rintro e w9 ⟨rfl, rfl⟩)
        | (go_at_call_of 8 d; refine (HA0d.out _ ST3.out).mono ?_; rintro e w9 ⟨rfl, rfl⟩)
        | (go_at_call_of 8 i; refine (HA0i.out _ ST3.out).mono ?_; rintro e w9 ⟨rfl, rfl⟩)
        | (go_at_call 9; refine (HM.out _ ST3.out).mono ?_; rintro e w4 ⟨rfl, hs⟩; have ST4 : Hid (OnT w1 w4 G (upd F d (some b)) Z1) := ST3.out.stp hs; clear hs)
        | (go_at_call 10; refine (HC.out _ ST4.out).mono ?_; rintro e w5 ⟨rfl, hs⟩; have ST5 : Hid (OnT w1 w5 G F2 Z1) := ST4.out.stp hs; clear hs))
      obtain ⟨x, F3, Z3, hx, hxd, m1, m2, m3, hop⟩ := HO.out _ ST5.out
      have HOp : Hid _ := fun (_ : Nat) => hop
      have hxd' : ¬ (x : Int) = (d : Int) := by omega
      have HM6 : Hid _ := fun (w6 : World) (h : OnT w1 w6 G F3 Z3) => move_any w6 G G F3 Z3 h.1 (x : Int) 1
      rw [m1, m2, errV_zero] at HM6
      have HA7 : Hid _ := fun (w7 : World) (h : OnT w1 w7 G F3 (mvZ F3 Z3 (x : Int) 1)) => at_any w7 G G F3 _ h.1 (d : Int)
      rw [m3] at HA7
      generalize mvZ F3 Z3 (x : Int) 1 = Z4 at HM6 HA7
      clear hop m1 m2 m3 HA2d HA1d HA1i HA0d HA0i HM HC HD HO
      go_wp2_with (first
        | (go_at_call 11; refine (HOp.out 0).mono ?_; rintro e w6 ⟨rfl, hs⟩; have ST6 : Hid (OnT w1 w6 G F3 Z3) := hs; clear hs)
        | (go_at_call 9; refine (HM6.out _ ST6.out).mono ?_; rintro e w7 ⟨rfl, hs⟩; have ST7 : Hid (OnT w1 w7 G F3 Z4) := ST6.out.stp hs; clear hs)
        | (go_at_call 8; refine (HA7.out _ ST7.out).mono ?_; rintro e w9 ⟨rfl, rfl⟩))
      go_ret
      exact ⟨rfl, HB.out.1.trans (ST7.out.2.mono HB.out.2)⟩
  · rw [dpE_bad he, errV_pos he] at HD
    generalize dpE F fd = E at *
    clear he
    go_wp2_with (first
      | (go_at_call 7; refine (HD.out 0).mono ?_; rintro e w3 ⟨rfl, hs⟩; have ST3 : Hid (OnT w1 w3 G _ Z) := ST.out.stp hs; clear hs))
    go_ret
    exact ⟨rfl, HB.out.1.trans (ST3.out.2.mono HB.out.2)⟩

end Go.Proofs.Ytekonojkllnejaa
