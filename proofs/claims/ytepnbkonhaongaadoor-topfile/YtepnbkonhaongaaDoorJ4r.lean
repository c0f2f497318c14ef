/- This text proves what New, Dup, Open and Move of package fds tell, and which files numbers have behind them, and where; nothing is turned but the numbers and one file; the condition is that the numbers lie there. -/
import Derived.Test.YtepnbkonhaongaaDoorJ3r
import Derived.BigQuiet
namespace Go.Proofs.YtepnbkonhaongaaDoor
open Go.RowKit Go.Deep

/-- The numbers lie there behind a step, and nothing else was turned. -/
structure Stp (w w' : World) (base g : Nat) (F F' : Nat → Option Nat) (Z' : Nat → Nat × Nat) : Prop where
  at' : TabAt w' base g F' Z'
  tch : Tch (Fp g F) w w'
  new : ∀ x, Fp g F' x → Fp g F x ∨ w.heap.size ≤ x

theorem Stp.refl {w : World} {base g : Nat} {F : Nat → Option Nat} {Z : Nat → Nat × Nat} (h : TabAt w base g F Z) : Stp w w base g F F Z := ⟨h, Tch.refl _ _, fun _ h => .inl h⟩
theorem Stp.drew {w : World} {base g : Nat} {F : Nat → Option Nat} {Z : Nat → Nat × Nat} (h : TabAt w base g F Z) (q : Nat) : Stp w (w.drewN q) base g F F Z :=
  ⟨h.later (below_drew _ _ _), Tch.of (below_drew _ _ _), fun _ h => .inl h⟩
theorem Stp.below {w w' : World} {base g : Nat} {F F' : Nat → Option Nat} {Z Z' : Nat → Nat × Nat} (h : Stp w w' base g F F' Z') (hT : TabAt w base g F Z) : Below base w w' :=
  h.tch.below (fun _ hb => (hT.fp hb).1) (Nat.le_trans hT.low (Nat.le_of_lt hT.lt))

/-- What Open tells, and leaves, where the new file lies at a block. -/
def onE (F : Nat → Option Nat) (n : Int) : Nat := if 0 ≤ n ∧ n ≤ 64 then giE F else 1
def onN (F : Nat → Option Nat) (n : Int) : Nat := if 0 ≤ n ∧ n ≤ 64 then giN F else 0
def onF (F : Nat → Option Nat) (n : Int) (b : Nat) : Nat → Option Nat := if 0 ≤ n ∧ n ≤ 64 then giF F b else F
def onZ (Z : Nat → Nat × Nat) (n : Int) (b : Nat) : Nat → Nat × Nat := if 0 ≤ n ∧ n ≤ 64 then upd Z b (n.toNat, 0) else Z

theorem TabAt.upd {w : World} {base g b : Nat} {F : Nat → Option Nat} {Z : Nat → Nat × Nat} (h : TabAt w base g F Z) (hb : ¬ Fp g F b) (x : Nat × Nat) : TabAt w base g F (upd Z b x) := by
  have e : ∀ i c, i < 8 → F i = some c → Go.Proofs.YtepnbkonhaongaaDoor.upd Z b x c = Z c := fun i c hi hc => upd_other fun hcb => hb (.inr ⟨i, hi, hcb ▸ hc⟩)
  exact ⟨h.low, h.tab, fun i c hi hc => by rw [e i c hi hc]; exact h.file i c hi hc, fun i c hi hc => by rw [e i c hi hc]; exact h.fits i c hi hc⟩

set_option maxHeartbeats 2000000 in
theorem open_any (w : World) (base g : Nat) (F : Nat → Option Nat) (Z : Nat → Nat × Nat) (h : TabAt w base g F Z) (n : Int) :
    Calls Tryd.prog 20 #[.pointer (some ⟨g, 0, none⟩), .int .i64 n] w fun e w' => e = .returned (.tuple #[.int .i64 (onN F n : Int), errV (onE F n)]) ∧ Stp w w' base g F (onF F n w.heap.size) (onZ Z n w.heap.size) := by
  have HT : Hid (TabAt w base g F Z) := h
  unfold onN onE onF onZ
  by_cases h0 : n < 0
  · rw [if_neg (by omega), if_neg (by omega), if_neg (by omega), if_neg (by omega)]
    clear h
    go_enter Tryd.func20, Tryd.ntmps20
    go_wp2
    go_ret2
    exact ⟨rfl, Stp.refl HT.out⟩
  · by_cases h64 : n > 64
    · rw [if_neg (by omega), if_neg (by omega), if_neg (by omega), if_neg (by omega)]
      clear h
      go_enter Tryd.func20, Tryd.ntmps20
      go_wp2
      go_ret2
      exact ⟨rfl, Stp.refl HT.out⟩
    · obtain ⟨m, rfl⟩ : ∃ m : Nat, n = (m : Int) := ⟨n.toNat, by omega⟩
      rw [if_pos (by omega), if_pos (by omega), if_pos (by omega), if_pos (by omega), Int.toNat_natCast]
      have hnf : ¬ Fp g F w.heap.size := fun hF => by have := (h.fp hF).2; omega
      have hb := below_alloc w (.cells #[.int .i64 (m : Int), .int .i64 0] 77)
      have hT1 := (h.later hb).upd hnf (m, 0)
      have hfa : FileAt (w.alloc (.cells #[.int .i64 (m : Int), .int .i64 0] 77)) w.heap.size (upd Z w.heap.size (m, 0) w.heap.size) := by
        rw [upd_self]; exact blk_alloc_new _ _
      have hbase : base ≤ w.heap.size := Nat.le_trans h.low (Nat.le_of_lt h.lt)
      have HG : Hid _ := fun (_ : Nat) => give_any _ base g w.heap.size F _ hT1 hfa hbase (by rw [upd_self]; exact Nat.zero_le _) (by rw [upd_self]; show m ≤ 64; omega)
      have HS : Hid (∀ w', TabAt w' base g (giF F w.heap.size) (upd Z w.heap.size (m, 0)) ∧ Tch (Fp g F) (w.alloc (.cells #[.int .i64 (m : Int), .int .i64 0] 77)) w' ∧ (∀ x, Fp g (giF F w.heap.size) x → Fp g F x ∨ x = w.heap.size) → Stp w w' base g F (giF F w.heap.size) (upd Z w.heap.size (m, 0))) := fun w' ⟨h1, h2, h3⟩ => ⟨h1, (Tch.of hb).trans h2 (fun x hx => .inl hx), fun x hx => by
        rcases h3 x hx with e | rfl
        · exact .inl e
        · exact .inr (Nat.le_refl _)⟩
      generalize errV (giE F) = E at HG ⊢
      generalize giN F = N at HG ⊢
      clear h hnf hb hT1 hfa hbase
      go_enter Tryd.func20, Tryd.ntmps20
      go_wp2_with (first
        | (go_at_call 34; refine (HG.out 0).mono ?_; rintro e w' ⟨rfl, hs⟩; have HR : Hid _ := HS.out w' hs))
      go_ret2
      exact ⟨rfl, HR.out⟩

theorem FileAt.set {w : World} {b : Nat} {x : Nat × Nat} (h : FileAt w b x) (y : Nat) : FileAt (w.setCell ⟨b, 1, none⟩ (.int .i64 (y : Int))) b (x.1, y) := by
  unfold FileAt at h ⊢
  simp [World.setCell, Array.getElem?_modify, h]
theorem TabAt.place {w : World} {base g b : Nat} {F : Nat → Option Nat} {Z : Nat → Nat × Nat} (h : TabAt w base g F Z) {i : Nat} (hi : i < 8) (hF : F i = some b) (y : Nat) (hy : y ≤ (Z b).1) :
    TabAt (w.setCell ⟨b, 1, none⟩ (.int .i64 (y : Int))) base g F (Go.Proofs.YtepnbkonhaongaaDoor.upd Z b ((Z b).1, y)) := by
  have ho : ∀ c, c ≠ b → (w.setCell ⟨b, 1, none⟩ (.int .i64 (y : Int))).heap[c]? = w.heap[c]? := fun c hc => Below.heap_setCell w ⟨b, 1, none⟩ _ c hc
  refine ⟨h.low, (ho g (fun e => h.apart hi hF e.symm)).trans h.tab, fun j c hj hc => ?_, fun j c hj hc => ?_⟩
  · by_cases e : c = b
    · subst e
      rw [upd_self]
      exact ⟨(h.file j c hj hc).1.set y, (h.file j c hj hc).2⟩
    · rw [upd_other e]
      exact ⟨(ho c e).trans (h.file j c hj hc).1, (h.file j c hj hc).2⟩
  · by_cases e : c = b
    · subst e
      rw [upd_self]
      exact ⟨hy, (h.fits j c hj hc).2⟩
    · rw [upd_other e]
      exact h.fits j c hj hc

set_option maxHeartbeats 4000000 in
theorem move_any (w : World) (base g : Nat) (F : Nat → Option Nat) (Z : Nat → Nat × Nat) (h : TabAt w base g F Z) (fd y : Int) :
    Calls Tryd.prog 21 #[.pointer (some ⟨g, 0, none⟩), .int .i64 fd, .int .i64 y] w fun e w' => e = .returned (.tuple #[.int .i64 (mvN F Z fd y : Int), errV (mvE F Z fd y)]) ∧ Stp w w' base g F F (mvZ F Z fd y) := by
  have HO : Hid _ := fun (_ : Nat) => opened_any w base g F Z h fd
  have HT : Hid (TabAt w base g F Z) := h
  unfold mvN mvE mvZ
  cases hf : fo F fd with
  | none =>
    have hE := opE_none hf
    simp only
    rw [hf, errV_pos hE] at HO
    rw [errV_pos hE]
    unfold pO at HO
    generalize opE F fd = E at HO ⊢
    clear h hf hE
    go_enter Tryd.func21, Tryd.ntmps21
    go_wp2_with (go_at_call 35; refine (HO.out 0).mono ?_; rintro e w' ⟨rfl, rfl⟩)
    go_ret2
    exact ⟨rfl, Stp.refl HT.out⟩
  | some b =>
    obtain ⟨e1, e2, e3, e4⟩ := opE_some hf
    obtain ⟨c1, c2, c3, c4⟩ := (h.file fd.toNat b (by omega) e4).1.facts
    obtain ⟨f1, f2⟩ := h.fits fd.toNat b (by omega) e4
    have HP : Hid (∀ (q : Nat) (y : Nat), y ≤ (Z b).1 → Stp w ((w.drewN q).setCell ⟨b, 1, none⟩ (.int .i64 (y : Int))) base g F F (upd Z b ((Z b).1, y))) := fun q y hy => ⟨(h.later (below_drew _ _ q)).place (by omega) e4 y hy, (Tch.of (below_drew _ _ q)).trans (Tch.set _ _ (.inr ⟨fd.toNat, by omega, e4⟩)) (fun _ h => .inl h), fun _ h => .inl h⟩
    simp only
    rw [hf, e1, errV_zero] at HO
    unfold pO at HO
    clear h hf e1 e2 e3 e4
    generalize (Z b).1 = S at *
    generalize (Z b).2 = P at *
    by_cases h1 : y < -(P : Int)
    · have hd : decide (y < -(P : Int)) = true := decide_eq_true h1
      rw [if_neg (by omega), if_neg (by omega), if_neg (by omega)]
      go_enter Tryd.func21, Tryd.ntmps21
      go_wp2_with (go_at_call 35; refine (HO.out 0).mono ?_; rintro e w' ⟨rfl, rfl⟩)
      go_quiet (fail)
      go_wp2
      go_ret2
      exact ⟨rfl, Stp.drew HT.out _⟩
    · have hd : decide (y < -(P : Int)) = false := decide_eq_false h1
      by_cases h2 : y > (S : Int) - (P : Int)
      · rw [if_neg (by omega), if_neg (by omega), if_neg (by omega)]
        go_enter Tryd.func21, Tryd.ntmps21
        go_wp2_with (go_at_call 35; refine (HO.out 0).mono ?_; rintro e w' ⟨rfl, rfl⟩)
        go_quiet (fail)
        go_wp2
        go_ret2
        exact ⟨rfl, Stp.drew HT.out _⟩
      · rw [if_pos (by omega), if_pos (by omega), if_pos (by omega)]
        obtain ⟨Q, hQ⟩ : ∃ Q : Nat, (P : Int) + y = (Q : Int) := ⟨((P : Int) + y).toNat, by omega⟩
        have HR : Hid _ := fun q => HP.out q Q (by omega)
        have HQ : Hid ((P : Int) + y = (Q : Int)) := hQ
        rw [hQ, Int.toNat_natCast]
        clear hQ
        go_enter Tryd.func21, Tryd.ntmps21
        go_wp2_with (go_at_call 35; refine (HO.out 0).mono ?_; rintro e w' ⟨rfl, rfl⟩)
        go_quiet (fail)
        have hq := HQ.out
        go_wp2
        go_ret2
        exact ⟨rfl, HR.out _⟩

theorem new_any (w : World) : Calls Tryd.prog 19 #[] w fun e w' => e = .returned (.pointer (some ⟨w.heap.size, 0, none⟩)) ∧ TabAt w' w.heap.size w.heap.size (fun _ => none) (fun _ => (0, 0)) ∧ Below w.heap.size w w' := by
  have HT : Hid (TabAt (w.alloc (.cells #[.pointer none, .pointer none, .pointer none, .pointer none, .pointer none, .pointer none, .pointer none, .pointer none] 74)) w.heap.size w.heap.size (fun _ => none) (fun _ => (0, 0))) :=
    ⟨Nat.le_refl _, blk_alloc_new _ _, (fun _ _ _ e => by cases e), (fun _ _ _ e => by cases e)⟩
  go_enter Tryd.func19, Tryd.ntmps19
  go_wp2
  go_ret
  exact ⟨rfl, HT.out, below_alloc _ _⟩

end Go.Proofs.YtepnbkonhaongaaDoor
