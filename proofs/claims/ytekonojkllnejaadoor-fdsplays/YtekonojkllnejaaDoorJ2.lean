/- This text proves what opened, At and Close of package fds tell of a number, and which files numbers have behind Close; the condition is that the numbers lie there. -/
import Derived.Test.YtekonojkllnejaaDoorJ1
namespace Go.Proofs.YtekonojkllnejaaDoor
open Go.RowKit Go.Deep

set_option maxHeartbeats 2000000 in
theorem opened_any (w : World) (base g : Nat) (F : Nat → Option Nat) (Z : Nat → Nat × Nat) (h : TabAt w base g F Z) (fd : Int) :
    Calls Tryd.prog 21 #[.pointer (some ⟨g, 0, none⟩), .int .i64 fd] w fun e w' => e = .returned (.tuple #[pO (fo F fd), errV (opE F fd)]) ∧ w = w' := by
  by_cases h0 : fd < 0
  · have e1 : fo F fd = none := if_neg (by omega)
    have e2 : opE F fd = 1 := if_neg (by omega)
    rw [e1, e2]
    clear h e1 e2
    go_enter Tryd.func21, Tryd.ntmps21
    go_wp2
    go_ret2
    exact ⟨rfl, rfl⟩
  · by_cases h8 : fd ≥ 8
    · have e1 : fo F fd = none := if_neg (by omega)
      have e2 : opE F fd = 1 := if_neg (by omega)
      rw [e1, e2]
      clear h e1 e2
      go_enter Tryd.func21, Tryd.ntmps21
      go_wp2
      go_ret2
      exact ⟨rfl, rfl⟩
    · obtain ⟨k, rfl⟩ : ∃ k : Nat, fd = (k : Int) := ⟨fd.toNat, by omega⟩
      have hk : k < 8 := by omega
      have hc := h.cell hk
      rw [fo_nat hk]
      cases hF : F k with
      | none =>
        have e2 : opE F (k : Int) = 5 := by unfold opE; rw [if_pos (by omega), Int.toNat_natCast, if_pos hF]
        rw [e2]
        rw [hF] at hc
        unfold pO at hc ⊢
        clear h e2 hF
        go_enter Tryd.func21, Tryd.ntmps21
        go_wp2
        go_ret2
        exact ⟨rfl, rfl⟩
      | some b =>
        have e2 : opE F (k : Int) = 0 := by unfold opE; rw [if_pos (by omega), if_neg (by simp [hF])]
        rw [e2]
        rw [hF] at hc
        unfold pO at hc ⊢
        clear h e2 hF
        go_enter Tryd.func21, Tryd.ntmps21
        go_wp2
        go_ret2
        exact ⟨rfl, rfl⟩

set_option maxHeartbeats 2000000 in
theorem at_any (w : World) (base g : Nat) (F : Nat → Option Nat) (Z : Nat → Nat × Nat) (h : TabAt w base g F Z) (fd : Int) :
    Calls Tryd.prog 7 #[.pointer (some ⟨g, 0, none⟩), .int .i64 fd] w fun e w' => e = .returned (.int .i64 (atZ F Z fd)) ∧ w = w' := by
  have HO : Hid _ := fun (_ : Nat) => opened_any w base g F Z h fd
  cases hf : fo F fd with
  | none =>
    rw [atZ_none hf]
    rw [hf, errV_pos (opE_none hf)] at HO
    unfold pO at HO
    generalize opE F fd = E at HO
    clear h hf
    go_enter Tryd.func7, Tryd.ntmps7
    go_wp2_with (go_at_call 21; refine (HO.out 0).mono ?_; rintro e w' ⟨rfl, rfl⟩)
    go_ret
    exact ⟨rfl, rfl⟩
  | some b =>
    obtain ⟨e1, e2, e3, e4⟩ := opE_some hf
    obtain ⟨c1, c2, _, _⟩ := (h.file fd.toNat b (by omega) e4).1.facts
    rw [atZ_some hf]
    rw [hf, e1, errV_zero] at HO
    unfold pO at HO
    clear h hf e1 e2 e3 e4
    go_enter Tryd.func7, Tryd.ntmps7
    go_wp2_with (go_at_call 21; refine (HO.out 0).mono ?_; rintro e w' ⟨rfl, rfl⟩)
    go_ret
    exact ⟨rfl, rfl⟩

theorem Fp.upd {g b k : Nat} {F : Nat → Option Nat} {o : Option Nat} (h : Fp g (upd F k o) b) : Fp g F b ∨ o = some b := by
  rcases h with h | ⟨i, hi, e⟩
  · exact .inl (.inl h)
  · by_cases ei : i = k
    · subst ei
      rw [upd_self] at e
      exact .inr e
    · rw [upd_other ei] at e
      exact .inl (.inr ⟨i, hi, e⟩)

set_option maxHeartbeats 2000000 in
theorem close_any (w : World) (base g : Nat) (F : Nat → Option Nat) (Z : Nat → Nat × Nat) (h : TabAt w base g F Z) (fd : Int) :
    Calls Tryd.prog 11 #[.pointer (some ⟨g, 0, none⟩), .int .i64 fd] w fun e w' => e = .returned (errV (opE F fd)) ∧ TabAt w' base g (clF F fd) Z ∧ Tch (Fp g F) w w' ∧ (∀ b, Fp g (clF F fd) b → Fp g F b) := by
  have HO : Hid _ := fun (_ : Nat) => opened_any w base g F Z h fd
  cases hf : fo F fd with
  | none =>
    have hE := opE_none hf
    have hc : clF F fd = F := if_neg hE
    have HT : Hid (TabAt w base g (clF F fd) Z ∧ Tch (Fp g F) w w ∧ (∀ b, Fp g (clF F fd) b → Fp g F b)) := by
      show _ ∧ _ ∧ _
      rw [hc]; exact ⟨h, Tch.refl _ _, fun _ h => h⟩
    rw [hf, errV_pos hE] at HO
    rw [errV_pos hE]
    unfold pO at HO
    generalize opE F fd = E at HO ⊢
    clear h hf hE hc
    go_enter Tryd.func11, Tryd.ntmps11
    go_wp2_with (go_at_call 21; refine (HO.out 0).mono ?_; rintro e w' ⟨rfl, rfl⟩)
    go_ret
    exact ⟨rfl, HT.out⟩
  | some b =>
    obtain ⟨e1, e2, e3, e4⟩ := opE_some hf
    obtain ⟨k, rfl⟩ : ∃ k : Nat, fd = (k : Int) := ⟨fd.toNat, by omega⟩
    have hk : k < 8 := by omega
    have hc : clF F (k : Int) = upd F k none := if_pos e1
    have HT : Hid (TabAt (w.setCell ⟨g, k, none⟩ (pO none)) base g (clF F (k : Int)) Z ∧ Tch (Fp g F) w (w.setCell ⟨g, k, none⟩ (pO none)) ∧ (∀ b, Fp g (clF F (k : Int)) b → Fp g F b)) := by
      show _ ∧ _ ∧ _
      rw [hc]
      refine ⟨h.set hk none (fun b e => by cases e), Tch.set _ _ (.inl rfl), fun b hb => ?_⟩
      rcases hb.upd with h | h
      · exact h
      · cases h
    have hcell := h.cell hk
    have hz := h.loose k
    rw [hf, e1, errV_zero] at HO
    rw [e1, errV_zero]
    unfold pO at HO HT
    clear h hf e1 e2 e3 e4 hc
    go_enter Tryd.func11, Tryd.ntmps11
    go_wp2_with (go_at_call 21; refine (HO.out 0).mono ?_; rintro e w' ⟨rfl, rfl⟩)
    go_ret
    exact ⟨rfl, HT.out⟩

end Go.Proofs.YtekonojkllnejaaDoor
