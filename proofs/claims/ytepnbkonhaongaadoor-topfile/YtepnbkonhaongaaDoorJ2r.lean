/- This text proves what opened, At and Close of package fds tell of a number, and which files numbers have behind Close; the condition is that the numbers lie there. -/
import Derived.Test.YtepnbkonhaongaaDoorJ1
namespace Go.Proofs.YtepnbkonhaongaaDoor
open Go.RowKit Go.Deep

set_option maxHeartbeats 2000000 in
theorem opened_any (w : World) (base g : Nat) (F : Nat → Option Nat) (Z : Nat → Nat × Nat) (h : TabAt w base g F Z) (fd : Int) :
    Calls Tryd.prog 35 #[.pointer (some ⟨g, 0, none⟩), .int .i64 fd] w fun e w' => e = .returned (.tuple #[pO (fo F fd), errV (opE F fd)]) ∧ w = w' := by
  by_cases h0 : fd < 0
  · have e1 : fo F fd = none := if_neg (by omega)
    have e2 : opE F fd = 1 := if_neg (by omega)
    rw [e1, e2]
    clear h e1 e2
    go_enter Tryd.func35, Tryd.ntmps35
    go_wp2
    go_ret2
    exact ⟨rfl, rfl⟩
  · by_cases h8 : fd ≥ 8
    · have e1 : fo F fd = none := if_neg (by omega)
      have e2 : opE F fd = 1 := if_neg (by omega)
      rw [e1, e2]
      clear h e1 e2
      go_enter Tryd.func35, Tryd.ntmps35
      go_wp2
      go_ret2
      exact ⟨rfl, rfl⟩
    · obtain ⟨k, rfl⟩ : ∃ k : Nat, fd = (k : Int) := ⟨fd.toNat, by omega⟩
      have hk : k < 8 := by omega
      have hc := h.cell hk
      rw [fo_nat hk]
      cases hF : F k with
      | none =>
        have e2 : opE F (k : Int) = 5 := by unfold opE; rw [if_pos (by omega), Int.toNat_natCast, if_pos hF]
        rw [e2]
        rw [hF] at hc
        unfold pO at hc ⊢
        clear h e2 hF
        go_enter Tryd.func35, Tryd.ntmps35
        go_wp2
        go_ret2
        exact ⟨rfl, rfl⟩
      | some b =>
        have e2 : opE F (k : Int) = 0 := by unfold opE; rw [if_pos (by omega), if_neg (by simp [hF])]
        rw [e2]
        rw [hF] at hc
        unfold pO at hc ⊢
        clear h e2 hF
        go_enter Tryd.func35, Tryd.ntmps35
        go_wp2
        go_ret2
        exact ⟨rfl, rfl⟩

theorem Fp.upd {g b k : Nat} {F : Nat → Option Nat} {o : Option Nat} (h : Fp g (upd F k o) b) : Fp g F b ∨ o = some b := by
  rcases h with h | ⟨i, hi, e⟩
  · exact .inl (.inl h)
  · by_cases ei : i = k
    · subst ei
      rw [upd_self] at e
      exact .inr e
    · rw [upd_other ei] at e
      exact .inl (.inr ⟨i, hi, e⟩)

end Go.Proofs.YtepnbkonhaongaaDoor
