/- This text proves plain facts on numbers that have files, behind moves, behind a number more and one less; it speaks of no call; no condition. -/
import Derived.Test.YtekonojkllnejaaDoorJ0
namespace Go.Proofs.YtekonojkllnejaaDoor

theorem mv_bad {F : Nat → Option Nat} {Z : Nat → Nat × Nat} {fd y : Int} (h : mvE F Z fd y ≠ 0) : mvZ F Z fd y = Z ∧ mvN F Z fd y = 0 := by
  unfold mvE at h
  unfold mvZ mvN
  cases hf : fo F fd with
  | none => exact ⟨rfl, rfl⟩
  | some b =>
    rw [hf] at h
    simp only at h ⊢
    split at h
    · exact absurd rfl h
    · rename_i h1
      rw [if_neg h1, if_neg h1]
      exact ⟨rfl, rfl⟩
theorem mv_of {F : Nat → Option Nat} {Z : Nat → Nat × Nat} {fd y : Int} {b P S Q : Nat} (hf : fo F fd = some b) (hz : Z b = (S, P)) (hy : (P : Int) + y = (Q : Int)) (hQ : Q ≤ S) :
    mvE F Z fd y = 0 ∧ mvN F Z fd y = Q ∧ mvZ F Z fd y = upd Z b (S, Q) := by
  have h1 : -((Z b).2 : Int) ≤ y ∧ y ≤ ((Z b).1 : Int) - ((Z b).2 : Int) := by rw [hz]; show -(P : Int) ≤ y ∧ y ≤ (S : Int) - (P : Int); omega
  have h2 : (((Z b).2 : Int) + y).toNat = Q := by rw [hz]; show ((P : Int) + y).toNat = Q; omega
  unfold mvE mvN mvZ
  rw [hf]
  simp only
  rw [if_pos h1, if_pos h1, if_pos h1, h2, hz]
  exact ⟨rfl, rfl, rfl⟩
theorem mv_good {F : Nat → Option Nat} {Z : Nat → Nat × Nat} {fd y : Int} (h : mvE F Z fd y = 0) :
    ∃ b S P Q, fo F fd = some b ∧ Z b = (S, P) ∧ (P : Int) + y = ((Q : Nat) : Int) ∧ Q ≤ S := by
  unfold mvE at h
  cases hf : fo F fd with
  | none =>
    rw [hf] at h
    exact absurd h (opE_none hf)
  | some b =>
    rw [hf] at h
    simp only at h
    split at h
    · rename_i h1
      exact ⟨b, (Z b).1, (Z b).2, (((Z b).2 : Int) + y).toNat, rfl, rfl, by omega, by omega⟩
    · cases h

theorem fo_upd {F : Nat → Option Nat} {i : Nat} (hi : i < 8) (o : Option Nat) : fo (upd F i o) (i : Int) = o := by
  rw [fo_nat hi, upd_self]
theorem fo_other {F : Nat → Option Nat} {i : Nat} {fd : Int} {o : Option Nat} (h : fd ≠ (i : Int)) : fo (upd F i o) fd = fo F fd := by
  unfold fo
  by_cases h1 : 0 ≤ fd ∧ fd < 8
  · rw [if_pos h1, if_pos h1, upd_other (by omega)]
  · rw [if_neg h1, if_neg h1]

theorem dp_bad {F : Nat → Option Nat} (h : giE F ≠ 0) : giN F = 0 := by
  unfold giE at h
  unfold giN
  by_cases h1 : lst F < 8
  · rw [if_pos h1] at h; exact absurd rfl h
  · rw [if_neg h1]

end Go.Proofs.YtekonojkllnejaaDoor
