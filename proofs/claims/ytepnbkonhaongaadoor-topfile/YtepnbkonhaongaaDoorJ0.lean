/- This text proves plain facts on numbers that have files: which number is free first, what is wrong with a number, where a file is; it speaks of no call; no condition. -/
import Derived.WalkKit
namespace Go.Proofs.YtepnbkonhaongaaDoor

/-- Something else at one number. -/
def upd {α : Type} (F : Nat → α) (i : Nat) (o : α) (j : Nat) : α := if j = i then o else F j
theorem upd_self {α : Type} (F : Nat → α) (i : Nat) (o : α) : upd F i o i = o := if_pos rfl
theorem upd_other {α : Type} {F : Nat → α} {i j : Nat} {o : α} (h : j ≠ i) : upd F i o j = F j := if_neg h

/-- The least number of eight that is free; 8: none. -/
def lstF (F : Nat → Option Nat) : Nat → Nat → Nat
  | 0, i => i
  | n + 1, i => if F i = none then i else lstF F n (i + 1)
def lst (F : Nat → Option Nat) : Nat := lstF F 8 0

theorem lstF_spec (F : Nat → Option Nat) : ∀ (n i : Nat), i ≤ lstF F n i ∧ lstF F n i ≤ i + n ∧ (∀ j, i ≤ j → j < lstF F n i → F j ≠ none) ∧ (lstF F n i < i + n → F (lstF F n i) = none)
  | 0, i => ⟨Nat.le_refl _, Nat.le_refl _, fun j h1 h2 => by unfold lstF at h2; omega, fun h => by unfold lstF at h; omega⟩
  | n + 1, i => by
    obtain ⟨h1, h2, h3, h4⟩ := lstF_spec F n (i + 1)
    unfold lstF
    by_cases e : F i = none
    · rw [if_pos e]
      exact ⟨Nat.le_refl _, by omega, fun j h1 h2 => by omega, fun _ => e⟩
    · rw [if_neg e]
      refine ⟨by omega, by omega, fun j g1 g2 => ?_, fun h => h4 (by omega)⟩
      by_cases ej : j = i
      · rw [ej]; exact e
      · exact h3 j (by omega) g2
theorem lst_le (F : Nat → Option Nat) : lst F ≤ 8 := by have := (lstF_spec F 8 0).2.1; unfold lst; omega
theorem lst_before {F : Nat → Option Nat} {j : Nat} (h : j < lst F) : F j ≠ none := (lstF_spec F 8 0).2.2.1 j (Nat.zero_le _) h
theorem lst_free {F : Nat → Option Nat} (h : lst F < 8) : F (lst F) = none := (lstF_spec F 8 0).2.2.2 (by unfold lst at h; omega)
theorem lst_one {F : Nat → Option Nat} {k : Nat} (hk : k ≤ 8) (h1 : ∀ j, j < k → F j ≠ none) (h2 : k < 8 → F k = none) : lst F = k := by
  rcases Nat.lt_trichotomy (lst F) k with h | h | h
  · exact absurd (lst_free (by omega)) (h1 _ h)
  · exact h
  · exact absurd (h2 (by have := lst_le F; omega)) (lst_before h)

/-- What a number has. -/
def fo (F : Nat → Option Nat) (fd : Int) : Option Nat := if 0 ≤ fd ∧ fd < 8 then F fd.toNat else none
/-- What is wrong with a number. -/
def opE (F : Nat → Option Nat) (fd : Int) : Nat := if 0 ≤ fd ∧ fd < 8 then (if F fd.toNat = none then 5 else 0) else 1
theorem opE_some {F : Nat → Option Nat} {fd : Int} {b : Nat} (h : fo F fd = some b) : opE F fd = 0 ∧ 0 ≤ fd ∧ fd < 8 ∧ F fd.toNat = some b := by
  unfold fo at h
  split at h
  · rename_i h1
    unfold opE
    rw [if_pos h1, if_neg (by simp [h])]
    exact ⟨rfl, h1.1, h1.2, h⟩
  · cases h
theorem opE_none {F : Nat → Option Nat} {fd : Int} (h : fo F fd = none) : opE F fd ≠ 0 := by
  unfold fo at h
  unfold opE
  split at h
  · rename_i h1
    rw [if_pos h1, if_pos h]; decide
  · rename_i h1
    rw [if_neg h1]; decide
theorem fo_nat {F : Nat → Option Nat} {i : Nat} (h : i < 8) : fo F (i : Int) = F i := by
  unfold fo
  rw [if_pos (by omega)]; rfl
/-- Where a number is. -/
def atZ (F : Nat → Option Nat) (Z : Nat → Nat × Nat) (fd : Int) : Int := match fo F fd with | none => -1 | some b => ((Z b).2 : Int)
theorem atZ_none {F : Nat → Option Nat} {Z : Nat → Nat × Nat} {fd : Int} (h : fo F fd = none) : atZ F Z fd = -1 := by unfold atZ; rw [h]
theorem atZ_some {F : Nat → Option Nat} {Z : Nat → Nat × Nat} {fd : Int} {b : Nat} (h : fo F fd = some b) : atZ F Z fd = ((Z b).2 : Int) := by unfold atZ; rw [h]

/-- What giving a number tells, and leaves. -/
def giE (F : Nat → Option Nat) : Nat := if lst F < 8 then 0 else 4
def giN (F : Nat → Option Nat) : Nat := if lst F < 8 then lst F else 0
def giF (F : Nat → Option Nat) (b : Nat) : Nat → Option Nat := if lst F < 8 then upd F (lst F) (some b) else F
/-- What closing leaves. -/
def clF (F : Nat → Option Nat) (fd : Int) : Nat → Option Nat := if opE F fd = 0 then upd F fd.toNat none else F
/-- What moving tells, and leaves. -/
def mvE (F : Nat → Option Nat) (Z : Nat → Nat × Nat) (fd y : Int) : Nat := match fo F fd with
  | none => opE F fd
  | some b => if -((Z b).2 : Int) ≤ y ∧ y ≤ ((Z b).1 : Int) - ((Z b).2 : Int) then 0 else 1
def mvN (F : Nat → Option Nat) (Z : Nat → Nat × Nat) (fd y : Int) : Nat := match fo F fd with
  | none => 0
  | some b => if -((Z b).2 : Int) ≤ y ∧ y ≤ ((Z b).1 : Int) - ((Z b).2 : Int) then (((Z b).2 : Int) + y).toNat else 0
def mvZ (F : Nat → Option Nat) (Z : Nat → Nat × Nat) (fd y : Int) : Nat → Nat × Nat := match fo F fd with
  | none => Z
  | some b => if -((Z b).2 : Int) ≤ y ∧ y ≤ ((Z b).1 : Int) - ((Z b).2 : Int) then upd Z b ((Z b).1, (((Z b).2 : Int) + y).toNat) else Z

end Go.Proofs.YtepnbkonhaongaaDoor
