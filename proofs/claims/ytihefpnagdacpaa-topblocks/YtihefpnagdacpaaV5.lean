/- This text proves plain facts on what Take and Back tell; it speaks of no call; no condition. -/
import Derived.Test.YtihefpnagdacpaaV0
namespace Go.Proofs.Ytihefpnagdacpaa

theorem tk_range {m : Nat} {n : Int} (h : ¬ (1 ≤ n ∧ n ≤ 32)) : tkE m n = 1 ∧ tkAt m n = 0 ∧ tkM m n = m := by
  unfold tkE tkAt tkM
  rw [if_neg h, if_neg h, if_neg h]
  exact ⟨rfl, rfl, rfl⟩

theorem tk_in (m j : Nat) (h1 : 1 ≤ j) (h2 : j ≤ 32) :
    (tkE m (j : Int) = 4 ∧ tkAt m (j : Int) = 0 ∧ tkM m (j : Int) = m ∧ ∀ a, a + j ≤ 32 → ¬ fr m a j) ∨
    (tkE m (j : Int) = 0 ∧ tkM m (j : Int) = put m (tkAt m (j : Int)) j ∧ tkAt m (j : Int) + j ≤ 32 ∧ fr m (tkAt m (j : Int)) j ∧ ∀ a, a < tkAt m (j : Int) → ¬ fr m a j) := by
  unfold tkE tkAt tkM
  have hh : 1 ≤ (j : Int) ∧ (j : Int) ≤ 32 := by omega
  simp only [if_pos hh, Int.toNat_natCast]
  rcases Option.eq_none_or_eq_some (fst? m j) with hf | ⟨k, hf⟩
  · simp only [hf]
    exact .inl ⟨rfl, rfl, trivial, fst_none hf⟩
  · simp only [hf]
    exact .inr ⟨rfl, rfl, fst_some hf⟩

theorem bk_in (m a j : Nat) (h1 : 1 ≤ j) (h2 : a + j ≤ 32) :
    (tk m a j ∧ bkE m (a : Int) (j : Int) = 0 ∧ bkM m (a : Int) (j : Int) = cut m a j) ∨
    (¬ tk m a j ∧ bkE m (a : Int) (j : Int) = 5 ∧ bkM m (a : Int) (j : Int) = m) := by
  unfold bkE bkM
  have hh : 1 ≤ (j : Int) ∧ (j : Int) ≤ 32 ∧ 0 ≤ (a : Int) ∧ (a : Int) ≤ 32 - (j : Int) := by omega
  simp only [if_pos hh, Int.toNat_natCast]
  by_cases h : tk m a j
  · rw [if_pos (and_tk.2 h), if_pos (and_tk.2 h)]
    exact .inl ⟨h, rfl, rfl⟩
  · rw [if_neg (fun e => h (and_tk.1 e)), if_neg (fun e => h (and_tk.1 e))]
    exact .inr ⟨h, rfl, rfl⟩

theorem bk_range {m : Nat} {a n : Int} (h : ¬ (1 ≤ n ∧ n ≤ 32 ∧ 0 ≤ a ∧ a ≤ 32 - n)) : bkE m a n = 1 ∧ bkM m a n = m := by
  unfold bkE bkM
  rw [if_neg h, if_neg h]
  exact ⟨rfl, rfl⟩

end Go.Proofs.Ytihefpnagdacpaa
