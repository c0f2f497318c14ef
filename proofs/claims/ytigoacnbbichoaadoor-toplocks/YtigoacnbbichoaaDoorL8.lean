/- This text proves plain facts on tables of locks: who is alone stays alone whatever is set and freed, there are never too many locks, and what locks that are listed are to each other; it speaks of no call; no condition. -/
import Derived.Test.YtigoacnbbichoaaDoorL0
import Derived.Test.YtigoacnbbichoaaDoorL7
namespace Go.Proofs.YtigoacnbbichoaaDoor

/-- Where an owner is alone no other one has a lock. -/
def Safe (S : Nat → Nat) : Prop := ∀ k j q, k ≠ j → k < 4 → j < 4 → q < 64 → S (k * 64 + q) = 2 → S (j * 64 + q) = 0
structure Good (S : Nat → Nat) : Prop where
  bd : Bd S
  safe : Safe S
  few : (lsN S 256).length ≤ 24

theorem lsN_nought : ∀ n, lsN nS n = []
  | 0 => rfl
  | n + 1 => by rw [lsN_free rfl]; exact lsN_nought n
theorem good_n : Good nS := ⟨bd_n, fun _ _ _ _ _ _ _ h => (by cases h), by rw [lsN_nought]; simp⟩

theorem tsN_none {S : Nat → Nat} {o f z : Int} {a : Bool} (h : okK o f z = true) : tsN S o f z a = -1 ↔ ∀ j : Nat, j < 4 → (j : Int) ≠ o → ∀ i, i < z.toNat → bad (S (j * 64 + (f.toNat + i))) a = false := by
  unfold tsN
  rw [if_pos h, tsF_none]
  have h0 := (okK_iff.1 h).1
  constructor
  · intro H j hj ho
    exact ag_false.1 (H j (Nat.zero_le _) (by omega) (by omega))
  · intro H j _ hj ho
    exact ag_false.2 (H j (by omega) (by omega))
theorem bad_false {s : Nat} {a : Bool} (h : bad s a = false) (hs : s ≤ 2) : s ≠ 2 ∧ (a = true → s = 0) := by
  rcases (show s = 0 ∨ s = 1 ∨ s = 2 by omega) with rfl | rfl | rfl
  · exact ⟨by decide, fun _ => rfl⟩
  · exact ⟨by decide, fun e => by subst e; cases h⟩
  · cases h

theorem upS_in {S : Nat → Nat} {a b s p : Nat} (h : a ≤ p ∧ p < b) : upS S a b s p = s := if_pos h
theorem upS_out {S : Nat → Nat} {a b s p : Nat} (h : ¬ (a ≤ p ∧ p < b)) : upS S a b s p = S p := if_neg h

theorem pu_own {S : Nat → Nat} {o f z : Int} {s : Nat} (h : okK o f z = true) {j q : Nat} (hj : (j : Int) ≠ o) (hq : q < 64) : puS S o f z s (j * 64 + q) = S (j * 64 + q) := by
  obtain ⟨h1, h2, h3, h4, h5⟩ := okK_iff.1 h
  exact upS_out (by omega)

/-- What is set where nobody stands against it leaves who is alone alone. -/
theorem safe_set {S : Nat → Nat} {o f z : Int} {a : Bool} (hS : Bd S) (h : Safe S) (hk : okK o f z = true) (ht : tsN S o f z a = -1) : Safe (puS S o f z (sOf a)) := by
  obtain ⟨h1, h2, h3, h4, h5⟩ := okK_iff.1 hk
  have H := (tsN_none hk).1 ht
  intro k j q hkj hk4 hj4 hq h2'
  by_cases ek : (k : Int) = o
  · have ej : (j : Int) ≠ o := by omega
    rw [pu_own hk ej hq]
    by_cases hin : f.toNat ≤ q ∧ q < f.toNat + z.toNat
    · have hs : puS S o f z (sOf a) (k * 64 + q) = sOf a := upS_in (by omega)
      rw [hs] at h2'
      have ha : a = true := by
        cases a with
        | false => cases h2'
        | true => rfl
      have := H j hj4 ej (q - f.toNat) (by omega)
      rw [show f.toNat + (q - f.toNat) = q by omega] at this
      exact (bad_false this (hS _)).2 ha
    · have hs : puS S o f z (sOf a) (k * 64 + q) = S (k * 64 + q) := upS_out (by omega)
      rw [hs] at h2'
      exact h k j q hkj hk4 hj4 hq h2'
  · rw [pu_own hk ek hq] at h2'
    by_cases ej : (j : Int) = o
    · by_cases hin : f.toNat ≤ q ∧ q < f.toNat + z.toNat
      · have := H k hk4 ek (q - f.toNat) (by omega)
        rw [show f.toNat + (q - f.toNat) = q by omega] at this
        exact absurd h2' (bad_false this (hS _)).1
      · have hs : puS S o f z (sOf a) (j * 64 + q) = S (j * 64 + q) := upS_out (by omega)
        rw [hs]
        exact h k j q hkj hk4 hj4 hq h2'
    · rw [pu_own hk ej hq]
      exact h k j q hkj hk4 hj4 hq h2'
theorem safe_free {S : Nat → Nat} {o f z : Int} (h : Safe S) : Safe (puS S o f z 0) := by
  intro k j q hkj hk4 hj4 hq h2
  unfold puS at h2 ⊢
  unfold upS at h2 ⊢
  split at h2
  · cases h2
  · split
    · rfl
    · exact h k j q hkj hk4 hj4 hq h2

theorem good_pu {S : Nat → Nat} {o f z : Int} {s : Nat} (h : Good S) (hs : s ≤ 2) (hsafe : Safe (puS S o f z s)) : Good (puR S (puS S o f z s)) := by
  unfold puR
  by_cases he : puE (puS S o f z s) = 0
  · rw [if_pos he]
    refine ⟨bd_up h.bd _ _ hs, hsafe, ?_⟩
    unfold puE at he
    by_cases hl : (lsN (puS S o f z s) 256).length > 24
    · rw [if_pos hl] at he; cases he
    · omega
  · rw [if_neg he]; exact h
theorem good_st {S : Nat → Nat} (h : Good S) (o f z : Int) (a : Bool) : Good (stS S o f z a) := by
  cases hk : okK o f z with
  | false => rw [(st_out hk).2]; exact h
  | true =>
    by_cases ht : tsN S o f z a = -1
    · rw [(st_in hk ht).2]; exact good_pu h (sOf_le a) (safe_set h.bd h.safe hk ht)
    · rw [(st_hit hk ht).2]; exact h
theorem good_fr {S : Nat → Nat} (h : Good S) (o f z : Int) : Good (frS S o f z) := by
  cases hk : okK o f z with
  | false => rw [(fr_out hk).2]; exact h
  | true => rw [(fr_in hk).2]; exact good_pu h (by decide) (safe_free h.safe)

/-! what listed locks are to each other -/
/-- Of two locks the one at the lesser place ends ahead of where the other one begins. -/
theorem lk_pair {S : Nat → Nat} (hS : Bd S) {i k : Nat} (hk : k < i) (hi : i < (lsN S 256).length) :
    (lAt (lsN S 256) k).p + (lAt (lsN S 256) k).z ≤ (lAt (lsN S 256) i).p ∧ ((lAt (lsN S 256) k).p + (lAt (lsN S 256) k).z = (lAt (lsN S 256) i).p → (lAt (lsN S 256) i).p % 64 ≠ 0 → (lAt (lsN S 256) k).a ≠ (lAt (lsN S 256) i).a) := by
  have := List.pairwise_iff_getElem.1 (lod S hS 256).two k i (by omega) hi hk
  rw [lAt_lt hi, lAt_lt (show k < (lsN S 256).length by omega)]
  exact this
theorem lk_one {S : Nat → Nat} (hS : Bd S) {i : Nat} (hi : i < (lsN S 256).length) :
    1 ≤ (lAt (lsN S 256) i).z ∧ (lAt (lsN S 256) i).p + (lAt (lsN S 256) i).z ≤ 256 ∧ (lAt (lsN S 256) i).p % 64 + (lAt (lsN S 256) i).z ≤ 64 ∧
      ∀ q, (lAt (lsN S 256) i).p ≤ q → q < (lAt (lsN S 256) i).p + (lAt (lsN S 256) i).z → S q = sOf (lAt (lsN S 256) i).a :=
  (lod S hS 256).one _ (lAt_mem hi)

/-- Two locks that meet are of two owners, and shared. -/
theorem lk_meet {S : Nat → Nat} (h : Good S) {i k : Nat} (hk : k < i) (hi : i < (lsN S 256).length)
    (h1 : (lAt (lsN S 256) i).p % 64 < (lAt (lsN S 256) k).p % 64 + (lAt (lsN S 256) k).z) (h2 : (lAt (lsN S 256) k).p % 64 < (lAt (lsN S 256) i).p % 64 + (lAt (lsN S 256) i).z) :
    (lAt (lsN S 256) i).p / 64 ≠ (lAt (lsN S 256) k).p / 64 ∧ (lAt (lsN S 256) i).a = false ∧ (lAt (lsN S 256) k).a = false := by
  obtain ⟨a1, a2, a3, a4⟩ := lk_one h.bd hi
  obtain ⟨b1, b2, b3, b4⟩ := lk_one h.bd (show k < (lsN S 256).length by omega)
  obtain ⟨c1, _⟩ := lk_pair h.bd hk hi
  generalize lAt (lsN S 256) i = x at *
  generalize lAt (lsN S 256) k = y at *
  have hne : x.p / 64 ≠ y.p / 64 := by omega
  obtain ⟨q, hq⟩ : ∃ q, q = max (x.p % 64) (y.p % 64) := ⟨_, rfl⟩
  have q1 : x.p % 64 ≤ q ∧ y.p % 64 ≤ q ∧ q < x.p % 64 + x.z ∧ q < y.p % 64 + y.z := by rw [hq]; omega
  have hx := a4 (x.p / 64 * 64 + q) (by omega) (by omega)
  have hy := b4 (y.p / 64 * 64 + q) (by omega) (by omega)
  refine ⟨hne, ?_, ?_⟩
  · cases ha : x.a with
    | false => rfl
    | true =>
      rw [ha] at hx
      have := h.safe (x.p / 64) (y.p / 64) q hne (by omega) (by omega) (by omega) hx
      rw [hy] at this
      exact absurd this (sOf_ne _)
  · cases ha : y.a with
    | false => rfl
    | true =>
      rw [ha] at hy
      have := h.safe (y.p / 64) (x.p / 64) q (fun e => hne e.symm) (by omega) (by omega) (by omega) hy
      rw [hx] at this
      exact absurd this (sOf_ne _)

end Go.Proofs.YtigoacnbbichoaaDoor
