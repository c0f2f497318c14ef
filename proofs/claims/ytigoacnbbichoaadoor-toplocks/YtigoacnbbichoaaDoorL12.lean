/- This text proves plain facts on a table of which one owner has freed all: none of its places is taken, there are no more locks than there were, and what can be set once can be tested again; it speaks of no call; no condition. -/
import Derived.Test.YtigoacnbbichoaaDoorL8
namespace Go.Proofs.YtigoacnbbichoaaDoor

/-- None of an owner's places is taken. -/
structure Clr (S : Nat → Nat) (x : Int) : Prop where
  good : Good S
  none : ∀ q, q < 64 → S (x.toNat * 64 + q) = 0

theorem own_ok {x : Int} : okK x 0 64 = decide (0 ≤ x ∧ x ≤ 3) := by
  unfold okK
  by_cases h : 0 ≤ x ∧ x ≤ 3
  · rw [decide_eq_true h]; simp; omega
  · rw [decide_eq_false h]; simp; omega
theorem fr_all {S : Nat → Nat} (h : Good S) {x : Int} (hx : okK x 0 64 = true) : frE S x 0 64 = 0 ∧ Clr (frS S x 0 64) x := by
  have hp : puS S x 0 64 0 = upS S (x.toNat * 64) (x.toNat * 64 + 64) 0 := rfl
  have hl := len_clear S x.toNat 256
  have he : puE (puS S x 0 64 0) = 0 := by rw [hp]; exact pu_room (Nat.le_trans hl h.few)
  have h1 : frE S x 0 64 = 0 := (fr_in hx).1.trans he
  refine ⟨h1, good_fr h x 0 64, fun q hq => ?_⟩
  have h2 : frS S x 0 64 = puS S x 0 64 0 := if_pos h1
  rw [h2, hp]
  exact upS_in (by omega)
theorem clr_list {S : Nat → Nat} {x : Int} (h : Clr S x) (hx : 0 ≤ x) {i : Nat} (hi : i < (lsN S 256).length) : (((lAt (lsN S 256) i).p / 64 : Nat) : Int) ≠ x := by
  obtain ⟨a1, a2, a3, a4⟩ := lk_one h.good.bd hi
  intro e
  have h1 := a4 (lAt (lsN S 256) i).p (Nat.le_refl _) (by omega)
  have h2 := h.none ((lAt (lsN S 256) i).p % 64) (by omega)
  rw [show x.toNat * 64 + (lAt (lsN S 256) i).p % 64 = (lAt (lsN S 256) i).p by omega, h1] at h2
  exact sOf_ne _ h2
theorem clr_test {S : Nat → Nat} {x : Int} (h : Clr S x) {o f z : Int} {a : Bool} (hk : okK o f z = true) (ht : tsN S o f z a ≠ -1) : ∃ j : Nat, tsN S o f z a = (j : Int) ∧ (j : Int) ≠ o ∧ (j : Int) ≠ x := by
  obtain ⟨h1, h2, h3, h4, h5⟩ := okK_iff.1 hk
  unfold tsN at ht ⊢
  rw [if_pos hk] at ht ⊢
  obtain ⟨j, e1, _, e3, e4, e5⟩ := tsF_some ht
  refine ⟨j, e1, by omega, fun e => ?_⟩
  have hz : ag (row S j) a f.toNat z.toNat = false := ag_false.2 fun i hi => by
    have := h.none (f.toNat + i) (by omega)
    rw [show x.toNat = j by omega] at this
    show bad (S (j * 64 + (f.toNat + i))) a = false
    rw [this]; rfl
  rw [hz] at e5
  cases e5
theorem st_again {S : Nat → Nat} {o f z : Int} {a : Bool} (hk : okK o f z = true) (ht : tsN S o f z a = -1) : tsN (stS S o f z a) o f z a = -1 := by
  obtain ⟨h1, h2, h3, h4, h5⟩ := okK_iff.1 hk
  rw [(st_in hk ht).2]
  unfold puR
  by_cases he : puE (puS S o f z (sOf a)) = 0
  · rw [if_pos he, tsN_none hk]
    intro j hj ho i hi
    rw [pu_own hk ho (by omega)]
    exact (tsN_none hk).1 ht j hj ho i hi
  · rw [if_neg he]; exact ht
theorem pu_two (S : Nat → Nat) : puE S = 0 ∨ puE S = 4 := by
  unfold puE; split
  · exact .inr rfl
  · exact .inl rfl

end Go.Proofs.YtigoacnbbichoaaDoor
