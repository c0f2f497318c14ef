/- This text proves nothing of the program: rows of one number each, slices of such rows of the call's own, and what two data make at the number 2; no condition. -/
import Derived.Test.YtebjefgdjfjndaaRe8
import Derived.Test.YtebjefgdjfjndaaAi
import Derived.Test.YtebjefgdjfjndaaOy
namespace Go.Proofs.Ytebjefgdjfjndaa
open Go.RowKit Go.Deep

/-- One row for each datum. -/
def rowsOf (xs : List Int) (j : Nat) : List (List Int) := (List.range j).map fun i => [nth xs i]

theorem rowsOf_len (xs : List Int) (j : Nat) : (rowsOf xs j).length = j := by simp [rowsOf]
theorem rowsOf_at {xs : List Int} {j i : Nat} (h : i < j) : rowAt (rowsOf xs j) i = [nth xs i] := by
  rw [rowAt_lt (by rw [rowsOf_len]; exact h)]; simp [rowsOf]

theorem rowsOf_good {xs : List Int} {j : Nat} (h0 : 0 < j) (h8 : j ≤ 8) (hb : ∀ i, i < j → isByte (nth xs i)) : GoodRows 1 (rowsOf xs j) := by
  refine ⟨by rw [rowsOf_len]; exact h0, by rw [rowsOf_len]; exact h8, fun i hi => ?_⟩
  rw [rowsOf_len] at hi
  rw [rowsOf_at hi]
  refine ⟨by simp, rfl, fun q hq => ?_⟩
  have : q = 0 := by simpa using hq
  subst this
  exact hb i hi

theorem rowsOf_zero {xs : List Int} {j : Nat} (h : checkE (rowsOf xs j) = 0) : 0 < j ∧ j ≤ 8 ∧ ∀ i, i < j → isByte (nth xs i) := by
  have g := checkE_zero.1 h
  have h1 := g.1
  have h2 := g.2.1
  rw [rowsOf_len] at h1 h2
  refine ⟨h1, h2, fun i hi => ?_⟩
  have h3 := g.2.2 i (by rw [rowsOf_len]; exact hi)
  rw [rowsOf_at hi] at h3
  exact h3.2.2 0 (by simp)

theorem top_bad {xs : List Int} (h : makeE xs 1 ≠ 0) : checkE (rowsOf xs (min xs.length 9)) ≠ 0 := by
  intro e
  obtain ⟨h1, h2, h3⟩ := rowsOf_zero e
  apply h
  unfold makeE
  rw [if_neg (by omega), if_neg (by omega), if_pos]
  rw [Bool.and_eq_true]
  exact ⟨all_byte fun i hi => h3 i (by omega), by decide⟩

/-- Slices of one number each. -/
def vsB (B : Nat → Nat) (j : Nat) : List Value := (List.range j).map fun i => Value.slice (some ⟨B i, 0, none⟩) 1 1

theorem vsB_len (B : Nat → Nat) (j : Nat) : (vsB B j).length = j := by simp [vsB]
theorem vsB_succ (B : Nat → Nat) (j b : Nat) : vsB B j ++ [Value.slice (some ⟨b, 0, none⟩) 1 1] = vsB (fun i => if i = j then b else B i) (j + 1) := by
  unfold vsB
  rw [List.range_succ, List.map_append, List.map_singleton]
  congr 1
  · refine List.map_congr_left fun i hi => ?_
    have : i < j := by simpa using hi
    show _ = Value.slice (some ⟨if i = j then b else B i, 0, none⟩) 1 1
    rw [if_neg (by omega)]
  · show _ = [Value.slice (some ⟨if j = j then b else B j, 0, none⟩) 1 1]
    rw [if_pos rfl]

theorem rowIs_grown {w w' : World} {b t n : Nat} {f : Nat → Value} {row : Option Nat} (h : w.rowIs b t n f) (hg : w.grownBy w' row) (hne : row ≠ some b) : w'.rowIs b t n f :=
  h.of_block (hg.block b h.lt (fun e => hne e.symm))

theorem own_ne {w : World} {base e n b t m : Nat} {v : Value} {vs : List Value} {f : Nat → Value} (h : w.ownsRow base e 1 v n vs) (hr : w.rowIs b t m f) (hte : t ≠ e) : v.ownBlock ≠ some b := by
  rcases h.2 with ⟨rfl, _⟩ | ⟨g, cap, cur, rfl, _, hg, _⟩
  · intro e; cases e
  · intro e
    cases e
    obtain ⟨c, hb, _⟩ := hr
    rw [hg] at hb
    cases hb
    exact hte rfl

theorem rows_made {w : World} {base j : Nat} {v : Value} {B : Nat → Nat} {xs : List Int} (h : w.ownsRow base 22 1 v j (vsB B j)) (hm : j ≤ maxLen) (hr : ∀ i, i < j → w.rowIs (B i) 3 1 (fun _ => .int .i64 (nth xs i))) : RowsIs w v (rowsOf xs j) := by
  by_cases hj : j = 0
  · subst hj
    rcases h.2 with ⟨rfl, _⟩ | ⟨g, cap, cur, rfl, _⟩
    · exact ⟨none, 0, rfl, Nat.zero_le _, fun h => absurd rfl h⟩
    · exact ⟨_, cap, rfl, Nat.zero_le _, fun h => absurd rfl h⟩
  · obtain ⟨g, cap, rfl, _, hg⟩ := own_slice h (by omega)
    refine rows_own h hg hm (vsB_len _ _) (rowsOf_len _ _) fun i hi => ?_
    rw [vsB_len] at hi
    rw [rowsOf_at hi]
    have e : (vsB B j)[i]'(by rw [vsB_len]; exact hi) = Value.slice (some ⟨B i, 0, none⟩) 1 1 := by simp [vsB]
    rw [e]
    refine ⟨_, 1, rfl, by simp [maxLen], fun _ => ⟨B i, 0, rfl, (hr i hi).lt, fun q hq => ?_⟩⟩
    have : q = 0 := by simpa using hq
    subst this
    exact (hr i hi).cell (by omega)

theorem two_code {d0 d1 : Nat} {f : Nat → Nat} (hf : BytesF f) (h0 : evF f 0 2 = d0) (h1 : evF f 1 2 = d1) (b0 : d0 < 256) (b1 : d1 < 256) : evF f 2 2 = gm 3 d0 ^^^ gm 2 d1 := by
  have e : ∀ x, evF f x 2 = f 0 ^^^ gm (f 1) (gpow x 1) := fun x => by rw [evF_succ, evF_one hf]
  have p1 : ∀ x, x < 256 → gpow x 1 = x := fun x hx => by rw [gpow_succ, gpow_zero, one_gm hx]
  rw [e, p1 0 (by decide), gm_zero, Nat.xor_zero] at h0
  rw [e, p1 1 (by decide), gm_one (hf 1), h0] at h1
  have f1 : f 1 = d0 ^^^ d1 := by rw [← h1, ← Nat.xor_assoc, Nat.xor_self, Nat.zero_xor]
  rw [e, p1 2 (by decide), h0, f1, gm_left, show (3 : Nat) = 1 ^^^ 2 by decide, gm_left, one_gm b0, gm_comm b0 (by decide), gm_comm b1 (by decide), Nat.xor_assoc]

theorem fact_top {f : Nat → Nat} (h : Thru 2 (fun i => i) (fun i => (nth [5, 5] i).toNat) f) : evF f 2 2 = 5 := by
  rw [two_code h.1 (h.2 0 (by omega)) (h.2 1 (by omega)) (by decide) (by decide)]
  decide +kernel

end Go.Proofs.Ytebjefgdjfjndaa
