/- This text proves plain facts: what is left of rows does not hang on their order, and with what is left of all as one row more nothing is left; it speaks of no program; no condition. -/
import Derived.Test.YtebjefgdjfjndaaMa
namespace Go.Proofs.Ytebjefgdjfjndaa

/-- What is left of a list of rows at a place. -/
def left (i : Nat) : List (List Int) → Int
  | [] => 0
  | r :: rs => bx (nth r i) (left i rs)

theorem left_snoc (i : Nat) (a : List Int) : ∀ l, left i (l ++ [a]) = bx (left i l) (nth a i)
  | [] => by show bx (nth a i) 0 = bx 0 (nth a i); exact bx_comm _ _
  | r :: l => by
    show bx (nth r i) (left i (l ++ [a])) = bx (bx (nth r i) (left i l)) (nth a i)
    rw [left_snoc i a l, bx_assoc]

theorem left_reverse (i : Nat) : ∀ l, left i l.reverse = left i l
  | [] => rfl
  | r :: l => by
    rw [List.reverse_cons, left_snoc, left_reverse i l, bx_comm]
    rfl

theorem take_row {rs : List (List Int)} {k : Nat} (hk : k < rs.length) : rs.take (k + 1) = rs.take k ++ [rowAt rs k] := by
  rw [rowAt_lt hk, List.take_succ_eq_append_getElem hk]

theorem parTo_left (rs : List (List Int)) (i : Nat) : ∀ k, k ≤ rs.length → parTo rs i k = left i (rs.take k)
  | 0, _ => by simp [parTo, left]
  | k + 1, h => by rw [parTo, parTo_left rs i k (by omega), take_row (by omega), left_snoc]

theorem parTo_all (rs : List (List Int)) (i : Nat) : parTo rs i rs.length = left i rs := by
  rw [parTo_left rs i _ (Nat.le_refl _), List.take_length]

theorem good_mem {n : Nat} {rs : List (List Int)} : (∀ i, i < rs.length → Good n (rowAt rs i)) ↔ ∀ r ∈ rs, Good n r := by
  constructor
  · intro h r hr
    obtain ⟨i, hi, rfl⟩ := List.getElem_of_mem hr
    rw [← rowAt_lt hi]
    exact h i hi
  · intro h i hi
    rw [rowAt_lt hi]
    exact h _ (List.getElem_mem hi)

theorem reverse_good {n : Nat} {rs : List (List Int)} (hg : GoodRows n rs) : GoodRows n rs.reverse :=
  ⟨by simpa using hg.1, by simpa using hg.2.1, good_mem.2 fun r hr => good_mem.1 hg.2.2 r (List.mem_reverse.1 hr)⟩

theorem snoc_good {n : Nat} {rs : List (List Int)} {x : List Int} (hg : GoodRows n rs) (hx : Good n x) (h8 : rs.length ≠ 8) : GoodRows n (rs ++ [x]) :=
  ⟨by simp, by have := hg.2.1; simp; omega, good_mem.2 fun r hr => by
    rcases List.mem_append.1 hr with h | h
    · exact good_mem.1 hg.2.2 r h
    · rw [List.mem_singleton.1 h]; exact hx⟩

theorem parity_ext {n : Nat} {rs qs : List (List Int)} (hr : GoodRows n rs) (hq : GoodRows n qs) (h : ∀ i, i < n → left i rs = left i qs) : parity rs = parity qs := by
  have l1 : (parity rs).length = n := by rw [parity_length, good_len hr]
  have l2 : (parity qs).length = n := by rw [parity_length, good_len hq]
  refine List.ext_getElem (by rw [l1, l2]) fun i h1 h2 => ?_
  have hi : i < n := by rw [l1] at h1; exact h1
  rw [← nth_lt h1, ← nth_lt h2, nth_parity (by rw [good_len hr]; exact hi), nth_parity (by rw [good_len hq]; exact hi), parTo_all, parTo_all, h i hi]

theorem parity_reverse {n : Nat} {rs : List (List Int)} (hg : GoodRows n rs) : parity rs.reverse = parity rs :=
  parity_ext (reverse_good hg) hg (fun i _ => left_reverse i rs)

theorem nth_par {n i : Nat} {rs : List (List Int)} (hg : GoodRows n rs) (hi : i < n) : nth (parity rs) i = left i rs := by
  rw [nth_parity (by rw [good_len hg]; exact hi), parTo_all]

theorem even_zero {n i : Nat} {rs : List (List Int)} (hg : GoodRows n rs) (h8 : rs.length ≠ 8) (hi : i < n) : nth (parity (rs.reverse ++ [parity rs])) i = 0 := by
  rw [nth_par (snoc_good (reverse_good hg) (parity_good hg) (by simpa using h8)) hi, left_snoc, left_reverse, nth_par hg hi, bx_self]

end Go.Proofs.Ytebjefgdjfjndaa
