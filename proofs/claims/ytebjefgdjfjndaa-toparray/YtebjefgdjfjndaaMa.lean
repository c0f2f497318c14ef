/- This text proves plain facts on what is left of rows by exclusive or: a row that is another one, one row more, rows turned round; it speaks of no program; no condition. -/
import Derived.Test.YtebjefgdjfjndaaXor
namespace Go.Proofs.Ytebjefgdjfjndaa

theorem rowAt_set {rs : List (List Int)} {k : Nat} (x : List Int) (hk : k < rs.length) (j : Nat) : rowAt (rs.set k x) j = if j = k then x else rowAt rs j := by
  unfold rowAt
  rw [List.getD, List.getElem?_set]
  by_cases e : j = k
  · subst e; simp [hk]
  · rw [if_neg (fun h => e h.symm), if_neg e]; rfl

theorem good_nth {n i : Nat} {xs : List Int} (g : Good n xs) (hi : i < n) : isByte (nth xs i) := g.2.2 i (by rw [g.2.1]; exact hi)

/-- One row is another one. -/
theorem parTo_set {n : Nat} {rs : List (List Int)} {k i : Nat} (x : List Int) (hk : k < rs.length) (hi : i < n) (hg : ∀ j, j < rs.length → Good n (rowAt rs j)) :
    ∀ m, m ≤ rs.length → parTo (rs.set k x) i m = if k < m then bx (bx (parTo rs i m) (nth (rowAt rs k) i)) (nth x i) else parTo rs i m := by
  intro m
  induction m with
  | zero => intro _; simp [parTo]
  | succ m ih =>
    intro hm
    have ih := ih (by omega)
    have hb : isByte (parTo rs i m) := parTo_byte hi (fun j hj => hg j (by omega))
    rw [parTo, ih, rowAt_set x hk]
    by_cases h1 : m = k
    · subst h1
      rw [if_neg (Nat.lt_irrefl m), if_pos rfl, if_pos (Nat.lt_succ_self m), parTo]
      rw [bx_assoc (parTo rs i m) (nth (rowAt rs m) i) (nth (rowAt rs m) i), bx_self, bx_zero hb]
    · rw [if_neg h1]
      by_cases h2 : k < m
      · rw [if_pos h2, if_pos (by omega), parTo]
        rw [bx_assoc (bx (parTo rs i m) (nth (rowAt rs k) i)), bx_comm (nth x i), ← bx_assoc, bx_assoc (parTo rs i m), bx_comm (nth (rowAt rs k) i), ← bx_assoc (parTo rs i m)]
      · rw [if_neg h2, if_neg (by omega), parTo]

theorem parity_good {n : Nat} {rs : List (List Int)} (hg : GoodRows n rs) : Good n (parity rs) := by
  have g0 := hg.2.2 0 hg.1
  refine ⟨by rw [parity_length]; exact g0.1, by rw [parity_length]; exact g0.2.1, fun i hi => ?_⟩
  rw [parity_length] at hi
  rw [nth_parity hi]
  exact parTo_byte (by rw [g0.2.1] at hi; exact hi) (fun j hj => hg.2.2 j hj)

theorem good_len {n : Nat} {rs : List (List Int)} (hg : GoodRows n rs) : (rowAt rs 0).length = n := (hg.2.2 0 hg.1).2.1

theorem checkE_of {n : Nat} {rs : List (List Int)} (hg : GoodRows n rs) : checkE rs = 0 := checkE_zero.2 (by rw [good_len hg]; exact hg)

theorem three_good {n : Nat} {a b c : List Int} (ha : Good n a) (hb : Good n b) (hc : Good n c) : GoodRows n [a, b, c] :=
  ⟨by simp, by simp, fun i hi => by
    match i, hi with
    | 0, _ => exact ha
    | 1, _ => exact hb
    | 2, _ => exact hc⟩

theorem three_zero {n : Nat} {a b c : List Int} (ha : a.length = n) (h : checkE [a, b, c] = 0) : Good n c := by
  have := (checkE_zero.1 h).2.2 2 (by simp)
  have e : (rowAt [a, b, c] 0).length = n := ha
  rw [e] at this
  exact this

theorem set_zero {n k : Nat} {rs : List (List Int)} {x : List Int} (hk : k < rs.length) (hg : GoodRows n rs) (hx : x.length = n) (h : checkE (rs.set k x) = 0) : Good n x := by
  have g := (checkE_zero.1 h).2.2 k (by simpa using hk)
  have e : (rowAt (rs.set k x) 0).length = n := by
    rw [rowAt_set x hk]
    split
    · exact hx
    · exact good_len hg
  rw [e, rowAt_set x hk, if_pos rfl] at g
  exact g

theorem set_good {n k : Nat} {rs : List (List Int)} {x : List Int} (hk : k < rs.length) (hg : GoodRows n rs) (hx : Good n x) : GoodRows n (rs.set k x) :=
  ⟨by simpa using hg.1, by simpa using hg.2.1, fun i hi => by
    rw [rowAt_set x hk]
    split
    · exact hx
    · exact hg.2.2 i (by simpa using hi)⟩

theorem small_is {n k : Nat} {rs : List (List Int)} {x : List Int} (hk : k < rs.length) (hg : GoodRows n rs) (hx : Good n x) :
    parity [parity rs, rowAt rs k, x] = parity (rs.set k x) := by
  have hp := parity_good hg
  have l1 : (parity [parity rs, rowAt rs k, x]).length = n := by rw [parity_length]; exact hp.2.1
  have l2 : (parity (rs.set k x)).length = n := by rw [parity_length, good_len (set_good hk hg hx)]
  refine List.ext_getElem (by rw [l1, l2]) fun i h1 h2 => ?_
  have hi : i < n := by rw [l1] at h1; exact h1
  rw [← nth_lt h1, ← nth_lt h2, nth_parity (by show i < (parity rs).length; rw [hp.2.1]; exact hi), nth_parity (by rw [good_len (set_good hk hg hx)]; exact hi)]
  rw [List.length_set, parTo_set x hk hi hg.2.2 rs.length (Nat.le_refl _), if_pos hk]
  show bx (bx (bx 0 (nth (parity rs) i)) (nth (rowAt rs k) i)) (nth x i) = _
  rw [zero_bx (good_nth hp hi), nth_parity (by rw [good_len hg]; exact hi)]

end Go.Proofs.Ytebjefgdjfjndaa
