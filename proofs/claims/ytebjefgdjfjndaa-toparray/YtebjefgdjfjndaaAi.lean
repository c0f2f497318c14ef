/- This text proves nothing of the program: the one more and all rows but one leave that row; no condition. -/
import Derived.Test.YtebjefgdjfjndaaAh
namespace Go.Proofs.Ytebjefgdjfjndaa
open Go.RowKit Go.Deep

theorem left_erase (i : Nat) : ∀ (rs : List (List Int)) (k : Nat), k < rs.length → left i rs = bx (nth (rowAt rs k) i) (left i (rs.eraseIdx k))
  | [], k, h => by simp at h
  | r :: rs, 0, _ => rfl
  | r :: rs, k + 1, h => by
    have ih := left_erase i rs k (by simpa using h)
    show bx (nth r i) (left i rs) = bx (nth (rowAt rs k) i) (bx (nth r i) (left i (rs.eraseIdx k)))
    rw [ih, ← bx_assoc, bx_comm (nth r i), bx_assoc]

theorem again_is {n k : Nat} {rs : List (List Int)} (hg : GoodRows n rs) (hk : k < rs.length) : parity (others rs (parity rs) k) = rowAt rs k := by
  have hp := parity_good hg
  have ho := others_good hg hp hk
  have gk := hg.2.2 k hk
  have l1 : (parity (others rs (parity rs) k)).length = n := by rw [parity_length, good_len ho]
  refine List.ext_getElem (by rw [l1, gk.2.1]) fun i h1 h2 => ?_
  have hi : i < n := by rw [l1] at h1; exact h1
  rw [← nth_lt h1, ← nth_lt h2, nth_par ho hi]
  show bx (nth (parity rs) i) (left i (rs.eraseIdx k)) = _
  rw [nth_par hg hi, left_erase i rs k hk, bx_assoc, bx_self, bx_zero (good_nth gk hi)]

end Go.Proofs.Ytebjefgdjfjndaa
