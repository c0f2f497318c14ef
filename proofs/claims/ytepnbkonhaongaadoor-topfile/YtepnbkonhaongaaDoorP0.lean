/- This text proves plain facts on where a file's blocks are found: the way to a block, the block at a way, and how many tables there are; it speaks of no program; no condition. -/
import Derived.Test.YtepnbkonhaongaaDoorWh
namespace Go.Proofs.YtepnbkonhaongaaDoor
open Go.RowKit Go.Deep

/-- What is wrong with a block's number, and the way to it. -/
def ofE (i : Int) : Nat := if 0 ≤ i ∧ i < 24 then 0 else 1
def ofL (i : Int) : List Int := if 0 ≤ i ∧ i < 24 then (if i < 4 then [i] else if i < 8 then [4, i - 4] else [5, (i - 8) / 4, (i - 8) % 4]) else []

theorem ofE_yes {i : Int} (h : 0 ≤ i ∧ i < 24) : ofE i = 0 := if_pos h
theorem ofE_no {i : Int} (h : ¬ (0 ≤ i ∧ i < 24)) : ofE i = 1 := if_neg h
theorem ofL_no {i : Int} (h : ¬ (0 ≤ i ∧ i < 24)) : ofL i = [] := if_neg h
theorem ofL_one {i : Int} (h : 0 ≤ i ∧ i < 4) : ofL i = [i] := by unfold ofL; rw [if_pos (by omega), if_pos (by omega)]
theorem ofL_two {i : Int} (h : 4 ≤ i ∧ i < 8) : ofL i = [4, i - 4] := by unfold ofL; rw [if_pos (by omega), if_neg (by omega), if_pos (by omega)]
theorem ofL_three {i : Int} (h : 8 ≤ i ∧ i < 24) : ofL i = [5, (i - 8) / 4, (i - 8) % 4] := by unfold ofL; rw [if_pos (by omega), if_neg (by omega), if_neg (by omega)]
theorem ofL_len (i : Int) : (ofL i).length ≤ 3 := by
  unfold ofL
  split
  · split
    · simp
    · split <;> simp
  · simp

/-- A place in a table. -/
def inT (x : Int) : Bool := decide (0 ≤ x ∧ x ≤ 3)
/-- How many numbers a way has that begins with one. -/
def szW (x : Int) : Nat := if x = 4 then 2 else if x = 5 then 3 else 1

/-- What is wrong with a way. -/
def wayE : List Int → Nat
  | [] => 5
  | x :: l => if 0 ≤ x ∧ x ≤ 5 ∧ l.all inT = true then (if l.length + 1 = szW x then 0 else 3) else 1
theorem wayE_cons (x : Int) (l : List Int) : wayE (x :: l) = if 0 ≤ x ∧ x ≤ 5 ∧ l.all inT = true then (if l.length + 1 = szW x then 0 else 3) else 1 := rfl
/-- The block at a way. -/
def wayN (xs : List Int) : Int := if wayE xs = 0 then (if nth xs 0 = 4 then 4 + nth xs 1 else if nth xs 0 = 5 then 8 + nth xs 1 * 4 + nth xs 2 else nth xs 0) else 0

theorem inT_iff (x : Int) : inT x = true ↔ 0 ≤ x ∧ x ≤ 3 := by simp [inT]

/-- A right way is one of three kinds. -/
theorem way_kinds {xs : List Int} (h : wayE xs = 0) : (∃ x, xs = [x] ∧ 0 ≤ x ∧ x < 4) ∨ (∃ y, xs = [4, y] ∧ 0 ≤ y ∧ y ≤ 3) ∨ (∃ y z, xs = [5, y, z] ∧ 0 ≤ y ∧ y ≤ 3 ∧ 0 ≤ z ∧ z ≤ 3) := by
  cases xs with
  | nil => simp [wayE] at h
  | cons x l =>
    rw [wayE_cons] at h
    split at h
    · rename_i h1
      obtain ⟨h1, h2, h3⟩ := h1
      split at h
      · rename_i h4
        unfold szW at h4
        split at h4
        · rename_i h5
          subst h5
          obtain ⟨y, rfl⟩ := List.length_eq_one_iff.1 (show l.length = 1 by omega)
          simp [inT] at h3
          exact .inr (.inl ⟨y, rfl, h3⟩)
        · split at h4
          · rename_i h5 h6
            subst h6
            obtain ⟨y, z, rfl⟩ : ∃ y z, l = [y, z] := by
              match l, (show l.length = 2 by omega) with
              | [y, z], _ => exact ⟨y, z, rfl⟩
            simp [inT] at h3
            exact .inr (.inr ⟨y, z, rfl, h3.1.1, h3.1.2, h3.2.1, h3.2.2⟩)
          · obtain rfl := List.length_eq_zero_iff.1 (show l.length = 0 by omega)
            exact .inl ⟨x, rfl, by omega, by omega⟩
      · omega
    · omega

theorem nth_0 (x : Int) (l : List Int) : nth (x :: l) 0 = x := rfl
theorem nth_1 (x y : Int) (l : List Int) : nth (x :: y :: l) 1 = y := rfl
theorem nth_2 (x y z : Int) (l : List Int) : nth (x :: y :: z :: l) 2 = z := rfl

theorem way_one {x : Int} (h : 0 ≤ x ∧ x < 4) : wayE [x] = 0 ∧ wayN [x] = x := by
  have e : wayE [x] = 0 := by
    rw [wayE_cons]
    rw [if_pos ⟨h.1, by omega, rfl⟩]
    have : szW x = 1 := by unfold szW; rw [if_neg (by omega), if_neg (by omega)]
    rw [this]; rfl
  refine ⟨e, ?_⟩
  unfold wayN
  rw [if_pos e, nth_0, if_neg (by omega), if_neg (by omega)]
theorem way_two {y : Int} (h : 0 ≤ y ∧ y ≤ 3) : wayE [4, y] = 0 ∧ wayN [4, y] = 4 + y := by
  have e : wayE [4, y] = 0 := by
    rw [wayE_cons]
    rw [if_pos ⟨by omega, by omega, by simp [inT, h]⟩]
    rfl
  refine ⟨e, ?_⟩
  unfold wayN
  rw [if_pos e, nth_0, if_pos rfl, nth_1]
theorem way_three {y z : Int} (h : 0 ≤ y ∧ y ≤ 3) (k : 0 ≤ z ∧ z ≤ 3) : wayE [5, y, z] = 0 ∧ wayN [5, y, z] = 8 + y * 4 + z := by
  have e : wayE [5, y, z] = 0 := by
    rw [wayE_cons]
    rw [if_pos ⟨by omega, by omega, by simp [inT, h, k]⟩]
    rfl
  refine ⟨e, ?_⟩
  unfold wayN
  rw [if_pos e, nth_0, if_neg (by omega), if_pos rfl, nth_1, nth_2]

/-- The way leads back to its block. -/
theorem back_of {i : Int} (h : 0 ≤ i ∧ i < 24) : wayE (ofL i) = 0 ∧ wayN (ofL i) = i := by
  by_cases h1 : i < 4
  · rw [ofL_one ⟨h.1, h1⟩]; exact way_one ⟨h.1, h1⟩
  · by_cases h2 : i < 8
    · rw [ofL_two ⟨by omega, h2⟩]
      have := way_two (y := i - 4) ⟨by omega, by omega⟩
      exact ⟨this.1, by rw [this.2]; omega⟩
    · rw [ofL_three ⟨by omega, h.2⟩]
      have := way_three (y := (i - 8) / 4) (z := (i - 8) % 4) ⟨by omega, by omega⟩ ⟨by omega, by omega⟩
      exact ⟨this.1, by rw [this.2]; omega⟩

/-- What leads to a block is its way. -/
theorem of_back {xs : List Int} (h : wayE xs = 0) : (0 ≤ wayN xs ∧ wayN xs < 24) ∧ ofL (wayN xs) = xs := by
  rcases way_kinds h with ⟨x, rfl, h1, h2⟩ | ⟨y, rfl, h1, h2⟩ | ⟨y, z, rfl, h1, h2, h3, h4⟩
  · rw [(way_one ⟨h1, h2⟩).2]
    exact ⟨by omega, ofL_one ⟨h1, h2⟩⟩
  · rw [(way_two ⟨h1, h2⟩).2]
    refine ⟨by omega, ?_⟩
    rw [ofL_two ⟨by omega, by omega⟩, show 4 + y - 4 = y by omega]
  · rw [(way_three ⟨h1, h2⟩ ⟨h3, h4⟩).2]
    refine ⟨by omega, ?_⟩
    rw [ofL_three ⟨by omega, by omega⟩, show (8 + y * 4 + z - 8) / 4 = y by omega, show (8 + y * 4 + z - 8) % 4 = z by omega]

theorem wayN_no {xs : List Int} (h : wayE xs ≠ 0) : wayN xs = 0 := if_neg h

/-- How many tables there are. -/
def tbE (n : Int) : Nat := if 0 ≤ n ∧ n ≤ 24 then 0 else 1
def tbN (n : Int) : Int := if 0 ≤ n ∧ n ≤ 24 then (if n ≤ 4 then 0 else if n ≤ 8 then 1 else 2 + (n - 5) / 4) else 0

theorem tbE_yes {i : Int} (h : 0 ≤ i ∧ i ≤ 24) : tbE i = 0 := if_pos h
theorem tbE_no {i : Int} (h : ¬ (0 ≤ i ∧ i ≤ 24)) : tbE i = 1 := if_neg h
theorem tbN_no {i : Int} (h : ¬ (0 ≤ i ∧ i ≤ 24)) : tbN i = 0 := if_neg h
theorem tbN_none {i : Int} (h : 0 ≤ i ∧ i ≤ 4) : tbN i = 0 := by unfold tbN; rw [if_pos (by omega), if_pos (by omega)]
theorem tbN_one {i : Int} (h : 4 < i ∧ i ≤ 8) : tbN i = 1 := by unfold tbN; rw [if_pos (by omega), if_neg (by omega), if_pos (by omega)]
theorem tbN_more {i : Int} (h : 8 < i ∧ i ≤ 24) : tbN i = 2 + (i - 5) / 4 := by unfold tbN; rw [if_pos (by omega), if_neg (by omega), if_neg (by omega)]

end Go.Proofs.YtepnbkonhaongaaDoor
