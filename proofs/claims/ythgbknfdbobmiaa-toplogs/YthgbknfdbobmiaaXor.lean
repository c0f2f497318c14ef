/- This text proves plain facts on exclusive or of bytes and on rows of bytes; it speaks of no program; no condition. -/
import Derived.WalkKit
import Derived.Test.YthgbknfdbobmiaaGen
namespace Go.Proofs.Ythgbknfdbobmiaa

/-- Exclusive or of two numbers that are not below 0. -/
def bx (a b : Int) : Int := ((a.toNat ^^^ b.toNat : Nat) : Int)

def isByte (b : Int) : Prop := 0 ≤ b ∧ b ≤ 255

theorem isByte_of_nat {n : Nat} (h : n < 256) : isByte (n : Int) := ⟨by omega, by omega⟩

theorem bx_byte {a b : Int} (ha : isByte a) (hb : isByte b) : isByte (bx a b) := by
  obtain ⟨a1, a2⟩ := ha
  obtain ⟨b1, b2⟩ := hb
  have : a.toNat ^^^ b.toNat < 2 ^ 8 := Nat.xor_lt_two_pow (by omega) (by omega)
  unfold bx
  exact isByte_of_nat (by omega)

theorem bits_bx {a b : Int} (ha : isByte a) (hb : isByte b) : bits .xor .i64 a b = bx a b := by
  obtain ⟨a1, a2⟩ := ha
  obtain ⟨b1, b2⟩ := hb
  obtain ⟨A, rfl⟩ := Int.eq_ofNat_of_zero_le a1
  obtain ⟨B, rfl⟩ := Int.eq_ofNat_of_zero_le b1
  have hx : A ^^^ B < 2 ^ 8 := Nat.xor_lt_two_pow (by omega) (by omega)
  unfold bits bx
  simp only [Int.toNat_natCast]
  have e64 : IntKind.i64.bits = 64 := rfl
  rw [BitVec.toNat_xor, e64, ofInt_u64 A (by omega), ofInt_u64 B (by omega), IntKind.wrap_i64]
  omega

theorem bx_comm (a b : Int) : bx a b = bx b a := by unfold bx; rw [Nat.xor_comm]
theorem bx_assoc (a b c : Int) : bx (bx a b) c = bx a (bx b c) := by unfold bx; simp [Nat.xor_assoc]
theorem bx_zero {a : Int} (h : isByte a) : bx a 0 = a := by unfold bx; have := h.1; simp; omega
theorem zero_bx {a : Int} (h : isByte a) : bx 0 a = a := by rw [bx_comm, bx_zero h]
theorem bx_self (a : Int) : bx a a = 0 := by unfold bx; simp

def byteB (b : Int) : Bool := decide (0 ≤ b) && decide (b ≤ 255)

theorem byteB_iff (b : Int) : byteB b = true ↔ isByte b := by simp [byteB, isByte]

/-- What is wrong with a row beside a first one of a width. -/
def rowE (width : Nat) (xs : List Int) : Nat :=
  if 16 < xs.length then 4 else if xs.all byteB then (if xs.length = width then 0 else 3) else 1

theorem rowE_full {width : Nat} {xs : List Int} (h : 16 < xs.length) : rowE width xs = 4 := by simp [rowE, h]

theorem rowE_range {width : Nat} {xs : List Int} (h : xs.length ≤ 16) {k : Nat} (hk : k < xs.length) (hb : ¬ isByte (nth xs k)) : rowE width xs = 1 := by
  have : xs.all byteB = false := by
    rw [List.all_eq_false]
    exact ⟨_, nth_mem hk, fun e => hb ((byteB_iff _).1 e)⟩
  simp [rowE, Nat.not_lt.2 h, this]

theorem all_byte {xs : List Int} (h : ∀ i, i < xs.length → isByte (nth xs i)) : xs.all byteB = true := by
  rw [List.all_eq_true]
  intro x hx
  obtain ⟨i, hi, rfl⟩ := List.getElem_of_mem hx
  rw [byteB_iff, ← nth_lt hi]
  exact h i hi

theorem rowE_shape {width : Nat} {xs : List Int} (h : xs.length ≤ 16) (hb : ∀ i, i < xs.length → isByte (nth xs i)) (hn : xs.length ≠ width) : rowE width xs = 3 := by
  simp [rowE, Nat.not_lt.2 h, all_byte hb, hn]

theorem rowE_ok {width : Nat} {xs : List Int} (h : xs.length ≤ 16) (hb : ∀ i, i < xs.length → isByte (nth xs i)) (hn : xs.length = width) : rowE width xs = 0 := by
  subst hn
  simp [rowE, Nat.not_lt.2 h, all_byte hb]

/-- A row that is as it should be. -/
def Good (width : Nat) (xs : List Int) : Prop := xs.length ≤ 16 ∧ xs.length = width ∧ ∀ i, i < xs.length → isByte (nth xs i)

theorem rowE_zero {width : Nat} {xs : List Int} : rowE width xs = 0 ↔ Good width xs := by
  constructor
  · intro h
    unfold rowE at h
    by_cases h1 : 16 < xs.length
    · simp [h1] at h
    · rw [if_neg h1] at h
      by_cases h2 : xs.all byteB = true
      · rw [if_pos h2] at h
        by_cases h3 : xs.length = width
        · refine ⟨by omega, h3, fun i hi => ?_⟩
          rw [← byteB_iff]
          exact List.all_eq_true.1 h2 _ (nth_mem hi)
        · simp [h3] at h
      · simp [h2] at h
  · rintro ⟨h1, h2, h3⟩
    exact rowE_ok h1 h3 h2

/-- What is wrong with the first row that has a fault. -/
def firstE (width : Nat) : List (List Int) → Nat
  | [] => 0
  | r :: rs => if rowE width r = 0 then firstE width rs else rowE width r

theorem firstE_at {width : Nat} : ∀ {rs : List (List Int)} {k : Nat}, (∀ i, i < k → rowE width (rowAt rs i) = 0) → k < rs.length → rowE width (rowAt rs k) ≠ 0 → firstE width rs = rowE width (rowAt rs k)
  | [], k, _, hk, _ => by simp at hk
  | r :: rs, 0, _, _, hne => by
    have : rowAt (r :: rs) 0 = r := rfl
    rw [this] at hne ⊢
    simp [firstE, hne]
  | r :: rs, k + 1, h, hk, hne => by
    have h0 : rowE width r = 0 := h 0 (by omega)
    have e : rowAt (r :: rs) (k + 1) = rowAt rs k := rfl
    rw [e] at hne ⊢
    rw [firstE, if_pos h0]
    exact firstE_at (fun i hi => h (i + 1) (by omega)) (by simpa using hk) hne

theorem firstE_zero {width : Nat} {rs : List (List Int)} : firstE width rs = 0 ↔ ∀ i, i < rs.length → rowE width (rowAt rs i) = 0 := by
  induction rs with
  | nil => simp [firstE]
  | cons r rs ih =>
    by_cases h : rowE width r = 0
    · rw [firstE, if_pos h, ih]
      constructor
      · intro hh i hi
        cases i with
        | zero => exact h
        | succ i => exact hh i (by simpa using hi)
      · intro hh i hi
        exact hh (i + 1) (by simpa using hi)
    · rw [firstE, if_neg h]
      constructor
      · intro hh; exact absurd hh h
      · intro hh; exact hh 0 (by simp)

/-- What is wrong with rows. -/
def checkE (rs : List (List Int)) : Nat := if rs.length = 0 then 5 else if 8 < rs.length then 4 else firstE (rowAt rs 0).length rs

/-- Rows that are as they should be. -/
def GoodRows (n : Nat) (rs : List (List Int)) : Prop := 0 < rs.length ∧ rs.length ≤ 8 ∧ ∀ i, i < rs.length → Good n (rowAt rs i)

theorem checkE_zero {rs : List (List Int)} : checkE rs = 0 ↔ GoodRows (rowAt rs 0).length rs := by
  unfold checkE GoodRows
  by_cases h1 : rs.length = 0
  · simp [h1]
  · rw [if_neg h1]
    by_cases h2 : 8 < rs.length
    · rw [if_pos h2]
      exact ⟨fun h => absurd h (by decide), fun ⟨_, h, _⟩ => by omega⟩
    · rw [if_neg h2, firstE_zero]
      constructor
      · intro h
        exact ⟨by omega, by omega, fun i hi => rowE_zero.1 (h i hi)⟩
      · rintro ⟨_, _, h⟩ i hi
        exact rowE_zero.2 (h i hi)

/-- What is left of the first k rows at a place. -/
def parTo (rs : List (List Int)) (i : Nat) : Nat → Int
  | 0 => 0
  | k + 1 => bx (parTo rs i k) (nth (rowAt rs k) i)

/-- What is left of all rows. -/
def parity (rs : List (List Int)) : List Int := (List.range (rowAt rs 0).length).map fun i => parTo rs i rs.length

theorem parity_length (rs : List (List Int)) : (parity rs).length = (rowAt rs 0).length := by simp [parity]

theorem nth_parity {rs : List (List Int)} {i : Nat} (h : i < (rowAt rs 0).length) : nth (parity rs) i = parTo rs i rs.length := by
  rw [nth_lt (by rw [parity_length]; exact h)]
  simp [parity]

theorem parTo_byte {n : Nat} {rs : List (List Int)} {i : Nat} (hi : i < n) : ∀ {k : Nat}, (∀ j, j < k → Good n (rowAt rs j)) → isByte (parTo rs i k)
  | 0, _ => by simp [parTo, isByte]
  | k + 1, h => by
    have g := h k (by omega)
    exact bx_byte (parTo_byte hi fun j hj => h j (by omega)) (g.2.2 i (by rw [g.2.1]; exact hi))

end Go.Proofs.Ythgbknfdbobmiaa
