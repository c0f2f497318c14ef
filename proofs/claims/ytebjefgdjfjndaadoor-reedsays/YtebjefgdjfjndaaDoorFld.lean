/- This text proves plain facts on bytes as a field of 256 elements: doubling, products, powers; it speaks of no program; no condition. -/
import Derived.WalkKit
namespace Go.Proofs.YtebjefgdjfjndaaDoor

/-- The double of a byte. -/
def xt (a : Nat) : Nat := (a <<< 1) ^^^ (if a.testBit 7 then 285 else 0)

/-- Doubled so many times. -/
def xp (k a : Nat) : Nat := Nat.rec a (fun _ r => xt r) k

theorem xp_zero (a : Nat) : xp 0 a = a := rfl
theorem xp_succ (k a : Nat) : xp (k + 1) a = xt (xp k a) := rfl

theorem xt_xor (a b : Nat) : xt (a ^^^ b) = xt a ^^^ xt b := by
  unfold xt
  rw [Nat.testBit_xor, Nat.shiftLeft_xor_distrib]
  have c := Nat.xor_assoc
  have d := Nat.xor_comm
  cases a.testBit 7 <;> cases b.testBit 7 <;> simp
  · rw [c]
  · rw [c, c, d (b <<< 1) 285]
  · rw [c, ← c 285 _ 285, d 285 (b <<< 1), c (b <<< 1), Nat.xor_self, Nat.xor_zero]

theorem xt_zero : xt 0 = 0 := by decide
theorem xp_of_zero (k : Nat) : xp k 0 = 0 := by
  induction k with
  | zero => rfl
  | succ k ih => rw [xp_succ, ih, xt_zero]

theorem xp_xor (k a b : Nat) : xp k (a ^^^ b) = xp k a ^^^ xp k b := by
  induction k with
  | zero => rfl
  | succ k ih => rw [xp_succ, xp_succ, xp_succ, ih, xt_xor]

theorem xp_xt (k a : Nat) : xp k (xt a) = xt (xp k a) := by
  induction k with
  | zero => rfl
  | succ k ih => rw [xp_succ, xp_succ, ih]

theorem xp_add (i j a : Nat) : xp (i + j) a = xp i (xp j a) := by
  induction i with
  | zero => rw [Nat.zero_add]; rfl
  | succ k ih => rw [Nat.succ_add, xp_succ, xp_succ, ih]

theorem xt_byte_all : ∀ a, a < 256 → xt a < 256 := by decide +kernel
theorem xt_null_all : ∀ a, a < 256 → xt a = 0 → a = 0 := by decide +kernel

theorem xp_byte {k a : Nat} (h : a < 256) : xp k a < 256 := by
  induction k with
  | zero => exact h
  | succ k ih => exact xt_byte_all _ ih

theorem xp_null {k a : Nat} (h : a < 256) (e : xp k a = 0) : a = 0 := by
  induction k with
  | zero => exact e
  | succ k ih => exact ih (xt_null_all _ (xp_byte h) e)

/-- A sum of doubles, as the bits of a number choose them. -/
def gmN (n a b : Nat) : Nat := Nat.rec 0 (fun k r => r ^^^ (if b.testBit k then xp k a else 0)) n

theorem gmN_zero (a b : Nat) : gmN 0 a b = 0 := rfl
theorem gmN_succ (n a b : Nat) : gmN (n + 1) a b = gmN n a b ^^^ (if b.testBit n then xp n a else 0) := rfl

/-- The product of two bytes. -/
def gm (a b : Nat) : Nat := gmN 8 a b

theorem xor4 (a b c d : Nat) : (a ^^^ b) ^^^ (c ^^^ d) = (a ^^^ c) ^^^ (b ^^^ d) := by
  rw [Nat.xor_assoc, ← Nat.xor_assoc b, Nat.xor_comm b c, Nat.xor_assoc c, ← Nat.xor_assoc]

theorem gmN_right (n a b c : Nat) : gmN n a (b ^^^ c) = gmN n a b ^^^ gmN n a c := by
  induction n with
  | zero => simp [gmN_zero]
  | succ n ih =>
    rw [gmN_succ, gmN_succ, gmN_succ, ih, xor4]
    congr 1
    rw [Nat.testBit_xor]
    cases b.testBit n <;> cases c.testBit n <;> simp

theorem gmN_left (n a b c : Nat) : gmN n (a ^^^ b) c = gmN n a c ^^^ gmN n b c := by
  induction n with
  | zero => simp [gmN_zero]
  | succ n ih =>
    rw [gmN_succ, gmN_succ, gmN_succ, ih, xor4]
    congr 1
    cases c.testBit n <;> simp [xp_xor]

theorem gmN_xt (n a b : Nat) : gmN n (xt a) b = xt (gmN n a b) := by
  induction n with
  | zero => exact xt_zero.symm
  | succ n ih =>
    rw [gmN_succ, gmN_succ, ih, xt_xor]
    congr 1
    cases b.testBit n <;> simp [xp_xt, xt_zero]

theorem gm_xp (k a b : Nat) : gm (xp k a) b = xp k (gm a b) := by
  induction k with
  | zero => rfl
  | succ k ih => rw [xp_succ, xp_succ, ← ih]; exact gmN_xt 8 _ b

theorem gm_left (a b c : Nat) : gm (a ^^^ b) c = gm a c ^^^ gm b c := gmN_left 8 a b c
theorem gm_right (a b c : Nat) : gm a (b ^^^ c) = gm a b ^^^ gm a c := gmN_right 8 a b c

theorem one_gm_all : ∀ b, b < 256 → gm 1 b = b := by decide +kernel
theorem one_gm {b : Nat} (h : b < 256) : gm 1 b = b := one_gm_all b h

theorem gm_zero (a : Nat) : gm a 0 = 0 := by
  have := gm_right a 0 0
  rw [Nat.xor_self] at this
  rw [this, Nat.xor_self]
theorem zero_gm (a : Nat) : gm 0 a = 0 := by
  have := gm_left 0 0 a
  rw [Nat.xor_self] at this
  rw [this, Nat.xor_self]

/-- How often 1 is doubled to a byte. -/
def logs : List Nat := [0, 0, 1, 25, 2, 50, 26, 198, 3, 223, 51, 238, 27, 104, 199, 75, 4, 100, 224, 14, 52, 141, 239, 129, 28, 193, 105, 248, 200, 8, 76, 113, 5, 138, 101, 47, 225, 36, 15, 33, 53, 147, 142, 218, 240, 18, 130, 69, 29, 181, 194, 125, 106, 39, 249, 185, 201, 154, 9, 120, 77, 228, 114, 166, 6, 191, 139, 98, 102, 221, 48, 253, 226, 152, 37, 179, 16, 145, 34, 136, 54, 208, 148, 206, 143, 150, 219, 189, 241, 210, 19, 92, 131, 56, 70, 64, 30, 66, 182, 163, 195, 72, 126, 110, 107, 58, 40, 84, 250, 133, 186, 61, 202, 94, 155, 159, 10, 21, 121, 43, 78, 212, 229, 172, 115, 243, 167, 87, 7, 112, 192, 247, 140, 128, 99, 13, 103, 74, 222, 237, 49, 197, 254, 24, 227, 165, 153, 119, 38, 184, 180, 124, 17, 68, 146, 217, 35, 32, 137, 46, 55, 63, 209, 91, 149, 188, 207, 205, 144, 135, 151, 178, 220, 252, 190, 97, 242, 86, 211, 171, 20, 42, 93, 158, 132, 60, 57, 83, 71, 109, 65, 162, 31, 45, 67, 216, 183, 123, 164, 118, 196, 23, 73, 236, 127, 12, 111, 246, 108, 161, 59, 82, 41, 157, 85, 170, 251, 96, 134, 177, 187, 204, 62, 90, 203, 89, 95, 176, 156, 169, 160, 81, 11, 245, 22, 235, 122, 117, 44, 215, 79, 174, 213, 233, 230, 231, 173, 232, 116, 214, 244, 234, 168, 80, 88, 175]

theorem logs_all : ∀ a, a < 256 → a ≠ 0 → xp (logs.getD a 0) 1 = a := by decide +kernel

theorem gen {a : Nat} (h : a < 256) (h0 : a ≠ 0) : ∃ i, a = xp i 1 := ⟨_, (logs_all a h h0).symm⟩

theorem around : xp 255 1 = 1 := by decide +kernel

theorem gm_gen (i j : Nat) : gm (xp i 1) (xp j 1) = xp (i + j) 1 := by
  rw [gm_xp, one_gm (xp_byte (by decide)), xp_add]

theorem gm_byte {a b : Nat} (ha : a < 256) (hb : b < 256) : gm a b < 256 := by
  by_cases h : a = 0
  · subst h; rw [zero_gm]; decide
  · obtain ⟨i, rfl⟩ := gen ha h
    rw [gm_xp, one_gm hb]
    exact xp_byte hb

theorem gm_comm {a b : Nat} (ha : a < 256) (hb : b < 256) : gm a b = gm b a := by
  by_cases h : a = 0
  · subst h; rw [zero_gm, gm_zero]
  by_cases k : b = 0
  · subst k; rw [zero_gm, gm_zero]
  obtain ⟨i, rfl⟩ := gen ha h
  obtain ⟨j, rfl⟩ := gen hb k
  rw [gm_gen, gm_gen, Nat.add_comm]

theorem gm_assoc {a b c : Nat} (ha : a < 256) (hb : b < 256) (hc : c < 256) : gm (gm a b) c = gm a (gm b c) := by
  by_cases h : a = 0
  · subst h; rw [zero_gm, zero_gm, zero_gm]
  obtain ⟨i, rfl⟩ := gen ha h
  rw [gm_xp, gm_xp, one_gm hb, gm_xp, one_gm (gm_byte hb hc)]

theorem gm_one {a : Nat} (ha : a < 256) : gm a 1 = a := by rw [gm_comm ha (by decide), one_gm ha]

theorem gm_null {a b : Nat} (ha : a < 256) (hb : b < 256) (e : gm a b = 0) : a = 0 ∨ b = 0 := by
  by_cases h : a = 0
  · exact .inl h
  · obtain ⟨i, rfl⟩ := gen ha h
    rw [gm_xp, one_gm hb] at e
    exact .inr (xp_null hb e)

/-- A power of a byte. -/
def gpow (a n : Nat) : Nat := Nat.rec 1 (fun _ r => gm r a) n

theorem gpow_zero (a : Nat) : gpow a 0 = 1 := rfl
theorem gpow_succ (a n : Nat) : gpow a (n + 1) = gm (gpow a n) a := rfl
theorem gpow_byte {a n : Nat} (ha : a < 256) : gpow a n < 256 := by
  induction n with
  | zero => rw [gpow_zero]; decide
  | succ n ih => exact gm_byte ih ha

theorem gpow_gen (i n : Nat) : gpow (xp i 1) n = xp (i * n) 1 := by
  induction n with
  | zero => rfl
  | succ n ih => rw [gpow_succ, ih, gm_gen, Nat.mul_succ]

theorem gpow_add {a : Nat} (ha : a < 256) (n m : Nat) : gm (gpow a n) (gpow a m) = gpow a (n + m) := by
  induction m with
  | zero => rw [gpow_zero, gm_one (gpow_byte ha)]; rfl
  | succ m ih => rw [gpow_succ, ← gm_assoc (gpow_byte ha) (gpow_byte ha) ha, ih]; rfl

theorem gpow_sq {a : Nat} (ha : a < 256) (n : Nat) : gpow (gm a a) n = gpow a (2 * n) := by
  induction n with
  | zero => rfl
  | succ n ih => rw [gpow_succ, ih, ← gm_assoc (gpow_byte ha) ha ha]; rfl

theorem xp_round (i : Nat) : xp (255 * i) 1 = 1 := by
  induction i with
  | zero => rfl
  | succ i ih => rw [Nat.mul_succ, xp_add, around, ih]

theorem fermat {a : Nat} (ha : a < 256) (h0 : a ≠ 0) : gpow a 255 = 1 := by
  obtain ⟨i, rfl⟩ := gen ha h0
  rw [gpow_gen, Nat.mul_comm, xp_round]

theorem gpow_null (n : Nat) : gpow 0 (n + 1) = 0 := by rw [gpow_succ, gm_zero]

/-- What was divided comes back. -/
theorem gdiv_back {a b : Nat} (ha : a < 256) (hb : b < 256) (h0 : b ≠ 0) : gm (gm a (gpow b 254)) b = a := by
  rw [gm_assoc ha (gpow_byte hb) hb]
  have : gm (gpow b 254) b = 1 := by rw [← gpow_succ]; exact fermat hb h0
  rw [this, gm_one ha]

theorem gm_cancel {x y b : Nat} (hx : x < 256) (hy : y < 256) (hb : b < 256) (h0 : b ≠ 0) (e : gm x b = gm y b) : x = y := by
  have h : gm (x ^^^ y) b = 0 := by rw [gm_left, e, Nat.xor_self]
  rcases gm_null (Nat.xor_lt_two_pow (n := 8) hx hy) hb h with h | h
  · have : x = (x ^^^ y) ^^^ y := by rw [Nat.xor_assoc, Nat.xor_self, Nat.xor_zero]
    rw [this, h, Nat.zero_xor]
  · exact absurd h h0

end Go.Proofs.YtebjefgdjfjndaaDoor
