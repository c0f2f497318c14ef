/- This text proves plain facts on products of bits and on what is left of them: that taking 285 away from above leaves the product of the field, and that going from the highest bit down does, too; it speaks of no program; no condition. -/
import Derived.Test.YtebjefgdjfjndaaDoorFld
namespace Go.Proofs.YtebjefgdjfjndaaDoor

/-- A product of bits, so far. -/
def clN (n a b : Nat) : Nat := Nat.rec 0 (fun k r => r ^^^ (if b.testBit k then a <<< k else 0)) n

theorem clN_zero (a b : Nat) : clN 0 a b = 0 := rfl
theorem clN_succ (n a b : Nat) : clN (n + 1) a b = clN n a b ^^^ (if b.testBit n then a <<< n else 0) := rfl

theorem clN_lt {n a b : Nat} (ha : a < 256) (hn : n ≤ 8) : clN n a b < 2 ^ 15 := by
  induction n with
  | zero => rw [clN_zero]; decide
  | succ n ih =>
    rw [clN_succ]
    refine Nat.xor_lt_two_pow (ih (by omega)) ?_
    cases b.testBit n
    · simp
    · simp only [if_true]
      rw [Nat.shiftLeft_eq]
      have : 2 ^ n ≤ 2 ^ 7 := Nat.pow_le_pow_right (by decide) (by omega)
      calc a * 2 ^ n ≤ 255 * 2 ^ 7 := Nat.mul_le_mul (by omega) this
        _ < 2 ^ 15 := by decide

/-- What is left of a product: the sum of the powers of 2 that its bits choose. -/
def rd (n p : Nat) : Nat := gmN n 1 p

theorem rd_xor (n p q : Nat) : rd n (p ^^^ q) = rd n p ^^^ rd n q := gmN_right n 1 p q

theorem rd_byte {n p : Nat} (h : p < 2 ^ 8) : rd (8 + n) p = p := by
  induction n with
  | zero => exact one_gm h
  | succ n ih =>
    show gmN (8 + n + 1) 1 p = p
    rw [gmN_succ]
    have : p.testBit (8 + n) = false := Nat.testBit_lt_two_pow (Nat.lt_of_lt_of_le h (Nat.pow_le_pow_right (by decide) (by omega)))
    rw [this, show gmN (8 + n) 1 p = p from ih]
    simp

theorem rd_mod : ∀ s, s < 7 → rd 16 (285 <<< s) = 0 := by decide +kernel

theorem rd_double (n p : Nat) : rd (n + 1) (p <<< 1) = xt (rd n p) := by
  induction n with
  | zero => show gmN 1 1 (p <<< 1) = xt (gmN 0 1 p); rw [gmN_succ, gmN_zero, gmN_zero]; simp [xt_zero]
  | succ n ih =>
    show gmN (n + 1 + 1) 1 (p <<< 1) = xt (gmN (n + 1) 1 p)
    rw [gmN_succ (n + 1), gmN_succ n 1 p, xt_xor, ← show xt (rd n p) = xt (gmN n 1 p) from rfl, ← ih]
    congr 1
    have : (p <<< 1).testBit (n + 1) = p.testBit n := by simp
    rw [this]
    cases p.testBit n
    · simp [xt_zero]
    · simp [xp_succ]

theorem rd_more {n p : Nat} (h : p < 2 ^ n) : rd (n + 1) p = rd n p := by
  show gmN (n + 1) 1 p = gmN n 1 p
  rw [gmN_succ, Nat.testBit_lt_two_pow h]
  simp

theorem rd_shift {a : Nat} (ha : a < 256) (k : Nat) (hk : k < 8) : rd 16 (a <<< k) = xp k a := by
  induction k with
  | zero => exact rd_byte (n := 8) ha
  | succ k ih =>
    rw [xp_succ, ← ih (by omega), Nat.shiftLeft_add]
    have e : rd 16 (a <<< k) = rd 15 (a <<< k) := rd_more ?_
    · rw [e]; exact rd_double 15 _
    rw [Nat.shiftLeft_eq]
    have : 2 ^ k ≤ 2 ^ 6 := Nat.pow_le_pow_right (by decide) (by omega)
    calc a * 2 ^ k ≤ 255 * 2 ^ 6 := Nat.mul_le_mul (by omega) this
      _ < 2 ^ 15 := by decide

theorem rd_cl {a : Nat} (b n : Nat) (ha : a < 256) (hn : n ≤ 8) : rd 16 (clN n a b) = gmN n a b := by
  induction n with
  | zero => rw [clN_zero, gmN_zero]; decide +kernel
  | succ n ih =>
    rw [clN_succ, gmN_succ, rd_xor, ih (by omega)]
    congr 1
    cases b.testBit n
    · simp; decide +kernel
    · simp only [if_true]; exact rd_shift ha n (by omega)

/-- Two numbers whose highest bits meet. -/
theorem top_xor {p q l : Nat} (hp : 2 ^ l ≤ p) (hp' : p < 2 ^ (l + 1)) (hq : 2 ^ l ≤ q) (hq' : q < 2 ^ (l + 1)) : p ^^^ q < 2 ^ l := by
  have hb : ∀ {x : Nat}, 2 ^ l ≤ x → x < 2 ^ (l + 1) → x.testBit l = true := fun {x} h1 h2 => by
    rw [Nat.testBit_eq_decide_div_mod_eq]
    have e : x / 2 ^ l = 1 := by
      have : 2 ^ (l + 1) = 2 * 2 ^ l := by rw [Nat.pow_succ, Nat.mul_comm]
      exact Nat.div_eq_of_lt_le (by omega) (by omega)
    rw [e]; rfl
  have hlt : p ^^^ q < 2 ^ (l + 1) := Nat.xor_lt_two_pow hp' hq'
  refine Nat.lt_pow_two_of_testBit _ fun i hi => ?_
  by_cases h : i = l
  · subst h; rw [Nat.testBit_xor, hb hp hp', hb hq hq']; rfl
  · exact Nat.testBit_lt_two_pow (Nat.lt_of_lt_of_le hlt (Nat.pow_le_pow_right (by decide) (by omega)))

/-- One step down. -/
theorem rd_step {p s : Nat} (h1 : 2 ^ (s + 8) ≤ p) (h2 : p < 2 ^ (s + 9)) (hs : s < 7) :
    p ^^^ (285 <<< s) < 2 ^ (s + 8) ∧ rd 16 (p ^^^ (285 <<< s)) = rd 16 p := by
  constructor
  · have e : 285 <<< s = 285 * 2 ^ s := Nat.shiftLeft_eq 285 s
    have e1 : 2 ^ (s + 8) = 2 ^ s * 256 := by rw [Nat.pow_add]
    have e2 : 2 ^ (s + 8 + 1) = 2 ^ s * 512 := by rw [Nat.pow_add, Nat.pow_add, Nat.mul_assoc]
    have e3 : 2 ^ (s + 9) = 2 ^ s * 512 := by rw [Nat.pow_add]
    exact top_xor h1 h2 (by omega) (by omega)
  · rw [rd_xor, rd_mod s hs, Nat.xor_zero]

/-- From the highest bit down: what is left of the lower bits is still to come. -/
def hn (n a b : Nat) : Nat := Nat.rec 0 (fun k r => xt r ^^^ (if b.testBit (7 - k) then a else 0)) n

theorem hn_zero (a b : Nat) : hn 0 a b = 0 := rfl
theorem hn_succ (n a b : Nat) : hn (n + 1) a b = xt (hn n a b) ^^^ (if b.testBit (7 - n) then a else 0) := rfl

theorem hn_lt {n a b : Nat} (ha : a < 256) : hn n a b < 256 := by
  induction n with
  | zero => rw [hn_zero]; decide
  | succ n ih =>
    rw [hn_succ]
    refine Nat.xor_lt_two_pow (n := 8) (xt_byte_all _ ih) ?_
    cases b.testBit (7 - n) <;> simp [ha]

theorem hn_rest (a b : Nat) (n : Nat) (h : n ≤ 8) : xp (8 - n) (hn n a b) ^^^ gmN (8 - n) a b = gm a b := by
  induction n with
  | zero => rw [hn_zero, xp_of_zero, Nat.zero_xor]; rfl
  | succ n ih =>
    rw [← ih (by omega)]
    obtain ⟨m, hm⟩ : ∃ m, 8 - n = m + 1 := ⟨7 - n, by omega⟩
    have e1 : 8 - (n + 1) = m := by omega
    have e2 : 7 - n = m := by omega
    rw [hm, e1, hn_succ, e2, gmN_succ, xp_xor, xp_succ, xp_xt, Nat.xor_assoc]
    congr 1
    rw [Nat.xor_comm]
    congr 1
    cases b.testBit m <;> simp [xp_of_zero]

theorem hn_all (a b : Nat) : hn 8 a b = gm a b := by
  have := hn_rest a b 8 (Nat.le_refl _)
  simpa [xp_zero, gmN_zero] using this

theorem xt_if {a : Nat} (h : a < 256) : xt a = if 2 * a > 255 then (2 * a) ^^^ 285 else 2 * a := by
  revert h; revert a; decide +kernel

end Go.Proofs.YtebjefgdjfjndaaDoor
