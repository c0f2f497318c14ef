/- This text proves plain facts on words of 32 bits: rows of ones, how many ones there are, the longest row of zeros, and the first row of zeros that is long enough; it speaks of no program; no condition. -/
import Derived.WalkKit
import Derived.Outline
import Derived.WalkSpells
import Derived.WalkLawsBesides
namespace Go.Proofs.Ytihefpnagdacpaa
open Go.RowKit

/-- The word with n ones from place a on. -/
def msk (a n : Nat) : Nat := (2 ^ n - 1) * 2 ^ a

theorem msk_bit (a n i : Nat) : (msk a n).testBit i = decide (a ≤ i ∧ i < a + n) := by
  unfold msk
  rw [Nat.testBit_mul_two_pow, Nat.testBit_two_pow_sub_one]
  by_cases h : a ≤ i
  · simp only [h, decide_true, Bool.true_and, true_and]
    exact decide_eq_decide.2 (by omega)
  · simp [h]

theorem msk_lt {a n : Nat} (h : a + n ≤ 32) : msk a n < 2 ^ 32 := by
  refine Nat.lt_pow_two_of_testBit _ fun i hi => ?_
  rw [msk_bit]
  simp only [decide_eq_false_iff_not]
  omega

/-- The n places from a on are 0, or are 1. -/
def fr (m a n : Nat) : Prop := ∀ i, a ≤ i → i < a + n → m.testBit i = false
def tk (m a n : Nat) : Prop := ∀ i, a ≤ i → i < a + n → m.testBit i = true

theorem and_fr {m a n : Nat} : m &&& msk a n = 0 ↔ fr m a n := by
  constructor
  · intro h i h1 h2
    have := congrArg (fun x => x.testBit i) h
    simp only [Nat.testBit_and, msk_bit, Nat.zero_testBit] at this
    rw [decide_eq_true ⟨h1, h2⟩, Bool.and_true] at this
    exact this
  · intro h
    refine Nat.eq_of_testBit_eq fun i => ?_
    rw [Nat.testBit_and, msk_bit, Nat.zero_testBit]
    by_cases hi : a ≤ i ∧ i < a + n
    · rw [h i hi.1 hi.2]; rfl
    · rw [decide_eq_false hi, Bool.and_false]

theorem and_tk {m a n : Nat} : m &&& msk a n = msk a n ↔ tk m a n := by
  constructor
  · intro h i h1 h2
    have := congrArg (fun x => x.testBit i) h
    simp only [Nat.testBit_and, msk_bit] at this
    rw [decide_eq_true ⟨h1, h2⟩, Bool.and_true] at this
    exact this
  · intro h
    refine Nat.eq_of_testBit_eq fun i => ?_
    rw [Nat.testBit_and, msk_bit]
    by_cases hi : a ≤ i ∧ i < a + n
    · rw [h i hi.1 hi.2, decide_eq_true hi]; rfl
    · rw [decide_eq_false hi, Bool.and_false]

/-- The word with the ones of another one besides, and without them. -/
def put (m a n : Nat) : Nat := m ||| msk a n
def cut (m a n : Nat) : Nat := m &&& (2 ^ 32 - 1 - msk a n)

theorem put_bit (m a n i : Nat) : (put m a n).testBit i = (m.testBit i || decide (a ≤ i ∧ i < a + n)) := by
  unfold put; rw [Nat.testBit_or, msk_bit]
theorem cut_bit {m a n : Nat} (hm : m < 2 ^ 32) (h : a + n ≤ 32) (i : Nat) : (cut m a n).testBit i = (m.testBit i && !decide (a ≤ i ∧ i < a + n)) := by
  unfold cut
  rw [Nat.testBit_and, show 2 ^ 32 - 1 - msk a n = 2 ^ 32 - (msk a n + 1) by omega, Nat.testBit_two_pow_sub_succ (msk_lt h), msk_bit]
  by_cases hi : i < 32
  · simp [hi]
  · rw [Nat.testBit_lt_two_pow (Nat.lt_of_lt_of_le hm (Nat.pow_le_pow_right (by decide) (by omega)))]
    rfl
theorem put_lt {m a n : Nat} (hm : m < 2 ^ 32) (h : a + n ≤ 32) : put m a n < 2 ^ 32 := Nat.or_lt_two_pow hm (msk_lt h)
theorem cut_lt {m a n : Nat} (hm : m < 2 ^ 32) : cut m a n < 2 ^ 32 := by
  unfold cut
  exact Nat.lt_of_le_of_lt Nat.and_le_left hm

theorem ofInt32 {p : Nat} (h : p < 2 ^ 32) : (BitVec.ofInt 32 (p : Int)).toNat = p := by
  rw [BitVec.toNat_ofInt]; omega

theorem and32 {p q : Nat} (hp : p < 2 ^ 32) (hq : q < 2 ^ 32) : bits .and .u32 (p : Int) (q : Int) = ((p &&& q : Nat) : Int) := by
  have hx : p &&& q < 2 ^ 32 := Nat.and_lt_two_pow p hq
  unfold bits
  simp only []
  have e : IntKind.u32.bits = 32 := rfl
  rw [BitVec.toNat_and, e, ofInt32 hp, ofInt32 hq, IntKind.wrap_u32]
  omega
theorem or32 {p q : Nat} (hp : p < 2 ^ 32) (hq : q < 2 ^ 32) : bits .or .u32 (p : Int) (q : Int) = ((p ||| q : Nat) : Int) := by
  have hx : p ||| q < 2 ^ 32 := Nat.or_lt_two_pow hp hq
  unfold bits
  simp only []
  have e : IntKind.u32.bits = 32 := rfl
  rw [BitVec.toNat_or, e, ofInt32 hp, ofInt32 hq, IntKind.wrap_u32]
  omega
theorem andNot32 {p q : Nat} (hp : p < 2 ^ 32) (hq : q < 2 ^ 32) : bits .andNot .u32 (p : Int) (q : Int) = ((p &&& (2 ^ 32 - 1 - q) : Nat) : Int) := by
  have hx : p &&& (2 ^ 32 - 1 - q) < 2 ^ 32 := Nat.lt_of_le_of_lt Nat.and_le_left hp
  unfold bits
  simp only []
  have e : IntKind.u32.bits = 32 := rfl
  rw [BitVec.toNat_and, BitVec.toNat_not, e, ofInt32 hp, ofInt32 hq, IntKind.wrap_u32]
  omega

/-- How many of the first k places are 1. -/
def cnt (m : Nat) : Nat → Nat
  | 0 => 0
  | k + 1 => cnt m k + (m.testBit k).toNat

theorem cnt_le (m : Nat) : ∀ k, cnt m k ≤ k
  | 0 => Nat.le_refl _
  | k + 1 => by
    have := cnt_le m k
    have := Bool.toNat_le (m.testBit k)
    simp only [cnt]
    omega

theorem cnt_split (m a : Nat) : ∀ b, cnt m (a + b) = cnt m a + cnt (m / 2 ^ a) b
  | 0 => rfl
  | b + 1 => by
    show cnt m (a + b) + (m.testBit (a + b)).toNat = _
    rw [cnt_split m a b, cnt, Nat.add_assoc]
    congr 2
    rw [Nat.testBit_div_two_pow, Nat.add_comm]

theorem cnt_mod (m n : Nat) : ∀ k, k ≤ n → cnt (m % 2 ^ n) k = cnt m k
  | 0, _ => rfl
  | k + 1, h => by
    rw [cnt, cnt, cnt_mod m n k (by omega), Nat.testBit_mod_two_pow]
    simp [show k < n by omega]

/-- A row of zeros that is filled: as many ones more. -/
theorem cnt_put {m a n : Nat} (h : fr m a n) : ∀ k, cnt (put m a n) k = cnt m k + (min k (a + n) - min k a)
  | 0 => by simp [cnt]
  | k + 1 => by
    rw [cnt, cnt, cnt_put h k, put_bit]
    by_cases hk : a ≤ k ∧ k < a + n
    · rw [h k hk.1 hk.2, decide_eq_true hk]
      simp only [Bool.or_true, Bool.toNat_true, Bool.toNat_false]
      omega
    · rw [decide_eq_false hk, Bool.or_false]
      omega

/-- How many zeros stand right ahead of place k; how many there are beside each other at most, ahead of place k. -/
def gp (m : Nat) : Nat → Nat
  | 0 => 0
  | k + 1 => if m.testBit k = true then 0 else gp m k + 1
def ms (m : Nat) : Nat → Nat
  | 0 => 0
  | k + 1 => if m.testBit k = true then ms m k else max (ms m k) (gp m k + 1)

theorem gp_le (m : Nat) : ∀ k, gp m k ≤ k
  | 0 => Nat.le_refl _
  | k + 1 => by have := gp_le m k; unfold gp; split <;> omega
theorem ms_le (m : Nat) : ∀ k, ms m k ≤ k
  | 0 => Nat.le_refl _
  | k + 1 => by have := gp_le m k; have := ms_le m k; unfold ms; split <;> omega

theorem gp_most {m a : Nat} : ∀ {n k}, a + n = k → fr m a n → n ≤ gp m k
  | 0, _, _, _ => Nat.zero_le _
  | n + 1, k, e, h => by
    subst e
    have h1 := h (a + n) (by omega) (by omega)
    have h2 := gp_most (n := n) rfl fun i k1 k2 => h i k1 (by omega)
    show n + 1 ≤ gp m (a + n + 1)
    simp only [gp, h1]
    simp only [Bool.false_eq_true, if_false]
    omega

theorem gp_free (m : Nat) : ∀ k, fr m (k - gp m k) (gp m k)
  | 0 => fun i _ h => by simp [gp] at h
  | k + 1 => by
    by_cases h : m.testBit k = true
    · simp only [gp, if_pos h]
      exact fun i h1 h2 => by omega
    · simp only [gp, if_neg h]
      have hl := gp_le m k
      intro i h1 h2
      by_cases hi : i = k
      · rw [hi]; simpa using h
      · exact gp_free m k i (by omega) (by omega)

theorem ms_most {m : Nat} : ∀ {k a n}, a + n ≤ k → fr m a n → n ≤ ms m k
  | 0, a, n, e, _ => by omega
  | k + 1, a, n, e, h => by
    by_cases hk : a + n ≤ k
    · have := ms_most hk h
      unfold ms
      split <;> omega
    · have e : a + n = k + 1 := by omega
      have h1 := gp_most e h
      by_cases h0 : n = 0
      · omega
      · have h2 := h k (by omega) (by omega)
        simp only [gp, ms, h2, Bool.false_eq_true, if_false] at h1 ⊢
        omega

theorem ms_free (m : Nat) : ∀ k, ∃ a, a + ms m k ≤ k ∧ fr m a (ms m k)
  | 0 => ⟨0, by simp [ms], fun i _ h => by simp [ms] at h⟩
  | k + 1 => by
    obtain ⟨a, h1, h2⟩ := ms_free m k
    by_cases h : m.testBit k = true
    · simp only [ms, if_pos h]
      exact ⟨a, by omega, h2⟩
    · simp only [ms, if_neg h]
      by_cases hg : gp m k + 1 ≤ ms m k
      · rw [Nat.max_eq_left hg]
        exact ⟨a, by omega, h2⟩
      · rw [Nat.max_eq_right (by omega)]
        have := gp_free m (k + 1)
        simp only [gp, if_neg h] at this
        have hl := gp_le m k
        exact ⟨k + 1 - (gp m k + 1), by omega, this⟩

/-- Some row of n zeros is there just if the longest one is that long. -/
theorem ms_iff (m n : Nat) : n ≤ ms m 32 ↔ ∃ a, a + n ≤ 32 ∧ fr m a n := by
  constructor
  · intro h
    obtain ⟨a, h1, h2⟩ := ms_free m 32
    exact ⟨a, by omega, fun i k1 k2 => h2 i k1 (by omega)⟩
  · rintro ⟨a, h1, h2⟩
    exact ms_most h1 h2

/-- The first place from which on there are n zeros. -/
def fst? (m n : Nat) : Option Nat := (List.range (33 - n)).find? fun a => decide (m &&& msk a n = 0)

theorem fst_some {m n k : Nat} (h : fst? m n = some k) : k + n ≤ 32 ∧ fr m k n ∧ ∀ a, a < k → ¬ fr m a n := by
  unfold fst? at h
  obtain ⟨h1, i, hi, h2, h3⟩ := List.find?_eq_some_iff_getElem.1 h
  rw [List.length_range] at hi
  rw [List.getElem_range] at h2
  subst h2
  refine ⟨by omega, and_fr.1 (by simpa using h1), fun a ha hf => ?_⟩
  have := h3 a ha
  rw [List.getElem_range] at this
  simp [and_fr.2 hf] at this

theorem fst_none {m n : Nat} (h : fst? m n = none) : ∀ a, a + n ≤ 32 → ¬ fr m a n := by
  unfold fst? at h
  intro a ha hf
  have := List.find?_eq_none.1 h a (List.mem_range.2 (by omega))
  simp [and_fr.2 hf] at this

/-- What Take tells (where, and which error), and the word behind it. -/
def tkAt (m : Nat) (n : Int) : Nat := if 1 ≤ n ∧ n ≤ 32 then (fst? m n.toNat).getD 0 else 0
def tkE (m : Nat) (n : Int) : Nat := if 1 ≤ n ∧ n ≤ 32 then (if (fst? m n.toNat).isSome then 0 else 4) else 1
def tkM (m : Nat) (n : Int) : Nat := if 1 ≤ n ∧ n ≤ 32 then (match fst? m n.toNat with | some k => put m k n.toNat | none => m) else m
/-- What Back tells, and the word behind it. -/
def okB (a n : Int) : Prop := 1 ≤ n ∧ n ≤ 32 ∧ 0 ≤ a ∧ a ≤ 32 - n
def bkE (m : Nat) (a n : Int) : Nat := if 1 ≤ n ∧ n ≤ 32 ∧ 0 ≤ a ∧ a ≤ 32 - n then (if m &&& msk a.toNat n.toNat = msk a.toNat n.toNat then 0 else 5) else 1
def bkM (m : Nat) (a n : Int) : Nat := if 1 ≤ n ∧ n ≤ 32 ∧ 0 ≤ a ∧ a ≤ 32 - n then (if m &&& msk a.toNat n.toNat = msk a.toNat n.toNat then cut m a.toNat n.toNat else m) else m

theorem tkM_lt {m : Nat} (hm : m < 2 ^ 32) (n : Int) : tkM m n < 2 ^ 32 := by
  unfold tkM
  split
  · split
    · rename_i k hk
      exact put_lt hm (fst_some hk).1
    · exact hm
  · exact hm
theorem bkM_lt {m : Nat} (hm : m < 2 ^ 32) (a n : Int) : bkM m a n < 2 ^ 32 := by
  unfold bkM
  split
  · split
    · exact cut_lt hm
    · exact hm
  · exact hm

/-- What was taken is given back: the word is as it was. -/
theorem cut_put {m a n : Nat} (hm : m < 2 ^ 32) (h : a + n ≤ 32) (hf : fr m a n) : cut (put m a n) a n = m := by
  refine Nat.eq_of_testBit_eq fun i => ?_
  rw [cut_bit (put_lt hm h) h, put_bit]
  by_cases hi : a ≤ i ∧ i < a + n
  · rw [decide_eq_true hi, hf i hi.1 hi.2]; rfl
  · rw [decide_eq_false hi]; simp
theorem tk_put (m a n : Nat) : tk (put m a n) a n := fun i h1 h2 => by rw [put_bit, decide_eq_true ⟨h1, h2⟩, Bool.or_true]
theorem not_tk {m a n : Nat} (h : fr m a n) (hn : 0 < n) : ¬ tk m a n := fun k => by
  have h1 := h a (Nat.le_refl _) (by omega)
  have h2 := k a (Nat.le_refl _) (by omega)
  rw [h1] at h2; cases h2

end Go.Proofs.Ytihefpnagdacpaa
