/- This text proves plain facts on modes of nine bits: who may do what, what is masked, how a mode is shown, and read; it speaks of no program; no condition. -/
import Derived.WalkKit
import Derived.Outline
import Derived.WalkSpells
import Derived.WalkLawsBesides
namespace Go.Proofs.YtigoacnbbichoaaDoor
open Go.RowKit

/-- The bits of a number that are not in another one. -/
def an (a b : Nat) : Nat := a &&& (2 ^ 64 - 1 - b)

theorem an_bit {a b : Nat} (hb : b < 2 ^ 62) (ha : a < 2 ^ 62) (i : Nat) : (an a b).testBit i = (a.testBit i && !b.testBit i) := by
  unfold an
  rw [Nat.testBit_and, show 2 ^ 64 - 1 - b = 2 ^ 64 - (b + 1) by omega, Nat.testBit_two_pow_sub_succ (by omega)]
  by_cases hi : i < 64
  · simp [hi]
  · rw [Nat.testBit_lt_two_pow (Nat.lt_of_lt_of_le ha (Nat.pow_le_pow_right (by decide) (by omega)))]
    rfl
theorem an_le (a b : Nat) : an a b ≤ a := Nat.and_le_left
theorem an_zero {a b : Nat} (hb : b < 2 ^ 62) (ha : a < 2 ^ 62) : an a b = 0 ↔ ∀ i, a.testBit i = true → b.testBit i = true := by
  constructor
  · intro h i hi
    have := an_bit hb ha i
    rw [h, Nat.zero_testBit, hi, Bool.true_and] at this
    cases hx : b.testBit i
    · rw [hx] at this; cases this
    · rfl
  · intro h
    refine Nat.eq_of_testBit_eq fun i => ?_
    rw [an_bit hb ha, Nat.zero_testBit]
    cases hx : a.testBit i
    · rfl
    · rw [h i hx]; rfl
theorem an_again {a b : Nat} (ha : a < 2 ^ 62) (hb : b < 2 ^ 62) : an (an a b) b = an a b := by
  refine Nat.eq_of_testBit_eq fun i => ?_
  rw [an_bit hb (Nat.lt_of_le_of_lt (an_le _ _) ha), an_bit hb ha]
  cases a.testBit i <;> cases b.testBit i <;> rfl

theorem andNot_nat {p q : Nat} (hp : p < 2 ^ 62) (hq : q < 2 ^ 62) : bits .andNot .i64 (p : Int) (q : Int) = ((an p q : Nat) : Int) := by
  have hx : p &&& (2 ^ 64 - 1 - q) < 2 ^ 62 := Nat.lt_of_le_of_lt Nat.and_le_left hp
  unfold bits
  simp only []
  have e64 : IntKind.i64.bits = 64 := rfl
  rw [BitVec.toNat_and, BitVec.toNat_not, e64, ofInt_u64 p (by omega), ofInt_u64 q (by omega), IntKind.wrap_i64]
  show _ = ((p &&& (2 ^ 64 - 1 - q) : Nat) : Int)
  omega
theorem or_nat {p q : Nat} (hp : p < 2 ^ 62) (hq : q < 2 ^ 62) : bits .or .i64 (p : Int) (q : Int) = ((p ||| q : Nat) : Int) := by
  have hx : p ||| q < 2 ^ 62 := Nat.or_lt_two_pow hp hq
  unfold bits
  simp only []
  have e64 : IntKind.i64.bits = 64 := rfl
  rw [BitVec.toNat_or, e64, ofInt_u64 p (by omega), ofInt_u64 q (by omega), IntKind.wrap_i64]
  omega
theorem and_nat {p q : Nat} (hp : p < 2 ^ 62) (hq : q < 2 ^ 62) : bits .and .i64 (p : Int) (q : Int) = ((p &&& q : Nat) : Int) := by
  have hx : p &&& q < 2 ^ 62 := Nat.and_lt_two_pow p hq
  unfold bits
  simp only []
  have e64 : IntKind.i64.bits = 64 := rfl
  rw [BitVec.toNat_and, e64, ofInt_u64 p (by omega), ofInt_u64 q (by omega), IntKind.wrap_i64]
  omega
theorem and_seven (n : Nat) (h : n < 2 ^ 62) : bits .and .i64 (n : Int) 7 = ((n % 8 : Nat) : Int) := by
  have := and_nat (p := n) (q := 7) h (by decide)
  have e : n &&& 7 = n % 8 := by
    have := Nat.and_two_pow_sub_one_eq_mod n 3
    simpa using this
  rw [e] at this
  exact this

/-- The three bits that count. -/
def bf (m : Nat) (o s : Bool) : Nat := if o then m / 64 else if s then m / 8 % 8 else m % 8

theorem bf_lt {m : Nat} (h : m < 512) (o s : Bool) : bf m o s < 8 := by
  unfold bf
  split
  · omega
  · split <;> omega
/-- Each of the three is one of the mode's. -/
theorem bf_bit (m : Nat) (o s : Bool) {i : Nat} (hi : i < 3) : (bf m o s).testBit i = m.testBit (i + if o then 6 else if s then 3 else 0) := by
  unfold bf
  cases o
  · cases s
    · show (m % 2 ^ 3).testBit i = _
      rw [Nat.testBit_mod_two_pow]
      simp [hi]
    · show (m / 2 ^ 3 % 2 ^ 3).testBit i = _
      rw [Nat.testBit_mod_two_pow, Nat.testBit_div_two_pow]
      simp [hi]
  · show (m / 2 ^ 6).testBit i = _
    rw [Nat.testBit_div_two_pow]
    simp

theorem bit_lt8 {a i : Nat} (h : a < 8) (hi : a.testBit i = true) : i < 3 := by
  rcases Nat.lt_or_ge i 3 with h3 | h3
  · exact h3
  · rw [Nat.testBit_lt_two_pow (Nat.lt_of_lt_of_le h (Nat.pow_le_pow_right (n := 2) (i := 3) (by decide) h3))] at hi
    cases hi

/-- Who may with fewer bits may with all. -/
theorem may_mask {m k t : Nat} (hm : m < 512) (hk : k < 512) (ht : t < 8) (o s : Bool) (h : an t (bf (an m k) o s) = 0) : an t (bf m o s) = 0 := by
  have hn : an m k < 512 := Nat.lt_of_le_of_lt (an_le _ _) hm
  have h1 := bf_lt hm o s
  have h2 := bf_lt hn o s
  rw [an_zero (by omega) (by omega)] at h ⊢
  intro i hi
  have i3 := bit_lt8 ht hi
  have := h i hi
  rw [bf_bit _ _ _ i3, an_bit (by omega) (by omega)] at this
  rw [bf_bit _ _ _ i3]
  revert this
  cases m.testBit (i + if o then 6 else if s then 3 else 0)
  · intro h; cases h
  · intro _; rfl
/-- Who may do all may do a part. -/
theorem may_part {b t p : Nat} (hb : b < 8) (ht : t < 8) (hp : p < 8) (h : an t b = 0) (h' : an p t = 0) : an p b = 0 := by
  rw [an_zero (by omega) (by omega)] at h h' ⊢
  exact fun i hi => h i (h' i hi)

/-- As the document says it: bit by bit. -/
def bitsB (t b : Int) : Bool := (t % 2 == 0 || b % 2 == 1) && (t / 2 % 2 == 0 || b / 2 % 2 == 1) && (t / 4 % 2 == 0 || b / 4 % 2 == 1)
theorem bits_all : ∀ t b : Fin 8, bitsB (t.val : Int) (b.val : Int) = decide (an t.val b.val = 0) := by decide +kernel
theorem bits_an {t b : Nat} (ht : t < 8) (hb : b < 8) : bitsB (t : Int) (b : Int) = decide (an t b = 0) := bits_all ⟨t, ht⟩ ⟨b, hb⟩

/-- Bits of nine that are in one and not in the other one, added up. -/
def lsTo (a b : Nat) : Nat → Nat
  | 0 => 0
  | k + 1 => if a / 2 ^ k % 2 = 1 ∧ b / 2 ^ k % 2 = 0 then lsTo a b k + 2 ^ k else lsTo a b k

theorem lsTo_mod {a b : Nat} (ha : a < 2 ^ 62) (hb : b < 2 ^ 62) : ∀ k, lsTo a b k = an a b % 2 ^ k
  | 0 => by simp [lsTo, Nat.mod_one]
  | k + 1 => by
    have ih := lsTo_mod ha hb k
    have hx := an_bit hb ha k
    rw [Nat.testBit_eq_decide_div_mod_eq, Nat.testBit_eq_decide_div_mod_eq, Nat.testBit_eq_decide_div_mod_eq] at hx
    rw [Nat.mod_pow_succ, lsTo, ih]
    have h2 : an a b / 2 ^ k % 2 < 2 := Nat.mod_lt _ (by decide)
    have h3 : b / 2 ^ k % 2 < 2 := Nat.mod_lt _ (by decide)
    by_cases c1 : a / 2 ^ k % 2 = 1
    · by_cases c2 : b / 2 ^ k % 2 = 0
      · have : an a b / 2 ^ k % 2 = 1 := by simpa [c1, c2] using hx
        rw [if_pos ⟨c1, c2⟩, this, Nat.mul_one]
      · have c2' : b / 2 ^ k % 2 = 1 := by omega
        have : ¬ an a b / 2 ^ k % 2 = 1 := by simpa [c1, c2'] using hx
        rw [if_neg (fun h => c2 h.2), show an a b / 2 ^ k % 2 = 0 by omega, Nat.mul_zero, Nat.add_zero]
    · have : ¬ an a b / 2 ^ k % 2 = 1 := by simpa [c1] using hx
      rw [if_neg (fun h => c1 h.1), show an a b / 2 ^ k % 2 = 0 by omega, Nat.mul_zero, Nat.add_zero]
theorem lsTo_nine {a b : Nat} (ha : a < 512) (hb : b < 512) : lsTo a b 9 = an a b := by
  rw [lsTo_mod (by omega) (by omega)]
  exact Nat.mod_eq_of_lt (Nat.lt_of_le_of_lt (an_le _ _) ha)

/-- The letter of a place, and what stands there for a mode. -/
def lt (i : Nat) : UInt8 := if i % 3 = 0 then 114 else if i % 3 = 1 then 119 else 120
def ltr (m i : Nat) : UInt8 := if m.testBit (8 - i) then lt i else 45
def lets (m : Nat) : List UInt8 := (List.range 9).map (ltr m)

theorem lt_ne (i : Nat) : lt i ≠ 45 := by
  unfold lt
  split
  · decide
  · split <;> decide
theorem lets_len (m : Nat) : (lets m).length = 9 := by simp [lets]
theorem lets_at (m : Nat) {i : Nat} (h : i < 9) : (lets m).getD i 0 = ltr m i := by simp [lets, List.getD, h]

/-- The mode of the first letters. -/
def rd (l : List UInt8) : Nat → Nat
  | 0 => 0
  | k + 1 => if l.getD k 0 = lt k then rd l k ||| 2 ^ (8 - k) else rd l k

theorem rd_lt (l : List UInt8) : ∀ k, rd l k < 512
  | 0 => by simp [rd]
  | k + 1 => by
    have ih := rd_lt l k
    have : 2 ^ (8 - k) < 2 ^ 9 := Nat.pow_lt_pow_right (by decide) (by omega)
    unfold rd
    split
    · exact Nat.or_lt_two_pow (n := 9) ih this
    · exact ih
theorem rd_bit (l : List UInt8) {i : Nat} (hi : i < 9) : ∀ k, k ≤ 9 → (rd l k).testBit (8 - i) = (decide (i < k) && decide (l.getD i 0 = lt i))
  | 0, _ => by simp [rd]
  | k + 1, hk => by
    have ih := rd_bit l hi k (by omega)
    have e1 : (2 ^ (8 - k)).testBit (8 - i) = decide (k = i) := by
      rw [Nat.testBit_two_pow]
      exact decide_eq_decide.2 (by omega)
    unfold rd
    by_cases hc : l.getD k 0 = lt k
    · rw [if_pos hc, Nat.testBit_or, ih, e1]
      by_cases he : k = i
      · subst he
        simp only [hc, decide_true, Bool.and_true, Bool.or_true]
        exact (decide_eq_true (by omega)).symm
      · rw [decide_eq_false he, Bool.or_false, decide_eq_decide.2 (show i < k ↔ i < k + 1 by omega)]
    · rw [if_neg hc, ih]
      by_cases he : k = i
      · subst he
        rw [decide_eq_false hc, Bool.and_false, Bool.and_false]
      · rw [decide_eq_decide.2 (show i < k ↔ i < k + 1 by omega)]

theorem eq_nine {m n : Nat} (hm : m < 512) (hn : n < 512) (h : ∀ i, i < 9 → m.testBit (8 - i) = n.testBit (8 - i)) : m = n := by
  refine Nat.eq_of_testBit_eq fun j => ?_
  rcases Nat.lt_or_ge j 9 with hj | hj
  · have := h (8 - j) (by omega)
    rwa [show 8 - (8 - j) = j by omega] at this
  · rw [Nat.testBit_lt_two_pow (Nat.lt_of_lt_of_le hm (Nat.pow_le_pow_right (n := 2) (i := 9) (by decide) hj)), Nat.testBit_lt_two_pow (Nat.lt_of_lt_of_le hn (Nat.pow_le_pow_right (n := 2) (i := 9) (by decide) hj))]

theorem ltr_bit (m i : Nat) : decide (ltr m i = lt i) = m.testBit (8 - i) := by
  unfold ltr
  cases h : m.testBit (8 - i)
  · simpa using (lt_ne i).symm
  · simp
theorem rd_lets {m : Nat} (h : m < 512) : rd (lets m) 9 = m := by
  refine eq_nine (rd_lt _ _) h fun i hi => ?_
  rw [rd_bit _ hi 9 (Nat.le_refl _), lets_at _ hi, ltr_bit, decide_eq_true hi, Bool.true_and]
theorem lets_one {m n : Nat} (hm : m < 512) (hn : n < 512) (h : lets m = lets n) : m = n := by
  rw [← rd_lets hm, ← rd_lets hn, h]

/-- Is a sign one that may stand at a place? -/
def okAt (l : List UInt8) (i : Nat) : Bool := l.getD i 0 == lt i || l.getD i 0 == 45
def okL (l : List UInt8) : Bool := (List.range 9).all (okAt l)
theorem okL_iff {l : List UInt8} : okL l = true ↔ ∀ i, i < 9 → okAt l i = true := by simp [okL]
theorem okAt_lets (m : Nat) {i : Nat} (h : i < 9) : okAt (lets m) i = true := by
  unfold okAt
  rw [lets_at _ h, ltr]
  cases m.testBit (8 - i) <;> simp
theorem okL_lets (m : Nat) : okL (lets m) = true := okL_iff.2 fun _ hi => okAt_lets m hi
theorem lets_rd {l : List UInt8} (h : l.length = 9) (ho : okL l = true) : lets (rd l 9) = l := by
  refine List.ext_getElem (by rw [lets_len, h]) fun i h1 h2 => ?_
  have hi : i < 9 := by rw [lets_len] at h1; exact h1
  refine (List.getElem_eq_getD 0).trans (Eq.trans ?_ (List.getElem_eq_getD 0).symm)
  rw [lets_at _ hi, ltr, rd_bit l hi 9 (Nat.le_refl _), decide_eq_true hi, Bool.true_and]
  have := okL_iff.1 ho i hi
  unfold okAt at this
  by_cases hc : l.getD i 0 = lt i
  · rw [if_pos (by simpa using hc), hc]
  · rw [if_neg (by simpa using hc)]
    rw [Bool.or_eq_true, beq_iff_eq, beq_iff_eq] at this
    exact (this.resolve_left hc).symm

/-- What a text is read as: what is wrong, and the mode. -/
def rdE (l : List UInt8) : Nat := if l.length = 9 then if okL l then 0 else 2 else 3
def rdM (l : List UInt8) : Nat := if rdE l = 0 then rd l 9 else 0

theorem rdE_zero {l : List UInt8} : rdE l = 0 ↔ l.length = 9 ∧ okL l = true := by
  unfold rdE
  split
  · split <;> simp_all
  · simp_all
theorem rdE_lets (m : Nat) : rdE (lets m) = 0 := rdE_zero.2 ⟨lets_len m, okL_lets m⟩
theorem rdM_lets {m : Nat} (h : m < 512) : rdM (lets m) = m := by unfold rdM; rw [if_pos (rdE_lets m), rd_lets h]
theorem rdM_lt (l : List UInt8) : rdM l < 512 := by unfold rdM; split; exact rd_lt _ _; decide
theorem lets_rdM {l : List UInt8} (h : rdE l = 0) : lets (rdM l) = l := by
  unfold rdM
  rw [if_pos h]
  exact lets_rd (rdE_zero.1 h).1 (rdE_zero.1 h).2
/-- What is shown so is what is read. -/
theorem rd_found {l : List UInt8} {m : Nat} (hm : m < 512) (h : lets m = l) : rdE l = 0 ∧ rdM l = m := by subst h; exact ⟨rdE_lets m, rdM_lets hm⟩
theorem rd_none {l : List UInt8} (h9 : l.length = 9) (h : ∀ m, m < 512 → lets m ≠ l) : rdE l = 2 ∧ rdM l = 0 := by
  have hn : rdE l ≠ 0 := fun e => h _ (rdM_lt l) (lets_rdM e)
  refine ⟨?_, by unfold rdM; rw [if_neg hn]⟩
  unfold rdE at hn ⊢
  rw [if_pos h9] at hn ⊢
  split at hn
  · exact absurd rfl hn
  · rw [if_neg (by assumption)]

/-- What is wrong, and what is told, of any numbers. -/
def okM (m : Int) : Bool := decide (0 ≤ m ∧ m ≤ 511)
def okW (n : Int) : Bool := decide (0 ≤ n ∧ n ≤ 9)
def okT (n : Int) : Bool := decide (0 ≤ n ∧ n ≤ 7)
def mayE (m o s w h t : Int) : Nat := if okM m && okW o && okW s && okW w && okW h && okT t then 0 else 1
def mayR (m o s w h t : Int) : Bool := decide (w = 0) || decide (an t.toNat (bf m.toNat (decide (w = o)) (decide (h = s))) = 0)
def mayB (m o s w h t : Int) : Bool := if mayE m o s w h t = 0 then mayR m o s w h t else false
def newE (a b : Int) : Nat := if okM a && okM b then 0 else 1
def newN (a b : Int) : Nat := if newE a b = 0 then an a.toNat b.toNat else 0
def shE (m : Int) : Nat := if okM m then 0 else 1
def shT (m : Int) : ByteArray := if shE m = 0 then ⟨(lets m.toNat).toArray⟩ else ⟨#[]⟩

end Go.Proofs.YtigoacnbbichoaaDoor
