/- This text proves plain facts on sums by which bytes that were turned are seen: they are sums of sums, and no bits that are turned within eight are lost; it speaks of no program; no condition. -/
import Derived.WalkKit
import Derived.Test.YtgnldgonedpehaaDoorXor
namespace Go.Proofs.YtgnldgonedpehaaDoor

/-- The double of a sum. -/
def cdb (a : Nat) : Nat := (a <<< 1) ^^^ (if a.testBit 7 then 263 else 0)

theorem cdb_xor (a b : Nat) : cdb (a ^^^ b) = cdb a ^^^ cdb b := by
  unfold cdb
  rw [Nat.testBit_xor, Nat.shiftLeft_xor_distrib]
  have c := Nat.xor_assoc
  have d := Nat.xor_comm
  cases a.testBit 7 <;> cases b.testBit 7 <;> simp
  · rw [c]
  · rw [c, c, d (b <<< 1) 263]
  · rw [c, ← c 263 _ 263, d 263 (b <<< 1), c (b <<< 1), Nat.xor_self, Nat.xor_zero]

/-- A sum that has taken in one more bit. -/
def tkb (s : Nat) (b : Bool) : Nat := cdb (s ^^^ if b then 128 else 0)

theorem xor4 (a b c d : Nat) : (a ^^^ b) ^^^ (c ^^^ d) = (a ^^^ c) ^^^ (b ^^^ d) := by
  rw [Nat.xor_assoc, ← Nat.xor_assoc b c d, Nat.xor_comm b c, Nat.xor_assoc c b d, ← Nat.xor_assoc]

theorem tkb_xor (s t : Nat) (a b : Bool) : tkb (s ^^^ t) (a ^^ b) = tkb s a ^^^ tkb t b := by
  unfold tkb
  rw [← cdb_xor, xor4]
  congr 2
  cases a <;> cases b <;> simp

theorem cdb_lt : ∀ a, a < 256 → cdb a < 256 := by decide +kernel
theorem tkb_lt {s : Nat} (h : s < 256) (b : Bool) : tkb s b < 256 := by
  unfold tkb
  refine cdb_lt _ (Nat.xor_lt_two_pow (n := 8) h ?_)
  cases b <;> decide

/-- A sum that has taken in the first bits of a byte, the highest one first. -/
def tkTo (s b : Nat) : Nat → Nat
  | 0 => s
  | k + 1 => tkb (tkTo s b k) (b.testBit (7 - k))

theorem tkTo_xor (s t a b : Nat) : ∀ k, tkTo (s ^^^ t) (a ^^^ b) k = tkTo s a k ^^^ tkTo t b k
  | 0 => rfl
  | k + 1 => by rw [tkTo, tkTo, tkTo, tkTo_xor s t a b k, Nat.testBit_xor, tkb_xor]

theorem tkTo_lt {s : Nat} (h : s < 256) (b : Nat) : ∀ k, tkTo s b k < 256
  | 0 => h
  | k + 1 => tkb_lt (tkTo_lt h b k) _

/-- A sum that has taken in one more byte. -/
def tky (s b : Nat) : Nat := tkTo s b 8

theorem tky_xor (s t a b : Nat) : tky (s ^^^ t) (a ^^^ b) = tky s a ^^^ tky t b := tkTo_xor s t a b 8
theorem tky_lt {s : Nat} (h : s < 256) (b : Nat) : tky s b < 256 := tkTo_lt h b 8
theorem tky_diag : ∀ b, b < 256 → tky b b = 0 := by decide +kernel
theorem tky_null : ∀ s, s < 256 → tky s 0 = 0 → s = 0 := by decide +kernel

theorem tky_of {s b : Nat} (hb : b < 256) : tky s b = tky (s ^^^ b) 0 := by
  have h := tky_xor s b b b
  rw [tky_diag b hb, Nat.xor_zero, Nat.xor_self] at h
  exact h.symm

theorem xor_eq_zero {a b : Nat} (h : a ^^^ b = 0) : a = b := by
  have e := Nat.xor_assoc a b b
  rw [Nat.xor_self, Nat.xor_zero, h, Nat.zero_xor] at e
  exact e.symm

theorem tky_zero {s b : Nat} (hs : s < 256) (hb : b < 256) : tky s b = 0 ↔ s = b := by
  constructor
  · intro h
    rw [tky_of hb] at h
    exact xor_eq_zero (tky_null _ (Nat.xor_lt_two_pow (n := 8) hs hb) h)
  · rintro rfl
    exact tky_diag _ hs

/-- The sum of the first bytes. -/
def crcN (f : Nat → Nat) : Nat → Nat
  | 0 => 0
  | k + 1 => tky (crcN f k) (f k)

theorem crcN_lt (f : Nat → Nat) : ∀ k, crcN f k < 256
  | 0 => by simp [crcN]
  | k + 1 => tky_lt (crcN_lt f k) _

theorem crcN_xor (f g : Nat → Nat) : ∀ k, crcN (fun i => f i ^^^ g i) k = crcN f k ^^^ crcN g k
  | 0 => by simp [crcN]
  | k + 1 => by rw [crcN, crcN, crcN, crcN_xor f g k, tky_xor]

theorem crcN_congr {f g : Nat → Nat} : ∀ {k : Nat}, (∀ i, i < k → f i = g i) → crcN f k = crcN g k
  | 0, _ => rfl
  | k + 1, h => by rw [crcN, crcN, crcN_congr (k := k) fun i hi => h i (by omega), h k (by omega)]

theorem crcN_null {f : Nat → Nat} : ∀ {k : Nat}, (∀ i, i < k → f i = 0) → crcN f k = 0
  | 0, _ => rfl
  | k + 1, h => by rw [crcN, crcN_null (k := k) fun i hi => h i (by omega), h k (by omega)]; decide

/-- A sum that is not 0 stays so where noughts follow. -/
theorem crcN_stays {f : Nat → Nat} {m : Nat} (hm : crcN f m ≠ 0) : ∀ d, (∀ i, m ≤ i → i < m + d → f i = 0) → crcN f (m + d) ≠ 0
  | 0, _ => hm
  | d + 1, h => by
    have ih := crcN_stays hm d fun i h1 h2 => h i h1 (by omega)
    rw [show m + (d + 1) = m + d + 1 by omega, crcN, h (m + d) (by omega) (by omega)]
    exact fun e => ih (tky_null _ (crcN_lt f _) e)

/-- Another byte at one place makes another sum. -/
theorem crcN_one {f g : Nat → Nat} {at' n : Nat} (hn : at' < n) (hf : f at' < 256) (hg : g at' < 256) (hne : f at' ≠ g at') (he : ∀ i, i < n → i ≠ at' → f i = g i) : crcN f n ≠ crcN g n := by
  intro h
  have h1 : crcN (fun i => f i ^^^ g i) (at' + 1) ≠ 0 := by
    rw [crcN, crcN_null fun i hi => by show f i ^^^ g i = 0; rw [he i (by omega) (by omega), Nat.xor_self]]
    intro e
    exact hne (xor_eq_zero ((tky_zero (by decide) (Nat.xor_lt_two_pow (n := 8) hf hg)).1 e).symm)
  have h2 := crcN_stays h1 (n - (at' + 1)) fun i h3 h4 => by show f i ^^^ g i = 0; rw [he i (by omega) (by omega), Nat.xor_self]
  rw [show at' + 1 + (n - (at' + 1)) = n by omega, crcN_xor, h, Nat.xor_self] at h2
  exact h2 rfl

/-- Eight bits in a row are no sum of the two bytes into which they are cut. -/
theorem burst_all : ∀ s, s < 8 → ∀ b, b < 256 → 1 ≤ b → tky 0 (b / 2 ^ s) ≠ b * 2 ^ (8 - s) % 256 := by decide +kernel

/-- Two bytes beside each other that are turned by so many bits in a row make another sum. -/
theorem crcN_burst {f g : Nat → Nat} {k n s b : Nat} (hn : k + 1 < n) (hs : s < 8) (hb : b < 256) (hb1 : 1 ≤ b) (h1 : f k ^^^ g k = b / 2 ^ s) (h2 : f (k + 1) ^^^ g (k + 1) = b * 2 ^ (8 - s) % 256) (he : ∀ i, i < n → i ≠ k → i ≠ k + 1 → f i = g i) : crcN f n ≠ crcN g n := by
  intro h
  have hz : ∀ i, i < n → i ≠ k → i ≠ k + 1 → f i ^^^ g i = 0 := fun i a b c => by rw [he i a b c, Nat.xor_self]
  have h3 : crcN (fun i => f i ^^^ g i) (k + 1 + 1) ≠ 0 := by
    rw [crcN, crcN, crcN_null fun i hi => hz i (by omega) (by omega) (by omega)]
    show tky (tky 0 (f k ^^^ g k)) (f (k + 1) ^^^ g (k + 1)) ≠ 0
    rw [h1, h2]
    intro e
    exact burst_all s hs b hb hb1 ((tky_zero (tky_lt (by decide) _) (Nat.mod_lt _ (by decide))).1 e)
  have h4 := crcN_stays h3 (n - (k + 1 + 1)) fun i h5 h6 => hz i (by omega) (by omega) (by omega)
  rw [show k + 1 + 1 + (n - (k + 1 + 1)) = n by omega, crcN_xor, h, Nat.xor_self] at h4
  exact h4 rfl

/-- What the program reckons for one bit. -/
theorem tkb_reckoned : ∀ s, s < 256 → ∀ b : Bool, (if (2 * s ^^^ (if b then 256 else 0)) &&& 256 = 0 then (2 * s ^^^ (if b then 256 else 0)) else (2 * s ^^^ (if b then 256 else 0)) ^^^ 263) = tkb s b := by decide +kernel

/-- The bit of a worth. -/
theorem worth_bit : ∀ k, k < 8 → ∀ b, b < 256 → ((b &&& 128 / 2 ^ k == 0) = !(b.testBit (7 - k))) := by decide +kernel

/-- What is wrong with a list of bytes. -/
def bytE (xs : List Int) : Nat := if 64 < xs.length then 4 else if xs.all byteB then 0 else 1

theorem bytE_full {xs : List Int} (h : 64 < xs.length) : bytE xs = 4 := by simp [bytE, h]
theorem bytE_range {xs : List Int} (h : xs.length ≤ 64) {k : Nat} (hk : k < xs.length) (hb : ¬ isByte (nth xs k)) : bytE xs = 1 := by
  have : xs.all byteB = false := by
    rw [List.all_eq_false]
    exact ⟨_, nth_mem hk, fun e => hb ((byteB_iff _).1 e)⟩
  simp [bytE, Nat.not_lt.2 h, this]
theorem bytE_ok {xs : List Int} (h : xs.length ≤ 64) (hb : ∀ i, i < xs.length → isByte (nth xs i)) : bytE xs = 0 := by simp [bytE, Nat.not_lt.2 h, all_byte hb]
theorem bytE_zero {xs : List Int} (h : bytE xs = 0) : xs.length ≤ 64 ∧ ∀ i, i < xs.length → isByte (nth xs i) := by
  unfold bytE at h
  by_cases h1 : 64 < xs.length
  · simp [h1] at h
  · rw [if_neg h1] at h
    by_cases h2 : xs.all byteB = true
    · exact ⟨by omega, fun i hi => (byteB_iff _).1 (List.all_eq_true.1 h2 _ (nth_mem hi))⟩
    · simp [h2] at h

/-- A list's bytes. -/
def fnL (xs : List Int) (i : Nat) : Nat := (nth xs i).toNat
theorem fnL_byte {xs : List Int} (hb : ∀ i, i < xs.length → isByte (nth xs i)) (i : Nat) : fnL xs i < 256 := by
  unfold fnL
  by_cases h : i < xs.length
  · have := (hb i h).1; have := (hb i h).2; omega
  · unfold nth; simp [List.getD, Nat.not_lt.1 h]
theorem fnL_int {xs : List Int} (hb : ∀ i, i < xs.length → isByte (nth xs i)) {i : Nat} (h : i < xs.length) : nth xs i = (fnL xs i : Int) := by
  have := (hb i h).1
  unfold fnL; omega
theorem nth_snoc_lt {xs : List Int} {x : Int} {i : Nat} (h : i < xs.length) : nth (xs ++ [x]) i = nth xs i := by
  unfold nth; simp [List.getD, List.getElem?_append_left h]
theorem nth_snoc_at (xs : List Int) (x : Int) : nth (xs ++ [x]) xs.length = x := by
  unfold nth; simp [List.getD]

/-- A list's sum. -/
def crcL (xs : List Int) : Nat := crcN (fnL xs) xs.length
theorem crcL_lt (xs : List Int) : crcL xs < 256 := crcN_lt _ _
theorem crcL_snoc (xs : List Int) (x : Int) : crcL (xs ++ [x]) = tky (crcL xs) x.toNat := by
  unfold crcL
  rw [List.length_append, List.length_singleton, crcN]
  congr 1
  · exact crcN_congr fun i hi => by unfold fnL; rw [nth_snoc_lt hi]
  · unfold fnL; rw [nth_snoc_at]
theorem snoc_byte {xs : List Int} {x : Int} (hb : ∀ i, i < xs.length → isByte (nth xs i)) (hx : isByte x) : ∀ i, i < (xs ++ [x]).length → isByte (nth (xs ++ [x]) i) := by
  intro i hi
  rw [List.length_append, List.length_singleton] at hi
  by_cases h : i < xs.length
  · rw [nth_snoc_lt h]; exact hb i h
  · rw [show i = xs.length by omega, nth_snoc_at]; exact hx

end Go.Proofs.YtgnldgonedpehaaDoor
