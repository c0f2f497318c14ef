/- This text proves a plain fact: the exclusive or of bytes is the sum of the powers of 2 whose bit an odd number of them has; it speaks of no program; no condition. -/
import Derived.Test.YtldilfgabdemhaaDoorMb
namespace Go.Proofs.YtldilfgabdemhaaDoor

/-- How many of the first r rows have the bit P at place k. -/
def cnt (rs : List (List Int)) (k : Nat) (P : Int) : Nat → Int
  | 0 => 0
  | r + 1 => cnt rs k P r + nth (rowAt rs r) k / P % 2

theorem cnt_bd (rs : List (List Int)) (k : Nat) (P : Int) : ∀ r : Nat, 0 ≤ cnt rs k P r ∧ cnt rs k P r ≤ r
  | 0 => by simp [cnt]
  | r + 1 => by
    have h := cnt_bd rs k P r
    rw [cnt]
    generalize nth (rowAt rs r) k / P = y
    omega

theorem xor_bit (a b t : Nat) : (a ^^^ b) / 2 ^ t % 2 = (a / 2 ^ t % 2 + b / 2 ^ t % 2) % 2 := by
  have h := Nat.testBit_xor (x := a) (y := b) (i := t)
  simp only [Nat.testBit_eq_decide_div_mod_eq] at h
  have ha : a / 2 ^ t % 2 < 2 := Nat.mod_lt _ (by decide)
  have hb : b / 2 ^ t % 2 < 2 := Nat.mod_lt _ (by decide)
  have hx : (a ^^^ b) / 2 ^ t % 2 < 2 := Nat.mod_lt _ (by decide)
  generalize (a ^^^ b) / 2 ^ t % 2 = x at *
  generalize a / 2 ^ t % 2 = y at *
  generalize b / 2 ^ t % 2 = z at *
  rcases (show y = 0 ∨ y = 1 by omega) with rfl | rfl <;> rcases (show z = 0 ∨ z = 1 by omega) with rfl | rfl <;> rcases (show x = 0 ∨ x = 1 by omega) with rfl | rfl <;> simp at h ⊢

/-- The bit t of what is left is whether an odd number has it. -/
theorem parTo_bit {n k : Nat} {rs : List (List Int)} (hk : k < n) (t : Nat) : ∀ r, (∀ j, j < r → Good n (rowAt rs j)) → parTo rs k r / ((2 ^ t : Nat) : Int) % 2 = cnt rs k ((2 ^ t : Nat) : Int) r % 2
  | 0, _ => by simp [parTo, cnt]
  | r + 1, hg => by
    have ih := parTo_bit hk t r (fun j hj => hg j (by omega))
    have h1 : isByte (parTo rs k r) := parTo_byte hk (fun j hj => hg j (by omega))
    have h2 : isByte (nth (rowAt rs r) k) := good_nth (hg r (by omega)) hk
    rw [parTo, cnt]
    obtain ⟨A, hA⟩ := Int.eq_ofNat_of_zero_le h1.1
    obtain ⟨B, hB⟩ := Int.eq_ofNat_of_zero_le h2.1
    rw [hA] at ih ⊢
    rw [hB]
    unfold bx
    simp only [Int.toNat_natCast]
    have hx := xor_bit A B t
    generalize 2 ^ t = Q at *
    have e1 : ((A ^^^ B : Nat) : Int) / (Q : Int) % 2 = (((A ^^^ B) / Q % 2 : Nat) : Int) := by simp
    have e2 : (A : Int) / (Q : Int) % 2 = ((A / Q % 2 : Nat) : Int) := by simp
    have e3 : (B : Int) / (Q : Int) % 2 = ((B / Q % 2 : Nat) : Int) := by simp
    rw [e1, hx, e3]
    rw [e2] at ih
    generalize A / Q % 2 = y at *
    generalize B / Q % 2 = z at *
    generalize cnt rs k (Q : Int) r = c at *
    omega

/-- The sum of the first t powers. -/
def sumTo (rs : List (List Int)) (k m : Nat) : Nat → Int
  | 0 => 0
  | t + 1 => sumTo rs k m t + ((2 ^ t : Nat) : Int) * (cnt rs k ((2 ^ t : Nat) : Int) m % 2)

theorem sumTo_bd (rs : List (List Int)) (k m : Nat) : ∀ t, 0 ≤ sumTo rs k m t ∧ sumTo rs k m t < ((2 ^ t : Nat) : Int)
  | 0 => by simp [sumTo]
  | t + 1 => by
    have h := sumTo_bd rs k m t
    rw [sumTo, Nat.pow_succ]
    have hc : cnt rs k ((2 ^ t : Nat) : Int) m % 2 = 0 ∨ cnt rs k ((2 ^ t : Nat) : Int) m % 2 = 1 := by omega
    rcases hc with hc | hc <;> rw [hc] <;> omega

theorem byte_bits (x : Int) (h0 : 0 ≤ x) (h1 : x ≤ 255) :
    0 + 1 * (x / 1 % 2) + 2 * (x / 2 % 2) + 4 * (x / 4 % 2) + 8 * (x / 8 % 2) + 16 * (x / 16 % 2) + 32 * (x / 32 % 2) + 64 * (x / 64 % 2) + 128 * (x / 128 % 2) = x := by
  omega

theorem sumTo_eight (rs : List (List Int)) (k m : Nat) : sumTo rs k m 8 = 0 + 1 * (cnt rs k 1 m % 2) + 2 * (cnt rs k 2 m % 2) + 4 * (cnt rs k 4 m % 2) + 8 * (cnt rs k 8 m % 2) + 16 * (cnt rs k 16 m % 2) + 32 * (cnt rs k 32 m % 2) + 64 * (cnt rs k 64 m % 2) + 128 * (cnt rs k 128 m % 2) := rfl

theorem sumTo_par {n k m : Nat} {rs : List (List Int)} (hk : k < n) (hg : ∀ j, j < m → Good n (rowAt rs j)) : sumTo rs k m 8 = parTo rs k m := by
  have hb : isByte (parTo rs k m) := parTo_byte hk hg
  have h0 : parTo rs k m / 1 % 2 = cnt rs k 1 m % 2 := parTo_bit hk 0 m hg
  have h1 : parTo rs k m / 2 % 2 = cnt rs k 2 m % 2 := parTo_bit hk 1 m hg
  have h2 : parTo rs k m / 4 % 2 = cnt rs k 4 m % 2 := parTo_bit hk 2 m hg
  have h3 : parTo rs k m / 8 % 2 = cnt rs k 8 m % 2 := parTo_bit hk 3 m hg
  have h4 : parTo rs k m / 16 % 2 = cnt rs k 16 m % 2 := parTo_bit hk 4 m hg
  have h5 : parTo rs k m / 32 % 2 = cnt rs k 32 m % 2 := parTo_bit hk 5 m hg
  have h6 : parTo rs k m / 64 % 2 = cnt rs k 64 m % 2 := parTo_bit hk 6 m hg
  have h7 : parTo rs k m / 128 % 2 = cnt rs k 128 m % 2 := parTo_bit hk 7 m hg
  rw [sumTo_eight, ← h0, ← h1, ← h2, ← h3, ← h4, ← h5, ← h6, ← h7]
  exact byte_bits _ hb.1 hb.2

end Go.Proofs.YtldilfgabdemhaaDoor
