/- This text proves plain facts on a word of 32 bits and the set of its places: what is put and cut on one side is added and cut on the other, there are 16 runs at most, and as many places as ones; it speaks of no call; no condition. -/
import Derived.Test.YtihefpnagdacpaaX0
import Derived.Test.YtihefpnagdacpaaV5
import Derived.Test.YtihefpnagdacpaaV4r
import Derived.Test.YtihefpnagdacpaaX1
namespace Go.Proofs.Ytihefpnagdacpaa
open Go.RowKit Go.Deep

def bitP (m : Nat) (p : Int) : Bool := decide (0 ≤ p ∧ p < 32) && m.testBit p.toNat

/-- The word's ones are the set's places. -/
structure Both (m : Nat) (l : List Rn) : Prop where
  ok : runsE l = 0
  mem : ∀ p, memR l p = bitP m p

theorem Both.start : Both 0 [] := ⟨by decide, fun p => by unfold bitP; rw [Nat.zero_testBit, Bool.and_false]; rfl⟩

theorem len16 {l : List Rn} (h : Okc (-1) l) (hm : ∀ p, memR l p = true → p < 32) : l.length ≤ 16 := by
  rcases snoc_cases l with rfl | ⟨a, x, rfl⟩
  · simp
  · have h1 := eF_ge _ _ h
    rw [eF_snoc] at h1
    have h2 := ((Okc_snoc a (-1) x).1 h).2.2.1
    have h3 := hm (x.1 + x.2 - 1) (by rw [memR_append, memR_one, (inR_iff x _).2 (by omega), Bool.or_true])
    omega

theorem bit_put (m k n : Nat) (h : k + n ≤ 32) (p : Int) : bitP (put m k n) p = orB (bitP m p) (inR ((k : Int), (n : Int)) p) := by
  unfold bitP orB
  by_cases hp : 0 ≤ p ∧ p < 32
  · rw [decide_eq_true hp, Bool.true_and, Bool.true_and, put_bit]
    congr 1
    unfold inR
    rw [decide_eq_decide]
    simp only
    omega
  · rw [decide_eq_false hp, Bool.false_and, Bool.false_and, Bool.false_or, (inR_false _ _).2 (by simp only; omega)]
theorem bit_cut {m k n : Nat} (hm : m < 2 ^ 32) (h : k + n ≤ 32) (p : Int) : bitP (cut m k n) p = cutB (bitP m p) (inR ((k : Int), (n : Int)) p) := by
  unfold bitP cutB
  by_cases hp : 0 ≤ p ∧ p < 32
  · rw [decide_eq_true hp, Bool.true_and, Bool.true_and, cut_bit hm h]
    congr 2
    unfold inR
    rw [decide_eq_decide]
    simp only
    omega
  · rw [decide_eq_false hp, Bool.false_and, Bool.false_and, Bool.false_and]

theorem bit_low {m : Nat} {p : Int} (h : bitP m p = true) : p < 32 := by
  unfold bitP at h
  rw [Bool.and_eq_true, decide_eq_true_iff] at h
  omega

theorem both_chg {b : Bool → Bool → Bool} (hb : b false false = false) {m m' : Nat} {l : List Rn} {r : Rn} (h : Both m l) (hr : isR r) (he : ∀ p, bitP m' p = b (bitP m p) (inR r p)) : chgE b l r = 0 ∧ Both m' (chgL b l r) := by
  obtain ⟨k1, _, _, k4, _⟩ := bld_ok (chP b l r) 1000 (Nat.le_refl _)
  have h0 : chgE b l r = 0 := chgE_zero.2 ⟨h.ok, (rB_iff r).2 hr, len16 k1 fun p hp => by
    rw [k4, Bool.and_eq_true] at hp
    have := hp.2
    unfold chP at this
    rw [h.mem, ← he] at this
    exact bit_low this⟩
  obtain ⟨c1, c2, _, _⟩ := chg_ok h0 hb
  exact ⟨h0, c1, fun p => by rw [c2, h.mem, he]⟩

theorem Both.add {m k n : Nat} {l : List Rn} (h : Both m l) (hn : 1 ≤ n) (hk : k + n ≤ 32) : chgE orB l ((k : Int), (n : Int)) = 0 ∧ Both (put m k n) (chgL orB l ((k : Int), (n : Int))) :=
  both_chg rfl h (by unfold isR; simp only; omega) (bit_put m k n hk)
theorem Both.cut {m k n : Nat} {l : List Rn} (h : Both m l) (hm : m < 2 ^ 32) (hn : 1 ≤ n) (hk : k + n ≤ 32) : chgE cutB l ((k : Int), (n : Int)) = 0 ∧ Both (cut m k n) (chgL cutB l ((k : Int), (n : Int))) :=
  both_chg rfl h (by unfold isR; simp only; omega) (bit_cut hm hk)

theorem cnP_bits (m : Nat) : ∀ n, n ≤ 32 → cnP (bitP m) n = cnt m n
  | 0, _ => rfl
  | n + 1, h => by
    unfold cnP cnt
    rw [cnP_bits m n (by omega)]
    congr 1
    unfold bitP
    rw [decide_eq_true (show (0 : Int) ≤ (n : Int) ∧ (n : Int) < 32 by omega), Bool.true_and, Int.toNat_natCast]
    cases m.testBit n <;> rfl
theorem cnP_more (m : Nat) : ∀ j, cnP (bitP m) (32 + j) = cnP (bitP m) 32
  | 0 => rfl
  | j + 1 => by
    show cnP (bitP m) (32 + j) + (if bitP m ((32 + j : Nat) : Int) = true then 1 else 0) = _
    have e : bitP m ((32 + j : Nat) : Int) = false := by
      unfold bitP
      rw [decide_eq_false (show ¬ ((0 : Int) ≤ ((32 + j : Nat) : Int) ∧ ((32 + j : Nat) : Int) < 32) by omega)]
      rfl
    rw [cnP_more m j, e]
    rfl
theorem Both.size {m : Nat} {l : List Rn} (h : Both m l) : szL l = (cnt m 32 : Int) := by
  rw [szL_ok ((runsE_ok l).1 h.ok).2, cnP_same (g := bitP m) (fun p _ _ => h.mem p), show (1000 : Nat) = 32 + 968 by omega, cnP_more, cnP_bits m 32 (Nat.le_refl _)]

/-- Runs lie in no block that holds a map's word. -/
theorem RunsIs.chg {w w' : World} {v : Value} {l : List Rn} {g m : Nat} (h : RunsIs w v l) (hm : MapAt w g m) (hc : Chg g w w') : RunsIs w' v l := by
  obtain ⟨a, cap, hv, hl, hx⟩ := h
  refine ⟨a, cap, hv, hl, fun hne => ?_⟩
  obtain ⟨b, off, ha, hlt, hcc⟩ := hx hne
  have hb : b ≠ g := by
    intro e
    subst e
    have := (hcc 0 (List.length_pos_iff.2 hne)).2
    simp only [World.cell?, hm.blk] at this
    simp at this
  refine ⟨b, off, ha, by rw [hc.size]; exact hlt, fun i hi => ?_⟩
  have := hcc i hi
  exact ⟨by rw [World.cell?_of_block (w := w) (hc.block b hb)]; exact this.1, by rw [World.cell?_of_block (w := w) (hc.block b hb)]; exact this.2⟩

end Go.Proofs.Ytihefpnagdacpaa
