/- This text proves nothing of the program: it is the plain mathematics of how far a head has gone behind its first requests; no condition. -/
import Derived.Test.YtckdknkgadhmjaaDoorKp
namespace Go.Proofs.YtckdknkgadhmjaaDoor

theorem dst_in {a b : Int} (ha : 0 ≤ a ∧ a ≤ 99) (hb : 0 ≤ b ∧ b ≤ 99) : 0 ≤ dst a b ∧ dst a b ≤ 99 := by unfold dst; split <;> omega

/-- How far it has gone behind k requests. -/
def farN (s : Int) (L : List Int) : Nat → Int
  | 0 => 0
  | k + 1 => farN s L k + dst (nth (s :: L) k) (nth L k)

theorem farN_cons (s x : Int) (L : List Int) : ∀ k, farN s (x :: L) (k + 1) = dst s x + farN x L k
  | 0 => by show 0 + dst s x = dst s x + 0; omega
  | k + 1 => by
    rw [farN, farN_cons s x L k, farN]
    show dst s x + farN x L k + dst (nth (x :: L) k) (nth L k) = _
    omega
theorem farN_all : ∀ (L : List Int) (s : Int), farN s L L.length = farL s L
  | [], _ => rfl
  | x :: L, s => by
    show farN s (x :: L) (L.length + 1) = _
    rw [farN_cons, farN_all L x, farL]
theorem dst_comm (a b : Int) : dst a b = dst b a := by unfold dst; split <;> split <;> omega
theorem was_in {s : Int} {L : List Int} (hs : 0 ≤ s ∧ s ≤ 99) (hL : ∀ x ∈ L, 0 ≤ x ∧ x ≤ 99) : ∀ i, i ≤ L.length → 0 ≤ nth (s :: L) i ∧ nth (s :: L) i ≤ 99
  | 0, _ => hs
  | i + 1, h => hL _ (nth_mem (by omega))
theorem farN_in {s : Int} {L : List Int} (hs : 0 ≤ s ∧ s ≤ 99) (hL : ∀ x ∈ L, 0 ≤ x ∧ x ≤ 99) : ∀ k, k ≤ L.length → 0 ≤ farN s L k ∧ farN s L k ≤ 99 * (k : Int)
  | 0, _ => by simp [farN]
  | k + 1, h => by
    have h1 := farN_in hs hL k (by omega)
    have h2 := dst_in (was_in hs hL k (by omega)) (hL _ (nth_mem (show k < L.length by omega)))
    rw [farN]
    omega

end Go.Proofs.YtckdknkgadhmjaaDoor
