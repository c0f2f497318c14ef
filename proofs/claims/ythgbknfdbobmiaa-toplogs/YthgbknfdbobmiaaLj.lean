/- This text proves what platterholdsame.Ints answers: whether two lists are the same; nothing is written; the only condition is that the slices lie there. -/
import Derived.Test.YthgbknfdbobmiaaChecked
import Derived.Test.YthgbknfdbobmiaaXor
import Derived.WalkKit
import Derived.Outline
import Derived.WalkSpells
import Derived.WalkLawsBesides
import Derived.Deep.QuietTactic
import Derived.BigQuiet
namespace Go.Proofs.Ythgbknfdbobmiaa
open Go.RowKit Go.Deep

def eqB (xs ys : List Int) : Bool := decide (xs = ys)

theorem eqB_len {xs ys : List Int} (h : xs.length ≠ ys.length) : eqB xs ys = false := by
  unfold eqB; simp; intro e; exact h (by rw [e])

theorem eqB_at {xs ys : List Int} {k : Nat} (h : nth xs k ≠ nth ys k) : eqB xs ys = false := by
  unfold eqB; simp; intro e; exact h (by rw [e])

theorem eqB_all {xs ys : List Int} (hl : xs.length = ys.length) (h : ∀ i, i < xs.length → nth xs i = nth ys i) : eqB xs ys = true := by
  unfold eqB
  rw [decide_eq_true_iff]
  refine List.ext_getElem hl fun i h1 h2 => ?_
  rw [← nth_lt h1, ← nth_lt h2]
  exact h i h1

set_option maxHeartbeats 1000000 in
theorem ints_len (w : World) (a a' : Option Addr) (n n' c c' : Nat) (h : n ≠ n') :
    Calls Try.prog 11 #[.slice a n c, .slice a' n' c'] w fun e w' => e = .returned (.bool false) ∧ w = w' := by
  have h' : ((n : Int) == (n' : Int)) = false := by simp; omega
  go_enter Try.func11, Try.ntmps11
  go_wp2
  go_ret
  exact ⟨rfl, rfl⟩

set_option maxHeartbeats 2000000 in
theorem ints_same (w : World) (a a' : Option Addr) (n c c' : Nat) (b o b' o' : Nat) (xs ys : List Int) (hx : xs.length = n) (hy : ys.length = n) (hn : n ≤ maxLen)
    (ha : 0 < n → a = some ⟨b, o, none⟩) (ha' : 0 < n → a' = some ⟨b', o', none⟩)
    (hc : ∀ i, i < n → w.cell? ⟨b, o + i, none⟩ = some (.int .i64 (nth xs i))) (hc' : ∀ i, i < n → w.cell? ⟨b', o' + i, none⟩ = some (.int .i64 (nth ys i))) :
    Calls Try.prog 11 #[.slice a n c, .slice a' n c'] w fun e w' => e = .returned (.bool (eqB xs ys)) ∧ ∃ q, w' = w.drewN q := by
  unfold maxLen at hn
  have HX : Hid (xs.length = n) := hx
  have HY : Hid (ys.length = n) := hy
  have HC : Hid (∀ i, i < n → w.cell? ⟨b, o + i, none⟩ = some (.int .i64 (nth xs i))) := hc
  have HC' : Hid (∀ i, i < n → w.cell? ⟨b', o' + i, none⟩ = some (.int .i64 (nth ys i))) := hc'
  clear hx hy hc hc'
  go_enter Try.func11, Try.ntmps11
  go_wp2
  go_loopw [5] (fun i wr => ∃ k : Nat, k ≤ n ∧ i = .int .i64 k ∧ (∀ j, j < k → nth xs j = nth ys j) ∧ ∃ q, wr = w.drewN q) (fun i _ => n - (intOf i).toNat)
  case atStart => exact ⟨0, Nat.zero_le _, rfl, fun j hj => absurd hj (Nat.not_lt_zero _), 0, rfl⟩
  case round =>
    obtain ⟨k, hk, rfl, hall, q, rfl⟩ := hrel
    have HA : Hid (∀ j, j < k → nth xs j = nth ys j) := hall
    clear hall
    by_cases hlt : k < n
    · have e1 := ha (by omega)
      have e2 := ha' (by omega)
      subst e1 e2
      have h1 := HC.out k hlt
      have h2 := HC'.out k hlt
      clear ha ha'
      by_cases he : nth xs k = nth ys k
      · have hb : (nth xs k == nth ys k) = true := by simp [he]
        have HE : Hid (nth xs k = nth ys k) := he
        clear he
        go_wp2
        go_quiet (fail)
        go_wp2
        go_roundw
        case rel =>
          refine ⟨k + 1, by omega, by go_num, fun j hj => ?_, ?_⟩
          · by_cases e : j = k
            · subst e; exact HE.out
            · exact HA.out j (by omega)
          · exact ⟨q + nq, rfl⟩
        case measure => simp [intOf]; omega
      · have hb : (nth xs k == nth ys k) = false := by simp [he]
        go_wp2
        go_quiet (fail)
        go_wp2
        go_ret
        exact ⟨by rw [eqB_at he]; rfl, q + nq, by rw [World.drewN_drewN]⟩
    · have hkn : k = n := by omega
      subst hkn
      go_wp2
      go_ret
      exact ⟨by rw [eqB_all (by rw [HX.out, HY.out]) (by rw [HX.out]; exact HA.out)]; rfl, q, rfl⟩

theorem below_drewN (w : World) (B q : Nat) : Below B w (w.drewN q) := ⟨rfl, rfl, rfl, Nat.le_refl _, fun _ _ => rfl⟩

/-- Where a slice's cells begin. -/
theorem SliceIs.parts {w : World} {v : Value} {xs : List Int} (h : SliceIs w v xs) : ∃ a c b o, v = .slice a xs.length c ∧ xs.length ≤ maxLen ∧ (0 < xs.length → a = some ⟨b, o, none⟩) ∧ (0 < xs.length → b < w.heap.size) ∧
    ∀ i, i < xs.length → w.cell? ⟨b, o + i, none⟩ = some (.int .i64 (nth xs i)) := by
  obtain ⟨a, c, hv, hl, hx⟩ := h
  by_cases hne : xs = []
  · exact ⟨a, c, 0, 0, hv, hl, fun h => by rw [hne] at h; simp at h, fun h => by rw [hne] at h; simp at h, fun i hi => by rw [hne] at hi; simp at hi⟩
  · obtain ⟨b, o, h1, h2, h3⟩ := hx hne
    exact ⟨a, c, b, o, hv, hl, fun _ => h1, fun _ => h2, h3⟩

theorem ints_any (w : World) (v v' : Value) (xs ys : List Int) (hx : SliceIs w v xs) (hy : SliceIs w v' ys) :
    Calls Try.prog 11 #[v, v'] w fun e w' => e = .returned (.bool (eqB xs ys)) ∧ ∃ q, w' = w.drewN q := by
  obtain ⟨a, c, b, o, rfl, hl, ha, _, hc⟩ := hx.parts
  obtain ⟨a', c', b', o', rfl, _, ha', _, hc'⟩ := hy.parts
  by_cases h : xs.length = ys.length
  · rw [← h] at ha' hc' ⊢
    exact ints_same w a a' xs.length c c' b o b' o' xs ys rfl h.symm hl ha ha' hc hc'
  · rw [eqB_len h]
    refine (ints_len w a a' xs.length ys.length c c' h).mono ?_
    rintro e w' ⟨rfl, rfl⟩
    exact ⟨rfl, 0, rfl⟩

end Go.Proofs.Ythgbknfdbobmiaa
