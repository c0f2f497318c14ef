/- This text proves what platterholdsame.Runs answers: whether two sets are the same; nothing is written; the only condition is that the slices lie there. -/
import Derived.Test.YtihefpnagdacpaaDoorX2
import Derived.WalkKit
import Derived.Outline
import Derived.WalkSpells
import Derived.WalkLawsBesides
import Derived.Laws.StructEq
namespace Go.Proofs.YtihefpnagdacpaaDoor
open Go.RowKit Go.Deep

def rnB (xs ys : List Rn) : Bool := decide (xs = ys)

theorem rnB_len {xs ys : List Rn} (h : xs.length ≠ ys.length) : rnB xs ys = false := by
  unfold rnB; simp; intro e; exact h (by rw [e])

theorem rnB_at {xs ys : List Rn} {k : Nat} (h : rAt xs k ≠ rAt ys k) : rnB xs ys = false := by
  unfold rnB; simp; intro e; exact h (by rw [e])

theorem rnB_all {xs ys : List Rn} (hl : xs.length = ys.length) (h : ∀ i, i < xs.length → rAt xs i = rAt ys i) : rnB xs ys = true := by
  unfold rnB
  rw [decide_eq_true_iff]
  refine List.ext_getElem hl fun i h1 h2 => ?_
  rw [← rAt_lt h1, ← rAt_lt h2]
  exact h i h1

set_option maxHeartbeats 1000000 in
theorem runs_len (w : World) (a a' : Option Addr) (n n' c c' : Nat) (h : n ≠ n') :
    Calls Tryd.prog 12 #[.slice a n c, .slice a' n' c'] w fun e w' => e = .returned (.bool false) ∧ w = w' := by
  have h' : ((n : Int) == (n' : Int)) = false := by simp; omega
  go_enter Tryd.func12, Tryd.ntmps12
  go_wp2
  go_ret
  exact ⟨rfl, rfl⟩

set_option maxHeartbeats 2000000 in
theorem runs_same (w : World) (a a' : Option Addr) (n c c' : Nat) (b o b' o' : Nat) (xs ys : List Rn) (hx : xs.length = n) (hy : ys.length = n) (hn : n ≤ maxLen)
    (ha : 0 < n → a = some ⟨b, o, none⟩) (ha' : 0 < n → a' = some ⟨b', o', none⟩)
    (hc : ∀ i, i < n → w.cell? ⟨b, o + i * 2, none⟩ = some (.int .i64 (rAt xs i).1) ∧ w.cell? ⟨b, o + i * 2 + 1, none⟩ = some (.int .i64 (rAt xs i).2))
    (hc' : ∀ i, i < n → w.cell? ⟨b', o' + i * 2, none⟩ = some (.int .i64 (rAt ys i).1) ∧ w.cell? ⟨b', o' + i * 2 + 1, none⟩ = some (.int .i64 (rAt ys i).2)) :
    Calls Tryd.prog 12 #[.slice a n c, .slice a' n c'] w fun e w' => e = .returned (.bool (rnB xs ys)) ∧ ∃ q, w' = w.drewN q := by
  unfold maxLen at hn
  have HX : Hid (xs.length = n) := hx
  have HY : Hid (ys.length = n) := hy
  have HC : Hid (∀ i, i < n → w.cell? ⟨b, o + i * 2, none⟩ = some (.int .i64 (rAt xs i).1) ∧ w.cell? ⟨b, o + i * 2 + 1, none⟩ = some (.int .i64 (rAt xs i).2)) := hc
  have HC' : Hid (∀ i, i < n → w.cell? ⟨b', o' + i * 2, none⟩ = some (.int .i64 (rAt ys i).1) ∧ w.cell? ⟨b', o' + i * 2 + 1, none⟩ = some (.int .i64 (rAt ys i).2)) := hc'
  clear hx hy hc hc'
  go_enter Tryd.func12, Tryd.ntmps12
  go_wp2
  go_loopw [5] (fun i wr => ∃ k : Nat, k ≤ n ∧ i = .int .i64 k ∧ (∀ j, j < k → rAt xs j = rAt ys j) ∧ ∃ q, wr = w.drewN q) (fun i _ => n - (intOf i).toNat)
  case atStart => exact ⟨0, Nat.zero_le _, rfl, fun j hj => absurd hj (Nat.not_lt_zero _), 0, rfl⟩
  case round =>
    obtain ⟨k, hk, rfl, hall, q, rfl⟩ := hrel
    have HA : Hid (∀ j, j < k → rAt xs j = rAt ys j) := hall
    clear hall
    by_cases hlt : k < n
    · have e1 := ha (by omega)
      have e2 := ha' (by omega)
      subst e1 e2
      obtain ⟨h1, h2⟩ := HC.out k hlt
      obtain ⟨h3, h4⟩ := HC'.out k hlt
      clear ha ha'
      have HT : Hid (∀ y z y' z', (y, z) = rAt xs k → (y', z') = rAt ys k → (y, z) ≠ (y', z') → rnB xs ys = false) := fun y z y' z' g1 g2 h => rnB_at (k := k) (by rw [← g1, ← g2]; exact h)
      obtain ⟨⟨y, z⟩, hyz⟩ : ∃ y, y = rAt xs k := ⟨_, rfl⟩
      obtain ⟨⟨y', z'⟩, hyz'⟩ : ∃ y, y = rAt ys k := ⟨_, rfl⟩
      rw [← hyz] at h1 h2
      rw [← hyz'] at h3 h4
      have G1 : Hid ((y, z) = rAt xs k) := hyz
      have G2 : Hid ((y', z') = rAt ys k) := hyz'
      clear hyz hyz'
      simp only at h1 h2 h3 h4
      by_cases hy : y = y'
      · have hyb : (y == y') = true := by simp [hy]
        have HY1 : Hid (y = y') := hy
        clear hy
        by_cases hz : z = z'
        · have hzb : (z == z') = true := by simp [hz]
          have HZ1 : Hid (z = z') := hz
          clear hz
          go_wp2
          go_quiet (fail)
          go_wp2
          go_roundw
          case rel =>
            refine ⟨k + 1, by omega, by go_num, fun j hj => ?_, ?_⟩
            · by_cases e : j = k
              · subst e; rw [← G1.out, ← G2.out, HY1.out, HZ1.out]
              · exact HA.out j (by omega)
            · exact ⟨q + nq, rfl⟩
          case measure => simp [intOf]; omega
        · have hzb : (z == z') = false := by simp [hz]
          have HF : Hid (rnB xs ys = false) := HT.out _ _ _ _ G1.out G2.out (fun e => hz (Prod.mk.inj e).2)
          clear hz
          go_wp2
          go_quiet (fail)
          go_wp2
          go_ret
          exact ⟨by rw [HF.out]; rfl, q + nq, by rw [World.drewN_drewN]⟩
      · have hyb : (y == y') = false := by simp [hy]
        have HF : Hid (rnB xs ys = false) := HT.out _ _ _ _ G1.out G2.out (fun e => hy (Prod.mk.inj e).1)
        clear hy
        go_wp2
        go_quiet (fail)
        go_wp2
        go_ret
        exact ⟨by rw [HF.out]; rfl, q + nq, by rw [World.drewN_drewN]⟩
    · have hkn : k = n := by omega
      subst hkn
      go_wp2
      go_ret
      exact ⟨by rw [rnB_all (by rw [HX.out, HY.out]) (by rw [HX.out]; exact HA.out)]; rfl, q, rfl⟩

theorem runs_any (w : World) (v v' : Value) (xs ys : List Rn) (hx : RunsIs w v xs) (hy : RunsIs w v' ys) :
    Calls Tryd.prog 12 #[v, v'] w fun e w' => e = .returned (.bool (rnB xs ys)) ∧ ∃ q, w' = w.drewN q := by
  obtain ⟨a, c, b, o, rfl, hl, ha, _, hc⟩ := hx.where
  obtain ⟨a', c', b', o', rfl, _, ha', _, hc'⟩ := hy.where
  by_cases h : xs.length = ys.length
  · rw [← h] at ha' hc' ⊢
    exact runs_same w a a' xs.length c c' b o b' o' xs ys rfl h.symm hl ha ha' hc hc'
  · rw [rnB_len h]
    refine (runs_len w a a' xs.length ys.length c c' h).mono ?_
    rintro e w' ⟨rfl, rfl⟩
    exact ⟨rfl, 0, rfl⟩

end Go.Proofs.YtihefpnagdacpaaDoor
