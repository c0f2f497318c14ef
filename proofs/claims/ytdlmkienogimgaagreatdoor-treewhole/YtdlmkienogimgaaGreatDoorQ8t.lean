/- This text proves what platterholdsame.Texts answers: whether two lists of texts are the same; old memory is as it was; the conditions are that slices lie there. -/
import Derived.Test.YtdlmkienogimgaaGreatDoorQ6
namespace Go.Proofs.YtdlmkienogimgaaGreatDoor
open Go.RowKit Go.Deep Go.Shelf

def eqS (xs ys : List (List UInt8)) : Bool := decide (xs = ys)
theorem eqS_self (xs : List (List UInt8)) : eqS xs xs = true := by unfold eqS; simp
theorem eqS_len {xs ys : List (List UInt8)} (h : xs.length ≠ ys.length) : eqS xs ys = false := by
  unfold eqS; simp; intro e; exact h (by rw [e])
theorem eqS_at {xs ys : List (List UInt8)} {k : Nat} (h : sth xs k ≠ sth ys k) : eqS xs ys = false := by
  unfold eqS; simp; intro e; exact h (by rw [e])
theorem eqS_all {xs ys : List (List UInt8)} (hl : xs.length = ys.length) (h : ∀ i, i < xs.length → sth xs i = sth ys i) : eqS xs ys = true := by
  unfold eqS
  rw [decide_eq_true_iff]
  refine List.ext_getElem hl fun i h1 h2 => ?_
  rw [← sth_lt h1, ← sth_lt h2]
  exact h i h1

theorem below_drewN (w : World) (B q : Nat) : Below B w (w.drewN q) := ⟨rfl, rfl, rfl, Nat.le_refl _, fun _ _ => rfl⟩

set_option maxHeartbeats 1000000 in
theorem texts_len (w : World) (a a' : Option Addr) (n n' c c' : Nat) (h : n ≠ n') :
    Calls Tryz.prog 15 #[.slice a n c, .slice a' n' c'] w fun e w' => e = .returned (.bool false) ∧ w = w' := by
  have h' : ((n : Int) == (n' : Int)) = false := by simp; omega
  go_enter Tryz.func15, Tryz.ntmps15
  go_wp2
  go_ret
  exact ⟨rfl, rfl⟩

set_option maxHeartbeats 2000000 in
theorem texts_same (w : World) (a a' : Option Addr) (n c c' : Nat) (b o b' o' : Nat) (xs ys : List (List UInt8)) (hx : xs.length = n) (hy : ys.length = n) (hn : n ≤ maxLen)
    (ha : 0 < n → a = some ⟨b, o, none⟩) (ha' : 0 < n → a' = some ⟨b', o', none⟩)
    (hc : ∀ i, i < n → w.cell? ⟨b, o + i, none⟩ = some (.string (bs (sth xs i)))) (hc' : ∀ i, i < n → w.cell? ⟨b', o' + i, none⟩ = some (.string (bs (sth ys i)))) :
    Calls Tryz.prog 15 #[.slice a n c, .slice a' n c'] w fun e w' => e = .returned (.bool (eqS xs ys)) ∧ ∃ q, w' = w.drewN q := by
  unfold maxLen at hn
  have HX : Hid (xs.length = n) := hx
  have HY : Hid (ys.length = n) := hy
  have HC : Hid (∀ i, i < n → w.cell? ⟨b, o + i, none⟩ = some (.string (bs (sth xs i)))) := hc
  have HC' : Hid (∀ i, i < n → w.cell? ⟨b', o' + i, none⟩ = some (.string (bs (sth ys i)))) := hc'
  clear hx hy hc hc'
  go_enter Tryz.func15, Tryz.ntmps15
  go_wp2
  go_loopw [5] (fun i wr => ∃ k : Nat, k ≤ n ∧ i = .int .i64 k ∧ (∀ j, j < k → sth xs j = sth ys j) ∧ ∃ q, wr = w.drewN q) (fun i _ => n - (intOf i).toNat)
  case atStart => exact ⟨0, Nat.zero_le _, rfl, fun j hj => absurd hj (Nat.not_lt_zero _), 0, rfl⟩
  case round =>
    obtain ⟨k, hk, rfl, hall, q, rfl⟩ := hrel
    have HA : Hid (∀ j, j < k → sth xs j = sth ys j) := hall
    clear hall
    by_cases hlt : k < n
    · have e1 := ha (by omega)
      have e2 := ha' (by omega)
      subst e1 e2
      have h1 := HC.out k hlt
      have h2 := HC'.out k hlt
      clear ha ha'
      have HE : Hid ((sth xs k = sth ys k) = (bs (sth xs k) = bs (sth ys k))) := by simp only [Hid]; exact propext ⟨fun e => by rw [e], bs_inj⟩
      have HT : Hid (∀ x : List UInt8, (bs x).toList = x) := fun x => by rw [ByteArray.toList_eq, data_bs]
      by_cases he : sth xs k = sth ys k
      · have hb : ((bs (sth xs k)).toList == (bs (sth ys k)).toList) = true := by rw [HT.out, HT.out, he]; simp
        have HE : Hid (sth xs k = sth ys k) := he
        clear he
        go_wp2
        go_quiet (fail)
        go_wp2
        go_roundw
        case rel =>
          refine ⟨k + 1, by omega, by go_num, fun j hj => ?_, ?_⟩
          · by_cases e : j = k
            · subst e; exact HE.out
            · exact HA.out j (by omega)
          · exact ⟨q + nq, rfl⟩
        case measure => simp [intOf]; omega
      · have hb : ((bs (sth xs k)).toList == (bs (sth ys k)).toList) = false := by rw [HT.out, HT.out]; simp [he]
        have HE : Hid (¬ sth xs k = sth ys k) := he
        clear he
        go_wp2
        go_quiet (fail)
        go_wp2
        go_ret
        exact ⟨by rw [eqS_at HE.out]; rfl, q + nq, by rw [World.drewN_drewN]⟩
    · have hkn : k = n := by omega
      subst hkn
      go_wp2
      go_ret
      exact ⟨by rw [eqS_all (by rw [HX.out, HY.out]) (by rw [HX.out]; exact HA.out)]; rfl, q, rfl⟩

theorem texts_any (w : World) (v v' : Value) (xs ys : List (List UInt8)) (hx : StrsIs w v xs) (hy : StrsIs w v' ys) :
    Calls Tryz.prog 15 #[v, v'] w fun e w' => e = .returned (.bool (eqS xs ys)) ∧ Below w.heap.size w w' := by
  obtain ⟨a, c, b, o, rfl, _, hl, ha, hc⟩ := hx.where
  obtain ⟨a', c', b', o', rfl, _, _, ha', hc'⟩ := hy.where
  by_cases h : xs.length = ys.length
  · rw [← h] at ha' hc' ⊢
    refine (texts_same w a a' xs.length c c' b o b' o' xs ys rfl h.symm hl (fun h => (ha h).1) (fun h => (ha' h).1) hc hc').mono ?_
    rintro e w' ⟨rfl, q, rfl⟩
    exact ⟨rfl, below_drewN _ _ _⟩
  · rw [eqS_len h]
    refine (texts_len w a a' xs.length ys.length c c' h).mono ?_
    rintro e w' ⟨rfl, rfl⟩
    exact ⟨rfl, Below.refl _ _⟩

end Go.Proofs.YtdlmkienogimgaaGreatDoor
