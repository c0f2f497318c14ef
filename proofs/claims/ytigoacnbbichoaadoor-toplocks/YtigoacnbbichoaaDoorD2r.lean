/- This text proves what mode.areWho answers of any numbers that lie there, and mode.May of any numbers; no memory that was there is written; no condition. -/
import Derived.Test.YtigoacnbbichoaaDoorD1r
import Derived.Test.YtigoacnbbichoaaDoorLo
namespace Go.Proofs.YtigoacnbbichoaaDoor
open Go.RowKit Go.Deep

/-- All numbers are of those that are somebody. -/
def allW (xs : List Int) : Bool := xs.all okW

theorem allW_no {xs : List Int} {k : Nat} (hk : k < xs.length) (h : okW (nth xs k) = false) : allW xs = false := by
  unfold allW
  rw [Bool.eq_false_iff]
  intro e
  have := List.all_eq_true.1 e (nth xs k) (by rw [nth_lt hk]; exact List.getElem_mem hk)
  rw [h] at this
  cases this
theorem allW_yes {xs : List Int} (h : ∀ k, k < xs.length → okW (nth xs k) = true) : allW xs = true := by
  unfold allW
  rw [List.all_eq_true]
  intro x hx
  obtain ⟨k, hk, rfl⟩ := List.getElem_of_mem hx
  rw [← nth_lt hk]
  exact h k hk

set_option maxHeartbeats 2000000 in
theorem areWho_any (w : World) (v : Value) (xs : List Int) (hx : SliceIs w v xs) :
    Calls Tryd.prog 28 #[v] w fun e w' => e = .returned (.bool (allW xs)) ∧ w = w' := by
  obtain ⟨a, c, b, o, rfl, hn, ha, hc⟩ := hx.where
  unfold maxLen at hn
  have HC : Hid (∀ i, i < xs.length → w.cell? ⟨b, o + i, none⟩ = some (.int .i64 (nth xs i))) := hc
  have HY : Hid ((∀ k, k < xs.length → okW (nth xs k) = true) → allW xs = true) := allW_yes
  have HN : Hid (∀ k, k < xs.length → okW (nth xs k) = false → allW xs = false) := fun k h1 h2 => allW_no h1 h2
  clear hc hx
  generalize allW xs = R at HY HN ⊢
  generalize xs.length = n at hn ha HC HY HN ⊢
  go_enter Tryd.func28, Tryd.ntmps28
  go_wp2
  go_loop [4, 7] (fun _ i => ∃ k : Nat, k ≤ n ∧ i = .int .i64 k ∧ (∀ j, j < k → okW (nth xs j) = true)) (fun _ i => n - (intOf i).toNat)
  case atStart => exact ⟨0, Nat.zero_le _, rfl, fun j hj => absurd hj (Nat.not_lt_zero _)⟩
  case round =>
    obtain ⟨k, hk, rfl, hall⟩ := hrel
    have HA : Hid (∀ j, j < k → okW (nth xs j) = true) := hall
    clear hall
    by_cases hlt : k < n
    · have e1 := ha (by omega)
      subst e1
      have h1 := HC.out k hlt
      clear ha
      have HW : Hid (∀ w, Calls Tryd.prog 29 #[.int .i64 (nth xs k), .int .i64 9] w fun e w' => e = .returned (.bool (okW (nth xs k))) ∧ w = w') := fun w => within_any (nth xs k) 9 w
      cases he : okW (nth xs k)
      · have HE : Hid (R = false) := HN.out k hlt he
        rw [he] at HW
        clear he
        generalize nth xs k = x at HW h1
        go_wp2_with fail
        refine (HW.out _).mono ?_
        rintro e w' ⟨rfl, rfl⟩
        go_wp2
        go_ret
        exact ⟨by rw [HE.out]; rfl, rfl⟩
      · have HE : Hid (okW (nth xs k) = true) := he
        rw [he] at HW
        clear he
        generalize hy : nth xs k = x at HW h1
        have HYY : Hid (nth xs k = x) := hy
        clear hy
        go_wp2_with fail
        refine (HW.out _).mono ?_
        rintro e w' ⟨rfl, rfl⟩
        go_wp2
        refine ⟨⟨k + 1, by omega, by go_num, fun j hj => ?_⟩, ?_⟩
        · by_cases e : j = k
          · subst e; exact HE.out
          · exact HA.out j (by omega)
        · simp only [intOf]; omega
    · have HE : Hid (R = true) := HY.out fun j hj => HA.out j (by omega)
      have hkn : k = n := by omega
      subst hkn
      go_wp2
      go_ret
      exact ⟨by rw [HE.out]; rfl, rfl⟩

end Go.Proofs.YtigoacnbbichoaaDoor
