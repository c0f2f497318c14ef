/- This text proves what the document's own functions in, All and Bytes (package platterholdref1) answer: whether all numbers lie between two, and what is wrong with a list of bytes; nothing is written; the only condition is that the slices lie there. -/
import Derived.Test.YtepnbkonhaongaaDoorChecked
import Derived.Test.YtepnbkonhaongaaDoorWh
import Derived.Test.YtepnbkonhaongaaDoorXor
import Derived.WalkKit
import Derived.Outline
import Derived.WalkSpells
import Derived.WalkLawsBesides
import Derived.Deep.QuietTactic
import Derived.BigQuiet
namespace Go.Proofs.YtepnbkonhaongaaDoor
open Go.RowKit Go.Deep

set_option maxHeartbeats 1000000 in
theorem rin_any (x lo hi : Int) (w : World) :
    Calls Tryd.prog 49 #[.int .i64 x, .int .i64 lo, .int .i64 hi] w fun e w' => e = .returned (.bool (decide (lo ≤ x ∧ x ≤ hi))) ∧ w = w' := by
  by_cases h1 : lo ≤ x
  · by_cases h2 : x ≤ hi
    · have e : decide (lo ≤ x ∧ x ≤ hi) = true := by simp [h1, h2]
      rw [e]
      go_enter Tryd.func49, Tryd.ntmps49
      go_wp2
      go_ret
      exact ⟨rfl, rfl⟩
    · have e : decide (lo ≤ x ∧ x ≤ hi) = false := by simp [h2]
      rw [e]
      go_enter Tryd.func49, Tryd.ntmps49
      go_wp2
      go_ret
      exact ⟨rfl, rfl⟩
  · have e : decide (lo ≤ x ∧ x ≤ hi) = false := by simp [h1]
    rw [e]
    go_enter Tryd.func49, Tryd.ntmps49
    go_wp2
    go_ret
    exact ⟨rfl, rfl⟩

/-- All numbers of a list lie between two. -/
def allB (lo hi : Int) (xs : List Int) : Bool := xs.all fun x => decide (lo ≤ x ∧ x ≤ hi)

theorem allB_no {lo hi : Int} {xs : List Int} {k : Nat} (hk : k < xs.length) (h : ¬ (lo ≤ nth xs k ∧ nth xs k ≤ hi)) : allB lo hi xs = false := by
  unfold allB
  rw [List.all_eq_false]
  exact ⟨_, nth_mem hk, by simpa using h⟩

theorem allB_yes {lo hi : Int} {xs : List Int} (h : ∀ k, k < xs.length → lo ≤ nth xs k ∧ nth xs k ≤ hi) : allB lo hi xs = true := by
  unfold allB
  rw [List.all_eq_true]
  intro x hx
  obtain ⟨i, hi, rfl⟩ := List.getElem_of_mem hx
  rw [decide_eq_true_iff, ← nth_lt hi]
  exact h i hi

set_option maxHeartbeats 1000000 in
theorem all_any (w : World) (v : Value) (xs : List Int) (lo hi : Int) (hx : SliceIs w v xs) :
    Calls Tryd.prog 37 #[v, .int .i64 lo, .int .i64 hi] w fun e w' => e = .returned (.bool (allB lo hi xs)) ∧ w = w' := by
  obtain ⟨a, c, b, o, rfl, hl, ha, hc⟩ := hx.where
  obtain ⟨n, hxn⟩ : ∃ n, n = xs.length := ⟨_, rfl⟩
  have HX : Hid (n = xs.length) := hxn
  rw [← hxn] at hl ha hc ⊢
  have HC : Hid (∀ i, i < n → w.cell? ⟨b, o + i, none⟩ = some (.int .i64 (nth xs i))) := hc
  unfold maxLen at hl
  clear hc hxn
  go_enter Tryd.func37, Tryd.ntmps37
  go_wp2
  go_loop [7] (fun i => ∃ k : Nat, k ≤ n ∧ i = .int .i64 k ∧ ∀ j, j < k → lo ≤ nth xs j ∧ nth xs j ≤ hi) (fun i => n - (intOf i).toNat)
  case atStart => exact ⟨0, Nat.zero_le _, rfl, fun j hj => absurd hj (Nat.not_lt_zero _)⟩
  case round =>
    obtain ⟨k, hk, rfl, hall⟩ := hrel
    have HA : Hid (∀ j, j < k → lo ≤ nth xs j ∧ nth xs j ≤ hi) := hall
    clear hall
    by_cases hlt : k < n
    · have hck := HC.out k hlt
      have haa := ha (by omega)
      subst haa
      by_cases hb : lo ≤ nth xs k ∧ nth xs k ≤ hi
      · have HB : Hid (lo ≤ nth xs k ∧ nth xs k ≤ hi) := hb
        have HD : Hid (decide (lo ≤ nth xs k ∧ nth xs k ≤ hi) = true) := decide_eq_true hb
        clear hb
        go_wp2_with (go_at_call 49; refine (rin_any _ _ _ _).mono ?_; rintro e w' ⟨rfl, rfl⟩; rw [HD.out])
        go_round
        case rel =>
          refine ⟨k + 1, by omega, by go_num, fun j hj => ?_⟩
          by_cases e : j = k
          · subst e; exact HB.out
          · exact HA.out j (by omega)
        case measure => simp [intOf]; omega
      · have HD : Hid (decide (lo ≤ nth xs k ∧ nth xs k ≤ hi) = false) := decide_eq_false hb
        have HF : Hid (allB lo hi xs = false) := allB_no (by rw [← HX.out]; exact hlt) hb
        clear hb
        go_wp2_with (go_at_call 49; refine (rin_any _ _ _ _).mono ?_; rintro e w' ⟨rfl, rfl⟩; rw [HD.out])
        go_ret
        exact ⟨by rw [HF.out]; rfl, rfl⟩
    · have hkn : k = n := by omega
      subst hkn
      have HF : Hid (allB lo hi xs = true) := allB_yes (by rw [← HX.out]; exact HA.out)
      go_wp2
      go_ret
      exact ⟨by rw [HF.out]; rfl, rfl⟩

/-- What is wrong with a list of bytes. -/
def bytesE (most : Int) (xs : List Int) : Nat := if most < (xs.length : Int) then 4 else if allB 0 255 xs then 0 else 1

theorem allB_byte (xs : List Int) : allB 0 255 xs = xs.all byteB := by
  unfold allB
  congr 1
  funext x
  simp [byteB]

set_option maxHeartbeats 1000000 in
theorem bytes_any (w : World) (v : Value) (xs : List Int) (most : Int) (hx : SliceIs w v xs) :
    Calls Tryd.prog 28 #[v, .int .i64 most] w fun e w' => e = .returned (.int .i64 (bytesE most xs : Int)) ∧ w = w' := by
  obtain ⟨a, c, rfl, hl, hi⟩ := id hx
  clear hi hl
  by_cases h : most < (xs.length : Int)
  · have HE : Hid (bytesE most xs = 4) := by show bytesE most xs = 4; simp [bytesE, h]
    go_enter Tryd.func28, Tryd.ntmps28
    go_wp2
    go_ret
    exact ⟨by rw [HE.out]; rfl, rfl⟩
  · cases hb : allB 0 255 xs with
    | true =>
      have HE : Hid (bytesE most xs = 0) := by show bytesE most xs = 0; simp [bytesE, h, hb]
      have HB : Hid (allB 0 255 xs = true) := hb
      clear hb
      go_enter Tryd.func28, Tryd.ntmps28
      go_wp2_with (go_at_call 37; refine (all_any _ _ _ _ _ hx).mono ?_; rintro e w' ⟨rfl, rfl⟩; rw [HB.out])
      go_ret
      exact ⟨by rw [HE.out]; rfl, rfl⟩
    | false =>
      have HE : Hid (bytesE most xs = 1) := by show bytesE most xs = 1; simp [bytesE, h, hb]
      have HB : Hid (allB 0 255 xs = false) := hb
      clear hb
      go_enter Tryd.func28, Tryd.ntmps28
      go_wp2_with (go_at_call 37; refine (all_any _ _ _ _ _ hx).mono ?_; rintro e w' ⟨rfl, rfl⟩; rw [HB.out])
      go_ret
      exact ⟨by rw [HE.out]; rfl, rfl⟩

end Go.Proofs.YtepnbkonhaongaaDoor
