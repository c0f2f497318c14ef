/- This text proves what the document's bit, Right and Held return, of words of seven bits; the world is as it was, but for what was drawn. -/
import Derived.Test.YtpkchjdlleeccaaDoorChecked
import Derived.Test.YtpkchjdlleeccaaDoorHm
import Derived.Deep.QuietTactic
import Derived.BigQuiet
namespace Go.Proofs.YtpkchjdlleeccaaDoor
open Go.RowKit

set_option maxHeartbeats 1000000 in
theorem bit_any (w p : Nat) (W : World) (hw : w < 128) (h1 : 1 ≤ p) (h7 : p ≤ 7) :
    Calls Tryd.prog 23 #[.int .i64 (w : Int), .int .i64 (p : Int)] W fun e W' => e = .returned (.int .i64 (bitA w p : Int)) ∧ W = W' := by
  obtain ⟨q, rfl⟩ : ∃ q, p = q + 1 := ⟨p - 1, by omega⟩
  go_enter Tryd.func23, Tryd.ntmps23
  go_wp2
  go_loop [0, 5] (fun x i => ∃ k : Nat, k ≤ q ∧ i = .int .i64 ((k : Int) + 1) ∧ x = .int .i64 ((w / 2 ^ k : Nat) : Int)) (fun _ i => 8 - (intOf i).toNat)
  case atStart => exact ⟨0, by omega, rfl, by simp⟩
  case round =>
    obtain ⟨k, hk, rfl, rfl⟩ := hrel
    have hq : w / 2 ^ k ≤ w := Nat.div_le_self _ _
    have HM : Hid (((w / 2 ^ k : Nat) : Int) / 2 = ((w / 2 ^ (k + 1) : Nat) : Int)) := by
      show ((w / 2 ^ k : Nat) : Int) / 2 = ((w / 2 ^ (k + 1) : Nat) : Int)
      rw [Nat.pow_succ, ← Nat.div_div_eq_div_mul]
      omega
    have HB : Hid (bitA w (k + 1) = w / 2 ^ k % 2) := rfl
    by_cases hlt : k < q
    · generalize hy : w / 2 ^ k = y at hq HM
      clear hy
      go_wp2
      rw [HM.out]
      refine ⟨⟨k + 1, by omega, rfl, rfl⟩, ?_⟩
      simp only [intOf]
      omega
    · obtain rfl : k = q := by omega
      generalize w / 2 ^ k = y at hq HM HB
      have HC : Hid ((y : Int) % 2 = ((y % 2 : Nat) : Int)) := by show (y : Int) % 2 = ((y % 2 : Nat) : Int); omega
      go_wp2
      go_ret
      rw [HB.out]
      exact ⟨by rw [HC.out]; rfl, rfl⟩

/-- Are all three checks even? -/
def rightA (w : Nat) : Bool := decide ((bitA w 1 + bitA w 3 + bitA w 5 + bitA w 7) % 2 = 0) && decide ((bitA w 2 + bitA w 3 + bitA w 6 + bitA w 7) % 2 = 0) && decide ((bitA w 4 + bitA w 5 + bitA w 6 + bitA w 7) % 2 = 0)
def heldA (w : Nat) : Nat := bitA w 3 + 2 * bitA w 5 + 4 * bitA w 6 + 8 * bitA w 7

set_option maxHeartbeats 4000000 in
theorem held_any (w : Nat) (W : World) (hw : w < 128) :
    Calls Tryd.prog 17 #[.int .i64 (w : Int)] W fun e W' => e = .returned (.int .i64 (heldA w : Int)) ∧ W = W' := by
  have HS : Hid (heldA w = bitA w 3 + 2 * bitA w 5 + 4 * bitA w 6 + 8 * bitA w 7) := rfl
  have h3 := bitA_lt w 3
  have h5 := bitA_lt w 5
  have h6 := bitA_lt w 6
  have h7 := bitA_lt w 7
  go_enter Tryd.func17, Tryd.ntmps17
  go_wp2_with fail
  refine (bit_any w 3 _ hw (by omega) (by omega)).mono ?_
  rintro e w' ⟨rfl, rfl⟩
  go_wp2_with fail
  refine (bit_any w 5 _ hw (by omega) (by omega)).mono ?_
  rintro e w' ⟨rfl, rfl⟩
  go_wp2_with fail
  refine (bit_any w 6 _ hw (by omega) (by omega)).mono ?_
  rintro e w' ⟨rfl, rfl⟩
  go_wp2_with fail
  refine (bit_any w 7 _ hw (by omega) (by omega)).mono ?_
  rintro e w' ⟨rfl, rfl⟩
  generalize bitA w 3 = b3 at h3 HS
  generalize bitA w 5 = b5 at h5 HS
  generalize bitA w 6 = b6 at h6 HS
  generalize bitA w 7 = b7 at h7 HS
  go_wp2
  go_ret
  refine ⟨?_, rfl⟩
  rw [HS.out]
  simp

set_option maxHeartbeats 4000000 in
theorem right_0 (w : Nat) (W : World) (hw : w < 128) (s : (bitA w 1 + bitA w 3 + bitA w 5 + bitA w 7) % 2 = 1) :
    Calls Tryd.prog 16 #[.int .i64 (w : Int)] W fun e W' => e = .returned (.bool false) ∧ W = W' := by
  have h1 := bitA_lt w 1
  have h2 := bitA_lt w 2
  have h3 := bitA_lt w 3
  have h4 := bitA_lt w 4
  have h5 := bitA_lt w 5
  have h6 := bitA_lt w 6
  have h7 := bitA_lt w 7
  have HS : Hid _ := s
  clear s
  go_enter Tryd.func16, Tryd.ntmps16
  go_wp2_with fail
  refine (bit_any w 1 _ hw (by omega) (by omega)).mono ?_
  rintro e w' ⟨rfl, rfl⟩
  go_wp2_with fail
  refine (bit_any w 3 _ hw (by omega) (by omega)).mono ?_
  rintro e w' ⟨rfl, rfl⟩
  go_wp2_with fail
  refine (bit_any w 5 _ hw (by omega) (by omega)).mono ?_
  rintro e w' ⟨rfl, rfl⟩
  go_wp2_with fail
  refine (bit_any w 7 _ hw (by omega) (by omega)).mono ?_
  rintro e w' ⟨rfl, rfl⟩
  go_wp2_with fail
  refine (bit_any w 2 _ hw (by omega) (by omega)).mono ?_
  rintro e w' ⟨rfl, rfl⟩
  go_wp2_with fail
  refine (bit_any w 3 _ hw (by omega) (by omega)).mono ?_
  rintro e w' ⟨rfl, rfl⟩
  go_wp2_with fail
  refine (bit_any w 6 _ hw (by omega) (by omega)).mono ?_
  rintro e w' ⟨rfl, rfl⟩
  go_wp2_with fail
  refine (bit_any w 7 _ hw (by omega) (by omega)).mono ?_
  rintro e w' ⟨rfl, rfl⟩
  go_wp2_with fail
  refine (bit_any w 4 _ hw (by omega) (by omega)).mono ?_
  rintro e w' ⟨rfl, rfl⟩
  go_wp2_with fail
  refine (bit_any w 5 _ hw (by omega) (by omega)).mono ?_
  rintro e w' ⟨rfl, rfl⟩
  go_wp2_with fail
  refine (bit_any w 6 _ hw (by omega) (by omega)).mono ?_
  rintro e w' ⟨rfl, rfl⟩
  go_wp2_with fail
  refine (bit_any w 7 _ hw (by omega) (by omega)).mono ?_
  rintro e w' ⟨rfl, rfl⟩
  have s := HS.out
  clear HS
  generalize bitA w 1 = b1 at *
  generalize bitA w 2 = b2 at *
  generalize bitA w 3 = b3 at *
  generalize bitA w 4 = b4 at *
  generalize bitA w 5 = b5 at *
  generalize bitA w 6 = b6 at *
  generalize bitA w 7 = b7 at *
  go_wp2
  go_ret
  exact ⟨rfl, rfl⟩

set_option maxHeartbeats 4000000 in
theorem right_1 (w : Nat) (W : World) (hw : w < 128) (s : (bitA w 1 + bitA w 3 + bitA w 5 + bitA w 7) % 2 = 0) (t : (bitA w 2 + bitA w 3 + bitA w 6 + bitA w 7) % 2 = 1) :
    Calls Tryd.prog 16 #[.int .i64 (w : Int)] W fun e W' => e = .returned (.bool false) ∧ W = W' := by
  have h1 := bitA_lt w 1
  have h2 := bitA_lt w 2
  have h3 := bitA_lt w 3
  have h4 := bitA_lt w 4
  have h5 := bitA_lt w 5
  have h6 := bitA_lt w 6
  have h7 := bitA_lt w 7
  have HS : Hid _ := s
  clear s
  have HT : Hid _ := t
  clear t
  go_enter Tryd.func16, Tryd.ntmps16
  go_wp2_with fail
  refine (bit_any w 1 _ hw (by omega) (by omega)).mono ?_
  rintro e w' ⟨rfl, rfl⟩
  go_wp2_with fail
  refine (bit_any w 3 _ hw (by omega) (by omega)).mono ?_
  rintro e w' ⟨rfl, rfl⟩
  go_wp2_with fail
  refine (bit_any w 5 _ hw (by omega) (by omega)).mono ?_
  rintro e w' ⟨rfl, rfl⟩
  go_wp2_with fail
  refine (bit_any w 7 _ hw (by omega) (by omega)).mono ?_
  rintro e w' ⟨rfl, rfl⟩
  go_wp2_with fail
  refine (bit_any w 2 _ hw (by omega) (by omega)).mono ?_
  rintro e w' ⟨rfl, rfl⟩
  go_wp2_with fail
  refine (bit_any w 3 _ hw (by omega) (by omega)).mono ?_
  rintro e w' ⟨rfl, rfl⟩
  go_wp2_with fail
  refine (bit_any w 6 _ hw (by omega) (by omega)).mono ?_
  rintro e w' ⟨rfl, rfl⟩
  go_wp2_with fail
  refine (bit_any w 7 _ hw (by omega) (by omega)).mono ?_
  rintro e w' ⟨rfl, rfl⟩
  go_wp2_with fail
  refine (bit_any w 4 _ hw (by omega) (by omega)).mono ?_
  rintro e w' ⟨rfl, rfl⟩
  go_wp2_with fail
  refine (bit_any w 5 _ hw (by omega) (by omega)).mono ?_
  rintro e w' ⟨rfl, rfl⟩
  go_wp2_with fail
  refine (bit_any w 6 _ hw (by omega) (by omega)).mono ?_
  rintro e w' ⟨rfl, rfl⟩
  go_wp2_with fail
  refine (bit_any w 7 _ hw (by omega) (by omega)).mono ?_
  rintro e w' ⟨rfl, rfl⟩
  have s := HS.out
  clear HS
  have t := HT.out
  clear HT
  generalize bitA w 1 = b1 at *
  generalize bitA w 2 = b2 at *
  generalize bitA w 3 = b3 at *
  generalize bitA w 4 = b4 at *
  generalize bitA w 5 = b5 at *
  generalize bitA w 6 = b6 at *
  generalize bitA w 7 = b7 at *
  go_wp2
  go_ret
  exact ⟨rfl, rfl⟩

set_option maxHeartbeats 4000000 in
theorem right_2 (w : Nat) (W : World) (hw : w < 128) (s : (bitA w 1 + bitA w 3 + bitA w 5 + bitA w 7) % 2 = 0) (t : (bitA w 2 + bitA w 3 + bitA w 6 + bitA w 7) % 2 = 0) (u : (bitA w 4 + bitA w 5 + bitA w 6 + bitA w 7) % 2 = 1) :
    Calls Tryd.prog 16 #[.int .i64 (w : Int)] W fun e W' => e = .returned (.bool false) ∧ W = W' := by
  have h1 := bitA_lt w 1
  have h2 := bitA_lt w 2
  have h3 := bitA_lt w 3
  have h4 := bitA_lt w 4
  have h5 := bitA_lt w 5
  have h6 := bitA_lt w 6
  have h7 := bitA_lt w 7
  have HS : Hid _ := s
  clear s
  have HT : Hid _ := t
  clear t
  have HU : Hid _ := u
  clear u
  go_enter Tryd.func16, Tryd.ntmps16
  go_wp2_with fail
  refine (bit_any w 1 _ hw (by omega) (by omega)).mono ?_
  rintro e w' ⟨rfl, rfl⟩
  go_wp2_with fail
  refine (bit_any w 3 _ hw (by omega) (by omega)).mono ?_
  rintro e w' ⟨rfl, rfl⟩
  go_wp2_with fail
  refine (bit_any w 5 _ hw (by omega) (by omega)).mono ?_
  rintro e w' ⟨rfl, rfl⟩
  go_wp2_with fail
  refine (bit_any w 7 _ hw (by omega) (by omega)).mono ?_
  rintro e w' ⟨rfl, rfl⟩
  go_wp2_with fail
  refine (bit_any w 2 _ hw (by omega) (by omega)).mono ?_
  rintro e w' ⟨rfl, rfl⟩
  go_wp2_with fail
  refine (bit_any w 3 _ hw (by omega) (by omega)).mono ?_
  rintro e w' ⟨rfl, rfl⟩
  go_wp2_with fail
  refine (bit_any w 6 _ hw (by omega) (by omega)).mono ?_
  rintro e w' ⟨rfl, rfl⟩
  go_wp2_with fail
  refine (bit_any w 7 _ hw (by omega) (by omega)).mono ?_
  rintro e w' ⟨rfl, rfl⟩
  go_wp2_with fail
  refine (bit_any w 4 _ hw (by omega) (by omega)).mono ?_
  rintro e w' ⟨rfl, rfl⟩
  go_wp2_with fail
  refine (bit_any w 5 _ hw (by omega) (by omega)).mono ?_
  rintro e w' ⟨rfl, rfl⟩
  go_wp2_with fail
  refine (bit_any w 6 _ hw (by omega) (by omega)).mono ?_
  rintro e w' ⟨rfl, rfl⟩
  go_wp2_with fail
  refine (bit_any w 7 _ hw (by omega) (by omega)).mono ?_
  rintro e w' ⟨rfl, rfl⟩
  have s := HS.out
  clear HS
  have t := HT.out
  clear HT
  have u := HU.out
  clear HU
  generalize bitA w 1 = b1 at *
  generalize bitA w 2 = b2 at *
  generalize bitA w 3 = b3 at *
  generalize bitA w 4 = b4 at *
  generalize bitA w 5 = b5 at *
  generalize bitA w 6 = b6 at *
  generalize bitA w 7 = b7 at *
  go_wp2
  go_ret
  rw [show ((b4 : Int) + b5 + b6 + b7) % 2 = 1 by omega]
  exact ⟨rfl, rfl⟩

set_option maxHeartbeats 4000000 in
theorem right_3 (w : Nat) (W : World) (hw : w < 128) (s : (bitA w 1 + bitA w 3 + bitA w 5 + bitA w 7) % 2 = 0) (t : (bitA w 2 + bitA w 3 + bitA w 6 + bitA w 7) % 2 = 0) (u : (bitA w 4 + bitA w 5 + bitA w 6 + bitA w 7) % 2 = 0) :
    Calls Tryd.prog 16 #[.int .i64 (w : Int)] W fun e W' => e = .returned (.bool true) ∧ W = W' := by
  have h1 := bitA_lt w 1
  have h2 := bitA_lt w 2
  have h3 := bitA_lt w 3
  have h4 := bitA_lt w 4
  have h5 := bitA_lt w 5
  have h6 := bitA_lt w 6
  have h7 := bitA_lt w 7
  have HS : Hid _ := s
  clear s
  have HT : Hid _ := t
  clear t
  have HU : Hid _ := u
  clear u
  go_enter Tryd.func16, Tryd.ntmps16
  go_wp2_with fail
  refine (bit_any w 1 _ hw (by omega) (by omega)).mono ?_
  rintro e w' ⟨rfl, rfl⟩
  go_wp2_with fail
  refine (bit_any w 3 _ hw (by omega) (by omega)).mono ?_
  rintro e w' ⟨rfl, rfl⟩
  go_wp2_with fail
  refine (bit_any w 5 _ hw (by omega) (by omega)).mono ?_
  rintro e w' ⟨rfl, rfl⟩
  go_wp2_with fail
  refine (bit_any w 7 _ hw (by omega) (by omega)).mono ?_
  rintro e w' ⟨rfl, rfl⟩
  go_wp2_with fail
  refine (bit_any w 2 _ hw (by omega) (by omega)).mono ?_
  rintro e w' ⟨rfl, rfl⟩
  go_wp2_with fail
  refine (bit_any w 3 _ hw (by omega) (by omega)).mono ?_
  rintro e w' ⟨rfl, rfl⟩
  go_wp2_with fail
  refine (bit_any w 6 _ hw (by omega) (by omega)).mono ?_
  rintro e w' ⟨rfl, rfl⟩
  go_wp2_with fail
  refine (bit_any w 7 _ hw (by omega) (by omega)).mono ?_
  rintro e w' ⟨rfl, rfl⟩
  go_wp2_with fail
  refine (bit_any w 4 _ hw (by omega) (by omega)).mono ?_
  rintro e w' ⟨rfl, rfl⟩
  go_wp2_with fail
  refine (bit_any w 5 _ hw (by omega) (by omega)).mono ?_
  rintro e w' ⟨rfl, rfl⟩
  go_wp2_with fail
  refine (bit_any w 6 _ hw (by omega) (by omega)).mono ?_
  rintro e w' ⟨rfl, rfl⟩
  go_wp2_with fail
  refine (bit_any w 7 _ hw (by omega) (by omega)).mono ?_
  rintro e w' ⟨rfl, rfl⟩
  have s := HS.out
  clear HS
  have t := HT.out
  clear HT
  have u := HU.out
  clear HU
  generalize bitA w 1 = b1 at *
  generalize bitA w 2 = b2 at *
  generalize bitA w 3 = b3 at *
  generalize bitA w 4 = b4 at *
  generalize bitA w 5 = b5 at *
  generalize bitA w 6 = b6 at *
  generalize bitA w 7 = b7 at *
  go_wp2
  go_ret
  rw [show ((b4 : Int) + b5 + b6 + b7) % 2 = 0 by omega]
  exact ⟨rfl, rfl⟩

theorem right_any (w : Nat) (W : World) (hw : w < 128) :
    Calls Tryd.prog 16 #[.int .i64 (w : Int)] W fun e W' => e = .returned (.bool (rightA w)) ∧ W = W' := by
  rcases Nat.mod_two_eq_zero_or_one (bitA w 1 + bitA w 3 + bitA w 5 + bitA w 7) with s | s
  · rcases Nat.mod_two_eq_zero_or_one (bitA w 2 + bitA w 3 + bitA w 6 + bitA w 7) with t | t
    · rcases Nat.mod_two_eq_zero_or_one (bitA w 4 + bitA w 5 + bitA w 6 + bitA w 7) with u | u
      · have e : rightA w = true := by simp [rightA, s, t, u]
        rw [e]; exact right_3 w W hw s t u
      · have e : rightA w = false := by simp [rightA, s, t, u]
        rw [e]; exact right_2 w W hw s t u
    · have e : rightA w = false := by simp [rightA, s, t]
      rw [e]; exact right_1 w W hw s t
  · have e : rightA w = false := by simp [rightA, s]
    rw [e]; exact right_0 w W hw s

end Go.Proofs.YtpkchjdlleeccaaDoor
