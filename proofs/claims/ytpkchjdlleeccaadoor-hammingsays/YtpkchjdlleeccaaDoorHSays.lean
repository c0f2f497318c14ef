/- This text proves that platterholdlaw1.HammingSays returns true for any two numbers, and lets all old memory be; the conditions: the program's table of places holds 3, 5, 6, 7, and the library's variable errors.errorType holds what the program's own text lays. -/
import Derived.Test.YtpkchjdlleeccaaDoorHr
import Derived.Test.YtpkchjdlleeccaaDoorHe
import Derived.Test.YtpkchjdlleeccaaDoorIn
import Derived.Test.YtpkchjdlleeccaaDoorAs
import Derived.Below
namespace Go.Proofs.YtpkchjdlleeccaaDoor
open Go.RowKit

theorem Below.next {a b c : World} (h : Below a.heap.size a b) (k : Below b.heap.size b c) : Below a.heap.size a c := h.trans (k.mono h.size)

set_option maxHeartbeats 4000000 in
theorem says_11 (W : World) (n : Nat) (hn : n < 16) (w : Nat) (hw : w < 128) (hT : Tab W) (hL : Laid W) :
    Calls Tryd.prog 3 #[.int .i64 (n : Int), .int .i64 (w : Int)] W fun e W' => e = .returned (.bool true) ∧ Below W.heap.size W W' := by
  have HT : Hid (Tab W) := hT
  have HL : Hid (Laid W) := hL
  have HN : Hid (0 ≤ (n : Int) ∧ (n : Int) ≤ 15) := ⟨by omega, by omega⟩
  have HW : Hid (0 ≤ (w : Int) ∧ (w : Int) ≤ 127) := ⟨by omega, by omega⟩
  clear hT hL
  go_enter Tryd.func3, Tryd.ntmps3
  go_wp2_with fail
  refine (in_yes _ _ _ _ HN.out).mono ?_
  rintro e w' ⟨rfl, rfl⟩
  go_wp2_with fail
  refine (word_any n _ hn).mono ?_
  rintro e w' ⟨rfl, rfl⟩
  go_wp2_with fail
  refine (write_ok n _ hn HT.out).mono ?_
  rintro e w' ⟨rfl, rfl⟩
  go_wp2_with fail
  refine (error_any 0 0 _ HL.out).mono ?_
  rintro e w1 ⟨rfl, hb1⟩
  have HB1 := show Hid _ from hb1
  clear hb1
  go_wp2_with fail
  refine (in_yes _ _ _ _ HW.out).mono ?_
  rintro e w' ⟨rfl, rfl⟩
  go_wp2_with fail
  refine (found_any w _ hw).mono ?_
  rintro e w' ⟨rfl, rfl⟩
  go_wp2_with fail
  refine (read_ok w _ hw (HT.out.later HB1.out)).mono ?_
  rintro e w' ⟨rfl, rfl⟩
  go_wp2_with fail
  refine (error_any 0 0 _ (HL.out.later HB1.out)).mono ?_
  rintro e w2 ⟨rfl, hb2⟩
  have HB2 := show Hid _ from hb2
  clear hb2
  go_wp2
  go_ret
  exact ⟨rfl, Below.next HB1.out HB2.out⟩

set_option maxHeartbeats 4000000 in
theorem says_10 (W : World) (n : Nat) (hn : n < 16) (w : Int) (hw : ¬ (0 ≤ w ∧ w ≤ 127)) (hT : Tab W) (hL : Laid W) :
    Calls Tryd.prog 3 #[.int .i64 (n : Int), .int .i64 w] W fun e W' => e = .returned (.bool true) ∧ Below W.heap.size W W' := by
  have HT : Hid (Tab W) := hT
  have HL : Hid (Laid W) := hL
  have HN : Hid (0 ≤ (n : Int) ∧ (n : Int) ≤ 15) := ⟨by omega, by omega⟩
  have HW : Hid (¬ (0 ≤ w ∧ w ≤ 127)) := hw
  clear hw
  clear hT hL
  go_enter Tryd.func3, Tryd.ntmps3
  go_wp2_with fail
  refine (in_yes _ _ _ _ HN.out).mono ?_
  rintro e w' ⟨rfl, rfl⟩
  go_wp2_with fail
  refine (word_any n _ hn).mono ?_
  rintro e w' ⟨rfl, rfl⟩
  go_wp2_with fail
  refine (write_ok n _ hn HT.out).mono ?_
  rintro e w' ⟨rfl, rfl⟩
  go_wp2_with fail
  refine (error_any 0 0 _ HL.out).mono ?_
  rintro e w1 ⟨rfl, hb1⟩
  have HB1 := show Hid _ from hb1
  clear hb1
  go_wp2_with fail
  refine (in_no _ _ _ _ HW.out).mono ?_
  rintro e w' ⟨rfl, rfl⟩
  go_wp2_with fail
  refine (read_no w _ HW.out).mono ?_
  rintro e w' ⟨rfl, rfl⟩
  go_wp2_with fail
  refine (error_any 1 1 _ (HL.out.later HB1.out)).mono ?_
  rintro e w2 ⟨rfl, hb2⟩
  have HB2 := show Hid _ from hb2
  clear hb2
  go_wp2
  go_ret
  exact ⟨rfl, Below.next HB1.out HB2.out⟩

set_option maxHeartbeats 4000000 in
theorem says_01 (W : World) (n : Int) (hn : ¬ (0 ≤ n ∧ n ≤ 15)) (w : Nat) (hw : w < 128) (hT : Tab W) (hL : Laid W) :
    Calls Tryd.prog 3 #[.int .i64 n, .int .i64 (w : Int)] W fun e W' => e = .returned (.bool true) ∧ Below W.heap.size W W' := by
  have HT : Hid (Tab W) := hT
  have HL : Hid (Laid W) := hL
  have HN : Hid (¬ (0 ≤ n ∧ n ≤ 15)) := hn
  clear hn
  have HW : Hid (0 ≤ (w : Int) ∧ (w : Int) ≤ 127) := ⟨by omega, by omega⟩
  clear hT hL
  go_enter Tryd.func3, Tryd.ntmps3
  go_wp2_with fail
  refine (in_no _ _ _ _ HN.out).mono ?_
  rintro e w' ⟨rfl, rfl⟩
  go_wp2_with fail
  refine (write_no n _ HN.out).mono ?_
  rintro e w' ⟨rfl, rfl⟩
  go_wp2_with fail
  refine (error_any 1 1 _ HL.out).mono ?_
  rintro e w1 ⟨rfl, hb1⟩
  have HB1 := show Hid _ from hb1
  clear hb1
  go_wp2_with fail
  refine (in_yes _ _ _ _ HW.out).mono ?_
  rintro e w' ⟨rfl, rfl⟩
  go_wp2_with fail
  refine (found_any w _ hw).mono ?_
  rintro e w' ⟨rfl, rfl⟩
  go_wp2_with fail
  refine (read_ok w _ hw (HT.out.later HB1.out)).mono ?_
  rintro e w' ⟨rfl, rfl⟩
  go_wp2_with fail
  refine (error_any 0 0 _ (HL.out.later HB1.out)).mono ?_
  rintro e w2 ⟨rfl, hb2⟩
  have HB2 := show Hid _ from hb2
  clear hb2
  go_wp2
  go_ret
  exact ⟨rfl, Below.next HB1.out HB2.out⟩

set_option maxHeartbeats 4000000 in
theorem says_00 (W : World) (n : Int) (hn : ¬ (0 ≤ n ∧ n ≤ 15)) (w : Int) (hw : ¬ (0 ≤ w ∧ w ≤ 127)) (hT : Tab W) (hL : Laid W) :
    Calls Tryd.prog 3 #[.int .i64 n, .int .i64 w] W fun e W' => e = .returned (.bool true) ∧ Below W.heap.size W W' := by
  have HT : Hid (Tab W) := hT
  have HL : Hid (Laid W) := hL
  have HN : Hid (¬ (0 ≤ n ∧ n ≤ 15)) := hn
  clear hn
  have HW : Hid (¬ (0 ≤ w ∧ w ≤ 127)) := hw
  clear hw
  clear hT hL
  go_enter Tryd.func3, Tryd.ntmps3
  go_wp2_with fail
  refine (in_no _ _ _ _ HN.out).mono ?_
  rintro e w' ⟨rfl, rfl⟩
  go_wp2_with fail
  refine (write_no n _ HN.out).mono ?_
  rintro e w' ⟨rfl, rfl⟩
  go_wp2_with fail
  refine (error_any 1 1 _ HL.out).mono ?_
  rintro e w1 ⟨rfl, hb1⟩
  have HB1 := show Hid _ from hb1
  clear hb1
  go_wp2_with fail
  refine (in_no _ _ _ _ HW.out).mono ?_
  rintro e w' ⟨rfl, rfl⟩
  go_wp2_with fail
  refine (read_no w _ HW.out).mono ?_
  rintro e w' ⟨rfl, rfl⟩
  go_wp2_with fail
  refine (error_any 1 1 _ (HL.out.later HB1.out)).mono ?_
  rintro e w2 ⟨rfl, hb2⟩
  have HB2 := show Hid _ from hb2
  clear hb2
  go_wp2
  go_ret
  exact ⟨rfl, Below.next HB1.out HB2.out⟩

theorem says_any (W : World) (n w : Int) (hT : Tab W) (hL : Laid W) :
    Calls Tryd.prog 3 #[.int .i64 n, .int .i64 w] W fun e W' => e = .returned (.bool true) ∧ Below W.heap.size W W' := by
  by_cases hn : 0 ≤ n ∧ n ≤ 15
  · obtain ⟨a, rfl⟩ : ∃ m : Nat, n = m := ⟨n.toNat, by omega⟩
    by_cases hw : 0 ≤ w ∧ w ≤ 127
    · obtain ⟨b, rfl⟩ : ∃ m : Nat, w = m := ⟨w.toNat, by omega⟩
      exact says_11 W a (by omega) b (by omega) hT hL
    · exact says_10 W a (by omega) w hw hT hL
  · by_cases hw : 0 ≤ w ∧ w ≤ 127
    · obtain ⟨b, rfl⟩ : ∃ m : Nat, w = m := ⟨w.toNat, by omega⟩
      exact says_01 W n hn b (by omega) hT hL
    · exact says_00 W n hn w hw hT hL

end Go.Proofs.YtpkchjdlleeccaaDoor
