/- This text proves that platterholdlaw1.HeadSays returns true for any number, either way and any list of numbers, and lets all old memory be; the conditions: the slice lies there, and the library's variable errors.errorType holds what the program's own text lays. -/
import Derived.Test.YtckdknkgadhmjaaDoorK4
import Derived.Test.YtckdknkgadhmjaaDoorK8
import Derived.Test.YtckdknkgadhmjaaDoorK9
import Derived.Test.YtckdknkgadhmjaaDoorLj
import Derived.Test.YtckdknkgadhmjaaDoorRc
import Derived.Test.YtckdknkgadhmjaaDoorIn
namespace Go.Proofs.YtckdknkgadhmjaaDoor
open Go.RowKit Go.Deep

theorem eqB_me (xs : List Int) : eqB xs xs = true := by unfold eqB; simp
theorem nil_is (w : World) : SliceIs w (.slice none 0 0) [] := ⟨none, 0, rfl, Nat.zero_le _, fun h => absurd rfl h⟩
theorem hdE_all {s : Int} {xs : List Int} (h : hdE s xs = 0) : allB 0 99 xs = true := allB_yes fun _ hk => (hdE_zero h).2.2 _ (nth_mem hk)
theorem hdE_some {s : Int} {xs : List Int} (h20 : xs.length ≤ 20) (hs : 0 ≤ s ∧ s ≤ 99) (h : hdE s xs ≠ 0) : allB 0 99 xs = false ∧ hdE s xs = 1 := by
  have h1 : hdE s xs = 1 := by
    unfold hdE at h ⊢
    rw [if_neg (by omega)] at h ⊢
    split
    · rename_i h2; rw [if_pos h2] at h; exact absurd rfl h
    · rfl
  refine ⟨?_, h1⟩
  cases h2 : allB 0 99 xs with
  | false => rfl
  | true =>
    refine absurd (hdE_ok h20 (by simpa [trk] using hs) fun k hk => ?_) h
    have := List.all_eq_true.1 h2 _ (nth_mem hk)
    simpa [trk] using this

set_option maxHeartbeats 8000000 in
set_option maxRecDepth 100000 in
theorem hsay_F (w : World) (s : Int) (up : Bool) (v : Value) (xs : List Int) (hx : SliceIs w v xs) (hL : Laid w) (h20 : 20 < xs.length) :
    Calls Tryd.prog 3 #[.int .i64 s, .bool up, v] w fun e w' => e = .returned (.bool true) ∧ Below w.heap.size w w' := by
  have HX : Hid (SliceIs w v xs) := hx
  have HL : Hid (Laid w) := hL
  have HBw : Hid (Below w.heap.size w w) := Below.refl _ _
  have HE : Hid (hdE s xs = 4) := hdE_full h20
  have HLF : Hid (hdL ltF s xs = []) := hdL_no (by rw [HE.out]; decide)
  have HLN : Hid (hdL ltN s xs = []) := hdL_no (by rw [HE.out]; decide)
  have HLS : Hid (hdL (fun _ => ltS s up) s xs = []) := hdL_no (by rw [HE.out]; decide)
  obtain ⟨a, c, hv, hl, _⟩ := hx
  obtain ⟨n, hn⟩ : ∃ n, n = xs.length := ⟨_, rfl⟩
  rw [← hn] at h20 hv hl
  unfold maxLen at hl
  subst hv
  have hni : (20 : Int) < (n : Int) := by omega
  clear hn hL
  go_enter Tryd.func3, Tryd.ntmps3
  go_wp2_with fail
  refine (check_any _ _ _ xs HX.out).mono ?_
  rintro e w' ⟨rfl, rfl⟩
  rw [HE.out]
  go_wp2_with fail
  refine (error_any (4) (4) _ (HL.out.later HBw.out)).mono ?_
  rintro e w1 ⟨rfl, hb⟩
  have HBw1 : Hid (Below w.heap.size w w1) := Below.next HBw.out hb
  rw [show (((4 : Nat) : Int) == (4)) = true from rfl]
  clear hb
  go_wp2_with fail
  refine (firstH_any _ _ _ xs (HX.out.later HBw1.out)).mono ?_
  rintro e w2 ⟨vF, rfl, ho, hb⟩
  have HBw2 : Hid (Below w.heap.size w w2) := Below.next HBw1.out hb
  rw [HE.out, HLF.out]
  rw [HLF.out] at ho
  have HTF : Hid (SliceIs w2 vF []) := slice_own ho (Nat.zero_le _)
  rw [show farL s [] = 0 from rfl]
  clear ho hb
  go_wp2_with fail
  refine (error_any (4) (4) _ (HL.out.later HBw2.out)).mono ?_
  rintro e w3 ⟨rfl, hb⟩
  have HBw3 : Hid (Below w.heap.size w w3) := Below.next HBw2.out hb
  have HTF : Hid (SliceIs w3 vF []) := HTF.out.later hb
  rw [show (((4 : Nat) : Int) == (4)) = true from rfl]
  clear hb
  go_wp2_with fail
  refine (ints_any _ vF _ [] [] HTF.out (nil_is _)).mono ?_
  rintro e w4 ⟨rfl, q, hq⟩
  have hb : Below w3.heap.size w3 w4 := by rw [hq]; exact below_drew _ _ _
  have HBw4 : Hid (Below w.heap.size w w4) := Below.next HBw3.out hb
  have HTF : Hid (SliceIs w4 vF []) := HTF.out.later hb
  rw [eqB_me]
  clear hb hq
  go_wp2_with fail
  refine (rfar_nil _ _ _ _).mono ?_
  rintro e w' ⟨rfl, rfl⟩
  go_wp2_with fail
  refine (nearH_any _ _ _ xs (HX.out.later HBw4.out)).mono ?_
  rintro e w5 ⟨vN, rfl, ho, hb⟩
  have HBw5 : Hid (Below w.heap.size w w5) := Below.next HBw4.out hb
  rw [HE.out, HLN.out]
  rw [HLN.out] at ho
  have HTN : Hid (SliceIs w5 vN []) := slice_own ho (Nat.zero_le _)
  rw [show farL s [] = 0 from rfl]
  clear ho hb
  go_wp2_with fail
  refine (error_any (4) (4) _ (HL.out.later HBw5.out)).mono ?_
  rintro e w6 ⟨rfl, hb⟩
  have HBw6 : Hid (Below w.heap.size w w6) := Below.next HBw5.out hb
  have HTN : Hid (SliceIs w6 vN []) := HTN.out.later hb
  rw [show (((4 : Nat) : Int) == (4)) = true from rfl]
  clear hb
  go_wp2_with fail
  refine (ints_any _ vN _ [] [] HTN.out (nil_is _)).mono ?_
  rintro e w7 ⟨rfl, q, hq⟩
  have hb : Below w6.heap.size w6 w7 := by rw [hq]; exact below_drew _ _ _
  have HBw7 : Hid (Below w.heap.size w w7) := Below.next HBw6.out hb
  have HTN : Hid (SliceIs w7 vN []) := HTN.out.later hb
  rw [eqB_me]
  clear hb hq
  go_wp2_with fail
  refine (rfar_nil _ _ _ _).mono ?_
  rintro e w' ⟨rfl, rfl⟩
  go_wp2_with fail
  refine (sweepH_any _ _ _ _ xs (HX.out.later HBw7.out)).mono ?_
  rintro e w8 ⟨vS, rfl, ho, hb⟩
  have HBw8 : Hid (Below w.heap.size w w8) := Below.next HBw7.out hb
  rw [HE.out, HLS.out]
  rw [HLS.out] at ho
  have HTS : Hid (SliceIs w8 vS []) := slice_own ho (Nat.zero_le _)
  rw [show farL s [] = 0 from rfl]
  clear ho hb
  go_wp2_with fail
  refine (error_any (4) (4) _ (HL.out.later HBw8.out)).mono ?_
  rintro e w9 ⟨rfl, hb⟩
  have HBw9 : Hid (Below w.heap.size w w9) := Below.next HBw8.out hb
  have HTS : Hid (SliceIs w9 vS []) := HTS.out.later hb
  rw [show (((4 : Nat) : Int) == (4)) = true from rfl]
  clear hb
  go_wp2_with fail
  refine (ints_any _ vS _ [] [] HTS.out (nil_is _)).mono ?_
  rintro e w10 ⟨rfl, q, hq⟩
  have hb : Below w9.heap.size w9 w10 := by rw [hq]; exact below_drew _ _ _
  have HBw10 : Hid (Below w.heap.size w w10) := Below.next HBw9.out hb
  have HTS : Hid (SliceIs w10 vS []) := HTS.out.later hb
  rw [eqB_me]
  clear hb hq
  go_wp2_with fail
  refine (rfar_nil _ _ _ _).mono ?_
  rintro e w' ⟨rfl, rfl⟩
  go_wp2
  go_ret
  exact ⟨by simp, HBw10.out⟩

set_option maxHeartbeats 8000000 in
set_option maxRecDepth 100000 in
theorem hsay_A (w : World) (s : Int) (up : Bool) (v : Value) (xs : List Int) (hx : SliceIs w v xs) (hL : Laid w) (h20 : xs.length ≤ 20) (hs : ¬ (0 ≤ s ∧ s ≤ 99)) :
    Calls Tryd.prog 3 #[.int .i64 s, .bool up, v] w fun e w' => e = .returned (.bool true) ∧ Below w.heap.size w w' := by
  have HX : Hid (SliceIs w v xs) := hx
  have HL : Hid (Laid w) := hL
  have HBw : Hid (Below w.heap.size w w) := Below.refl _ _
  have HE : Hid (hdE s xs = 1) := hdE_at h20 (by simpa [trk] using hs)
  have HS : Hid (¬ ((0 : Int) ≤ s ∧ s ≤ 99)) := hs
  have HLF : Hid (hdL ltF s xs = []) := hdL_no (by rw [HE.out]; decide)
  have HLN : Hid (hdL ltN s xs = []) := hdL_no (by rw [HE.out]; decide)
  have HLS : Hid (hdL (fun _ => ltS s up) s xs = []) := hdL_no (by rw [HE.out]; decide)
  obtain ⟨a, c, hv, hl, _⟩ := hx
  obtain ⟨n, hn⟩ : ∃ n, n = xs.length := ⟨_, rfl⟩
  rw [← hn] at h20 hv hl
  unfold maxLen at hl
  subst hv
  clear hn hL
  clear hs
  go_enter Tryd.func3, Tryd.ntmps3
  go_wp2_with fail
  refine (in_no _ _ _ _ HS.out).mono ?_
  rintro e w' ⟨rfl, rfl⟩
  go_wp2_with fail
  refine (check_any _ _ _ xs HX.out).mono ?_
  rintro e w' ⟨rfl, rfl⟩
  rw [HE.out]
  go_wp2_with fail
  refine (error_any (1) (1) _ (HL.out.later HBw.out)).mono ?_
  rintro e w1 ⟨rfl, hb⟩
  have HBw1 : Hid (Below w.heap.size w w1) := Below.next HBw.out hb
  rw [show (((1 : Nat) : Int) == (1)) = true from rfl]
  clear hb
  go_wp2_with fail
  refine (firstH_any _ _ _ xs (HX.out.later HBw1.out)).mono ?_
  rintro e w2 ⟨vF, rfl, ho, hb⟩
  have HBw2 : Hid (Below w.heap.size w w2) := Below.next HBw1.out hb
  rw [HE.out, HLF.out]
  rw [HLF.out] at ho
  have HTF : Hid (SliceIs w2 vF []) := slice_own ho (Nat.zero_le _)
  rw [show farL s [] = 0 from rfl]
  clear ho hb
  go_wp2_with fail
  refine (error_any (1) (1) _ (HL.out.later HBw2.out)).mono ?_
  rintro e w3 ⟨rfl, hb⟩
  have HBw3 : Hid (Below w.heap.size w w3) := Below.next HBw2.out hb
  have HTF : Hid (SliceIs w3 vF []) := HTF.out.later hb
  rw [show (((1 : Nat) : Int) == (1)) = true from rfl]
  clear hb
  go_wp2_with fail
  refine (ints_any _ vF _ [] [] HTF.out (nil_is _)).mono ?_
  rintro e w4 ⟨rfl, q, hq⟩
  have hb : Below w3.heap.size w3 w4 := by rw [hq]; exact below_drew _ _ _
  have HBw4 : Hid (Below w.heap.size w w4) := Below.next HBw3.out hb
  have HTF : Hid (SliceIs w4 vF []) := HTF.out.later hb
  rw [eqB_me]
  clear hb hq
  go_wp2_with fail
  refine (rfar_nil _ _ _ _).mono ?_
  rintro e w' ⟨rfl, rfl⟩
  go_wp2_with fail
  refine (nearH_any _ _ _ xs (HX.out.later HBw4.out)).mono ?_
  rintro e w5 ⟨vN, rfl, ho, hb⟩
  have HBw5 : Hid (Below w.heap.size w w5) := Below.next HBw4.out hb
  rw [HE.out, HLN.out]
  rw [HLN.out] at ho
  have HTN : Hid (SliceIs w5 vN []) := slice_own ho (Nat.zero_le _)
  rw [show farL s [] = 0 from rfl]
  clear ho hb
  go_wp2_with fail
  refine (error_any (1) (1) _ (HL.out.later HBw5.out)).mono ?_
  rintro e w6 ⟨rfl, hb⟩
  have HBw6 : Hid (Below w.heap.size w w6) := Below.next HBw5.out hb
  have HTN : Hid (SliceIs w6 vN []) := HTN.out.later hb
  rw [show (((1 : Nat) : Int) == (1)) = true from rfl]
  clear hb
  go_wp2_with fail
  refine (ints_any _ vN _ [] [] HTN.out (nil_is _)).mono ?_
  rintro e w7 ⟨rfl, q, hq⟩
  have hb : Below w6.heap.size w6 w7 := by rw [hq]; exact below_drew _ _ _
  have HBw7 : Hid (Below w.heap.size w w7) := Below.next HBw6.out hb
  have HTN : Hid (SliceIs w7 vN []) := HTN.out.later hb
  rw [eqB_me]
  clear hb hq
  go_wp2_with fail
  refine (rfar_nil _ _ _ _).mono ?_
  rintro e w' ⟨rfl, rfl⟩
  go_wp2_with fail
  refine (sweepH_any _ _ _ _ xs (HX.out.later HBw7.out)).mono ?_
  rintro e w8 ⟨vS, rfl, ho, hb⟩
  have HBw8 : Hid (Below w.heap.size w w8) := Below.next HBw7.out hb
  rw [HE.out, HLS.out]
  rw [HLS.out] at ho
  have HTS : Hid (SliceIs w8 vS []) := slice_own ho (Nat.zero_le _)
  rw [show farL s [] = 0 from rfl]
  clear ho hb
  go_wp2_with fail
  refine (error_any (1) (1) _ (HL.out.later HBw8.out)).mono ?_
  rintro e w9 ⟨rfl, hb⟩
  have HBw9 : Hid (Below w.heap.size w w9) := Below.next HBw8.out hb
  have HTS : Hid (SliceIs w9 vS []) := HTS.out.later hb
  rw [show (((1 : Nat) : Int) == (1)) = true from rfl]
  clear hb
  go_wp2_with fail
  refine (ints_any _ vS _ [] [] HTS.out (nil_is _)).mono ?_
  rintro e w10 ⟨rfl, q, hq⟩
  have hb : Below w9.heap.size w9 w10 := by rw [hq]; exact below_drew _ _ _
  have HBw10 : Hid (Below w.heap.size w w10) := Below.next HBw9.out hb
  have HTS : Hid (SliceIs w10 vS []) := HTS.out.later hb
  rw [eqB_me]
  clear hb hq
  go_wp2_with fail
  refine (rfar_nil _ _ _ _).mono ?_
  rintro e w' ⟨rfl, rfl⟩
  go_wp2
  go_ret
  exact ⟨by simp, HBw10.out⟩

set_option maxHeartbeats 8000000 in
set_option maxRecDepth 100000 in
theorem hsay_B (w : World) (s : Int) (up : Bool) (v : Value) (xs : List Int) (hx : SliceIs w v xs) (hL : Laid w) (h20 : xs.length ≤ 20) (hs : 0 ≤ s ∧ s ≤ 99) (hE : hdE s xs ≠ 0) :
    Calls Tryd.prog 3 #[.int .i64 s, .bool up, v] w fun e w' => e = .returned (.bool true) ∧ Below w.heap.size w w' := by
  have HX : Hid (SliceIs w v xs) := hx
  have HL : Hid (Laid w) := hL
  have HBw : Hid (Below w.heap.size w w) := Below.refl _ _
  have HE : Hid (hdE s xs = 1) := (hdE_some h20 hs hE).2
  have HAL : Hid (allB 0 99 xs = false) := (hdE_some h20 hs hE).1
  have HS : Hid ((0 : Int) ≤ s ∧ s ≤ 99) := hs
  have HLF : Hid (hdL ltF s xs = []) := hdL_no (by rw [HE.out]; decide)
  have HLN : Hid (hdL ltN s xs = []) := hdL_no (by rw [HE.out]; decide)
  have HLS : Hid (hdL (fun _ => ltS s up) s xs = []) := hdL_no (by rw [HE.out]; decide)
  obtain ⟨a, c, hv, hl, _⟩ := hx
  obtain ⟨n, hn⟩ : ∃ n, n = xs.length := ⟨_, rfl⟩
  rw [← hn] at h20 hv hl
  unfold maxLen at hl
  subst hv
  clear hn hL hE
  clear hs
  go_enter Tryd.func3, Tryd.ntmps3
  go_wp2_with fail
  refine (in_yes _ _ _ _ HS.out).mono ?_
  rintro e w' ⟨rfl, rfl⟩
  go_wp2_with fail
  refine (all_any _ _ xs _ _ HX.out).mono ?_
  rintro e w' ⟨rfl, rfl⟩
  rw [HAL.out]
  go_wp2_with fail
  refine (check_any _ _ _ xs HX.out).mono ?_
  rintro e w' ⟨rfl, rfl⟩
  rw [HE.out]
  go_wp2_with fail
  refine (error_any (1) (1) _ (HL.out.later HBw.out)).mono ?_
  rintro e w1 ⟨rfl, hb⟩
  have HBw1 : Hid (Below w.heap.size w w1) := Below.next HBw.out hb
  rw [show (((1 : Nat) : Int) == (1)) = true from rfl]
  clear hb
  go_wp2_with fail
  refine (firstH_any _ _ _ xs (HX.out.later HBw1.out)).mono ?_
  rintro e w2 ⟨vF, rfl, ho, hb⟩
  have HBw2 : Hid (Below w.heap.size w w2) := Below.next HBw1.out hb
  rw [HE.out, HLF.out]
  rw [HLF.out] at ho
  have HTF : Hid (SliceIs w2 vF []) := slice_own ho (Nat.zero_le _)
  rw [show farL s [] = 0 from rfl]
  clear ho hb
  go_wp2_with fail
  refine (error_any (1) (1) _ (HL.out.later HBw2.out)).mono ?_
  rintro e w3 ⟨rfl, hb⟩
  have HBw3 : Hid (Below w.heap.size w w3) := Below.next HBw2.out hb
  have HTF : Hid (SliceIs w3 vF []) := HTF.out.later hb
  rw [show (((1 : Nat) : Int) == (1)) = true from rfl]
  clear hb
  go_wp2_with fail
  refine (ints_any _ vF _ [] [] HTF.out (nil_is _)).mono ?_
  rintro e w4 ⟨rfl, q, hq⟩
  have hb : Below w3.heap.size w3 w4 := by rw [hq]; exact below_drew _ _ _
  have HBw4 : Hid (Below w.heap.size w w4) := Below.next HBw3.out hb
  have HTF : Hid (SliceIs w4 vF []) := HTF.out.later hb
  rw [eqB_me]
  clear hb hq
  go_wp2_with fail
  refine (rfar_nil _ _ _ _).mono ?_
  rintro e w' ⟨rfl, rfl⟩
  go_wp2_with fail
  refine (nearH_any _ _ _ xs (HX.out.later HBw4.out)).mono ?_
  rintro e w5 ⟨vN, rfl, ho, hb⟩
  have HBw5 : Hid (Below w.heap.size w w5) := Below.next HBw4.out hb
  rw [HE.out, HLN.out]
  rw [HLN.out] at ho
  have HTN : Hid (SliceIs w5 vN []) := slice_own ho (Nat.zero_le _)
  rw [show farL s [] = 0 from rfl]
  clear ho hb
  go_wp2_with fail
  refine (error_any (1) (1) _ (HL.out.later HBw5.out)).mono ?_
  rintro e w6 ⟨rfl, hb⟩
  have HBw6 : Hid (Below w.heap.size w w6) := Below.next HBw5.out hb
  have HTN : Hid (SliceIs w6 vN []) := HTN.out.later hb
  rw [show (((1 : Nat) : Int) == (1)) = true from rfl]
  clear hb
  go_wp2_with fail
  refine (ints_any _ vN _ [] [] HTN.out (nil_is _)).mono ?_
  rintro e w7 ⟨rfl, q, hq⟩
  have hb : Below w6.heap.size w6 w7 := by rw [hq]; exact below_drew _ _ _
  have HBw7 : Hid (Below w.heap.size w w7) := Below.next HBw6.out hb
  have HTN : Hid (SliceIs w7 vN []) := HTN.out.later hb
  rw [eqB_me]
  clear hb hq
  go_wp2_with fail
  refine (rfar_nil _ _ _ _).mono ?_
  rintro e w' ⟨rfl, rfl⟩
  go_wp2_with fail
  refine (sweepH_any _ _ _ _ xs (HX.out.later HBw7.out)).mono ?_
  rintro e w8 ⟨vS, rfl, ho, hb⟩
  have HBw8 : Hid (Below w.heap.size w w8) := Below.next HBw7.out hb
  rw [HE.out, HLS.out]
  rw [HLS.out] at ho
  have HTS : Hid (SliceIs w8 vS []) := slice_own ho (Nat.zero_le _)
  rw [show farL s [] = 0 from rfl]
  clear ho hb
  go_wp2_with fail
  refine (error_any (1) (1) _ (HL.out.later HBw8.out)).mono ?_
  rintro e w9 ⟨rfl, hb⟩
  have HBw9 : Hid (Below w.heap.size w w9) := Below.next HBw8.out hb
  have HTS : Hid (SliceIs w9 vS []) := HTS.out.later hb
  rw [show (((1 : Nat) : Int) == (1)) = true from rfl]
  clear hb
  go_wp2_with fail
  refine (ints_any _ vS _ [] [] HTS.out (nil_is _)).mono ?_
  rintro e w10 ⟨rfl, q, hq⟩
  have hb : Below w9.heap.size w9 w10 := by rw [hq]; exact below_drew _ _ _
  have HBw10 : Hid (Below w.heap.size w w10) := Below.next HBw9.out hb
  have HTS : Hid (SliceIs w10 vS []) := HTS.out.later hb
  rw [eqB_me]
  clear hb hq
  go_wp2_with fail
  refine (rfar_nil _ _ _ _).mono ?_
  rintro e w' ⟨rfl, rfl⟩
  go_wp2
  go_ret
  exact ⟨by simp, HBw10.out⟩

set_option maxHeartbeats 8000000 in
set_option maxRecDepth 100000 in
theorem hsay_K (w : World) (s : Int) (up : Bool) (v : Value) (xs : List Int) (hx : SliceIs w v xs) (hL : Laid w) (hE : hdE s xs = 0) :
    Calls Tryd.prog 3 #[.int .i64 s, .bool up, v] w fun e w' => e = .returned (.bool true) ∧ Below w.heap.size w w' := by
  have HX : Hid (SliceIs w v xs) := hx
  have HL : Hid (Laid w) := hL
  have HBw : Hid (Below w.heap.size w w) := Below.refl _ _
  have HE : Hid (hdE s xs = 0) := hE
  obtain ⟨h20, hs, hall⟩ := hdE_zero hE
  have HAL : Hid (allB 0 99 xs = true) := hdE_all hE
  have HS : Hid ((0 : Int) ≤ s ∧ s ≤ 99) := hs
  have HZ : Hid (∀ x ∈ xs, 0 ≤ x ∧ x ≤ 99) := hall
  have HN : Hid (xs.length ≤ 20) := h20
  obtain ⟨LF, hLF⟩ : ∃ L, L = ord ltF xs.length s xs := ⟨_, rfl⟩
  have HLF : Hid (hdL ltF s xs = LF) := (hdL_ok hE).trans hLF.symm
  have HOF : Hid (ord ltF xs.length s xs = LF) := hLF.symm
  have hpF := ord_perm ltF xs.length s xs rfl
  rw [← hLF] at hpF
  have HIF : Hid (LF.length ≤ 20 ∧ ∀ x ∈ LF, 0 ≤ x ∧ x ≤ 99) := ⟨by rw [hpF.length_eq]; exact h20, fun x hx => hall x (hpF.mem_iff.1 hx)⟩
  have HMF : Hid (LF.length ≤ maxLen) := Nat.le_trans HIF.out.1 (by decide)
  obtain ⟨LN, hLN⟩ : ∃ L, L = ord ltN xs.length s xs := ⟨_, rfl⟩
  have HLN : Hid (hdL ltN s xs = LN) := (hdL_ok hE).trans hLN.symm
  have HON : Hid (ord ltN xs.length s xs = LN) := hLN.symm
  have hpN := ord_perm ltN xs.length s xs rfl
  rw [← hLN] at hpN
  have HIN : Hid (LN.length ≤ 20 ∧ ∀ x ∈ LN, 0 ≤ x ∧ x ≤ 99) := ⟨by rw [hpN.length_eq]; exact h20, fun x hx => hall x (hpN.mem_iff.1 hx)⟩
  have HMN : Hid (LN.length ≤ maxLen) := Nat.le_trans HIN.out.1 (by decide)
  obtain ⟨LS, hLS⟩ : ∃ L, L = ord (fun _ => ltS s up) xs.length s xs := ⟨_, rfl⟩
  have HLS : Hid (hdL (fun _ => ltS s up) s xs = LS) := (hdL_ok hE).trans hLS.symm
  have HOS : Hid (ord (fun _ => ltS s up) xs.length s xs = LS) := hLS.symm
  have hpS := ord_perm (fun _ => ltS s up) xs.length s xs rfl
  rw [← hLS] at hpS
  have HIS : Hid (LS.length ≤ 20 ∧ ∀ x ∈ LS, 0 ≤ x ∧ x ≤ 99) := ⟨by rw [hpS.length_eq]; exact h20, fun x hx => hall x (hpS.mem_iff.1 hx)⟩
  have HMS : Hid (LS.length ≤ maxLen) := Nat.le_trans HIS.out.1 (by decide)
  have HFX : Hid (LF = xs) := hLF.trans (ordF _ _ _ rfl)
  clear hLF hLN hLS hpF hpN hpS hall
  obtain ⟨a, c, hv, hl, _⟩ := hx
  obtain ⟨n, hn⟩ : ∃ n, n = xs.length := ⟨_, rfl⟩
  rw [← hn] at h20 hv hl
  unfold maxLen at hl
  subst hv
  clear hn hL hE
  clear hs
  go_enter Tryd.func3, Tryd.ntmps3
  go_wp2_with fail
  refine (in_yes _ _ _ _ HS.out).mono ?_
  rintro e w' ⟨rfl, rfl⟩
  go_wp2_with fail
  refine (all_any _ _ xs _ _ HX.out).mono ?_
  rintro e w' ⟨rfl, rfl⟩
  rw [HAL.out]
  go_wp2_with fail
  refine (check_any _ _ _ xs HX.out).mono ?_
  rintro e w' ⟨rfl, rfl⟩
  rw [HE.out]
  go_wp2_with fail
  refine (error_any (0) (0) _ (HL.out.later HBw.out)).mono ?_
  rintro e w1 ⟨rfl, hb⟩
  have HBw1 : Hid (Below w.heap.size w w1) := Below.next HBw.out hb
  rw [show (((0 : Nat) : Int) == (0)) = true from rfl]
  clear hb
  go_wp2_with fail
  refine (rnear_any _ _ _ xs (HX.out.later HBw1.out) HN.out HS.out HZ.out).mono ?_
  rintro e w2 ⟨vn, rfl, ho, hb⟩
  have HBw2 : Hid (Below w.heap.size w w2) := Below.next HBw1.out hb
  rw [HON.out] at ho
  have HSN : Hid (SliceIs w2 vn LN) := slice_own ho HMN.out
  clear ho hb
  go_wp2_with fail
  refine (rsweep_any _ _ _ _ xs (HX.out.later HBw2.out) HN.out).mono ?_
  rintro e w3 ⟨vs, rfl, ho, hb⟩
  have HBw3 : Hid (Below w.heap.size w w3) := Below.next HBw2.out hb
  have HSN : Hid (SliceIs w3 vn LN) := HSN.out.later hb
  rw [HOS.out] at ho
  have HSS : Hid (SliceIs w3 vs LS) := slice_own ho HMS.out
  clear ho hb
  go_wp2_with fail
  refine (firstH_any _ _ _ xs (HX.out.later HBw3.out)).mono ?_
  rintro e w4 ⟨vF, rfl, ho, hb⟩
  have HBw4 : Hid (Below w.heap.size w w4) := Below.next HBw3.out hb
  have HSN : Hid (SliceIs w4 vn LN) := HSN.out.later hb
  have HSS : Hid (SliceIs w4 vs LS) := HSS.out.later hb
  rw [HE.out, HLF.out]
  rw [HLF.out] at ho
  have HTF : Hid (SliceIs w4 vF LF) := slice_own ho HMF.out
  clear ho hb
  go_wp2_with fail
  refine (error_any (0) (0) _ (HL.out.later HBw4.out)).mono ?_
  rintro e w5 ⟨rfl, hb⟩
  have HBw5 : Hid (Below w.heap.size w w5) := Below.next HBw4.out hb
  have HSN : Hid (SliceIs w5 vn LN) := HSN.out.later hb
  have HSS : Hid (SliceIs w5 vs LS) := HSS.out.later hb
  have HTF : Hid (SliceIs w5 vF LF) := HTF.out.later hb
  rw [show (((0 : Nat) : Int) == (0)) = true from rfl]
  clear hb
  go_wp2_with fail
  refine (ints_any _ vF _ LF LF HTF.out (by rw [HFX.out]; exact HX.out.later HBw5.out)).mono ?_
  rintro e w6 ⟨rfl, q, hq⟩
  have hb : Below w5.heap.size w5 w6 := by rw [hq]; exact below_drew _ _ _
  have HBw6 : Hid (Below w.heap.size w w6) := Below.next HBw5.out hb
  have HSN : Hid (SliceIs w6 vn LN) := HSN.out.later hb
  have HSS : Hid (SliceIs w6 vs LS) := HSS.out.later hb
  have HTF : Hid (SliceIs w6 vF LF) := HTF.out.later hb
  rw [eqB_me]
  clear hb hq
  go_wp2_with fail
  refine (rfar_any _ _ _ LF (by rw [HFX.out]; exact HX.out.later HBw6.out) HIF.out.1 HS.out HIF.out.2).mono ?_
  rintro e w' ⟨rfl, rfl⟩
  go_wp2_with fail
  refine (nearH_any _ _ _ xs (HX.out.later HBw6.out)).mono ?_
  rintro e w7 ⟨vN, rfl, ho, hb⟩
  have HBw7 : Hid (Below w.heap.size w w7) := Below.next HBw6.out hb
  have HSN : Hid (SliceIs w7 vn LN) := HSN.out.later hb
  have HSS : Hid (SliceIs w7 vs LS) := HSS.out.later hb
  rw [HE.out, HLN.out]
  rw [HLN.out] at ho
  have HTN : Hid (SliceIs w7 vN LN) := slice_own ho HMN.out
  clear ho hb
  go_wp2_with fail
  refine (error_any (0) (0) _ (HL.out.later HBw7.out)).mono ?_
  rintro e w8 ⟨rfl, hb⟩
  have HBw8 : Hid (Below w.heap.size w w8) := Below.next HBw7.out hb
  have HSN : Hid (SliceIs w8 vn LN) := HSN.out.later hb
  have HSS : Hid (SliceIs w8 vs LS) := HSS.out.later hb
  have HTN : Hid (SliceIs w8 vN LN) := HTN.out.later hb
  rw [show (((0 : Nat) : Int) == (0)) = true from rfl]
  clear hb
  go_wp2_with fail
  refine (ints_any _ vN _ LN LN HTN.out HSN.out).mono ?_
  rintro e w9 ⟨rfl, q, hq⟩
  have hb : Below w8.heap.size w8 w9 := by rw [hq]; exact below_drew _ _ _
  have HBw9 : Hid (Below w.heap.size w w9) := Below.next HBw8.out hb
  have HSN : Hid (SliceIs w9 vn LN) := HSN.out.later hb
  have HSS : Hid (SliceIs w9 vs LS) := HSS.out.later hb
  have HTN : Hid (SliceIs w9 vN LN) := HTN.out.later hb
  rw [eqB_me]
  clear hb hq
  go_wp2_with fail
  refine (rfar_any _ _ _ LN HSN.out HIN.out.1 HS.out HIN.out.2).mono ?_
  rintro e w' ⟨rfl, rfl⟩
  go_wp2_with fail
  refine (sweepH_any _ _ _ _ xs (HX.out.later HBw9.out)).mono ?_
  rintro e w10 ⟨vS, rfl, ho, hb⟩
  have HBw10 : Hid (Below w.heap.size w w10) := Below.next HBw9.out hb
  have HSS : Hid (SliceIs w10 vs LS) := HSS.out.later hb
  rw [HE.out, HLS.out]
  rw [HLS.out] at ho
  have HTS : Hid (SliceIs w10 vS LS) := slice_own ho HMS.out
  clear ho hb
  go_wp2_with fail
  refine (error_any (0) (0) _ (HL.out.later HBw10.out)).mono ?_
  rintro e w11 ⟨rfl, hb⟩
  have HBw11 : Hid (Below w.heap.size w w11) := Below.next HBw10.out hb
  have HSS : Hid (SliceIs w11 vs LS) := HSS.out.later hb
  have HTS : Hid (SliceIs w11 vS LS) := HTS.out.later hb
  rw [show (((0 : Nat) : Int) == (0)) = true from rfl]
  clear hb
  go_wp2_with fail
  refine (ints_any _ vS _ LS LS HTS.out HSS.out).mono ?_
  rintro e w12 ⟨rfl, q, hq⟩
  have hb : Below w11.heap.size w11 w12 := by rw [hq]; exact below_drew _ _ _
  have HBw12 : Hid (Below w.heap.size w w12) := Below.next HBw11.out hb
  have HSS : Hid (SliceIs w12 vs LS) := HSS.out.later hb
  have HTS : Hid (SliceIs w12 vS LS) := HTS.out.later hb
  rw [eqB_me]
  clear hb hq
  go_wp2_with fail
  refine (rfar_any _ _ _ LS HSS.out HIS.out.1 HS.out HIS.out.2).mono ?_
  rintro e w' ⟨rfl, rfl⟩
  go_wp2
  go_ret
  exact ⟨by simp, HBw12.out⟩

theorem headSays_any (w : World) (s : Int) (up : Bool) (v : Value) (xs : List Int) (hx : SliceIs w v xs) (hL : Laid w) :
    Calls Tryd.prog 3 #[.int .i64 s, .bool up, v] w fun e w' => e = .returned (.bool true) ∧ Below w.heap.size w w' := by
  by_cases h : hdE s xs = 0
  · exact hsay_K w s up v xs hx hL h
  · by_cases h20 : 20 < xs.length
    · exact hsay_F w s up v xs hx hL h20
    · by_cases hs : 0 ≤ s ∧ s ≤ 99
      · exact hsay_B w s up v xs hx hL (by omega) hs h
      · exact hsay_A w s up v xs hx hL (by omega) hs

end Go.Proofs.YtckdknkgadhmjaaDoor
