/- This text proves that platterholdlaw1.HeadNear returns true for any number and any list of numbers, and lets all old memory be; the only condition is that the slice lies there. -/
import Derived.Test.YtckdknkgadhmjaaK5
import Derived.Test.YtckdknkgadhmjaaKf
namespace Go.Proofs.Ytckdknkgadhmjaa
open Go.RowKit Go.Deep

/-- None that is served later was nearer. -/
def NearP : Int → List Int → Prop
  | _, [] => True
  | s, x :: xs => (∀ y ∈ xs, dst s x ≤ dst s y) ∧ NearP x xs

theorem near_ord : ∀ (n : Nat) (s : Int) (xs : List Int), xs.length = n → NearP s (ord ltN n s xs)
  | 0, _, _, _ => trivial
  | n + 1, s, xs, hn => by
    have hk := pickN_lt (ltN s) xs xs.length xs.length (by omega) (Nat.le_refl _)
    rw [ord]
    refine ⟨fun y hy => ?_, near_ord n _ _ (erase_len hk hn)⟩
    have h1 := (ord_perm ltN n (nth xs (pickN (ltN s) xs xs.length)) _ (erase_len hk hn)).mem_iff.1 hy
    have h2 := (perm_pick hk).mem_iff.1 (List.mem_cons_of_mem _ h1)
    obtain ⟨j, hj, rfl⟩ := List.getElem_of_mem h2
    rw [← nth_lt hj]
    have := pickN_min (ltN_total s) xs xs.length j hj
    simp only [ltN, decide_eq_false_iff_not] at this
    omega

theorem nearP_at : ∀ (L : List Int) (s : Int) (i k : Nat), NearP s L → i < k → k < L.length → dst (nth (s :: L) i) (nth L i) ≤ dst (nth (s :: L) i) (nth L k)
  | [], _, _, _, _, _, h => by simp at h
  | x :: L, s, 0, k + 1, h, _, hk => h.1 _ (nth_mem (by simpa using hk))
  | x :: L, s, i + 1, k + 1, h, hi, hk => nearP_at L x i k h.2 (by omega) (by simpa using hk)

theorem quiet_at {P : Program} {f : FuncId} {args : Array Value} {w : World} {q n : Nat} {v : Value}
    (h : Calls P f args (w.drewN (q + n)) fun e w' => e = .returned v ∧ w.drewN (q + n) = w') : Calls P f args (w.drewN (q + n)) fun e w'' => e = .returned v ∧ ∃ m, w'' = w.drewN (q + m) :=
  h.mono fun _ _ ⟨he, hm⟩ => ⟨he, n, hm.symm⟩

set_option maxHeartbeats 4000000 in
set_option maxRecDepth 100000 in
theorem headNear_no (w : World) (s : Int) (v : Value) (xs : List Int) (hx : SliceIs w v xs) (he : hdE s xs ≠ 0) :
    Calls Try.prog 5 #[.int .i64 s, v] w fun e w' => e = .returned (.bool true) ∧ Below w.heap.size w w' := by
  have HE : Hid (errV (hdE s xs) = .iface 40 (.int .i64 (hdE s xs : Int))) := errV_pos he
  have HL : Hid (hdL ltN s xs = []) := hdL_no he
  have HX : Hid (SliceIs w v xs) := hx
  clear hx he
  go_enter Try.func5, Try.ntmps5
  go_wp2_with fail
  refine (hfact_any _).mono ?_
  rintro e w1 ⟨rfl, hb1⟩
  have HB1 : Hid (Below w.heap.size w w1) := hb1
  clear hb1
  go_wp2_with fail
  refine (nearH_any _ _ _ xs (HX.out.later HB1.out)).mono ?_
  rintro e w2 ⟨v2, rfl, hown, hb2⟩
  rw [HE.out, HL.out]
  rw [HL.out] at hown
  obtain ⟨a, c, rfl⟩ := own_form hown
  have HB2 : Hid (Below w.heap.size w w2) := Below.next HB1.out hb2
  clear hown hb2
  rw [show farL s [] = 0 from rfl]
  go_wp2
  go_ret
  exact ⟨rfl, HB2.out⟩

set_option maxHeartbeats 4000000 in
set_option maxRecDepth 100000 in
theorem headNear_ok (w : World) (s : Int) (v : Value) (xs : List Int) (hx : SliceIs w v xs) (he : hdE s xs = 0) :
    Calls Try.prog 5 #[.int .i64 s, v] w fun e w' => e = .returned (.bool true) ∧ Below w.heap.size w w' := by
  obtain ⟨h20, hs, hall⟩ := hdE_zero he
  obtain ⟨L, hL⟩ : ∃ L, L = ord ltN xs.length s xs := ⟨_, rfl⟩
  have HL : Hid (hdL ltN s xs = L) := (hdL_ok he).trans hL.symm
  have HP : Hid (NearP s L) := by show NearP s L; rw [hL]; exact near_ord _ _ _ rfl
  have hperm := ord_perm ltN xs.length s xs rfl
  rw [← hL] at hperm
  have hLa : ∀ x ∈ L, 0 ≤ x ∧ x ≤ 99 := fun x hx => hall x (hperm.mem_iff.1 hx)
  obtain ⟨n, hn⟩ : ∃ n, n = L.length := ⟨_, rfl⟩
  have hn20 : n ≤ 20 := by rw [hn, hperm.length_eq]; exact h20
  have HW : Hid (∀ i, i ≤ n → 0 ≤ nth (s :: L) i ∧ nth (s :: L) i ≤ 99) := by rw [hn]; exact was_in hs hLa
  have HV : Hid (∀ i, i < n → 0 ≤ nth L i ∧ nth L i ≤ 99) := fun i hi => hLa _ (nth_mem (by rw [← hn]; exact hi))
  have HF : Hid (∀ k, k ≤ n → 0 ≤ farN s L k ∧ farN s L k ≤ 99 * (k : Int)) := by rw [hn]; exact farN_in hs hLa
  have HT : Hid (farN s L n = farL s L) := by rw [hn]; exact farN_all L s
  have HE : Hid (hdE s xs = 0) := he
  have HN : Hid (n = L.length) := hn
  have HX : Hid (SliceIs w v xs) := hx
  clear hx he hL hperm hLa hn hall hs h20
  go_enter Try.func5, Try.ntmps5
  go_wp2_with fail
  refine (hfact_any _).mono ?_
  rintro e w1 ⟨rfl, hb1⟩
  have HB1 : Hid (Below w.heap.size w w1) := hb1
  clear hb1
  go_wp2_with fail
  refine (nearH_any _ _ _ xs (HX.out.later HB1.out)).mono ?_
  rintro e w2 ⟨v2, rfl, hown, hb2⟩
  rw [HE.out, HL.out, errV_zero]
  rw [HL.out] at hown
  have hsl : SliceIs w2 v2 L := slice_own hown (by rw [← HN.out]; unfold maxLen; omega)
  have HB2 : Hid (Below w.heap.size w w2) := Below.next HB1.out hb2
  clear hown hb2
  obtain ⟨a, c, b, o, rfl, _, ha, hc⟩ := hsl.where
  rw [← HN.out] at ha hc ⊢
  have HC : Hid (∀ i, i < n → w2.cell? ⟨b, o + i, none⟩ = some (.int .i64 (nth L i))) := hc
  clear hsl hc
  rw [← HT.out]
  go_wp2
  go_loopw [9, 10, 11] (fun v9 v10 v11 wr => ∃ i : Nat, i ≤ n ∧ v11 = .int .i64 i ∧ v9 = .int .i64 (nth (s :: L) i) ∧ v10 = .int .i64 (farN s L i) ∧ ∃ q, wr = w2.drewN q) (fun _ _ i _ => n - (intOf i).toNat)
  case atStart => exact ⟨0, Nat.zero_le _, rfl, rfl, rfl, 0, rfl⟩
  case round =>
    obtain ⟨i, hi, rfl, rfl, rfl, q, rfl⟩ := hrel
    by_cases hlt : i < n
    · have hci := HC.out i hlt
      have haa := ha (by omega)
      subst haa
      have hw := HW.out i hi
      have hvi := HV.out i hlt
      have hfi := HF.out i hi
      have HS1 : Hid (farN s L (i + 1) = farN s L i + dst (nth L i) (nth (s :: L) i)) := by show farN s L (i + 1) = _; rw [farN, dst_comm]
      have HS2 : Hid (nth (s :: L) (i + 1) = nth L i) := rfl
      have HD : Hid (∀ k, i < k → k < n → dst (nth L i) (nth (s :: L) i) ≤ dst (nth L k) (nth (s :: L) i)) := fun k h1 h2 => by
        have := nearP_at L s i k HP.out h1 (by rw [← HN.out]; exact h2)
        rw [dst_comm (nth L i), dst_comm (nth L k)]
        exact this
      have hdi := dst_in hvi hw
      generalize nth (s :: L) i = p at *
      generalize farN s L i = F at *
      go_wp2
      go_loopw [12] (fun v12 wv => ∃ k : Nat, i + 1 ≤ k ∧ k ≤ n ∧ v12 = .int .i64 k ∧ ∃ q, wv = w2.drewN q) (fun k _ => n - (intOf k).toNat)
      case atStart => exact ⟨i + 1, Nat.le_refl _, by omega, by go_num, q, rfl⟩
      case round =>
        obtain ⟨k, hk1, hk, rfl, q, rfl⟩ := hrel
        by_cases hkn : k < n
        · have hck := HC.out k hkn
          have hvk := HV.out k hkn
          have hdk := HD.out k (by omega) hkn
          have hdd : decide (dst (nth L k) p < dst (nth L i) p) = false := decide_eq_false (by omega)
          have hii : (i : Int) < (n : Int) := by omega
          have hki : (k : Int) < (n : Int) := by omega
          go_wp2
          go_quiet (first | (go_at_call 13; exact quiet_at (abs_any _ _ _ (by assumption) (by assumption))))
          go_wp2
          go_roundw
          case rel => exact ⟨k + 1, by omega, by omega, by go_num, q + nq, rfl⟩
          case measure => simp [intOf]; omega
        · have hkn : k = n := by omega
          subst hkn
          have hii : (i : Int) < (k : Int) := by omega
          go_wp2_with (go_at_call 13; refine (abs_any _ _ _ hvi hw).mono ?_; rintro e w' ⟨rfl, rfl⟩)
          go_roundw
          case rel => exact ⟨i + 1, by omega, by go_num, by rw [HS2.out], by rw [HS1.out], q, rfl⟩
          case measure => simp [intOf]; omega
    · have hkn : i = n := by omega
      subst hkn
      go_wp2
      go_ret
      exact ⟨by simp, Below.next HB2.out (below_drew _ _ _)⟩

theorem headNear_any (w : World) (s : Int) (v : Value) (xs : List Int) (hx : SliceIs w v xs) :
    Calls Try.prog 5 #[.int .i64 s, v] w fun e w' => e = .returned (.bool true) ∧ Below w.heap.size w w' := by
  by_cases h : hdE s xs = 0
  · exact headNear_ok w s v xs hx h
  · exact headNear_no w s v xs hx h

end Go.Proofs.Ytckdknkgadhmjaa
