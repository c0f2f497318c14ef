/- This text proves what head.isTrack, Check, between and onWayOut return, and what the three orders (the functions that First, Near and Sweep hand to serve) answer; nothing is written; the only condition is that the slice lies there, and that numbers are tracks. -/
import Derived.Test.YtckdknkgadhmjaaDoorChecked
import Derived.Test.YtckdknkgadhmjaaDoorLo
import Derived.Test.YtckdknkgadhmjaaDoorKp
import Derived.Test.YtckdknkgadhmjaaDoorAs
import Derived.WalkKit
import Derived.Outline
import Derived.WalkSpells
import Derived.WalkLawsBesides
import Derived.Deep.QuietTactic
import Derived.BigQuiet
namespace Go.Proofs.YtckdknkgadhmjaaDoor
open Go.RowKit Go.Deep

set_option maxHeartbeats 1000000 in
theorem isTrack_any (x : Int) (w : World) :
    Calls Tryd.prog 17 #[.int .i64 x] w fun e w' => e = .returned (.bool (trk x)) ∧ w = w' := by
  by_cases h1 : 0 ≤ x
  · by_cases h2 : x ≤ 99
    · have e : trk x = true := by simp [trk, h1, h2]
      rw [e]
      go_enter Tryd.func17, Tryd.ntmps17
      go_wp2
      go_ret
      exact ⟨rfl, rfl⟩
    · have e : trk x = false := by simp [trk, h2]
      rw [e]
      go_enter Tryd.func17, Tryd.ntmps17
      go_wp2
      go_ret
      exact ⟨rfl, rfl⟩
  · have e : trk x = false := by simp [trk, h1]
    rw [e]
    go_enter Tryd.func17, Tryd.ntmps17
    go_wp2
    go_ret
    exact ⟨rfl, rfl⟩

theorem hdE_full {a : Int} {xs : List Int} (h : 20 < xs.length) : hdE a xs = 4 := by unfold hdE; rw [if_pos h]
theorem hdE_at {a : Int} {xs : List Int} (h : xs.length ≤ 20) (ha : trk a = false) : hdE a xs = 1 := by
  unfold hdE; rw [if_neg (by omega), if_neg (by rw [ha]; simp)]
theorem hdE_no {a : Int} {xs : List Int} {k : Nat} (h : xs.length ≤ 20) (hk : k < xs.length) (hx : trk (nth xs k) = false) : hdE a xs = 1 := by
  unfold hdE; rw [if_neg (by omega), if_neg (fun h => by have := h.2 _ (nth_mem hk); rw [hx] at this; cases this)]
theorem hdE_ok {a : Int} {xs : List Int} (h : xs.length ≤ 20) (ha : trk a = true) (hx : ∀ k, k < xs.length → trk (nth xs k) = true) : hdE a xs = 0 := by
  unfold hdE; rw [if_neg (by omega), if_pos ⟨ha, fun x hx' => by obtain ⟨i, hi, rfl⟩ := List.getElem_of_mem hx'; rw [← nth_lt hi]; exact hx i hi⟩]

set_option maxHeartbeats 2000000 in
theorem check_any (w : World) (x : Int) (v : Value) (xs : List Int) (hx : SliceIs w v xs) :
    Calls Tryd.prog 7 #[.int .i64 x, v] w fun e w' => e = .returned (errV (hdE x xs)) ∧ w = w' := by
  obtain ⟨a, c, b, o, rfl, hl, ha, hc⟩ := hx.where
  obtain ⟨n, hxn⟩ : ∃ n, n = xs.length := ⟨_, rfl⟩
  have HX : Hid (n = xs.length) := hxn
  rw [← hxn] at hl ha hc ⊢
  have HC : Hid (∀ i, i < n → w.cell? ⟨b, o + i, none⟩ = some (.int .i64 (nth xs i))) := hc
  unfold maxLen at hl
  clear hc hxn
  by_cases hn : 20 < n
  · have HE : Hid (hdE x xs = 4) := hdE_full (by rw [← HX.out]; exact hn)
    go_enter Tryd.func7, Tryd.ntmps7
    go_wp2_with fail
    go_ret
    exact ⟨by rw [HE.out]; rfl, rfl⟩
  · cases ht : trk x with
    | false =>
      have HE : Hid (hdE x xs = 1) := hdE_at (by rw [← HX.out]; omega) ht
      have HT : Hid (trk x = false) := ht
      clear ht
      go_enter Tryd.func7, Tryd.ntmps7
      go_wp2_with (go_at_call 17; refine (isTrack_any _ _).mono ?_; rintro e w' ⟨rfl, rfl⟩; rw [HT.out])
      go_ret
      exact ⟨by rw [HE.out]; rfl, rfl⟩
    | true =>
      have HT : Hid (trk x = true) := ht
      clear ht
      go_enter Tryd.func7, Tryd.ntmps7
      go_wp2_with (go_at_call 17; refine (isTrack_any _ _).mono ?_; rintro e w' ⟨rfl, rfl⟩; rw [HT.out])
      go_loop [17, 6] (fun i _ => ∃ k : Nat, k ≤ n ∧ i = .int .i64 k ∧ ∀ j, j < k → trk (nth xs j) = true) (fun i _ => n - (intOf i).toNat)
      case atStart => exact ⟨0, Nat.zero_le _, rfl, fun j hj => absurd hj (Nat.not_lt_zero _)⟩
      case round =>
        obtain ⟨k, hk, rfl, hall⟩ := hrel
        have HA : Hid (∀ j, j < k → trk (nth xs j) = true) := hall
        clear hall
        by_cases hlt : k < n
        · have hck := HC.out k hlt
          have haa := ha (by omega)
          subst haa
          cases hb : trk (nth xs k) with
          | true =>
            have HD : Hid (trk (nth xs k) = true) := hb
            clear hb
            go_wp2_with (go_at_call 17; refine (isTrack_any _ _).mono ?_; rintro e w' ⟨rfl, rfl⟩; rw [HD.out])
            go_round
            case rel =>
              refine ⟨k + 1, by omega, by go_num, fun j hj => ?_⟩
              by_cases e : j = k
              · subst e; exact HD.out
              · exact HA.out j (by omega)
            case measure => simp [intOf]; omega
          | false =>
            have HD : Hid (trk (nth xs k) = false) := hb
            have HF : Hid (hdE x xs = 1) := hdE_no (by rw [← HX.out]; omega) (by rw [← HX.out]; exact hlt) hb
            clear hb
            go_wp2_with (go_at_call 17; refine (isTrack_any _ _).mono ?_; rintro e w' ⟨rfl, rfl⟩; rw [HD.out])
            go_ret
            exact ⟨by rw [HF.out]; rfl, rfl⟩
        · have hkn : k = n := by omega
          subst hkn
          have HF : Hid (hdE x xs = 0) := hdE_ok (by rw [← HX.out]; omega) HT.out (by rw [← HX.out]; exact HA.out)
          go_wp2
          go_ret
          exact ⟨by rw [HF.out]; rfl, rfl⟩

set_option maxHeartbeats 1000000 in
theorem between_any (a b : Int) (w : World) (ha : 0 ≤ a ∧ a ≤ 99) (hb : 0 ≤ b ∧ b ≤ 99) :
    Calls Tryd.prog 24 #[.int .i64 a, .int .i64 b] w fun e w' => e = .returned (.int .i64 (dst a b)) ∧ w = w' := by
  by_cases h : b < a
  · have e : dst a b = a - b := by unfold dst; rw [if_pos (by omega)]
    rw [e]
    go_enter Tryd.func24, Tryd.ntmps24
    go_wp2
    go_ret
    exact ⟨by go_num, rfl⟩
  · by_cases h' : a < b
    · have e : dst a b = b - a := by unfold dst; rw [if_neg (by omega)]
      rw [e]
      go_enter Tryd.func24, Tryd.ntmps24
      go_wp2
      go_ret
      exact ⟨by go_num, rfl⟩
    · obtain rfl : a = b := by omega
      have e : dst a a = 0 := by unfold dst; rw [if_neg (by omega)]; omega
      rw [e]
      go_enter Tryd.func24, Tryd.ntmps24
      go_wp2
      go_ret
      exact ⟨by go_num, rfl⟩

set_option maxHeartbeats 1000000 in
theorem onWay_any (f : Int) (up : Bool) (x : Int) (w : World) :
    Calls Tryd.prog 26 #[.int .i64 f, .bool up, .int .i64 x] w fun e w' => e = .returned (.bool (out f up x)) ∧ w = w' := by
  cases up
  · by_cases h : x ≤ f
    · have e : out f false x = true := by simp [out, h]
      rw [e]
      go_enter Tryd.func26, Tryd.ntmps26
      go_wp2
      go_ret
      exact ⟨rfl, rfl⟩
    · have e : out f false x = false := by simp [out, h]
      rw [e]
      go_enter Tryd.func26, Tryd.ntmps26
      go_wp2
      go_ret
      exact ⟨rfl, rfl⟩
  · by_cases h : f ≤ x
    · have e : out f true x = true := by simp [out, h]
      rw [e]
      go_enter Tryd.func26, Tryd.ntmps26
      go_wp2
      go_ret
      exact ⟨rfl, rfl⟩
    · have e : out f true x = false := by simp [out, h]
      rw [e]
      go_enter Tryd.func26, Tryd.ntmps26
      go_wp2
      go_ret
      exact ⟨rfl, rfl⟩

theorem first_any (now a b : Int) (w : World) :
    Calls Tryd.prog 22 #[.int .i64 now, .int .i64 a, .int .i64 b] w fun e w' => e = .returned (.bool (ltF now a b)) ∧ w = w' := by
  go_enter Tryd.func22, Tryd.ntmps22
  go_wp2
  go_ret
  exact ⟨rfl, rfl⟩

set_option maxHeartbeats 1000000 in
theorem near_any (now a b : Int) (w : World) (hn : 0 ≤ now ∧ now ≤ 99) (ha : 0 ≤ a ∧ a ≤ 99) (hb : 0 ≤ b ∧ b ≤ 99) :
    Calls Tryd.prog 23 #[.int .i64 now, .int .i64 a, .int .i64 b] w fun e w' => e = .returned (.bool (ltN now a b)) ∧ w = w' := by
  have HC1 : Hid _ := fun w => between_any now a w hn ha
  have HC2 : Hid _ := fun w => between_any now b w hn hb
  have HE : Hid (ltN now a b = _) := show ltN now a b = decide (dst now a < dst now b ∨ (dst now a = dst now b ∧ a < b)) from rfl
  generalize dst now a = p at HC1 HE
  generalize dst now b = q at HC2 HE
  clear hn ha hb
  by_cases h1 : p < q
  · have HF : Hid (ltN now a b = true) := HE.out.trans (by simp [h1])
    go_enter Tryd.func23, Tryd.ntmps23
    go_wp2_with fail
    refine (HC1.out _).mono ?_
    rintro e w' ⟨rfl, rfl⟩
    go_wp2_with fail
    refine (HC2.out _).mono ?_
    rintro e w' ⟨rfl, rfl⟩
    go_wp2
    go_ret
    exact ⟨by rw [HF.out]; rfl, rfl⟩
  · by_cases h2 : p = q
    · subst h2
      by_cases h3 : a < b
      · have HF : Hid (ltN now a b = true) := HE.out.trans (by simp [h3])
        go_enter Tryd.func23, Tryd.ntmps23
        go_wp2_with fail
        refine (HC1.out _).mono ?_
        rintro e w' ⟨rfl, rfl⟩
        go_wp2_with fail
        refine (HC2.out _).mono ?_
        rintro e w' ⟨rfl, rfl⟩
        go_wp2
        go_ret
        exact ⟨by rw [HF.out]; rfl, rfl⟩
      · have HF : Hid (ltN now a b = false) := HE.out.trans (by simp [h3])
        have HG : Hid (decide (a < b) = false) := decide_eq_false h3
        go_enter Tryd.func23, Tryd.ntmps23
        go_wp2_with fail
        refine (HC1.out _).mono ?_
        rintro e w' ⟨rfl, rfl⟩
        go_wp2_with fail
        refine (HC2.out _).mono ?_
        rintro e w' ⟨rfl, rfl⟩
        go_wp2
        go_ret
        exact ⟨by rw [HF.out, ← HG.out]; rfl, rfl⟩
    · have HF : Hid (ltN now a b = false) := HE.out.trans (by simp [h1, h2])
      have h2' : (p == q) = false := by simp [h2]
      have HG : Hid (decide (p < q) = false) := decide_eq_false h1
      go_enter Tryd.func23, Tryd.ntmps23
      go_wp2_with fail
      refine (HC1.out _).mono ?_
      rintro e w' ⟨rfl, rfl⟩
      go_wp2_with fail
      refine (HC2.out _).mono ?_
      rintro e w' ⟨rfl, rfl⟩
      go_wp2
      go_ret
      exact ⟨by rw [HF.out, ← HG.out]; rfl, rfl⟩

end Go.Proofs.YtckdknkgadhmjaaDoor
