/- This text proves what the document's own functions Mul, Div, Pow and At (package platterholdref1) answer for bytes: the product of the field, what was divided, a power, and what factors come to; nothing is written; the only condition is that the slices lie there. -/
import Derived.Test.YtebjefgdjfjndaaDoorGb
import Derived.Test.YtebjefgdjfjndaaDoorRx
import Derived.Test.YtebjefgdjfjndaaDoorRb
namespace Go.Proofs.YtebjefgdjfjndaaDoor
open Go.RowKit Go.Deep

theorem pow_half {k : Nat} (h : k < 8) : 2 ^ (7 - k) / 2 = 128 / 2 ^ (k + 1) := by
  rcases (show k = 0 ∨ k = 1 ∨ k = 2 ∨ k = 3 ∨ k = 4 ∨ k = 5 ∨ k = 6 ∨ k = 7 by omega) with rfl | rfl | rfl | rfl | rfl | rfl | rfl | rfl <;> decide
theorem pow_here {k : Nat} (h : k < 8) : 128 / 2 ^ k = 2 ^ (7 - k) ∧ 0 < 2 ^ (7 - k) ∧ 2 ^ (7 - k) ≤ 128 := by
  rcases (show k = 0 ∨ k = 1 ∨ k = 2 ∨ k = 3 ∨ k = 4 ∨ k = 5 ∨ k = 6 ∨ k = 7 by omega) with rfl | rfl | rfl | rfl | rfl | rfl | rfl | rfl <;> decide

theorem bit_test {b P : Nat} (hb : b < 256) : (wrap64 ((b : Int) / (P : Int))).tmod 2 = ((b / P % 2 : Nat) : Int) := by
  have hq : b / P < 256 := Nat.lt_of_le_of_lt (Nat.div_le_self _ _) hb
  have e : (b : Int) / (P : Int) = ((b / P : Nat) : Int) := by simp
  rw [e]
  generalize b / P = Q at hq ⊢
  have e2 : wrap64 (Q : Int) = (Q : Int) := by unfold wrap64; omega
  rw [e2, Int.tmod_eq_emod_of_nonneg (by omega)]
  rfl

set_option maxHeartbeats 8000000 in
theorem rmul_any (a b : Nat) (w : World) (ha : a < 256) (hb : b < 256) :
    Calls Tryd.prog 29 #[.int .i64 (a : Int), .int .i64 (b : Int)] w fun e w' => e = .returned (.int .i64 (gm a b : Int)) ∧ w = w' := by
  go_enter Tryd.func29, Tryd.ntmps29
  go_wp2
  go_loop [5, 6] (fun r p => ∃ k : Nat, k ≤ 8 ∧ p = .int .i64 ((128 / 2 ^ k : Nat) : Int) ∧ r = .int .i64 (hn k a b : Int)) (fun _ p => (intOf p).toNat)
  case atStart => exact ⟨0, by omega, rfl, rfl⟩
  case round =>
    obtain ⟨k, hk, rfl, rfl⟩ := hrel
    by_cases hlt : k < 8
    · obtain ⟨e, hp, hp'⟩ := pow_here hlt
      have HN : Hid (2 ^ (7 - k) / 2 = 128 / 2 ^ (k + 1)) := pow_half hlt
      have HT : Hid (b.testBit (7 - k) = decide (b / 2 ^ (7 - k) % 2 = 1)) := Nat.testBit_eq_decide_div_mod_eq
      have HS : Hid (hn (k + 1) a b = xt (hn k a b) ^^^ (if b.testBit (7 - k) then a else 0)) := hn_succ k a b
      have hr : hn k a b < 256 := hn_lt ha
      have HR : Hid (xt (hn k a b) = if 2 * hn k a b > 255 then (2 * hn k a b) ^^^ 285 else 2 * hn k a b) := xt_if hr
      have hx : xt (hn k a b) < 256 := xt_byte_all _ hr
      rw [e]
      clear e
      generalize 2 ^ (7 - k) = P at *
      generalize hn k a b = r at *
      have next : ∀ z : Nat, z = hn (k + 1) a b → (∃ k, k ≤ 8 ∧ Value.int IntKind.i64 ((P : Int) / 2) = .int .i64 ((128 / 2 ^ k : Nat) : Int) ∧ Value.int .i64 (z : Int) = .int .i64 (hn k a b : Int)) ∧ (intOf (Value.int IntKind.i64 ((P : Int) / 2))).toNat < (intOf (Value.int IntKind.i64 (P : Int))).toNat := by
        intro z hz
        refine ⟨⟨k + 1, by omega, ?_, by rw [hz]⟩, ?_⟩
        · rw [← HN.out]; simp
        · simp only [intOf]; omega
      have HX := show Hid _ from next
      clear next
      have hbq : b / P % 2 = 1 ∨ b / P % 2 = 0 := by omega
      by_cases ho : 255 < 2 * r
      · have HR' : Hid (xt r = (2 * r) ^^^ 285) := by have := HR.out; rwa [if_pos ho] at this
        rw [HR'.out] at hx
        have ho' : (255 : Int) < (r : Int) * 2 := by omega
        rcases hbq with h1 | h1
        · have HF : Hid (((2 * r) ^^^ 285) ^^^ a = hn (k + 1) a b) := by
            show ((2 * r) ^^^ 285) ^^^ a = hn (k + 1) a b
            rw [HS.out, HT.out, h1, HR'.out]; simp
          have h2 : ((wrap64 ((b : Int) / (P : Int))).tmod 2 == 1) = true := by rw [bit_test hb, h1]; rfl
          clear h1 ho
          go_wp2_with fail
          refine (rxor_any (r * 2) 285 _ (by omega) (by omega)).mono ?_
          rintro e w' ⟨rfl, rfl⟩
          rw [Nat.mul_comm r 2]
          go_wp2_with fail
          refine (rxor_any _ a _ (by omega) (by omega)).mono ?_
          rintro e w' ⟨rfl, rfl⟩
          go_wp2
          exact HX.out _ HF.out
        · have HF : Hid ((2 * r) ^^^ 285 = hn (k + 1) a b) := by
            show (2 * r) ^^^ 285 = hn (k + 1) a b
            rw [HS.out, HT.out, h1, HR'.out]; simp
          have h2 : ((wrap64 ((b : Int) / (P : Int))).tmod 2 == 1) = false := by rw [bit_test hb, h1]; rfl
          clear h1 ho
          go_wp2_with fail
          refine (rxor_any (r * 2) 285 _ (by omega) (by omega)).mono ?_
          rintro e w' ⟨rfl, rfl⟩
          rw [Nat.mul_comm r 2]
          go_wp2
          exact HX.out _ HF.out
      · have HR' : Hid (xt r = 2 * r) := by have := HR.out; rwa [if_neg ho] at this
        have ho' : ¬ (255 : Int) < (r : Int) * 2 := by omega
        rcases hbq with h1 | h1
        · have HF : Hid ((r * 2) ^^^ a = hn (k + 1) a b) := by
            show (r * 2) ^^^ a = hn (k + 1) a b
            rw [HS.out, HT.out, h1, HR'.out, Nat.mul_comm]; simp
          have h2 : ((wrap64 ((b : Int) / (P : Int))).tmod 2 == 1) = true := by rw [bit_test hb, h1]; rfl
          clear h1 ho
          go_wp2_with fail
          refine (rxor_any (r * 2) a _ (by omega) (by omega)).mono ?_
          rintro e w' ⟨rfl, rfl⟩
          go_wp2
          exact HX.out _ HF.out
        · have HF : Hid (r * 2 = hn (k + 1) a b) := by
            show r * 2 = hn (k + 1) a b
            rw [HS.out, HT.out, h1, HR'.out, Nat.mul_comm]; simp
          have h2 : ((wrap64 ((b : Int) / (P : Int))).tmod 2 == 1) = false := by rw [bit_test hb, h1]; rfl
          clear h1 ho
          go_wp2
          exact HX.out _ HF.out
    · have hk8 : k = 8 := by omega
      subst hk8
      rw [show (128 / 2 ^ 8 : Nat) = 0 by decide, hn_all]
      go_wp2
      go_ret
      exact ⟨rfl, rfl⟩

set_option maxHeartbeats 4000000 in
set_option maxRecDepth 100000 in
theorem rdiv_at (a b d : Nat) (w : World) (hb : b < 256) (h0 : b ≠ 0) (hB : gm d b = a) (hQ : d < 256) :
    Calls Tryd.prog 27 #[.int .i64 (a : Int), .int .i64 (b : Int)] w fun e w' => e = .returned (.int .i64 (d : Int)) ∧ w = w' := by
  have HB : Hid (gm d b = a) := hB
  have HQ : Hid (d < 256) := hQ
  clear hB hQ
  go_enter Tryd.func27, Tryd.ntmps27
  go_wp2
  go_loop [5] (fun x => ∃ k : Nat, k ≤ 256 ∧ x = .int .i64 k ∧ ∀ j, j < k → gm j b ≠ a) (fun x => 256 - (intOf x).toNat)
  case atStart => exact ⟨0, by omega, rfl, fun j hj => absurd hj (Nat.not_lt_zero _)⟩
  case round =>
    obtain ⟨k, hk, rfl, hall⟩ := hrel
    have HA : Hid (∀ j, j < k → gm j b ≠ a) := hall
    clear hall
    by_cases hlt : k < 256
    · by_cases he : gm k b = a
      · have HE : Hid (k = d) := gm_cancel hlt HQ.out hb h0 (by rw [HB.out, he])
        go_wp2_with fail
        refine (rmul_any k b _ hlt hb).mono ?_
        rintro e w' ⟨rfl, rfl⟩
        rw [he]
        clear he
        go_wp2
        go_ret
        exact ⟨by rw [HE.out]; rfl, rfl⟩
      · have HE : Hid (gm k b ≠ a) := he
        have he' : ((gm k b : Int) == (a : Int)) = false := by
          have : ¬ (gm k b : Int) = (a : Int) := by omega
          simpa using this
        clear he
        go_wp2_with fail
        refine (rmul_any k b _ hlt hb).mono ?_
        rintro e w' ⟨rfl, rfl⟩
        go_wp2
        refine ⟨⟨k + 1, by omega, rfl, fun j hj => ?_⟩, ?_⟩
        · by_cases e : j = k
          · subst e; exact HE.out
          · exact HA.out j (by omega)
        · simp only [intOf]; omega
    · exact absurd HB.out (HA.out _ (Nat.lt_of_lt_of_le HQ.out (by omega)))

theorem rdiv_any (a b : Nat) (w : World) (ha : a < 256) (hb : b < 256) (h0 : b ≠ 0) :
    Calls Tryd.prog 27 #[.int .i64 (a : Int), .int .i64 (b : Int)] w fun e w' => e = .returned (.int .i64 (gm a (gpow b 254) : Int)) ∧ w = w' :=
  rdiv_at a b _ w hb h0 (gdiv_back ha hb h0) (gm_byte ha (gpow_byte hb))

set_option maxHeartbeats 4000000 in
set_option maxRecDepth 100000 in
theorem rpow_any (a n : Nat) (w : World) (ha : a < 256) (hn : n ≤ 1000) :
    Calls Tryd.prog 26 #[.int .i64 (a : Int), .int .i64 (n : Int)] w fun e w' => e = .returned (.int .i64 (gpow a n : Int)) ∧ w = w' := by
  go_enter Tryd.func26, Tryd.ntmps26
  go_wp2
  go_loop [5, 6] (fun r i => ∃ k : Nat, k ≤ n ∧ i = .int .i64 k ∧ r = .int .i64 (gpow a k : Int)) (fun _ i => n - (intOf i).toNat)
  case atStart => exact ⟨0, Nat.zero_le _, rfl, rfl⟩
  case round =>
    obtain ⟨k, hk, rfl, rfl⟩ := hrel
    by_cases hlt : k < n
    · go_wp2_with fail
      refine (rmul_any _ a _ (gpow_byte ha) ha).mono ?_
      rintro e w' ⟨rfl, rfl⟩
      rw [← gpow_succ]
      go_wp2
      refine ⟨⟨k + 1, by omega, rfl, rfl⟩, ?_⟩
      simp only [intOf]; omega
    · have e : k = n := by omega
      subst e
      go_wp2
      go_ret
      exact ⟨rfl, rfl⟩

/-- A call that leaves the world as it was, as a quiet region takes it. -/
theorem quiet_at {P : Program} {f : FuncId} {args : Array Value} {w : World} {q n : Nat} {v : Value}
    (h : Calls P f args (w.drewN (q + n)) fun e w' => e = .returned v ∧ w.drewN (q + n) = w') : Calls P f args (w.drewN (q + n)) fun e w'' => e = .returned v ∧ ∃ m, w'' = w.drewN (q + m) :=
  h.mono fun _ _ ⟨he, hm⟩ => ⟨he, n, hm.symm⟩

set_option maxHeartbeats 8000000 in
set_option maxRecDepth 100000 in
theorem rat_any (w : World) (v : Value) (xs : List Int) (x : Nat) (hs : SliceIs w v xs) (h16 : xs.length ≤ 16) (hb : ∀ i, i < xs.length → isByte (nth xs i)) (hx : x < 256) :
    Calls Tryd.prog 18 #[v, .int .i64 (x : Int)] w fun e w' => e = .returned (.int .i64 (ev (xs.map Int.toNat) x : Int)) ∧ ∃ q, w' = w.drewN q := by
  have HV : Hid (evN (xs.map Int.toNat) x xs.length = ev (xs.map Int.toNat) x) := by
    have e := evN_all (x := x) (bytes_map hb) hx
    rwa [List.length_map] at e
  have HB : Hid (∀ i, i < xs.length → isByte (nth xs i)) := hb
  obtain ⟨a, c, b, o, rfl, hl, ha, hc⟩ := hs.where
  obtain ⟨n, hxn⟩ : ∃ n, n = xs.length := ⟨_, rfl⟩
  have HX : Hid (n = xs.length) := hxn
  rw [← hxn] at ha hc h16 ⊢
  have HC : Hid (∀ i, i < n → w.cell? ⟨b, o + i, none⟩ = some (.int .i64 (nth xs i))) := hc
  clear hc hxn hl hs hb
  go_enter Tryd.func18, Tryd.ntmps18
  go_wp2
  go_loopw [5, 6] (fun s i wr => ∃ k : Nat, k ≤ n ∧ i = .int .i64 k ∧ s = .int .i64 (evN (xs.map Int.toNat) x k : Int) ∧ ∃ q, wr = w.drewN q) (fun _ i _ => n - (intOf i).toNat)
  case atStart => exact ⟨0, Nat.zero_le _, rfl, rfl, 0, rfl⟩
  case round =>
    obtain ⟨k, hk, rfl, rfl, q, rfl⟩ := hrel
    by_cases hlt : k < n
    · have hck := HC.out k hlt
      have haa := ha (by omega)
      subst haa
      have hfb : (xs.map Int.toNat).getD k 0 < 256 := getD_byte (bytes_map HB.out) k
      have hsb : evN (xs.map Int.toNat) x k < 256 := evN_byte (bytes_map HB.out) hx k
      have hs1 : evN (xs.map Int.toNat) x k < 1024 := Nat.lt_trans hsb (by decide)
      rw [map_nth HB.out (by rw [← HX.out]; exact hlt)] at hck
      have HS : Hid (evN (xs.map Int.toNat) x (k + 1) = evN (xs.map Int.toNat) x k ^^^ gm ((xs.map Int.toNat).getD k 0) (gpow x k)) := evN_succ _ _ _
      generalize (xs.map Int.toNat).getD k 0 = f at hck hfb HS
      have hg1 : gpow x k < 256 := gpow_byte hx
      have hg2 : gm f (gpow x k) < 1024 := Nat.lt_trans (gm_byte hfb hg1) (by decide)
      have hki : (k : Int) < (n : Int) := by omega
      go_wp2
      go_quiet (first | (go_at_call 26; exact quiet_at (rpow_any x k _ hx (by omega))) | (go_at_call 29; exact quiet_at (rmul_any f _ _ hfb hg1)) | (go_at_call 28; exact quiet_at (rxor_any _ _ _ hs1 hg2)))
      rw [← HS.out]
      go_wp2
      go_roundw
      case rel => exact ⟨k + 1, by omega, by go_num, rfl, q + nq, rfl⟩
      case measure => simp [intOf]; omega
    · have e : k = n := by omega
      subst e
      go_wp2
      go_ret
      exact ⟨by rw [← HV.out, ← HX.out]; rfl, q, rfl⟩

end Go.Proofs.YtebjefgdjfjndaaDoor
