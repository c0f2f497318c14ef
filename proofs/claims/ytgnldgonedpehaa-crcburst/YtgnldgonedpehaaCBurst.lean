/- This text proves that platterholdlaw1.CrcBurst returns true for any list and any three numbers, and lets all old memory be; the only condition is that the slice lies there. -/
import Derived.Test.YtgnldgonedpehaaCf
import Derived.Test.YtgnldgonedpehaaIn
import Derived.Test.YtgnldgonedpehaaRy
import Derived.Test.YtgnldgonedpehaaPw
import Derived.Test.YtgnldgonedpehaaAp
namespace Go.Proofs.Ytgnldgonedpehaa
open Go.RowKit Go.Deep

/-- Bytes with their sum behind them. -/
def withSum (xs : List Int) : List Int := xs ++ [((crcL xs : Nat) : Int)]

theorem withSum_len (xs : List Int) : (withSum xs).length = xs.length + 1 := by simp [withSum]
theorem withSum_byte {xs : List Int} (hb : ∀ i, i < xs.length → isByte (nth xs i)) : ∀ i, i < (withSum xs).length → isByte (nth (withSum xs) i) := snoc_byte hb (isByte_of_nat (crcL_lt xs))
theorem withSum_crc (xs : List Int) : crcL (withSum xs) = 0 := by
  unfold withSum
  rw [crcL_snoc, Int.toNat_natCast]
  exact tky_diag _ (crcL_lt xs)

/-- One byte turned. -/
def turnL (ys : List Int) (k d : Nat) : List Int := ys.set k ((fnL ys k ^^^ d : Nat) : Int)
theorem turnL_len (ys : List Int) (k d : Nat) : (turnL ys k d).length = ys.length := by simp [turnL]
theorem turnL_fn {ys : List Int} {k : Nat} (hk : k < ys.length) (d i : Nat) : fnL (turnL ys k d) i = if i = k then fnL ys k ^^^ d else fnL ys i := by
  unfold turnL
  show (nth (ys.set k ((fnL ys k ^^^ d : Nat) : Int)) i).toNat = _
  rw [nth_set hk]
  by_cases e : i = k
  · rw [if_pos e, if_pos e]; rfl
  · rw [if_neg e, if_neg e]; rfl
theorem turnL_byte {ys : List Int} {k d : Nat} (hd : d < 256) (hb : ∀ i, i < ys.length → isByte (nth ys i)) : ∀ i, i < (turnL ys k d).length → isByte (nth (turnL ys k d) i) := by
  intro i hi
  rw [turnL_len] at hi
  unfold turnL
  by_cases hk : k < ys.length
  · rw [nth_set hk]
    by_cases e : i = k
    · rw [if_pos e]; exact isByte_of_nat (Nat.xor_lt_two_pow (n := 8) (fnL_byte hb k) hd)
    · rw [if_neg e]; exact hb i hi
  · rw [List.set_eq_of_length_le (by omega)]; exact hb i hi

theorem xor_back (a d : Nat) : (a ^^^ d) ^^^ a = d := by rw [Nat.xor_comm a d, Nat.xor_assoc, Nat.xor_self, Nat.xor_zero]

theorem turned_two {ys : List Int} {k s b : Nat} (h0 : crcL ys = 0) (hk : k + 1 < ys.length) (hs : s < 8) (hb : b < 256) (hb1 : 1 ≤ b) :
    crcL (turnL (turnL ys k (b / 2 ^ s)) (k + 1) (b * 2 ^ (8 - s) % 256)) ≠ 0 := by
  rw [← h0]
  unfold crcL
  rw [turnL_len, turnL_len]
  have h1 := fun i => turnL_fn (ys := ys) (k := k) (by omega) (b / 2 ^ s) i
  have h2 := fun i => turnL_fn (ys := turnL ys k (b / 2 ^ s)) (k := k + 1) (by rw [turnL_len]; exact hk) (b * 2 ^ (8 - s) % 256) i
  refine crcN_burst hk hs hb hb1 ?_ ?_ fun i hi n1 n2 => ?_
  · rw [h2, if_neg (by omega), h1, if_pos rfl, xor_back]
  · rw [h2, if_pos rfl, h1, if_neg (by omega), xor_back]
  · rw [h2, if_neg n2, h1, if_neg n1]

theorem turned_one {ys : List Int} {k d : Nat} (h0 : crcL ys = 0) (hb : ∀ i, i < ys.length → isByte (nth ys i)) (hk : k < ys.length) (hd : d < 256) (hd1 : d ≠ 0) : crcL (turnL ys k d) ≠ 0 := by
  rw [← h0]
  unfold crcL
  rw [turnL_len]
  have h1 := fun i => turnL_fn (ys := ys) (k := k) hk d i
  refine crcN_one hk ?_ (fnL_byte hb k) ?_ fun i hi n1 => ?_
  · rw [h1, if_pos rfl]; exact Nat.xor_lt_two_pow (n := 8) (fnL_byte hb k) hd
  · rw [h1, if_pos rfl]
    intro e
    have := xor_back (fnL ys k) d
    rw [e, Nat.xor_self] at this
    exact hd1 this.symm
  · rw [h1, if_neg n1]

theorem goodE_ok {xs : List Int} (h0 : 0 < xs.length) (h : xs.length ≤ 64) (hb : ∀ i, i < xs.length → isByte (nth xs i)) : goodE xs = 0 := by
  unfold goodE
  rw [if_neg (by omega)]
  exact bytE_ok h hb

theorem wrap_small (z : Nat) (h : z < 2 ^ 62) : wrap64 (z : Int) = (z : Int) := by
  unfold wrap64
  omega
theorem down_eq {b p : Nat} (hb : b < 256) : wrap64 ((b : Int) / (p : Int)) = ((b / p : Nat) : Int) := by
  have h : b / p ≤ b := Nat.div_le_self _ _
  rw [show (b : Int) / (p : Int) = ((b / p : Nat) : Int) by simp]
  exact wrap_small _ (by omega)
theorem rest_eq {b q : Nat} (hb : b < 256) (hq : q ≤ 2 ^ 8) : (wrap64 ((b : Int) * (q : Int))).tmod 256 = ((b * q % 256 : Nat) : Int) := by
  have h : b * q ≤ 255 * 256 := Nat.mul_le_mul (by omega) (by omega)
  rw [show (b : Int) * (q : Int) = ((b * q : Nat) : Int) by simp]
  generalize b * q = z at h
  rw [wrap_small _ (by omega), Int.tmod_eq_emod_of_nonneg (by omega)]
  rfl

/-- Good tells no. -/
theorem good_no {xs : List Int} (he : goodE xs = 0) (hc : crcL xs ≠ 0) : (Value.tuple #[.bool (decide (goodE xs = 0) && decide (crcL xs = 0)), errV (goodE xs)]) = .tuple #[.bool false, .nilIface] := by
  rw [he, decide_eq_false hc]; rfl

set_option maxHeartbeats 4000000 in
theorem burst_err (w : World) (v : Value) (xs : List Int) (at' burst shift : Int) (hx : SliceIs w v xs) (he : bytE xs ≠ 0) :
    Calls Try.prog 4 #[v, .int .i64 at', .int .i64 burst, .int .i64 shift] w fun e w' => e = .returned (.bool true) ∧ Below w.heap.size w w' := by
  have HX : Hid (SliceIs w v xs) := hx
  obtain ⟨aa, ca, rfl, _⟩ := id hx
  have HE : Hid (sumV xs = _) := sumV_no he
  clear hx he
  go_enter Try.func4, Try.ntmps4
  go_wp2_with fail
  refine (cfact_any w).mono ?_
  rintro e w1 ⟨rfl, hb1⟩
  have HB1 : Hid (Below w.heap.size w w1) := hb1
  clear hb1
  go_wp2_with fail
  refine (sum_any w1 _ xs (HX.out.later HB1.out)).mono ?_
  rintro e w2 ⟨rfl, rfl⟩
  rw [HE.out]
  go_wp2
  go_ret
  exact ⟨rfl, HB1.out⟩

set_option maxHeartbeats 4000000 in
theorem burst_full (w : World) (v : Value) (xs : List Int) (at' burst shift : Int) (hx : SliceIs w v xs) (he : bytE xs = 0) (h64 : xs.length = 64) :
    Calls Try.prog 4 #[v, .int .i64 at', .int .i64 burst, .int .i64 shift] w fun e w' => e = .returned (.bool true) ∧ Below w.heap.size w w' := by
  have HX : Hid (SliceIs w v xs) := hx
  obtain ⟨aa, ca, rfl, _⟩ := id hx
  have HE : Hid (sumV xs = _) := sumV_ok he
  have hn : ((xs.length : Int) == 64) = true := by simp; omega
  clear hx he h64
  go_enter Try.func4, Try.ntmps4
  go_wp2_with fail
  refine (cfact_any w).mono ?_
  rintro e w1 ⟨rfl, hb1⟩
  have HB1 : Hid (Below w.heap.size w w1) := hb1
  clear hb1
  go_wp2_with fail
  refine (sum_any w1 _ xs (HX.out.later HB1.out)).mono ?_
  rintro e w2 ⟨rfl, rfl⟩
  rw [HE.out]
  go_wp2
  go_ret
  exact ⟨rfl, HB1.out⟩

set_option maxHeartbeats 4000000 in
theorem burst_b (w : World) (v : Value) (xs : List Int) (at' burst shift : Int) (hx : SliceIs w v xs) (he : bytE xs = 0) (h64 : xs.length ≠ 64) (hB : ¬ (1 ≤ burst ∧ burst ≤ 255)) :
    Calls Try.prog 4 #[v, .int .i64 at', .int .i64 burst, .int .i64 shift] w fun e w' => e = .returned (.bool true) ∧ Below w.heap.size w w' := by
  have HX : Hid (SliceIs w v xs) := hx
  obtain ⟨aa, ca, rfl, _⟩ := id hx
  have HE : Hid (sumV xs = _) := sumV_ok he
  have hn : ((xs.length : Int) == 64) = false := by simp; omega
  have HB : Hid (¬ (1 ≤ burst ∧ burst ≤ 255)) := hB
  clear hB
  clear hx he h64
  go_enter Try.func4, Try.ntmps4
  go_wp2_with fail
  refine (cfact_any w).mono ?_
  rintro e w1 ⟨rfl, hb1⟩
  have HB1 : Hid (Below w.heap.size w w1) := hb1
  clear hb1
  go_wp2_with fail
  refine (sum_any w1 _ xs (HX.out.later HB1.out)).mono ?_
  rintro e w2 ⟨rfl, rfl⟩
  rw [HE.out]
  go_wp2_with fail
  refine (in_no burst 1 255 _ HB.out).mono ?_
  rintro e w2 ⟨rfl, rfl⟩
  go_wp2
  go_ret
  exact ⟨rfl, HB1.out⟩

set_option maxHeartbeats 4000000 in
theorem burst_s (w : World) (v : Value) (xs : List Int) (at' burst shift : Int) (hx : SliceIs w v xs) (he : bytE xs = 0) (h64 : xs.length ≠ 64) (hB : 1 ≤ burst ∧ burst ≤ 255) (hS : ¬ (0 ≤ shift ∧ shift ≤ 7)) :
    Calls Try.prog 4 #[v, .int .i64 at', .int .i64 burst, .int .i64 shift] w fun e w' => e = .returned (.bool true) ∧ Below w.heap.size w w' := by
  have HX : Hid (SliceIs w v xs) := hx
  obtain ⟨aa, ca, rfl, _⟩ := id hx
  have HE : Hid (sumV xs = _) := sumV_ok he
  have hn : ((xs.length : Int) == 64) = false := by simp; omega
  have HB : Hid (1 ≤ burst ∧ burst ≤ 255) := hB
  clear hB
  have HS : Hid (¬ (0 ≤ shift ∧ shift ≤ 7)) := hS
  clear hS
  clear hx he h64
  go_enter Try.func4, Try.ntmps4
  go_wp2_with fail
  refine (cfact_any w).mono ?_
  rintro e w1 ⟨rfl, hb1⟩
  have HB1 : Hid (Below w.heap.size w w1) := hb1
  clear hb1
  go_wp2_with fail
  refine (sum_any w1 _ xs (HX.out.later HB1.out)).mono ?_
  rintro e w2 ⟨rfl, rfl⟩
  rw [HE.out]
  go_wp2_with fail
  refine (in_yes burst 1 255 _ HB.out).mono ?_
  rintro e w2 ⟨rfl, rfl⟩
  go_wp2_with fail
  refine (in_no shift 0 7 _ HS.out).mono ?_
  rintro e w2 ⟨rfl, rfl⟩
  go_wp2
  go_ret
  exact ⟨rfl, HB1.out⟩

set_option maxHeartbeats 4000000 in
theorem burst_a (w : World) (v : Value) (xs : List Int) (at' burst shift : Int) (hx : SliceIs w v xs) (he : bytE xs = 0) (h64 : xs.length ≠ 64) (hB : 1 ≤ burst ∧ burst ≤ 255) (hS : 0 ≤ shift ∧ shift ≤ 7) (hA : ¬ (0 ≤ at' ∧ at' ≤ (xs.length : Int))) :
    Calls Try.prog 4 #[v, .int .i64 at', .int .i64 burst, .int .i64 shift] w fun e w' => e = .returned (.bool true) ∧ Below w.heap.size w w' := by
  have HX : Hid (SliceIs w v xs) := hx
  obtain ⟨aa, ca, rfl, _⟩ := id hx
  have HE : Hid (sumV xs = _) := sumV_ok he
  have hn : ((xs.length : Int) == 64) = false := by simp; omega
  have HB : Hid (1 ≤ burst ∧ burst ≤ 255) := hB
  clear hB
  have HS : Hid (0 ≤ shift ∧ shift ≤ 7) := hS
  clear hS
  have HA : Hid (¬ (0 ≤ at' ∧ at' ≤ (xs.length : Int))) := hA
  clear hA
  clear hx he h64
  go_enter Try.func4, Try.ntmps4
  go_wp2_with fail
  refine (cfact_any w).mono ?_
  rintro e w1 ⟨rfl, hb1⟩
  have HB1 : Hid (Below w.heap.size w w1) := hb1
  clear hb1
  go_wp2_with fail
  refine (sum_any w1 _ xs (HX.out.later HB1.out)).mono ?_
  rintro e w2 ⟨rfl, rfl⟩
  rw [HE.out]
  go_wp2_with fail
  refine (in_yes burst 1 255 _ HB.out).mono ?_
  rintro e w2 ⟨rfl, rfl⟩
  go_wp2_with fail
  refine (in_yes shift 0 7 _ HS.out).mono ?_
  rintro e w2 ⟨rfl, rfl⟩
  go_wp2_with fail
  refine (in_no at' 0 (xs.length : Int) _ HA.out).mono ?_
  rintro e w2 ⟨rfl, rfl⟩
  go_wp2
  go_ret
  exact ⟨rfl, HB1.out⟩

set_option maxHeartbeats 8000000 in
theorem burst_good (w : World) (v : Value) (xs : List Int) (k b s : Nat) (hx : SliceIs w v xs) (he : bytE xs = 0) (h64 : xs.length ≠ 64) (hk : k ≤ xs.length) (hb1 : 1 ≤ b) (hb : b < 256) (hs : s < 8) :
    Calls Try.prog 4 #[v, .int .i64 (k : Int), .int .i64 (b : Int), .int .i64 (s : Int)] w fun e w' => e = .returned (.bool true) ∧ Below w.heap.size w w' := by
  obtain ⟨hle, hby⟩ := bytE_zero he
  have HX : Hid (SliceIs w v xs) := hx
  have HBY : Hid (∀ i, i < xs.length → isByte (nth xs i)) := hby
  obtain ⟨aa, ca, hv, _⟩ := id hx
  have HE : Hid (sumV xs = _) := sumV_ok he
  obtain ⟨n, hn⟩ : ∃ n, n = xs.length := ⟨_, rfl⟩
  have HN : Hid (n = xs.length) := hn
  rw [← hn] at hv h64 hk hle
  have h63 : n ≤ 63 := by omega
  have hn64 : ((n : Int) == 64) = false := by simp; omega
  subst hv
  clear hx he hby h64 hle hn
  have HB : Hid (1 ≤ (b : Int) ∧ (b : Int) ≤ 255) := ⟨by omega, by omega⟩
  have HS : Hid (0 ≤ (s : Int) ∧ (s : Int) ≤ 7) := ⟨by omega, by omega⟩
  have HA : Hid (0 ≤ (k : Int) ∧ (k : Int) ≤ (n : Int)) := ⟨by omega, by omega⟩
  have hcl := crcL_lt xs
  go_enter Try.func4, Try.ntmps4
  go_wp2_with fail
  refine (cfact_any w).mono ?_
  rintro e w1 ⟨rfl, hb1⟩
  have HB1 : Hid (Below w.heap.size w w1) := hb1
  clear hb1
  go_wp2_with fail
  refine (sum_any w1 _ xs (HX.out.later HB1.out)).mono ?_
  rintro e w2 ⟨rfl, rfl⟩
  rw [HE.out]
  go_wp2_with fail
  refine (in_yes (b : Int) 1 255 _ HB.out).mono ?_
  rintro e w2 ⟨rfl, rfl⟩
  go_wp2_with fail
  refine (in_yes (s : Int) 0 7 _ HS.out).mono ?_
  rintro e w2 ⟨rfl, rfl⟩
  go_wp2_with fail
  refine (in_yes (k : Int) 0 (n : Int) _ HA.out).mono ?_
  rintro e w2 ⟨rfl, rfl⟩
  have HX1 : Hid (SliceIs w1 (.slice aa n ca) xs) := HX.out.later HB1.out
  go_wp2_with (at_builtin; refine wpList_append_ints rfl (.tmp 48) (.tmp 49) rfl w1.heap.size (.slice none 0 0) 0 [] rfl (World.ownsRow_nil _ _ _ _) (.slice aa n ca) xs rfl HX1.out ?q1 ?q2 ?q3)
  case q1 => rw [← HN.out]; omega
  case q2 => exact Nat.le_refl _
  case q3 =>
  intro v2 w2 hown2 hb2
  rw [← HN.out] at hown2
  have HO2 : Hid (w2.ownsRow w1.heap.size 3 1 v2 n (cellsOf xs)) := hown2
  have HB2 : Hid (Below w1.heap.size w1 w2) := hb2
  have HL2 : Hid (SliceIs (w2.alloc (.cells #[.int .i64 (crcL xs : Int)] 3)) (.slice (some ⟨w2.heap.size, 0, none⟩) 1 1) [(crcL xs : Int)]) := ints_lit w2 [(crcL xs : Int)] (by simp [maxLen]) 1
  clear hown2 hb2
  go_wp2_with (at_builtin; refine wpList_append_ints rfl (.tmp 51) (.tmp 53) rfl w1.heap.size v2 n xs rfl (HO2.out.alloc _) (.slice (some ⟨w2.heap.size, 0, none⟩) 1 1) [(crcL xs : Int)] rfl HL2.out ?q1 ?q2 ?q3)
  case q1 => simp; omega
  case q2 => exact Nat.le_trans HB2.out.size (by simp)
  case q3 =>
  intro v3 w3 hown3 hb3
  have HB3 : Hid (Below w1.heap.size w1 w3) := (HB2.out.alloc HB2.out.size _).trans hb3
  obtain ⟨g, cap, hv3, hg1, hg2⟩ := own_where hown3 (by simp)
  have HO3 : Hid (w3.ownsRow w1.heap.size 3 1 v3 (n + 1) (cellsOf (withSum xs))) := hown3
  have HG : Hid (g < w3.heap.size ∧ w1.heap.size ≤ g) := ⟨hg2, hg1⟩
  have hv3' : v3 = .slice (some ⟨g, 0, none⟩) (n + 1) cap := hv3
  subst hv3'
  clear hv3 hown3 hb3 hg1 hg2
  have hp1 : 0 < 2 ^ s := Nat.pow_pos (by decide)
  have hp2 : 2 ^ s ≤ 2 ^ 7 := Nat.pow_le_pow_right (by decide) (by omega)
  have hq1 : 0 < 2 ^ (8 - s) := Nat.pow_pos (by decide)
  have hq2 : 2 ^ (8 - s) ≤ 2 ^ 8 := Nat.pow_le_pow_right (by decide) (by omega)
  have HT2 : Hid (k + 1 < (withSum xs).length → crcL (turnL (turnL (withSum xs) k (b / 2 ^ s)) (k + 1) (b * 2 ^ (8 - s) % 256)) ≠ 0) := fun h => turned_two (withSum_crc xs) h hs hb hb1
  have HP : Hid (Calls Try.prog 9 #[.int .i64 (s : Int)] w3 fun e W' => e = .returned (.int .i64 ((2 ^ s : Nat) : Int)) ∧ w3 = W') := power_any s w3 (by omega)
  have HQ : Hid (Calls Try.prog 9 #[.int .i64 (8 - (s : Int))] w3 fun e W' => e = .returned (.int .i64 ((2 ^ (8 - s) : Nat) : Int)) ∧ w3 = W') := by
    have h := power_any (8 - s) w3 (by omega)
    rw [show ((8 - s : Nat) : Int) = 8 - (s : Int) by omega] at h
    exact h
  generalize 2 ^ s = p at hp1 hp2 HT2 HP
  generalize 2 ^ (8 - s) = q at hq1 hq2 HT2 HQ
  have HDL : Hid (b / p < 256) := Nat.lt_of_le_of_lt (Nat.div_le_self _ _) hb
  have HRL : Hid (b * q % 256 < 256) := Nat.mod_lt _ (by decide)
  have HD : Hid (wrap64 ((b : Int) / (p : Int)) = ((b / p : Nat) : Int)) := down_eq hb
  have HR : Hid ((wrap64 ((b : Int) * (q : Int))).tmod 256 = ((b * q % 256 : Nat) : Int)) := rest_eq hb hq2
  go_wp2_with fail
  refine HP.out.mono ?_
  rintro e w4 ⟨rfl, rfl⟩
  go_wp2_with fail
  refine HQ.out.mono ?_
  rintro e w4 ⟨rfl, rfl⟩
  go_wp2_with fail
  refine (in_yes (crcL xs : Int) 0 255 _ ⟨by omega, by omega⟩).mono ?_
  rintro e w4 ⟨rfl, rfl⟩
  rw [HD.out, HR.out]
  clear HP HQ HD HR hp1 hp2 hq1 hq2
  have HYL : Hid ((withSum xs).length = n + 1) := by show (withSum xs).length = n + 1; rw [withSum_len, HN.out]
  have HYB : Hid (∀ i, i < (withSum xs).length → isByte (nth (withSum xs) i)) := withSum_byte HBY.out
  have HYC : Hid (crcL (withSum xs) = 0) := withSum_crc xs
  have HYF : Hid (∀ i, fnL (withSum xs) i < 256) := fnL_byte HYB.out
  generalize withSum xs = ys at HYL HYB HYC HYF HT2 HO3
  generalize b * q % 256 = R at HRL HT2 ⊢
  generalize b / p = D at HDL HT2 ⊢
  have hdl := HDL.out
  have hrl := HRL.out
  have hc1 : w3.cell? ⟨g, k, none⟩ = some (.int .i64 (fnL ys k : Int)) := by
    rw [HO3.out.cellAt k (by omega), cellsOf_get (by rw [HYL.out]; omega), fnL_int HYB.out (by rw [HYL.out]; omega)]
  have hf1 : w3.frozen? ⟨g, k, none⟩ = false := HO3.out.frozenAt k
  have hki : (k : Int) < (n : Int) + 1 := by omega
  have hyk := HYF.out k
  have HO4 : Hid ((w3.setCell ⟨g, k, none⟩ (.int .i64 ((fnL ys k ^^^ D : Nat) : Int))).ownsRow w1.heap.size 3 1 (.slice (some ⟨g, 0, none⟩) (n + 1) cap) (n + 1) (cellsOf (turnL ys k D))) := by
    have := HO3.out.stored k (.int .i64 ((fnL ys k ^^^ D : Nat) : Int))
    rw [cellsOf_set] at this
    exact this.1
  have HB4 : Hid (Below w1.heap.size w1 (w3.setCell ⟨g, k, none⟩ (.int .i64 ((fnL ys k ^^^ D : Nat) : Int)))) := HB3.out.setCell HG.out.2 _
  have HG4 : Hid (g < (w3.setCell ⟨g, k, none⟩ (.int .i64 ((fnL ys k ^^^ D : Nat) : Int))).heap.size) := by
    have := HG.out.1
    show g < (w3.setCell ⟨g, k, none⟩ (.int .i64 ((fnL ys k ^^^ D : Nat) : Int))).heap.size
    simpa [World.setCell] using this
  have HTB : Hid (∀ i, i < (turnL ys k D).length → isByte (nth (turnL ys k D) i)) := turnL_byte hdl HYB.out
  by_cases hlt : k < n
  · have hlt' : (k : Int) < (n : Int) := by omega
    have hlt2 : (k : Int) + 1 < (n : Int) + 1 := by omega
    have HGO := HT2.out (by rw [HYL.out]; omega)
    have HGO' : Hid (crcL (turnL (turnL ys k D) (k + 1) R) ≠ 0) := HGO
    clear HGO HT2
    have HKE : Hid (fnL (turnL ys k D) (k + 1) = fnL ys (k + 1)) := by show fnL (turnL ys k D) (k + 1) = fnL ys (k + 1); rw [turnL_fn (by rw [HYL.out]; omega), if_neg (by omega)]
    have hyk2 := HYF.out (k + 1)
    go_wp2_with fail
    refine (rxor_any (fnL ys k) D _ (by omega) (by omega)).mono ?_
    rintro e w4 ⟨rfl, rfl⟩
    have hc2 : (w3.setCell ⟨g, k, none⟩ (.int .i64 ((fnL ys k ^^^ D : Nat) : Int))).cell? ⟨g, k + 1, none⟩ = some (.int .i64 (fnL ys (k + 1) : Int)) := by
      rw [HO4.out.cellAt (k + 1) (by omega), cellsOf_get (by rw [turnL_len, HYL.out]; omega), fnL_int HTB.out (by rw [turnL_len, HYL.out]; omega), HKE.out]
    have hf2 : (w3.setCell ⟨g, k, none⟩ (.int .i64 ((fnL ys k ^^^ D : Nat) : Int))).frozen? ⟨g, k + 1, none⟩ = false := HO4.out.frozenAt (k + 1)
    have HO5 : Hid (((w3.setCell ⟨g, k, none⟩ (.int .i64 ((fnL ys k ^^^ D : Nat) : Int))).setCell ⟨g, k + 1, none⟩ (.int .i64 ((fnL ys (k + 1) ^^^ R : Nat) : Int))).ownsRow w1.heap.size 3 1 (.slice (some ⟨g, 0, none⟩) (n + 1) cap) (n + 1) (cellsOf (turnL (turnL ys k D) (k + 1) R))) := by
      have := HO4.out.stored (k + 1) (.int .i64 ((fnL ys (k + 1) ^^^ R : Nat) : Int))
      rw [cellsOf_set, ← HKE.out] at this
      rw [← HKE.out]
      exact this.1
    have HB5 : Hid (Below w1.heap.size w1 ((w3.setCell ⟨g, k, none⟩ (.int .i64 ((fnL ys k ^^^ D : Nat) : Int))).setCell ⟨g, k + 1, none⟩ (.int .i64 ((fnL ys (k + 1) ^^^ R : Nat) : Int)))) := HB4.out.setCell HG.out.2 _
    have HG5 : Hid (g < ((w3.setCell ⟨g, k, none⟩ (.int .i64 ((fnL ys k ^^^ D : Nat) : Int))).setCell ⟨g, k + 1, none⟩ (.int .i64 ((fnL ys (k + 1) ^^^ R : Nat) : Int))).heap.size) := by
      have := HG4.out
      show g < ((w3.setCell ⟨g, k, none⟩ (.int .i64 ((fnL ys k ^^^ D : Nat) : Int))).setCell ⟨g, k + 1, none⟩ (.int .i64 ((fnL ys (k + 1) ^^^ R : Nat) : Int))).heap.size
      simpa [World.setCell] using this
    have HGE : Hid (goodE (turnL (turnL ys k D) (k + 1) R) = 0) := goodE_ok (by rw [turnL_len, turnL_len, HYL.out]; omega) (by rw [turnL_len, turnL_len, HYL.out]; omega) (turnL_byte hrl HTB.out)
    have HSL : Hid (SliceIs _ (.slice (some ⟨g, 0, none⟩) (n + 1) cap) (turnL (turnL ys k D) (k + 1) R)) := slice_owned HO5.out (by unfold maxLen; omega) HG5.out
    have HNO : Hid _ := good_no HGE.out HGO'.out
    have HBW := Below.next HB1.out HB5.out
    have HBW' : Hid (Below w.heap.size w ((w3.setCell ⟨g, k, none⟩ (.int .i64 ((fnL ys k ^^^ D : Nat) : Int))).setCell ⟨g, k + 1, none⟩ (.int .i64 ((fnL ys (k + 1) ^^^ R : Nat) : Int)))) := HBW
    clear HBW
    go_wp2_with fail
    refine (rxor_any (fnL ys (k + 1)) R _ (by omega) (by omega)).mono ?_
    rintro e w4 ⟨rfl, rfl⟩
    go_wp2_with fail
    refine (good_any _ _ (turnL (turnL ys k D) (k + 1) R) HSL.out).mono ?_
    rintro e w4 ⟨rfl, rfl⟩
    rw [HNO.out]
    go_wp2
    go_ret
    exact ⟨rfl, HBW'.out⟩
  · have hkn : k = n := by omega
    have hlt2 : ¬ (k : Int) + 1 < (n : Int) + 1 := by omega
    by_cases hD0 : D = 0
    · have hd0 : ((D : Int) == 0) = true := by simp; omega
      have HBW' : Hid (Below w.heap.size w (w3.setCell ⟨g, k, none⟩ (.int .i64 ((fnL ys k ^^^ D : Nat) : Int)))) := Below.next HB1.out HB4.out
      clear hkn hD0
      go_wp2_with fail
      refine (rxor_any (fnL ys k) D _ (by omega) (by omega)).mono ?_
      rintro e w4 ⟨rfl, rfl⟩
      go_wp2
      go_ret
      exact ⟨rfl, HBW'.out⟩
    · have hd0 : ((D : Int) == 0) = false := by simp; omega
      have HGE : Hid (goodE (turnL ys k D) = 0) := goodE_ok (by rw [turnL_len, HYL.out]; omega) (by rw [turnL_len, HYL.out]; omega) HTB.out
      have HSL : Hid (SliceIs _ (.slice (some ⟨g, 0, none⟩) (n + 1) cap) (turnL ys k D)) := slice_owned HO4.out (by unfold maxLen; omega) HG4.out
      have HNO : Hid _ := good_no HGE.out (turned_one HYC.out HYB.out (by rw [HYL.out]; omega) hdl hD0)
      have HBW' : Hid (Below w.heap.size w (w3.setCell ⟨g, k, none⟩ (.int .i64 ((fnL ys k ^^^ D : Nat) : Int)))) := Below.next HB1.out HB4.out
      clear hkn hD0
      go_wp2_with fail
      refine (rxor_any (fnL ys k) D _ (by omega) (by omega)).mono ?_
      rintro e w4 ⟨rfl, rfl⟩
      go_wp2_with fail
      refine (good_any _ _ (turnL ys k D) HSL.out).mono ?_
      rintro e w4 ⟨rfl, rfl⟩
      rw [HNO.out]
      go_wp2
      go_ret
      exact ⟨rfl, HBW'.out⟩

theorem crcBurst_any (w : World) (v : Value) (xs : List Int) (at' burst shift : Int) (hx : SliceIs w v xs) :
    Calls Try.prog 4 #[v, .int .i64 at', .int .i64 burst, .int .i64 shift] w fun e w' => e = .returned (.bool true) ∧ Below w.heap.size w w' := by
  by_cases he : bytE xs = 0
  · by_cases h64 : xs.length = 64
    · exact burst_full w v xs at' burst shift hx he h64
    · by_cases hB : 1 ≤ burst ∧ burst ≤ 255
      · by_cases hS : 0 ≤ shift ∧ shift ≤ 7
        · by_cases hA : 0 ≤ at' ∧ at' ≤ (xs.length : Int)
          · obtain ⟨k, rfl⟩ : ∃ k : Nat, at' = k := ⟨at'.toNat, by omega⟩
            obtain ⟨b, rfl⟩ : ∃ b : Nat, burst = b := ⟨burst.toNat, by omega⟩
            obtain ⟨s, rfl⟩ : ∃ s : Nat, shift = s := ⟨shift.toNat, by omega⟩
            exact burst_good w v xs k b s hx he h64 (by omega) (by omega) (by omega) (by omega)
          · exact burst_a w v xs at' burst shift hx he h64 hB hS hA
        · exact burst_s w v xs at' burst shift hx he h64 hB hS
      · exact burst_b w v xs at' burst shift hx he h64 hB
  · exact burst_err w v xs at' burst shift hx he

end Go.Proofs.Ytgnldgonedpehaa
