/- This text proves what galois.isByte, Mul, Div and At return, for all numbers and for all factors that lie in memory: the field's answers, or the errors of the document; the world is as it was. -/
import Derived.Test.YtebjefgdjfjndaaDoorTi
import Derived.Test.YtebjefgdjfjndaaDoorPol
import Derived.Test.YtebjefgdjfjndaaDoorWh
namespace Go.Proofs.YtebjefgdjfjndaaDoor
open Go.RowKit Go.Deep

theorem isByte_nat {x : Int} (h : isByte x) : ∃ n : Nat, x = n ∧ n < 256 := ⟨x.toNat, by have := h.1; omega, by have := h.1; have := h.2; omega⟩

set_option maxHeartbeats 1000000 in
theorem isb_any (x : Int) (w : World) :
    Calls Tryd.prog 42 #[.int .i64 x] w fun e w' => e = .returned (.bool (byteB x)) ∧ w = w' := by
  by_cases h1 : 0 ≤ x
  · by_cases h2 : x ≤ 255
    · have e : byteB x = true := by simp [byteB, h1, h2]
      rw [e]
      go_enter Tryd.func42, Tryd.ntmps42
      go_wp2
      go_ret
      exact ⟨rfl, rfl⟩
    · have e : byteB x = false := by simp [byteB, h2]
      rw [e]
      go_enter Tryd.func42, Tryd.ntmps42
      go_wp2
      go_ret
      exact ⟨rfl, rfl⟩
  · have e : byteB x = false := by simp [byteB, h1]
    rw [e]
    go_enter Tryd.func42, Tryd.ntmps42
    go_wp2
    go_ret
    exact ⟨rfl, rfl⟩

theorem isb_yes (n : Nat) (w : World) (h : n < 256) :
    Calls Tryd.prog 42 #[.int .i64 (n : Int)] w fun e w' => e = .returned (.bool true) ∧ w = w' := by
  have := isb_any n w
  rwa [(byteB_iff _).2 (isByte_of_nat h)] at this

theorem isb_no (x : Int) (w : World) (h : ¬ isByte x) :
    Calls Tryd.prog 42 #[.int .i64 x] w fun e w' => e = .returned (.bool false) ∧ w = w' := by
  have := isb_any x w
  rwa [show byteB x = false by cases e : byteB x with | true => exact absurd ((byteB_iff _).1 e) h | false => rfl] at this

set_option maxHeartbeats 1000000 in
theorem mul_no (x y : Int) (w : World) (h : ¬ (isByte x ∧ isByte y)) :
    Calls Tryd.prog 37 #[.int .i64 x, .int .i64 y] w fun e w' => e = .returned (.tuple #[.int .i64 0, .iface 44 (.int .i64 1)]) ∧ w = w' := by
  have HH : Hid (¬ (isByte x ∧ isByte y)) := h
  clear h
  by_cases hx : isByte x
  · obtain ⟨a, rfl, ha⟩ := isByte_nat hx
    clear hx
    go_enter Tryd.func37, Tryd.ntmps37
    go_wp2_with fail
    refine (isb_yes a _ ha).mono ?_
    rintro e w' ⟨rfl, rfl⟩
    go_wp2_with fail
    refine (isb_no y _ (fun k => HH.out ⟨isByte_of_nat ha, k⟩)).mono ?_
    rintro e w' ⟨rfl, rfl⟩
    go_wp2
    go_ret2
    exact ⟨rfl, rfl⟩
  · go_enter Tryd.func37, Tryd.ntmps37
    go_wp2_with fail
    refine (isb_no x _ hx).mono ?_
    rintro e w' ⟨rfl, rfl⟩
    go_wp2
    go_ret2
    exact ⟨rfl, rfl⟩

set_option maxHeartbeats 1000000 in
theorem mul_ok (a b : Nat) (w : World) (ha : a < 256) (hb : b < 256) :
    Calls Tryd.prog 37 #[.int .i64 (a : Int), .int .i64 (b : Int)] w fun e w' => e = .returned (.tuple #[.int .i64 (gm a b : Int), .nilIface]) ∧ w = w' := by
  go_enter Tryd.func37, Tryd.ntmps37
  go_wp2_with fail
  refine (isb_yes a _ ha).mono ?_
  rintro e w' ⟨rfl, rfl⟩
  go_wp2_with fail
  refine (isb_yes b _ hb).mono ?_
  rintro e w' ⟨rfl, rfl⟩
  go_wp2_with fail
  refine (times_any a b _ ha hb).mono ?_
  rintro e w' ⟨rfl, rfl⟩
  go_wp2
  go_ret2
  exact ⟨rfl, rfl⟩

set_option maxHeartbeats 1000000 in
theorem div_no (x y : Int) (w : World) (h : ¬ (isByte x ∧ isByte y)) :
    Calls Tryd.prog 36 #[.int .i64 x, .int .i64 y] w fun e w' => e = .returned (.tuple #[.int .i64 0, .iface 44 (.int .i64 1)]) ∧ w = w' := by
  have HH : Hid (¬ (isByte x ∧ isByte y)) := h
  clear h
  by_cases hx : isByte x
  · obtain ⟨a, rfl, ha⟩ := isByte_nat hx
    clear hx
    go_enter Tryd.func36, Tryd.ntmps36
    go_wp2_with fail
    refine (isb_yes a _ ha).mono ?_
    rintro e w' ⟨rfl, rfl⟩
    go_wp2_with fail
    refine (isb_no y _ (fun k => HH.out ⟨isByte_of_nat ha, k⟩)).mono ?_
    rintro e w' ⟨rfl, rfl⟩
    go_wp2
    go_ret2
    exact ⟨rfl, rfl⟩
  · go_enter Tryd.func36, Tryd.ntmps36
    go_wp2_with fail
    refine (isb_no x _ hx).mono ?_
    rintro e w' ⟨rfl, rfl⟩
    go_wp2
    go_ret2
    exact ⟨rfl, rfl⟩

set_option maxHeartbeats 1000000 in
theorem div_none (a : Nat) (w : World) (ha : a < 256) :
    Calls Tryd.prog 36 #[.int .i64 (a : Int), .int .i64 0] w fun e w' => e = .returned (.tuple #[.int .i64 0, .iface 44 (.int .i64 5)]) ∧ w = w' := by
  go_enter Tryd.func36, Tryd.ntmps36
  go_wp2_with fail
  refine (isb_yes a _ ha).mono ?_
  rintro e w' ⟨rfl, rfl⟩
  go_wp2_with fail
  refine (isb_yes 0 _ (by omega)).mono ?_
  rintro e w' ⟨rfl, rfl⟩
  go_wp2
  go_ret2
  exact ⟨rfl, rfl⟩

set_option maxHeartbeats 1000000 in
theorem div_ok (a b : Nat) (w : World) (ha : a < 256) (hb : b < 256) (h0 : b ≠ 0) :
    Calls Tryd.prog 36 #[.int .i64 (a : Int), .int .i64 (b : Int)] w fun e w' => e = .returned (.tuple #[.int .i64 (gm a (gpow b 254) : Int), .nilIface]) ∧ w = w' := by
  have hn : ¬ (b : Int) = 0 := by omega
  go_enter Tryd.func36, Tryd.ntmps36
  go_wp2_with fail
  refine (isb_yes a _ ha).mono ?_
  rintro e w' ⟨rfl, rfl⟩
  go_wp2_with fail
  refine (isb_yes b _ hb).mono ?_
  rintro e w' ⟨rfl, rfl⟩
  go_wp2_with fail
  refine (power_any b 254 _ hb (by omega)).mono ?_
  rintro e w' ⟨rfl, rfl⟩
  go_wp2_with fail
  refine (times_any a _ _ ha (gpow_byte hb)).mono ?_
  rintro e w' ⟨rfl, rfl⟩
  go_wp2
  go_ret2
  exact ⟨rfl, rfl⟩

/-- What At answers. -/
def atR (xs : List Int) (x : Int) : Value :=
  if 16 < xs.length then .tuple #[.int .i64 0, .iface 44 (.int .i64 4)]
  else if xs.all byteB && byteB x then .tuple #[.int .i64 (ev (xs.map Int.toNat) x.toNat : Int), .nilIface]
  else .tuple #[.int .i64 0, .iface 44 (.int .i64 1)]

theorem atR_full {xs : List Int} {x : Int} (h : 16 < xs.length) : atR xs x = .tuple #[.int .i64 0, .iface 44 (.int .i64 4)] := by simp [atR, h]
theorem atR_row {xs : List Int} {x : Int} (h : xs.length ≤ 16) {k : Nat} (hk : k < xs.length) (hb : ¬ isByte (nth xs k)) : atR xs x = .tuple #[.int .i64 0, .iface 44 (.int .i64 1)] := by
  have : xs.all byteB = false := by
    rw [List.all_eq_false]
    exact ⟨_, nth_mem hk, fun e => hb ((byteB_iff _).1 e)⟩
  simp [atR, Nat.not_lt.2 h, this]
theorem atR_x {xs : List Int} {x : Int} (h : xs.length ≤ 16) (hb : ¬ isByte x) : atR xs x = .tuple #[.int .i64 0, .iface 44 (.int .i64 1)] := by
  have : byteB x = false := by cases e : byteB x with | true => exact absurd ((byteB_iff _).1 e) hb | false => rfl
  simp [atR, Nat.not_lt.2 h, this]
theorem bytes_map {xs : List Int} (hb : ∀ i, i < xs.length → isByte (nth xs i)) : Bytes (xs.map Int.toNat) := by
  intro f hf
  obtain ⟨x, hx, rfl⟩ := List.mem_map.1 hf
  obtain ⟨i, hi, rfl⟩ := List.getElem_of_mem hx
  have h := hb i hi
  rw [nth_lt hi] at h
  have := h.1; have := h.2
  omega
theorem map_nth {xs : List Int} (hb : ∀ i, i < xs.length → isByte (nth xs i)) {k : Nat} (hk : k < xs.length) : nth xs k = ((xs.map Int.toNat).getD k 0 : Nat) := by
  have h := hb k hk
  rw [nth_lt hk] at h ⊢
  have := h.1
  simp [hk]
  omega
theorem atR_ok {xs : List Int} {x : Nat} (h : xs.length ≤ 16) (hb : ∀ i, i < xs.length → isByte (nth xs i)) (hx : x < 256) :
    atR xs x = .tuple #[.int .i64 (evN (xs.map Int.toNat) x xs.length : Int), .nilIface] := by
  have e := evN_all (x := x) (bytes_map hb) hx
  rw [List.length_map] at e
  rw [e]
  have : byteB (x : Int) = true := (byteB_iff _).2 (isByte_of_nat hx)
  simp [atR, Nat.not_lt.2 h, all_byte hb, this]

set_option maxHeartbeats 1000000 in
theorem at_full (w : World) (a : Option Addr) (cap n : Nat) (x : Int) (h : 16 < n) (_hl : n ≤ maxLen) :
    Calls Tryd.prog 35 #[.slice a n cap, .int .i64 x] w fun e w' => e = .returned (.tuple #[.int .i64 0, .iface 44 (.int .i64 4)]) ∧ w = w' := by
  have h' : (16 : Int) < (n : Int) := by omega
  go_enter Tryd.func35, Tryd.ntmps35
  go_wp2
  go_ret2
  exact ⟨rfl, rfl⟩

set_option maxHeartbeats 4000000 in
theorem at_any (w : World) (v : Value) (xs : List Int) (x : Int) (hx : SliceIs w v xs) :
    Calls Tryd.prog 35 #[v, .int .i64 x] w fun e w' => e = .returned (atR xs x) ∧ w = w' := by
  obtain ⟨a, c, b, o, rfl, hl, ha, hc⟩ := hx.where
  clear hx
  by_cases hf : 16 < xs.length
  · rw [atR_full hf]
    exact at_full w a c _ x hf hl
  obtain ⟨n, hxn⟩ : ∃ n, n = xs.length := ⟨_, rfl⟩
  have HX : Hid (n = xs.length) := hxn
  rw [← hxn] at hl ha hc hf ⊢
  have HC : Hid (∀ i, i < n → w.cell? ⟨b, o + i, none⟩ = some (.int .i64 (nth xs i))) := hc
  have hn : n ≤ 16 := by omega
  have hf' : ¬ (16 : Int) < (n : Int) := by omega
  clear hc hxn hl hf
  go_enter Tryd.func35, Tryd.ntmps35
  go_wp2
  go_loop [18] (fun i => ∃ k : Nat, k ≤ n ∧ i = .int .i64 k ∧ ∀ j, j < k → isByte (nth xs j)) (fun i => n - (intOf i).toNat)
  case atStart => exact ⟨0, Nat.zero_le _, rfl, fun j hj => absurd hj (Nat.not_lt_zero _)⟩
  case round =>
    obtain ⟨k, hk, rfl, hall⟩ := hrel
    have HA : Hid (∀ j, j < k → isByte (nth xs j)) := hall
    clear hall
    by_cases hlt : k < n
    · have hck := HC.out k hlt
      have haa := ha (by omega)
      subst haa
      by_cases hb : isByte (nth xs k)
      · have HB : Hid (isByte (nth xs k)) := hb
        have HD : Hid (byteB (nth xs k) = true) := (byteB_iff _).2 hb
        clear hb
        go_wp2_with fail
        refine (isb_any _ _).mono ?_
        rintro e w' ⟨rfl, rfl⟩
        rw [HD.out]
        go_wp2
        refine ⟨⟨k + 1, by omega, rfl, fun j hj => ?_⟩, ?_⟩
        · by_cases e : j = k
          · subst e; exact HB.out
          · exact HA.out j (by omega)
        · simp only [intOf]; omega
      · have HD : Hid (atR xs x = .tuple #[.int .i64 0, .iface 44 (.int .i64 1)]) := atR_row (by rw [← HX.out]; exact hn) (by rw [← HX.out]; exact hlt) hb
        go_wp2_with fail
        refine (isb_no _ _ hb).mono ?_
        rintro e w' ⟨rfl, rfl⟩
        go_wp2
        go_ret2
        exact ⟨by rw [HD.out]; rfl, rfl⟩
    · have hkn : k = n := by omega
      subst hkn
      have HAll : Hid (∀ i, i < xs.length → isByte (nth xs i)) := by show ∀ i, i < xs.length → isByte (nth xs i); rw [← HX.out]; exact HA.out
      by_cases hb : isByte x
      · obtain ⟨y, rfl, hy⟩ := isByte_nat hb
        have HD : Hid (atR xs y = .tuple #[.int .i64 (evN (xs.map Int.toNat) y k : Int), .nilIface]) := by
          show atR xs y = .tuple #[.int .i64 (evN (xs.map Int.toNat) y k : Int), .nilIface]
          rw [HX.out]; exact atR_ok (by rw [← HX.out]; exact hn) HAll.out hy
        clear hb
        go_wp2_with fail
        refine (isb_yes _ _ hy).mono ?_
        rintro e w' ⟨rfl, rfl⟩
        go_wp2
        go_loop [8, 9, 33] (fun s t i => ∃ m : Nat, m ≤ k ∧ i = .int .i64 m ∧ s = .int .i64 (evN (xs.map Int.toNat) y m : Int) ∧ t = .int .i64 (gpow y m : Int)) (fun _ _ i => k - (intOf i).toNat)
        case atStart => exact ⟨0, Nat.zero_le _, rfl, rfl, rfl⟩
        case round =>
          obtain ⟨m, hm, rfl, rfl, rfl⟩ := hrel
          by_cases hml : m < k
          · have hck := HC.out m hml
            have haa := ha (by omega)
            subst haa
            have hfb : (xs.map Int.toNat).getD m 0 < 256 := getD_byte (bytes_map HAll.out) m
            have hsb : evN (xs.map Int.toNat) y m < 256 := evN_byte (bytes_map HAll.out) hy m
            rw [map_nth HAll.out (by rw [← HX.out]; exact hml)] at hck
            have HS : Hid (evN (xs.map Int.toNat) y (m + 1) = evN (xs.map Int.toNat) y m ^^^ gm ((xs.map Int.toNat).getD m 0) (gpow y m)) := evN_succ _ _ _
            generalize (xs.map Int.toNat).getD m 0 = f at hck hfb HS
            go_wp2_with fail
            refine (times_any f _ _ hfb (gpow_byte hy)).mono ?_
            rintro e w' ⟨rfl, rfl⟩
            go_wp2_with fail
            refine (times_any _ y _ (gpow_byte hy) hy).mono ?_
            rintro e w' ⟨rfl, rfl⟩
            go_wp2
            rw [xor_nat (by omega) (Nat.lt_trans (gm_byte hfb (gpow_byte hy)) (by decide)), ← HS.out, ← gpow_succ]
            refine ⟨⟨m + 1, by omega, rfl, rfl, rfl⟩, ?_⟩
            simp only [intOf]
            omega
          · have hmk : m = k := by omega
            subst hmk
            go_wp2
            go_ret2
            exact ⟨by rw [HD.out]; rfl, rfl⟩
      · have HD : Hid (atR xs x = .tuple #[.int .i64 0, .iface 44 (.int .i64 1)]) := atR_x (by rw [← HX.out]; exact hn) hb
        go_wp2_with fail
        refine (isb_no _ _ hb).mono ?_
        rintro e w' ⟨rfl, rfl⟩
        go_wp2
        go_ret2
        exact ⟨by rw [HD.out]; rfl, rfl⟩

end Go.Proofs.YtebjefgdjfjndaaDoor
