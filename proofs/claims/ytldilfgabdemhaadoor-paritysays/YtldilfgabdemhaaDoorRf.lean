/- This text proves what the document's own functions in, All, Bytes and Rows (package platterholdref1) answer: whether all numbers lie between two, what is wrong with a list of bytes, what is wrong with rows; nothing is written; the only condition is that the slices lie there. -/
import Derived.Test.YtldilfgabdemhaaDoorLi
import Derived.Test.YtldilfgabdemhaaDoorMa
namespace Go.Proofs.YtldilfgabdemhaaDoor
open Go.RowKit Go.Deep

set_option maxHeartbeats 1000000 in
theorem rin_any (x lo hi : Int) (w : World) :
    Calls Tryd.prog 21 #[.int .i64 x, .int .i64 lo, .int .i64 hi] w fun e w' => e = .returned (.bool (decide (lo ≤ x ∧ x ≤ hi))) ∧ w = w' := by
  by_cases h1 : lo ≤ x
  · by_cases h2 : x ≤ hi
    · have e : decide (lo ≤ x ∧ x ≤ hi) = true := by simp [h1, h2]
      rw [e]
      go_enter Tryd.func21, Tryd.ntmps21
      go_wp2
      go_ret
      exact ⟨rfl, rfl⟩
    · have e : decide (lo ≤ x ∧ x ≤ hi) = false := by simp [h2]
      rw [e]
      go_enter Tryd.func21, Tryd.ntmps21
      go_wp2
      go_ret
      exact ⟨rfl, rfl⟩
  · have e : decide (lo ≤ x ∧ x ≤ hi) = false := by simp [h1]
    rw [e]
    go_enter Tryd.func21, Tryd.ntmps21
    go_wp2
    go_ret
    exact ⟨rfl, rfl⟩

/-- All numbers of a list lie between two. -/
def allB (lo hi : Int) (xs : List Int) : Bool := xs.all fun x => decide (lo ≤ x ∧ x ≤ hi)

theorem allB_no {lo hi : Int} {xs : List Int} {k : Nat} (hk : k < xs.length) (h : ¬ (lo ≤ nth xs k ∧ nth xs k ≤ hi)) : allB lo hi xs = false := by
  unfold allB
  rw [List.all_eq_false]
  exact ⟨_, nth_mem hk, by simpa using h⟩

theorem allB_yes {lo hi : Int} {xs : List Int} (h : ∀ k, k < xs.length → lo ≤ nth xs k ∧ nth xs k ≤ hi) : allB lo hi xs = true := by
  unfold allB
  rw [List.all_eq_true]
  intro x hx
  obtain ⟨i, hi, rfl⟩ := List.getElem_of_mem hx
  rw [decide_eq_true_iff, ← nth_lt hi]
  exact h i hi

set_option maxHeartbeats 1000000 in
theorem all_any (w : World) (v : Value) (xs : List Int) (lo hi : Int) (hx : SliceIs w v xs) :
    Calls Tryd.prog 19 #[v, .int .i64 lo, .int .i64 hi] w fun e w' => e = .returned (.bool (allB lo hi xs)) ∧ w = w' := by
  obtain ⟨a, c, b, o, rfl, hl, ha, _, hc⟩ := hx.parts
  obtain ⟨n, hxn⟩ : ∃ n, n = xs.length := ⟨_, rfl⟩
  have HX : Hid (n = xs.length) := hxn
  rw [← hxn] at hl ha hc ⊢
  have HC : Hid (∀ i, i < n → w.cell? ⟨b, o + i, none⟩ = some (.int .i64 (nth xs i))) := hc
  unfold maxLen at hl
  clear hc hxn
  go_enter Tryd.func19, Tryd.ntmps19
  go_wp2
  go_loop [7] (fun i => ∃ k : Nat, k ≤ n ∧ i = .int .i64 k ∧ ∀ j, j < k → lo ≤ nth xs j ∧ nth xs j ≤ hi) (fun i => n - (intOf i).toNat)
  case atStart => exact ⟨0, Nat.zero_le _, rfl, fun j hj => absurd hj (Nat.not_lt_zero _)⟩
  case round =>
    obtain ⟨k, hk, rfl, hall⟩ := hrel
    have HA : Hid (∀ j, j < k → lo ≤ nth xs j ∧ nth xs j ≤ hi) := hall
    clear hall
    by_cases hlt : k < n
    · have hck := HC.out k hlt
      have haa := ha (by omega)
      subst haa
      by_cases hb : lo ≤ nth xs k ∧ nth xs k ≤ hi
      · have HB : Hid (lo ≤ nth xs k ∧ nth xs k ≤ hi) := hb
        have HD : Hid (decide (lo ≤ nth xs k ∧ nth xs k ≤ hi) = true) := decide_eq_true hb
        clear hb
        go_wp2_with (go_at_call 21; refine (rin_any _ _ _ _).mono ?_; rintro e w' ⟨rfl, rfl⟩; rw [HD.out])
        go_round
        case rel =>
          refine ⟨k + 1, by omega, by go_num, fun j hj => ?_⟩
          by_cases e : j = k
          · subst e; exact HB.out
          · exact HA.out j (by omega)
        case measure => simp [intOf]; omega
      · have HD : Hid (decide (lo ≤ nth xs k ∧ nth xs k ≤ hi) = false) := decide_eq_false hb
        have HF : Hid (allB lo hi xs = false) := allB_no (by rw [← HX.out]; exact hlt) hb
        clear hb
        go_wp2_with (go_at_call 21; refine (rin_any _ _ _ _).mono ?_; rintro e w' ⟨rfl, rfl⟩; rw [HD.out])
        go_ret
        exact ⟨by rw [HF.out]; rfl, rfl⟩
    · have hkn : k = n := by omega
      subst hkn
      have HF : Hid (allB lo hi xs = true) := allB_yes (by rw [← HX.out]; exact HA.out)
      go_wp2
      go_ret
      exact ⟨by rw [HF.out]; rfl, rfl⟩

/-- What is wrong with a list of bytes. -/
def bytesE (most : Int) (xs : List Int) : Nat := if most < (xs.length : Int) then 4 else if allB 0 255 xs then 0 else 1

theorem allB_byte (xs : List Int) : allB 0 255 xs = xs.all byteB := by
  unfold allB
  congr 1
  funext x
  simp [byteB]

theorem rowE_bytes (width : Nat) (xs : List Int) : rowE width xs = if bytesE 16 xs = 0 then (if xs.length = width then 0 else 3) else bytesE 16 xs := by
  unfold rowE bytesE
  rw [allB_byte]
  by_cases h1 : 16 < xs.length
  · have h2 : (16 : Int) < (xs.length : Int) := by omega
    simp [h1, h2]
  · have h2 : ¬ (16 : Int) < (xs.length : Int) := by omega
    simp only [h1, h2, if_false]
    cases xs.all byteB <;> simp

set_option maxHeartbeats 1000000 in
theorem bytes_any (w : World) (v : Value) (xs : List Int) (most : Int) (hx : SliceIs w v xs) :
    Calls Tryd.prog 11 #[v, .int .i64 most] w fun e w' => e = .returned (.int .i64 (bytesE most xs : Int)) ∧ w = w' := by
  obtain ⟨a, c, rfl, hl, hi⟩ := id hx
  clear hi hl
  by_cases h : most < (xs.length : Int)
  · have HE : Hid (bytesE most xs = 4) := by show bytesE most xs = 4; simp [bytesE, h]
    go_enter Tryd.func11, Tryd.ntmps11
    go_wp2
    go_ret
    exact ⟨by rw [HE.out]; rfl, rfl⟩
  · cases hb : allB 0 255 xs with
    | true =>
      have HE : Hid (bytesE most xs = 0) := by show bytesE most xs = 0; simp [bytesE, h, hb]
      have HB : Hid (allB 0 255 xs = true) := hb
      clear hb
      go_enter Tryd.func11, Tryd.ntmps11
      go_wp2_with (go_at_call 19; refine (all_any _ _ _ _ _ hx).mono ?_; rintro e w' ⟨rfl, rfl⟩; rw [HB.out])
      go_ret
      exact ⟨by rw [HE.out]; rfl, rfl⟩
    | false =>
      have HE : Hid (bytesE most xs = 1) := by show bytesE most xs = 1; simp [bytesE, h, hb]
      have HB : Hid (allB 0 255 xs = false) := hb
      clear hb
      go_enter Tryd.func11, Tryd.ntmps11
      go_wp2_with (go_at_call 19; refine (all_any _ _ _ _ _ hx).mono ?_; rintro e w' ⟨rfl, rfl⟩; rw [HB.out])
      go_ret
      exact ⟨by rw [HE.out]; rfl, rfl⟩

set_option maxHeartbeats 1000000 in
theorem rrows_none (w : World) (a : Option Addr) (cap : Nat) :
    Calls Tryd.prog 5 #[.slice a 0 cap] w fun e w' => e = .returned (.int .i64 5) ∧ w = w' := by
  go_enter Tryd.func5, Tryd.ntmps5
  go_wp2
  go_ret
  exact ⟨rfl, rfl⟩

set_option maxHeartbeats 1000000 in
theorem rrows_full (w : World) (a : Option Addr) (cap n : Nat) (h : 8 < n) :
    Calls Tryd.prog 5 #[.slice a n cap] w fun e w' => e = .returned (.int .i64 4) ∧ w = w' := by
  have h' : (8 : Int) < (n : Int) := by omega
  have h0 : ((n : Int) == 0) = false := by simp; omega
  go_enter Tryd.func5, Tryd.ntmps5
  go_wp2
  go_ret
  exact ⟨rfl, rfl⟩

set_option maxHeartbeats 2000000 in
theorem rrows_some (w : World) (b off cap : Nat) (rs : List (List Int)) (h0 : 0 < rs.length) (h8 : rs.length ≤ 8)
    (hc : ∀ i, i < rs.length → ∃ v, w.cell? ⟨b, off + i, none⟩ = some v ∧ SliceIs w v (rowAt rs i)) :
    Calls Tryd.prog 5 #[.slice (some ⟨b, off, none⟩) rs.length cap] w fun e w' => e = .returned (.int .i64 (firstE (rowAt rs 0).length rs : Int)) ∧ ∃ q, w' = w.drewN q := by
  obtain ⟨n, hxn⟩ : ∃ n, n = rs.length := ⟨_, rfl⟩
  have HX : Hid (n = rs.length) := hxn
  rw [← hxn] at h0 h8 hc ⊢
  clear hxn
  obtain ⟨v0, hc0, a0, cap0, hv0, hl0, _⟩ := hc 0 h0
  subst hv0
  obtain ⟨n0, hn0⟩ : ∃ n0, n0 = (rowAt rs 0).length := ⟨_, rfl⟩
  rw [← hn0] at hc0 hl0 ⊢
  clear hn0
  simp only [Nat.add_zero] at hc0
  have hne : ((n : Int) == 0) = false := by simp; omega
  have hle : ¬ (8 : Int) < (n : Int) := by omega
  have hpos : (0 : Int) < (n : Int) := by omega
  have HC : Hid (∀ i, i < n → ∃ v, w.cell? ⟨b, off + i, none⟩ = some v ∧ SliceIs w v (rowAt rs i)) := hc
  clear hc
  go_enter Tryd.func5, Tryd.ntmps5
  go_wp2
  go_loopw [3] (fun i wr => ∃ k : Nat, k ≤ n ∧ i = .int .i64 k ∧ (∀ j, j < k → rowE n0 (rowAt rs j) = 0) ∧ ∃ q, wr = w.drewN q) (fun i _ => n - (intOf i).toNat)
  case atStart => exact ⟨0, Nat.zero_le _, rfl, fun j hj => absurd hj (Nat.not_lt_zero _), 0, rfl⟩
  case round =>
    obtain ⟨k, hk, rfl, hall, q, rfl⟩ := hrel
    have HA : Hid (∀ j, j < k → rowE n0 (rowAt rs j) = 0) := hall
    clear hall
    by_cases hlt : k < n
    · obtain ⟨vk, hck, hsk⟩ := HC.out k hlt
      obtain ⟨ak, capk, hvk, hlk, hik⟩ := hsk
      subst hvk
      have hsk : SliceIs (w.drewN q) (.slice ak (rowAt rs k).length capk) (rowAt rs k) := ⟨ak, capk, rfl, hlk, hik⟩
      clear hik hlk
      have hR := rowE_bytes n0 (rowAt rs k)
      by_cases hb : bytesE 16 (rowAt rs k) = 0
      · rw [if_pos hb] at hR
        have HB : Hid ((bytesE 16 (rowAt rs k) : Int) = 0) := by show ((bytesE 16 (rowAt rs k) : Nat) : Int) = 0; rw [hb]; rfl
        by_cases hs : (rowAt rs k).length = n0
        · rw [if_pos hs] at hR
          have HR : Hid (rowE n0 (rowAt rs k) = 0) := hR
          have hs' : (((rowAt rs k).length : Int) == (n0 : Int)) = true := by rw [hs]; simp
          clear hb hR hs
          go_wp2_with (go_at_call 11; refine (bytes_any _ _ _ _ hsk).mono ?_; rintro e w' ⟨rfl, rfl⟩; rw [HB.out])
          go_quiet (fail)
          go_wp2
          go_roundw
          case rel =>
            refine ⟨k + 1, by omega, by go_num, fun j hj => ?_, q + nq, rfl⟩
            by_cases e : j = k
            · subst e; exact HR.out
            · exact HA.out j (by omega)
          case measure => simp [intOf]; omega
        · rw [if_neg hs] at hR
          have HF : Hid (firstE n0 rs = 3) := by
            show firstE n0 rs = 3
            rw [firstE_at HA.out (by rw [← HX.out]; exact hlt) (by rw [hR]; decide), hR]
          have hs' : (((rowAt rs k).length : Int) == (n0 : Int)) = false := by simp; omega
          clear hb hR hs
          go_wp2_with (go_at_call 11; refine (bytes_any _ _ _ _ hsk).mono ?_; rintro e w' ⟨rfl, rfl⟩; rw [HB.out])
          go_quiet (fail)
          go_wp2
          go_ret
          exact ⟨by rw [HF.out]; rfl, q + nq, by rw [World.drewN_drewN]⟩
      · rw [if_neg hb] at hR
        have HF : Hid (firstE n0 rs = bytesE 16 (rowAt rs k)) := by
          show firstE n0 rs = bytesE 16 (rowAt rs k)
          rw [firstE_at HA.out (by rw [← HX.out]; exact hlt) (by rw [hR]; exact hb), hR]
        have hb' : (((bytesE 16 (rowAt rs k) : Nat) : Int) == 0) = false := by simp; omega
        clear hR hb
        go_wp2_with (go_at_call 11; refine (bytes_any _ _ _ _ hsk).mono ?_; rintro e w' ⟨rfl, rfl⟩)
        go_ret
        exact ⟨by rw [HF.out]; rfl, q, rfl⟩
    · have hkn : k = n := by omega
      subst hkn
      have HF : Hid (firstE n0 rs = 0) := firstE_zero.2 (by rw [← HX.out]; exact HA.out)
      go_wp2
      go_ret
      exact ⟨by rw [HF.out]; rfl, q, rfl⟩

theorem rrows_any (w : World) (v : Value) (rs : List (List Int)) (h : RowsIs w v rs) :
    Calls Tryd.prog 5 #[v] w fun e w' => e = .returned (.int .i64 (checkE rs : Int)) ∧ ∃ q, w' = w.drewN q := by
  obtain ⟨a, cap, rfl, hl, hx⟩ := h
  by_cases h0 : rs.length = 0
  · have e : checkE rs = 5 := by simp [checkE, h0]
    rw [e, h0]
    refine (rrows_none w a cap).mono ?_
    rintro e w' ⟨rfl, rfl⟩
    exact ⟨rfl, 0, rfl⟩
  · by_cases h8 : 8 < rs.length
    · have e : checkE rs = 4 := by simp [checkE, h0, h8]
      rw [e]
      refine (rrows_full w a cap rs.length h8).mono ?_
      rintro e w' ⟨rfl, rfl⟩
      exact ⟨rfl, 0, rfl⟩
    · have e : checkE rs = firstE (rowAt rs 0).length rs := by simp [checkE, h0, h8]
      rw [e]
      obtain ⟨b, off, rfl, _, hc⟩ := hx (fun e => h0 (by rw [e]; rfl))
      exact rrows_some w b off cap rs (by omega) (by omega) hc

end Go.Proofs.YtldilfgabdemhaaDoor
