/- This text proves what reed.times, over, at, checkMake and checkAgain answer: the field's answers for bytes, and the first error that the document names; the world is as it was. -/
import Derived.Test.YtebjefgdjfjndaaDoorGb
import Derived.Test.YtebjefgdjfjndaaDoorItp
import Derived.Test.YtebjefgdjfjndaaDoorAs
namespace Go.Proofs.YtebjefgdjfjndaaDoor
open Go.RowKit Go.Deep

/-- The first n numbers of a function, as a slice holds them. -/
def fl (n : Nat) (f : Nat → Nat) : List Int := (List.range n).map fun i => ((f i : Nat) : Int)

theorem fl_len (n : Nat) (f : Nat → Nat) : (fl n f).length = n := by simp [fl]
theorem fl_nth {n i : Nat} {f : Nat → Nat} (h : i < n) : nth (fl n f) i = (f i : Int) := by
  rw [nth_lt (by rw [fl_len]; exact h)]; simp [fl]
theorem fl_byte {n : Nat} {f : Nat → Nat} (hf : BytesF f) : ∀ i, i < (fl n f).length → isByte (nth (fl n f) i) := by
  intro i hi
  rw [fl_len] at hi
  rw [fl_nth hi]
  exact isByte_of_nat (hf i)
theorem fl_map (n : Nat) (f : Nat → Nat) : (fl n f).map Int.toNat = lst f n := by simp [fl, lst]
theorem fl_congr {n : Nat} {f g : Nat → Nat} (h : ∀ i, i < n → f i = g i) : fl n f = fl n g := by
  unfold fl
  exact List.map_congr_left fun i hi => by rw [h i (by simpa using hi)]
theorem fl_of {xs : List Int} (hb : ∀ i, i < xs.length → isByte (nth xs i)) : xs = fl xs.length (fun i => (nth xs i).toNat) := by
  refine List.ext_getElem (by rw [fl_len]) fun i h1 h2 => ?_
  rw [← nth_lt h1, ← nth_lt h2, fl_nth h1]
  have := (hb i h1).1
  omega
theorem toNat_byte {xs : List Int} (hb : ∀ i, i < xs.length → isByte (nth xs i)) : BytesF (fun i => (nth xs i).toNat) := by
  intro i
  by_cases h : i < xs.length
  · have := (hb i h).1; have := (hb i h).2; show (nth xs i).toNat < 256; omega
  · show (nth xs i).toNat < 256
    unfold nth; simp [List.getD, Nat.not_lt.1 h]

/-- A row of the call's own, as a slice. -/
theorem slice_row {w : World} {b n cap : Nat} {f : Nat → Nat} (h : w.rowIs b 3 n (fun i => .int .i64 (f i : Int))) (hm : n ≤ maxLen) : SliceIs w (.slice (some ⟨b, 0, none⟩) n cap) (fl n f) := by
  refine ⟨_, cap, by rw [fl_len], by rw [fl_len]; exact hm, fun _ => ⟨b, 0, rfl, h.lt, fun i hi => ?_⟩⟩
  rw [fl_len] at hi
  rw [Nat.zero_add, fl_nth hi]
  exact h.cell hi

theorem rtimes_any (a b : Nat) (w : World) (ha : a < 256) (hb : b < 256) :
    Calls Tryd.prog 32 #[.int .i64 (a : Int), .int .i64 (b : Int)] w fun e w' => e = .returned (.int .i64 (gm a b : Int)) ∧ w = w' := by
  go_enter Tryd.func32, Tryd.ntmps32
  go_wp2_with fail
  refine (mul_ok a b _ ha hb).mono ?_
  rintro e w' ⟨rfl, rfl⟩
  go_wp2
  go_ret
  exact ⟨rfl, rfl⟩

theorem over_any (a b : Nat) (w : World) (ha : a < 256) (hb : b < 256) (h0 : b ≠ 0) :
    Calls Tryd.prog 31 #[.int .i64 (a : Int), .int .i64 (b : Int)] w fun e w' => e = .returned (.int .i64 (gm a (gpow b 254) : Int)) ∧ w = w' := by
  go_enter Tryd.func31, Tryd.ntmps31
  go_wp2_with fail
  refine (div_ok a b _ ha hb h0).mono ?_
  rintro e w' ⟨rfl, rfl⟩
  go_wp2
  go_ret
  exact ⟨rfl, rfl⟩

theorem at_fl (w : World) (v : Value) (n x : Nat) (f : Nat → Nat) (hf : BytesF f) (hn : n ≤ 16) (hx : x < 256) (hs : SliceIs w v (fl n f)) :
    Calls Tryd.prog 30 #[v, .int .i64 (x : Int)] w fun e w' => e = .returned (.int .i64 (evF f x n : Int)) ∧ w = w' := by
  have HR : Hid (atR (fl n f) x = .tuple #[.int .i64 (evF f x n : Int), .nilIface]) := by
    show atR (fl n f) x = .tuple #[.int .i64 (evF f x n : Int), .nilIface]
    rw [atR_ok (by rw [fl_len]; exact hn) (fl_byte hf) hx, fl_map, fl_len, evN_evF, evF_congr fun i hi => lst_get hi]
  obtain ⟨a, c, hv, _⟩ := id hs
  rw [fl_len] at hv
  have H := at_any w v _ x hs
  subst hv
  rw [HR.out] at H
  clear hs hf
  go_enter Tryd.func30, Tryd.ntmps30
  go_wp2_with fail
  refine H.mono ?_
  rintro e w' ⟨rfl, rfl⟩
  go_wp2
  go_ret
  exact ⟨rfl, rfl⟩

/-- What is wrong with data and more. -/
def makeE (xs : List Int) (more : Int) : Nat := if xs.length = 0 then 5 else if 8 < xs.length then 4 else if xs.all byteB && decide (0 ≤ more ∧ more ≤ 4) then 0 else 1

set_option maxHeartbeats 1000000 in
theorem cm_none (w : World) (a : Option Addr) (cap : Nat) (more : Int) :
    Calls Tryd.prog 19 #[.slice a 0 cap, .int .i64 more] w fun e w' => e = .returned (errV 5) ∧ w = w' := by
  go_enter Tryd.func19, Tryd.ntmps19
  go_wp2
  go_ret
  exact ⟨rfl, rfl⟩

set_option maxHeartbeats 1000000 in
theorem cm_full (w : World) (a : Option Addr) (cap n : Nat) (more : Int) (h : 8 < n) (_hl : n ≤ maxLen) :
    Calls Tryd.prog 19 #[.slice a n cap, .int .i64 more] w fun e w' => e = .returned (errV 4) ∧ w = w' := by
  have h1 : ((n : Int) == 0) = false := by simp; omega
  have h2 : (8 : Int) < (n : Int) := by omega
  go_enter Tryd.func19, Tryd.ntmps19
  go_wp2
  go_ret
  exact ⟨rfl, rfl⟩

theorem byteB_split {x : Int} (h : ¬ isByte x) : x < 0 ∨ (¬ x < 0 ∧ 255 < x) := by
  by_cases h0 : x < 0
  · exact .inl h0
  · exact .inr ⟨h0, by unfold isByte at h; omega⟩

set_option maxHeartbeats 4000000 in
theorem cm_some (w : World) (a : Option Addr) (cap b o : Nat) (xs : List Int) (more : Int) (h0 : 0 < xs.length) (h8 : xs.length ≤ 8) (ha : a = some ⟨b, o, none⟩)
    (hc : ∀ i, i < xs.length → w.cell? ⟨b, o + i, none⟩ = some (.int .i64 (nth xs i))) :
    Calls Tryd.prog 19 #[.slice a xs.length cap, .int .i64 more] w fun e w' => e = .returned (errV (makeE xs more)) ∧ w = w' := by
  subst ha
  obtain ⟨n, hxn⟩ : ∃ n, n = xs.length := ⟨_, rfl⟩
  have HM : Hid (makeE xs more = if xs.all byteB && decide (0 ≤ more ∧ more ≤ 4) then 0 else 1) := by
    show makeE xs more = if xs.all byteB && decide (0 ≤ more ∧ more ≤ 4) then 0 else 1
    unfold makeE
    rw [if_neg (by omega), if_neg (by omega)]
  have HX : Hid (n = xs.length) := hxn
  rw [← hxn] at h0 h8 hc ⊢
  have HC : Hid (∀ i, i < n → w.cell? ⟨b, o + i, none⟩ = some (.int .i64 (nth xs i))) := hc
  have h1 : ((n : Int) == 0) = false := by simp; omega
  have h2 : ¬ (8 : Int) < (n : Int) := by omega
  clear hc hxn
  go_enter Tryd.func19, Tryd.ntmps19
  go_wp2
  go_loop [17] (fun i => ∃ k : Nat, k ≤ n ∧ i = .int .i64 k ∧ ∀ j, j < k → isByte (nth xs j)) (fun i => n - (intOf i).toNat)
  case atStart => exact ⟨0, Nat.zero_le _, rfl, fun j hj => absurd hj (Nat.not_lt_zero _)⟩
  case round =>
    obtain ⟨k, hk, rfl, hall⟩ := hrel
    have HA : Hid (∀ j, j < k → isByte (nth xs j)) := hall
    clear hall
    by_cases hlt : k < n
    · have hck := HC.out k hlt
      by_cases hb : isByte (nth xs k)
      · have HB : Hid (isByte (nth xs k)) := hb
        have hb1 : ¬ nth xs k < 0 := by have := hb.1; omega
        have hb2 : ¬ 255 < nth xs k := by have := hb.2; omega
        clear hb
        go_wp2
        refine ⟨⟨k + 1, by omega, rfl, fun j hj => ?_⟩, ?_⟩
        · by_cases e : j = k
          · subst e; exact HB.out
          · exact HA.out j (by omega)
        · simp only [intOf]; omega
      · have HD : Hid (errV (makeE xs more) = .iface 44 (.int .i64 1)) := by
          show errV (makeE xs more) = .iface 44 (.int .i64 1)
          have e : xs.all byteB = false := by
            rw [List.all_eq_false]
            exact ⟨_, nth_mem (by rw [← HX.out]; exact hlt), fun e => hb ((byteB_iff _).1 e)⟩
          rw [HM.out, e]; rfl
        rcases byteB_split hb with hb1 | ⟨hb1, hb2⟩
        · clear hb
          go_wp2
          go_ret
          exact ⟨by rw [HD.out]; rfl, rfl⟩
        · clear hb
          go_wp2
          go_ret
          exact ⟨by rw [HD.out]; rfl, rfl⟩
    · have hkn : k = n := by omega
      subst hkn
      have HAll : Hid (xs.all byteB = true) := all_byte (by rw [← HX.out]; exact HA.out)
      by_cases hm : 0 ≤ more ∧ more ≤ 4
      · have HD : Hid (errV (makeE xs more) = .nilIface) := by
          show errV (makeE xs more) = .nilIface
          rw [HM.out, HAll.out, decide_eq_true hm]; rfl
        have hm1 : ¬ more < 0 := by omega
        have hm2 : ¬ 4 < more := by omega
        clear hm
        go_wp2
        go_ret
        exact ⟨by rw [HD.out]; rfl, rfl⟩
      · have HD : Hid (errV (makeE xs more) = .iface 44 (.int .i64 1)) := by
          show errV (makeE xs more) = .iface 44 (.int .i64 1)
          rw [HM.out, HAll.out, decide_eq_false hm]; rfl
        by_cases hm1 : more < 0
        · clear hm
          go_wp2
          go_ret
          exact ⟨by rw [HD.out]; rfl, rfl⟩
        · have hm2 : 4 < more := by omega
          clear hm
          go_wp2
          go_ret
          exact ⟨by rw [HD.out]; rfl, rfl⟩

theorem cm_any (w : World) (v : Value) (xs : List Int) (more : Int) (hx : SliceIs w v xs) :
    Calls Tryd.prog 19 #[v, .int .i64 more] w fun e w' => e = .returned (errV (makeE xs more)) ∧ w = w' := by
  obtain ⟨a, c, b, o, rfl, hl, ha, hc⟩ := hx.where
  by_cases h0 : xs.length = 0
  · have e : makeE xs more = 5 := by simp [makeE, h0]
    rw [e, h0]
    exact cm_none w a c more
  · by_cases h8 : 8 < xs.length
    · have e : makeE xs more = 4 := by unfold makeE; rw [if_neg h0, if_pos h8]
      rw [e]
      exact cm_full w a c _ more h8 hl
    · exact cm_some w a c b o xs more (by omega) (by omega) (ha (by omega)) hc

/-- A shard, or -1. -/
def shardB (x : Int) : Bool := decide (-1 ≤ x ∧ x ≤ 255)

/-- What is wrong with shards and the number of data. -/
def againE (xs : List Int) (data : Int) : Nat := if 12 < xs.length then 4 else if decide (1 ≤ data ∧ data ≤ 8) && xs.all shardB then (if (xs.length : Int) < data ∨ data + 4 < (xs.length : Int) then 3 else 0) else 1

set_option maxHeartbeats 1000000 in
theorem ca_full (w : World) (a : Option Addr) (cap n : Nat) (data : Int) (h : 12 < n) (_hl : n ≤ maxLen) :
    Calls Tryd.prog 25 #[.slice a n cap, .int .i64 data] w fun e w' => e = .returned (errV 4) ∧ w = w' := by
  have h2 : (12 : Int) < (n : Int) := by omega
  go_enter Tryd.func25, Tryd.ntmps25
  go_wp2
  go_ret
  exact ⟨rfl, rfl⟩

set_option maxHeartbeats 1000000 in
theorem ca_data (w : World) (a : Option Addr) (cap n : Nat) (data : Int) (h : n ≤ 12) (hd : ¬ (1 ≤ data ∧ data ≤ 8)) :
    Calls Tryd.prog 25 #[.slice a n cap, .int .i64 data] w fun e w' => e = .returned (errV 1) ∧ w = w' := by
  have h2 : ¬ (12 : Int) < (n : Int) := by omega
  by_cases hd1 : data < 1
  · clear hd
    go_enter Tryd.func25, Tryd.ntmps25
    go_wp2
    go_ret
    exact ⟨rfl, rfl⟩
  · have hd2 : 8 < data := by omega
    clear hd
    go_enter Tryd.func25, Tryd.ntmps25
    go_wp2
    go_ret
    exact ⟨rfl, rfl⟩

set_option maxHeartbeats 4000000 in
theorem ca_some (w : World) (a : Option Addr) (cap b o : Nat) (xs : List Int) (data : Int) (h12 : xs.length ≤ 12) (hd : 1 ≤ data ∧ data ≤ 8) (ha : 0 < xs.length → a = some ⟨b, o, none⟩)
    (hc : ∀ i, i < xs.length → w.cell? ⟨b, o + i, none⟩ = some (.int .i64 (nth xs i))) :
    Calls Tryd.prog 25 #[.slice a xs.length cap, .int .i64 data] w fun e w' => e = .returned (errV (againE xs data)) ∧ w = w' := by
  obtain ⟨n, hxn⟩ : ∃ n, n = xs.length := ⟨_, rfl⟩
  have HM : Hid (againE xs data = if xs.all shardB then (if (xs.length : Int) < data ∨ data + 4 < (xs.length : Int) then 3 else 0) else 1) := by
    show againE xs data = if xs.all shardB then (if (xs.length : Int) < data ∨ data + 4 < (xs.length : Int) then 3 else 0) else 1
    unfold againE
    rw [if_neg (by omega), decide_eq_true hd, Bool.true_and]
  have HX : Hid (n = xs.length) := hxn
  rw [← hxn] at h12 hc ha ⊢
  have HC : Hid (∀ i, i < n → w.cell? ⟨b, o + i, none⟩ = some (.int .i64 (nth xs i))) := hc
  have h2 : ¬ (12 : Int) < (n : Int) := by omega
  have hd1 : ¬ data < 1 := by omega
  have hd2 : ¬ 8 < data := by omega
  clear hc hxn hd
  go_enter Tryd.func25, Tryd.ntmps25
  go_wp2
  go_loop [20] (fun i => ∃ k : Nat, k ≤ n ∧ i = .int .i64 k ∧ ∀ j, j < k → shardB (nth xs j) = true) (fun i => n - (intOf i).toNat)
  case atStart => exact ⟨0, Nat.zero_le _, rfl, fun j hj => absurd hj (Nat.not_lt_zero _)⟩
  case round =>
    obtain ⟨k, hk, rfl, hall⟩ := hrel
    have HA : Hid (∀ j, j < k → shardB (nth xs j) = true) := hall
    clear hall
    by_cases hlt : k < n
    · have hck := HC.out k hlt
      have haa := ha (by omega)
      subst haa
      clear ha
      by_cases hb : -1 ≤ nth xs k ∧ nth xs k ≤ 255
      · have HB : Hid (shardB (nth xs k) = true) := decide_eq_true hb
        have hb1 : ¬ nth xs k < -1 := by have := hb.1; omega
        have hb2 : ¬ 255 < nth xs k := by have := hb.2; omega
        clear hb
        go_wp2
        refine ⟨⟨k + 1, by omega, rfl, fun j hj => ?_⟩, ?_⟩
        · by_cases e : j = k
          · subst e; exact HB.out
          · exact HA.out j (by omega)
        · simp only [intOf]; omega
      · have HD : Hid (errV (againE xs data) = .iface 44 (.int .i64 1)) := by
          show errV (againE xs data) = .iface 44 (.int .i64 1)
          have e : xs.all shardB = false := by
            rw [List.all_eq_false]
            exact ⟨_, nth_mem (by rw [← HX.out]; exact hlt), fun e => hb (of_decide_eq_true e)⟩
          rw [HM.out, e]; rfl
        by_cases hb1 : nth xs k < -1
        · clear hb
          go_wp2
          go_ret
          exact ⟨by rw [HD.out]; rfl, rfl⟩
        · have hb2 : 255 < nth xs k := by omega
          clear hb
          go_wp2
          go_ret
          exact ⟨by rw [HD.out]; rfl, rfl⟩
    · have hkn : k = n := by omega
      subst hkn
      have HAll : Hid (xs.all shardB = true) := by
        show xs.all shardB = true
        rw [List.all_eq_true]
        intro x hx
        obtain ⟨i, hi, rfl⟩ := List.getElem_of_mem hx
        rw [← nth_lt hi]
        exact HA.out i (by rw [HX.out]; exact hi)
      by_cases hm1 : (k : Int) < data
      · have HD : Hid (errV (againE xs data) = .iface 44 (.int .i64 3)) := by
          show errV (againE xs data) = .iface 44 (.int .i64 3)
          rw [HM.out, HAll.out, ← HX.out, if_pos rfl, if_pos (.inl hm1)]; rfl
        go_wp2
        go_ret
        exact ⟨by rw [HD.out]; rfl, rfl⟩
      · by_cases hm2 : data + 4 < (k : Int)
        · have HD : Hid (errV (againE xs data) = .iface 44 (.int .i64 3)) := by
            show errV (againE xs data) = .iface 44 (.int .i64 3)
            rw [HM.out, HAll.out, ← HX.out, if_pos rfl, if_pos (.inr hm2)]; rfl
          go_wp2
          go_ret
          exact ⟨by rw [HD.out]; rfl, rfl⟩
        · have HD : Hid (errV (againE xs data) = .nilIface) := by
            show errV (againE xs data) = .nilIface
            rw [HM.out, HAll.out, ← HX.out, if_pos rfl, if_neg (by rintro (h | h) <;> omega)]; rfl
          go_wp2
          go_ret
          exact ⟨by rw [HD.out]; rfl, rfl⟩

theorem ca_any (w : World) (v : Value) (xs : List Int) (data : Int) (hx : SliceIs w v xs) :
    Calls Tryd.prog 25 #[v, .int .i64 data] w fun e w' => e = .returned (errV (againE xs data)) ∧ w = w' := by
  obtain ⟨a, c, b, o, rfl, hl, ha, hc⟩ := hx.where
  by_cases h8 : 12 < xs.length
  · have e : againE xs data = 4 := by unfold againE; rw [if_pos h8]
    rw [e]
    exact ca_full w a c _ data h8 hl
  · by_cases hd : 1 ≤ data ∧ data ≤ 8
    · exact ca_some w a c b o xs data (by omega) hd ha hc
    · have e : againE xs data = 1 := by unfold againE; rw [if_neg h8, decide_eq_false hd]; rfl
      rw [e]
      exact ca_data w a c _ data (by omega) hd

end Go.Proofs.YtebjefgdjfjndaaDoor
