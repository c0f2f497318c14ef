/- This text proves that platterholdlaw1.GaloisRoots returns true for all factors that lie in memory; the world is as it was; no condition besides. -/
import Derived.Test.YtdfapbiilhbokaaGl
import Derived.Test.YtdfapbiilhbokaaRb
namespace Go.Proofs.Ytdfapbiilhbokaa
open Go.RowKit Go.Deep

theorem bytesE_good {xs : List Int} (h : bytesE 16 xs = 0) : xs.length ≤ 16 ∧ ∀ i, i < xs.length → isByte (nth xs i) := by
  unfold bytesE at h
  by_cases h1 : (16 : Int) < (xs.length : Int)
  · simp [h1] at h
  · rw [if_neg h1] at h
    cases hb : allB 0 255 xs with
    | false => simp [hb] at h
    | true =>
      refine ⟨by omega, fun i hi => ?_⟩
      unfold allB at hb
      rw [List.all_eq_true] at hb
      have := hb _ (nth_mem hi)
      simpa [isByte] using this

theorem good_bytesE {xs : List Int} (h : xs.length ≤ 16) (hb : ∀ i, i < xs.length → isByte (nth xs i)) : bytesE 16 xs = 0 := by
  unfold bytesE
  rw [if_neg (by omega), allB_yes (fun i hi => hb i hi)]
  rfl

theorem atR_bad {xs : List Int} (h : bytesE 16 xs ≠ 0) (x : Int) : ∃ e : Int, atR xs x = .tuple #[.int .i64 0, .iface 34 (.int .i64 e)] := by
  by_cases h1 : 16 < xs.length
  · exact ⟨4, atR_full h1⟩
  · by_cases h2 : ∀ i, i < xs.length → isByte (nth xs i)
    · exact absurd (good_bytesE (by omega) h2) h
    · obtain ⟨i, hi⟩ := Classical.not_forall.1 h2
      obtain ⟨hi, hb⟩ := Classical.not_imp.1 hi
      exact ⟨1, atR_row (by omega) hi hb⟩

theorem atR_good {xs : List Int} (h : bytesE 16 xs = 0) {x : Nat} (hx : x < 256) : atR xs x = .tuple #[.int .i64 (ev (xs.map Int.toNat) x : Int), .nilIface] := by
  obtain ⟨h1, h2⟩ := bytesE_good h
  have e := evN_all (x := x) (bytes_map h2) hx
  rw [List.length_map] at e
  rw [atR_ok h1 h2 hx, e]

set_option maxHeartbeats 4000000 in
set_option maxRecDepth 100000 in
theorem roots_bad (w : World) (v : Value) (xs : List Int) (hs : SliceIs w v xs) (hb : bytesE 16 xs ≠ 0) :
    Calls Try.prog 5 #[v] w fun e w' => e = .returned (.bool true) ∧ w = w' := by
  obtain ⟨e0, he⟩ := atR_bad hb 0
  have HE : Hid (atR xs 0 = .tuple #[.int .i64 0, .iface 34 (.int .i64 e0)]) := he
  have HNe : Hid (((bytesE 16 xs : Int) != 0) = true) := by show ((bytesE 16 xs : Int) != 0) = true; simp; omega
  clear he hb
  obtain ⟨a, c, rfl, hl, hi⟩ := id hs
  clear hi hl
  go_enter Try.func5, Try.ntmps5
  go_wp2_with fail
  refine (gfact_any _).mono ?_
  rintro e w' ⟨rfl, rfl⟩
  go_wp2
  go_loop [4, 5] (fun r x => r = .int .i64 0 ∧ x = .int .i64 0) (fun _ _ => 0)
  case atStart => exact ⟨rfl, rfl⟩
  case round =>
    obtain ⟨rfl, rfl⟩ := hrel
    go_wp2_with fail
    refine (at_any _ _ xs 0 hs).mono ?_
    rintro e w' ⟨rfl, rfl⟩
    rw [HE.out]
    go_wp2_with fail
    refine (bytes_any _ _ xs 16 hs).mono ?_
    rintro e w' ⟨rfl, rfl⟩
    go_wp2
    go_ret
    refine ⟨?_, rfl⟩
    show Ending.returned (Value.bool ((bytesE 16 xs : Int) != 0)) = _
    rw [HNe.out]

/-- What the law says at the end. -/
theorem roots_end {xs : List Int} (h : bytesE 16 xs = 0) :
    ((∀ j, j < xs.length → nth xs j = 0) → roots (xs.map Int.toNat) 256 = 256) ∧ ((¬ ∀ j, j < xs.length → nth xs j = 0) → roots (xs.map Int.toNat) 256 < xs.length) := by
  obtain ⟨h1, h2⟩ := bytesE_good h
  constructor
  · intro hz
    refine roots_every fun x _ => ev_null (fun f hf => ?_) x
    obtain ⟨y, hy, rfl⟩ := List.mem_map.1 hf
    obtain ⟨i, hi, rfl⟩ := List.getElem_of_mem hy
    have := hz i hi
    rw [nth_lt hi] at this
    rw [this]; rfl
  · intro hz
    obtain ⟨i, hi⟩ := Classical.not_forall.1 hz
    obtain ⟨hi, hn⟩ := Classical.not_imp.1 hi
    have := lagrange _ (xs.map Int.toNat) (Nat.le_refl _) (bytes_map h2) ⟨(nth xs i).toNat, List.mem_map.2 ⟨_, nth_mem hi, rfl⟩, by have := (h2 i hi).1; omega⟩
    rwa [List.length_map] at this

set_option maxHeartbeats 8000000 in
set_option maxRecDepth 100000 in
theorem roots_good (w : World) (v : Value) (xs : List Int) (hs : SliceIs w v xs) (hb : bytesE 16 xs = 0) :
    Calls Try.prog 5 #[v] w fun e w' => e = .returned (.bool true) ∧ w = w' := by
  have HB : Hid (bytesE 16 xs = 0) := hb
  have HS : Hid (SliceIs w v xs) := hs
  obtain ⟨a, c, b, o, rfl, hl, ha, hc⟩ := hs.where
  have h16 := (bytesE_good hb).1
  have hend := roots_end hb
  obtain ⟨n, hxn⟩ : ∃ n, n = xs.length := ⟨_, rfl⟩
  rw [← hxn] at hl ha hc hend h16 HS ⊢
  have HX : Hid (n = xs.length) := hxn
  have HC : Hid (∀ i, i < n → w.cell? ⟨b, o + i, none⟩ = some (.int .i64 (nth xs i))) := hc
  have HEnd := show Hid _ from hend
  clear hb hs hc hend hxn hl
  go_enter Try.func5, Try.ntmps5
  go_wp2_with fail
  refine (gfact_any _).mono ?_
  rintro e w' ⟨rfl, rfl⟩
  go_wp2
  go_loop [4, 5] (fun r x => ∃ k : Nat, k ≤ 256 ∧ x = .int .i64 k ∧ r = .int .i64 (roots (xs.map Int.toNat) k : Int)) (fun _ x => 256 - (intOf x).toNat)
  case atStart => exact ⟨0, by omega, rfl, rfl⟩
  case round =>
    obtain ⟨k, hk, rfl, rfl⟩ := hrel
    have hr : roots (xs.map Int.toNat) k ≤ 256 := Nat.le_trans (roots_le _ _) hk
    by_cases hlt : k < 256
    · have HA : Hid (atR xs k = .tuple #[.int .i64 (ev (xs.map Int.toNat) k : Int), .nilIface]) := atR_good HB.out hlt
      go_wp2_with fail
      refine (at_any _ _ xs k HS.out).mono ?_
      rintro e w' ⟨rfl, rfl⟩
      rw [HA.out]
      have HR : Hid (roots (xs.map Int.toNat) (k + 1) = roots (xs.map Int.toNat) k + (if ev (xs.map Int.toNat) k = 0 then 1 else 0)) := roots_succ _ _
      by_cases h0 : ev (xs.map Int.toNat) k = 0
      · have HR' : Hid (roots (xs.map Int.toNat) (k + 1) = roots (xs.map Int.toNat) k + 1) := by have := HR.out; rwa [if_pos h0] at this
        rw [h0]
        clear HR h0
        go_wp2
        refine ⟨⟨k + 1, by omega, rfl, by rw [HR'.out]; rfl⟩, ?_⟩
        simp only [intOf]; omega
      · have HR' : Hid (roots (xs.map Int.toNat) (k + 1) = roots (xs.map Int.toNat) k) := by have := HR.out; rwa [if_neg h0] at this
        have h0' : ¬ (ev (xs.map Int.toNat) k : Int) = 0 := by omega
        clear HR h0
        go_wp2
        refine ⟨⟨k + 1, by omega, rfl, by rw [HR'.out]⟩, ?_⟩
        simp only [intOf]; omega
    · have hk6 : k = 256 := by omega
      subst hk6
      go_wp2
      go_loop [8, 9] (fun z i => ∃ m : Nat, m ≤ n ∧ i = .int .i64 m ∧ ∃ q : Bool, z = .bool q ∧ (q = true ↔ ∀ j, j < m → nth xs j = 0)) (fun _ i => n - (intOf i).toNat)
      case atStart => exact ⟨0, Nat.zero_le _, rfl, true, rfl, by simp⟩
      case round =>
        obtain ⟨m, hm, rfl, q, rfl, hq⟩ := hrel
        have HQ : Hid (q = true ↔ ∀ j, j < m → nth xs j = 0) := hq
        clear hq
        by_cases hml : m < n
        · have hck := HC.out m hml
          have haa := ha (by omega)
          subst haa
          cases q with
          | true =>
            have hz := HQ.out.1 rfl
            by_cases h0 : nth xs m = 0
            · rw [h0] at hck
              go_wp2
              refine ⟨⟨m + 1, by omega, rfl, true, rfl, ⟨fun _ j hj => ?_, fun _ => rfl⟩⟩, ?_⟩
              · by_cases e : j = m
                · subst e; exact h0
                · exact hz j (by omega)
              · simp only [intOf]; omega
            · have HN : Hid (¬ nth xs m = 0) := h0
              go_wp2
              refine ⟨⟨m + 1, by omega, rfl, false, by rw [show (nth xs m == 0) = false by simpa using HN.out], ⟨fun h => by simp at h, fun h => absurd (h m (by omega)) HN.out⟩⟩, ?_⟩
              simp only [intOf]; omega
          | false =>
            go_wp2
            refine ⟨⟨m + 1, by omega, rfl, false, rfl, ⟨fun h => by simp at h, fun h => HQ.out.2 (fun j hj => h j (by omega))⟩⟩, ?_⟩
            simp only [intOf]; omega
        · have hmk : m = n := by omega
          subst hmk
          cases q with
          | true =>
            have h1 := HEnd.out.1 (HQ.out.1 rfl)
            rw [h1]
            clear h1 hr
            go_wp2
            go_ret
            exact ⟨rfl, rfl⟩
          | false =>
            have h1 := HEnd.out.2 (fun h => by have := HQ.out.2 h; simp at this)
            have h2 : (roots (xs.map Int.toNat) 256 : Int) < (m : Int) := by omega
            clear h1
            go_wp2
            go_ret
            exact ⟨rfl, rfl⟩

theorem roots_any (w : World) (v : Value) (xs : List Int) (hs : SliceIs w v xs) :
    Calls Try.prog 5 #[v] w fun e w' => e = .returned (.bool true) ∧ w = w' := by
  by_cases hb : bytesE 16 xs = 0
  · exact roots_good w v xs hs hb
  · exact roots_bad w v xs hs hb

end Go.Proofs.Ytdfapbiilhbokaa
