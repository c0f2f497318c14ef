/- This text proves that platterholdlaw2.SparseBack returns true: what is written is read, and all else is as it was; old memory is as it was; the conditions are that the steps' rows lie there and have room, and that the slice lies there. -/
import Derived.Test.YtepnbkonhaongaaF12
namespace Go.Proofs.Ytepnbkonhaongaa
open Go.RowKit Go.Deep Go.Maps

/-- A slice of numbers, opened: where it lies in each later world. -/
theorem slice_old {w : World} {v : Value} {xs : List Int} (h : SliceIs w v xs) : ∃ a c b o, v = .slice a xs.length c ∧ xs.length ≤ maxLen ∧ (0 < xs.length → a = some ⟨b, o, none⟩) ∧ ∀ {w'}, Below w.heap.size w w' → ∀ i, i < xs.length → w'.cell? ⟨b, o + i, none⟩ = some (.int .i64 (nth xs i)) := by
  obtain ⟨a, c, b, o, hv, hl, ha, hb, hc⟩ := h.parts
  exact ⟨a, c, b, o, hv, hl, ha, fun hw i hi => by rw [hw.cell (p := ⟨b, o + i, none⟩) (hb (by omega))]; exact hc i hi⟩

theorem wr_at {f : Fil} (hw : Wel f) (A : Nat) (xs : List Int) (i : Nat) : (wrF f A xs).c i = if A ≤ i ∧ i < A + xs.length then nth xs (i - A) else if i < f.s then f.c i else 0 := by
  rw [wrF_c]
  by_cases h : A ≤ i ∧ i < A + xs.length
  · rw [if_pos h, if_pos h]
  · rw [if_neg h, if_neg h]
    by_cases h2 : i < f.s
    · rw [if_pos h2]
    · rw [if_neg h2]; exact hw.out i (by omega)
theorem wr_size (f : Fil) (A : Nat) (xs : List Int) : f.s ≤ (wrF f A xs).s := by
  unfold wrF
  dsimp only
  split <;> omega

set_option maxHeartbeats 8000000 in
set_option maxRecDepth 100000 in
theorem sparseBack_any (w : World) (v : Value) (rs : List (List Int)) (hr : RowsC w v rs) (at' : Int) (v2 : Value) (xs : List Int) (hx : SliceIs w v2 xs) :
    Calls Try.prog 3 #[v, .int .i64 at', v2] w fun e w' => e = .returned (.bool true) ∧ Below w.heap.size w w' := by
  have HR : Hid (RowsC w v rs) := hr
  have HX : Hid (SliceIs w v2 xs) := hx
  obtain ⟨a2, c2, b2, o2, rfl, hl2, ha2, hL2⟩ := slice_old hx
  obtain ⟨n, hn⟩ : ∃ n, n = xs.length := ⟨_, rfl⟩
  have HN : Hid (n = xs.length) := hn
  rw [← hn] at hl2 ha2 ⊢
  rw [← hn] at HX
  have HL2 : Hid (∀ {w'}, Below w.heap.size w w' → ∀ i, i < n → w'.cell? ⟨b2, o2 + i, none⟩ = some (.int .i64 (nth xs i))) := by rw [hn]; exact hL2
  unfold maxLen at hl2
  clear hr hx hL2 hn
  go_enter Try.func3, Try.ntmps3
  go_wp2_with fail
  refine Calls.mono (spFact_any w) ?_
  rintro e w1 ⟨rfl, hb1⟩
  go_wp2_with fail
  refine Calls.mono (written_any w1 v rs (HR.out.later hb1)) ?_
  rintro e w2 ⟨g, rfl, b, f, hT⟩
  have HB : Hid (Below w.heap.size w w1) := hb1
  have ST : Hid (OnF w1 w2 g b f) := hT
  clear hb1 hT
  unfold ptrF
  go_wp2_with fail
  refine Calls.mono (read_open w2 g b f ST.out.fil ST.out.wel) ?_
  rintro e w3 ⟨a3, c3, b3, o3, rfl, ha3, hc3, hk3, hb3⟩
  have ST3 : Hid (OnF w1 w3 g b f) := ST.out.later hb3
  have HC3 : Hid (∀ w'', Stay (Two g b) w3 w'' → ∀ i, i < f.s → w''.cell? ⟨b3, o3 + i, none⟩ = some (.int .i64 (f.c i))) := hc3
  have HK3 : Hid (Keeps (Two g b) w3 (.slice a3 f.s c3) (rdL f 0 64)) := hk3
  have HW : Hid (Wel f) := ST.out.wel
  have h64 := HW.out.big
  have H4 : Hid _ := fun (_ : Nat) => sp_size w3 g b f ST3.out.fil
  obtain ⟨S, hS0⟩ : ∃ S, S = f.s := ⟨_, rfl⟩
  have HSZ : Hid (S = f.s) := hS0
  rw [← hS0] at ha3 h64 ⊢
  rw [← hS0] at HC3 HK3 H4
  have H5 : Hid _ := fun (_ : Nat) => sp_write w3 g b f ST3.out.fil at' _ xs (keeps_old (Below.next HB.out ST3.out.old) (Nat.le_trans HB.out.size ST3.out.low.1) (Nat.le_trans HB.out.size ST3.out.low.2) HX.out)
  clear hc3 hk3 hb3 hS0
  unfold ptrF at H4 H5
  by_cases he : wrE at' xs = 0
  · obtain ⟨A, rfl, hA, _⟩ := wrE_zero he
    rw [he, errV_zero, show wroF f (A : Int) xs = wrF f A xs from if_pos he] at H5
    have hA64 : A + n ≤ 64 := by rw [HN.out]; exact hA
    have hw5 := wrF_wel HW.out hA
    have hs5 := wr_size f A xs
    have HM : Hid (∀ i, (wrF f A xs).c i = if A ≤ i ∧ i < A + n then nth xs (i - A) else if i < S then f.c i else 0) := fun i => by rw [wr_at HW.out, ← HN.out, ← HSZ.out]
    rw [← HSZ.out] at hs5
    have h64' := hw5.big
    generalize wrF f A xs = f1 at *
    clear he hA
    go_wp2_with (first
      | (go_at_call 9; refine (H4.out 0).mono ?_; rintro e w4 ⟨rfl, rfl⟩)
      | (go_at_call 10; refine (H5.out 0).mono ?_; rintro e w5 ⟨rfl, hf5, hs5⟩; have ST5 : Hid (OnF w1 w5 g b f1) := ST3.out.step hf5 hw5 hs5; have HS5 : Hid (Stay (Two g b) w3 w5) := hs5; clear hf5 hs5))
    refine Calls.mono (read_open w5 g b f1 ST5.out.fil ST5.out.wel) ?_
    rintro e w7 ⟨a7, c7, b7, o7, rfl, ha7, hc7, hk7, hb7⟩
    have ST7 : Hid (OnF w1 w7 g b f1) := ST5.out.later hb7
    have H8 : Hid _ := fun (_ : Nat) => sp_size w7 g b f1 ST7.out.fil
    have HC7 : Hid (∀ i, i < f1.s → w7.cell? ⟨b7, o7 + i, none⟩ = some (.int .i64 (if A ≤ i ∧ i < A + n then nth xs (i - A) else if i < S then f.c i else 0))) := fun i hi => by rw [hc7 w7 (Stay.refl _ _) i hi, HM.out]
    have HC3' : Hid (∀ i, i < S → w7.cell? ⟨b3, o3 + i, none⟩ = some (.int .i64 (f.c i))) := HC3.out w7 (HS5.out.trans (Stay.of hb7))
    have HE : Hid (Below w.heap.size w w7) := Below.next HB.out ST7.out.old
    have HX7 : Hid (∀ i, i < n → w7.cell? ⟨b2, o2 + i, none⟩ = some (.int .i64 (nth xs i))) := HL2.out HE.out
    generalize f1.s = T at *
    have hts : ¬ (T : Int) < (S : Int) := by omega
    unfold ptrF at H8
    clear hc7 hk7 hb7 H4 H5 hw5 HM
    go_wp2_with (go_at_call 9; refine (H8.out 0).mono ?_; rintro e w8 ⟨rfl, rfl⟩)
    go_loop [14, 15] (fun i _ => ∃ k : Nat, k ≤ T ∧ i = .int .i64 k) (fun i _ => T - (Go.RowKit.intOf i).toNat)
    case atStart => exact ⟨0, Nat.zero_le _, rfl⟩
    case round =>
      obtain ⟨k, hk, rfl⟩ := hrel
      by_cases hlt : k < T
      · have hlt' : (k : Int) < (T : Int) := by omega
        have hck := HC7.out k hlt
        have haa7 := ha7 (by omega)
        subst haa7
        by_cases h2 : k < S
        · have h2' : (k : Int) < (S : Int) := by omega
          have haa := ha3 (by omega)
          subst haa
          have hdk := HC3'.out k h2
          by_cases h1 : A ≤ k
          · have h1' : (A : Int) ≤ (k : Int) := by omega
            by_cases h3 : k < A + n
            · have h3' : (k : Int) < (A : Int) + (n : Int) := by omega
              rw [if_pos ⟨h1, h3⟩] at hck
              have haa2 := ha2 (by omega)
              subst haa2
              have hxk := HX7.out (k - A) (by omega)
              obtain ⟨j, hj⟩ : ∃ j, j = k - A := ⟨_, rfl⟩
              rw [← hj] at hck hxk
              have hj1 : (k : Int) - (A : Int) = (j : Int) := by omega
              have hj2 : (j : Int) < (n : Int) := by omega
              clear hj h1 h3
              generalize nth xs j = x at hck hxk
              go_wp2
              go_round
              case rel => exact ⟨k + 1, by omega, by go_num⟩
              case measure => simp [Go.RowKit.intOf]; omega
            · have h3' : ¬ (k : Int) < (A : Int) + (n : Int) := by omega
              rw [if_neg (fun h => h3 h.2), if_pos h2] at hck
              clear h1 h3
              generalize f.c k = y at hck hdk
              go_wp2
              go_round
              case rel => exact ⟨k + 1, by omega, by go_num⟩
              case measure => simp [Go.RowKit.intOf]; omega
          · have h1' : ¬ (A : Int) ≤ (k : Int) := by omega
            rw [if_neg (fun h => h1 h.1), if_pos h2] at hck
            clear h1
            generalize f.c k = y at hck hdk
            go_wp2
            go_round
            case rel => exact ⟨k + 1, by omega, by go_num⟩
            case measure => simp [Go.RowKit.intOf]; omega
        · have h2' : ¬ (k : Int) < (S : Int) := by omega
          by_cases h1 : A ≤ k
          · have h1' : (A : Int) ≤ (k : Int) := by omega
            by_cases h3 : k < A + n
            · have h3' : (k : Int) < (A : Int) + (n : Int) := by omega
              rw [if_pos ⟨h1, h3⟩] at hck
              have haa2 := ha2 (by omega)
              subst haa2
              have hxk := HX7.out (k - A) (by omega)
              obtain ⟨j, hj⟩ : ∃ j, j = k - A := ⟨_, rfl⟩
              rw [← hj] at hck hxk
              have hj1 : (k : Int) - (A : Int) = (j : Int) := by omega
              have hj2 : (j : Int) < (n : Int) := by omega
              clear hj h1 h3
              generalize nth xs j = x at hck hxk
              go_wp2
              go_round
              case rel => exact ⟨k + 1, by omega, by go_num⟩
              case measure => simp [Go.RowKit.intOf]; omega
            · have h3' : ¬ (k : Int) < (A : Int) + (n : Int) := by omega
              rw [if_neg (fun h => h3 h.2), if_neg h2] at hck
              clear h1 h3
              go_wp2
              go_round
              case rel => exact ⟨k + 1, by omega, by go_num⟩
              case measure => simp [Go.RowKit.intOf]; omega
          · have h1' : ¬ (A : Int) ≤ (k : Int) := by omega
            rw [if_neg (fun h => h1 h.1), if_neg h2] at hck
            clear h1
            go_wp2
            go_round
            case rel => exact ⟨k + 1, by omega, by go_num⟩
            case measure => simp [Go.RowKit.intOf]; omega
      · have hkn : k = T := by omega
        subst hkn
        go_wp2
        go_ret
        exact ⟨rfl, HE.out⟩
  · rw [errV_pos he, show wroF f at' xs = f from if_neg he] at H5
    generalize wrE at' xs = E at *
    have hE : ¬ E = 0 := he
    clear he
    go_wp2_with (first
      | (go_at_call 9; refine (H4.out 0).mono ?_; rintro e w4 ⟨rfl, rfl⟩)
      | (go_at_call 10; refine (H5.out 0).mono ?_; rintro e w5 ⟨rfl, hf5, hs5⟩; have ST5 : Hid (OnF w1 w5 g b f) := ST3.out.step hf5 HW.out hs5; have HS5 : Hid (Stay (Two g b) w3 w5) := hs5; clear hf5 hs5))
    refine Calls.mono (read_open w5 g b f ST5.out.fil ST5.out.wel) ?_
    rintro e w7 ⟨a7, c7, b7, o7, rfl, _, _, hk7, hb7⟩
    have HE : Hid (Below w.heap.size w w7) := Below.next HB.out (ST5.out.later hb7).old
    have HI : Hid _ := fun (_ : Nat) => ints_any w7 _ _ _ _ hk7.is (HK3.out w7 (HS5.out.trans (Stay.of hb7)))
    rw [eqB_self, ← HSZ.out] at HI
    rw [← HSZ.out]
    clear hk7 hb7 H4 H5
    go_wp2_with (go_at_call 11; refine (HI.out 0).mono ?_; rintro e w8 ⟨rfl, q, rfl⟩)
    go_ret
    exact ⟨rfl, HE.out.trans (below_drewN _ _ _)⟩

end Go.Proofs.Ytepnbkonhaongaa
