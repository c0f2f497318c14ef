/- This text proves that the law PlaceSays returns true for every number, every way and every number of blocks: ways, blocks and tables are the document's; the only condition is that the slice lies there and has room, and that errors.errorType is laid. -/
import Derived.Test.YteapobmmfjpblaaDoorP3
import Derived.Test.YteapobmmfjpblaaDoorP5
import Derived.Test.YteapobmmfjpblaaDoorLj
import Derived.Test.YteapobmmfjpblaaDoorIn
import Derived.Test.YteapobmmfjpblaaDoorRc
import Derived.Deep.DeepCutAuto
import Derived.Deep.RegionWith
namespace Go.Proofs.YteapobmmfjpblaaDoor
open Go.RowKit Go.Deep

theorem eqB_self (xs : List Int) : eqB xs xs = true := by simp [eqB]

/-- What is found among the first ways. -/
def fnd (xs : List Int) : Nat → Int × Int
  | 0 => (3, 0)
  | k + 1 => if eqB (ofL (k : Int)) xs = true then (0, (k : Int)) else fnd xs k

theorem fnd_upto (xs : List Int) : ∀ k, k ≤ 24 → fnd xs k = if wayE xs = 0 ∧ wayN xs < (k : Int) then (0, wayN xs) else (3, 0)
  | 0, _ => by
    rw [if_neg (fun h => by have := (of_back h.1).1; have := h.2; omega)]
    rfl
  | k + 1, hk => by
    rw [fnd]
    by_cases h : eqB (ofL (k : Int)) xs = true
    · rw [if_pos h]
      obtain rfl : ofL (k : Int) = xs := by simpa [eqB] using h
      have := back_of (i := (k : Int)) ⟨by omega, by omega⟩
      rw [this.2, if_pos ⟨this.1, by omega⟩]
    · rw [if_neg h, fnd_upto xs k (by omega)]
      by_cases h0 : wayE xs = 0
      · have hne : wayN xs ≠ (k : Int) := fun e => h (by rw [← e, (of_back h0).2]; exact eqB_self _)
        by_cases h1 : wayN xs < (k : Int)
        · rw [if_pos ⟨h0, h1⟩, if_pos ⟨h0, by omega⟩]
        · rw [if_neg (fun k => h1 k.2), if_neg (fun k => by have := k.2; omega)]
      · rw [if_neg (fun k => h0 k.1), if_neg (fun k => h0 k.1)]

theorem fnd_end (xs : List Int) : (fnd xs 24).2 = wayN xs ∧ (fnd xs 24).1 = (if wayE xs = 0 then 0 else 3) := by
  rw [fnd_upto xs 24 (Nat.le_refl _)]
  by_cases h : wayE xs = 0
  · rw [if_pos ⟨h, (of_back h).1.2⟩, if_pos h]
    exact ⟨rfl, rfl⟩
  · rw [if_neg (fun k => h k.1), if_neg h, wayN_no h]
    exact ⟨rfl, rfl⟩

theorem wayE_all {x : Int} {l : List Int} (h1 : 0 ≤ x ∧ x ≤ 5) (h2 : allB 0 3 l = true) : (fnd (x :: l) 24).1 = (wayE (x :: l) : Int) := by
  have h3 : l.all inT = true := h2
  have e : wayE (x :: l) = if l.length + 1 = szW x then 0 else 3 := by rw [wayE_cons]; exact if_pos ⟨h1.1, h1.2, h3⟩
  rw [(fnd_end _).2, e]
  by_cases h : l.length + 1 = szW x
  · rw [if_pos h]; rfl
  · rw [if_neg h]; rfl
theorem wayE_out {x : Int} {l : List Int} (h : ¬ (0 ≤ x ∧ x ≤ 5)) : wayE (x :: l) = 1 := by rw [wayE_cons, if_neg (fun k => h ⟨k.1, k.2.1⟩)]
theorem wayE_tail {x : Int} {l : List Int} (h : allB 0 3 l = false) : wayE (x :: l) = 1 := by
  have h3 : l.all inT = false := h
  rw [wayE_cons, if_neg (fun k => by rw [h3] at k; exact absurd k.2.2 (by decide))]

/-- What the law asks of a way, piece by piece. -/
theorem way_parts (w : World) (av : Option Addr) (cv : Nat) (xs : List Int) (h : SliceC w (.slice av xs.length cv) xs) :
    (xs.length = 0 ∧ wayE xs = 5) ∨ ∃ (m b o : Nat) (x : Int) (B : Bool), xs.length = m + 1 ∧ av = some ⟨b, o, none⟩ ∧ m + 1 ≤ cv ∧ m + 1 ≤ maxLen ∧ w.cell? ⟨b, o, none⟩ = some (.int .i64 x) ∧
      (∀ (a : Option Addr) (u : Nat), (0 < m → a = some ⟨b, o + 1, none⟩ ∧ u = cv - 1) → Calls Tryd.prog 9 #[.slice a m u, .int .i64 0, .int .i64 3] w fun e w' => e = .returned (.bool B) ∧ w = w') ∧
      (((0 ≤ x ∧ x ≤ 5) ∧ B = true ∧ (fnd xs 24).1 = (wayE xs : Int)) ∨ ((0 ≤ x ∧ x ≤ 5) ∧ B = false ∧ wayE xs = 1) ∨ (¬ (0 ≤ x ∧ x ≤ 5) ∧ wayE xs = 1)) := by
  cases xs with
  | nil => exact .inl ⟨rfl, rfl⟩
  | cons x l =>
    obtain ⟨b, o, c, hvv, hc, hl, hcl, ht⟩ := h.first
    obtain rfl : av = some ⟨b, o, none⟩ := by cases hvv; rfl
    obtain rfl : cv = c := by cases hvv; rfl
    have c0 := hcl 0 (by omega)
    rw [nth_0, Nat.add_zero] at c0
    refine .inr ⟨l.length, b, o, x, allB 0 3 l, rfl, rfl, hc, hl, c0, fun a u h => ?_, ?_⟩
    · refine all_any w _ l 0 3 ?_
      by_cases hp : 0 < l.length
      · obtain ⟨rfl, rfl⟩ := h hp
        exact ht hp
      · obtain rfl := List.length_eq_zero_iff.1 (show l.length = 0 by omega)
        exact slice_nil _ _ _
    · by_cases hx : 0 ≤ x ∧ x ≤ 5
      · cases hal : allB 0 3 l with
        | true => exact .inl ⟨hx, rfl, wayE_all hx hal⟩
        | false => exact .inr (.inl ⟨hx, rfl, wayE_tail hal⟩)
      · exact .inr (.inr ⟨hx, wayE_out hx⟩)

set_option maxHeartbeats 4000000 in
set_option maxRecDepth 100000 in
theorem placeSays_any (w : World) (i : Int) (v : Value) (bl : Int) (xs : List Int) (hx : SliceC w v xs) (hL : Laid w) :
    Calls Tryd.prog 3 #[.int .i64 i, v, .int .i64 bl] w fun e w' => e = .returned (.bool true) ∧ Below w.heap.size w w' := by
  have HW : Hid _ := fun (_ : Nat) => ways_any w
  go_enter Tryd.func3, Tryd.ntmps3
  go_wp2_with fail
  refine (HW.out 0).mono ?_
  rintro e w1 ⟨va, rfl, hra, hb1⟩
  have HB0 : Hid (Below w.heap.size w w1) := hb1
  have HX : Hid (∀ w', Below w1.heap.size w1 w' → SliceC w' v xs) := fun w' h => (hx.later hb1).later h
  have HL : Hid (∀ w', Below w1.heap.size w1 w' → Laid w') := fun w' h => (hL.later hb1).later h
  have HR : Hid (∀ w', Below w1.heap.size w1 w' → RowsIs w' va (ways 24)) := fun w' h => hra.later h
  obtain ⟨aa, ca, rfl, _, haa⟩ := hra
  obtain ⟨ba, oa, rfl, hlt, hcell⟩ := haa (by decide)
  rw [ways_len] at hcell ⊢
  have HC : Hid (∀ w', Below w1.heap.size w1 w' → ∀ k, k < 24 → ∃ u, w'.cell? ⟨ba, oa + k, none⟩ = some u ∧ SliceIs w' u (ofL (k : Int))) := fun w' h k hk => by
    obtain ⟨u, h1, h2⟩ := hcell k hk
    rw [ways_at hk] at h2
    exact ⟨u, by rw [h.cell (p := ⟨ba, oa + k, none⟩) hlt]; exact h1, h2.later h⟩
  clear HR hcell hx hL hb1 HW
  go_wp2_with fail
  refine (in_any _ _ _ _).mono ?_
  rintro e w2 ⟨rfl, rfl⟩
  go_upto_if 20 with fail
  go_cut [8, 9] (fun s8 s9 wx => s8 = .int .i64 (ofE i : Int) ∧ SliceIs wx s9 (ofL i) ∧ Below w1.heap.size w1 wx)
  case first =>
    by_cases hi : 0 ≤ i ∧ i ≤ 23
    · have hd : decide (0 ≤ i ∧ i ≤ 23) = true := decide_eq_true hi
      obtain ⟨k, rfl⟩ : ∃ k : Nat, i = (k : Int) := ⟨i.toNat, by omega⟩
      obtain ⟨u, hc, hs⟩ := HC.out w1 (Below.refl _ _) k (by omega)
      have HS : Hid (SliceIs w1 u (ofL (k : Int))) := hs
      have HE : Hid (ofE (k : Int) = 0) := ofE_yes (by omega)
      have hk1 : (k : Int) < 24 := by omega
      have hk2 : k < 24 := by omega
      clear hs hi
      go_wp2_with fail
      go_meet
      case rel => exact ⟨by rw [HE.out]; rfl, HS.out, Below.refl _ _⟩
    · have HE : Hid (ofE i = 1) := ofE_no (by omega)
      have HN : Hid (ofL i = []) := ofL_no (by omega)
      have hi2 : i < 0 ∨ (0 ≤ i ∧ 23 < i) := by omega
      clear hi
      rcases hi2 with hi | ⟨hi, hj⟩
      · go_wp2_with fail
        go_meet
        case rel => exact ⟨by rw [HE.out]; rfl, by rw [HN.out]; exact ⟨none, 0, rfl, Nat.zero_le _, fun h => absurd rfl h⟩, Below.refl _ _⟩
      · go_wp2_with fail
        go_meet
        case rel => exact ⟨by rw [HE.out]; rfl, by rw [HN.out]; exact ⟨none, 0, rfl, Nat.zero_le _, fun h => absurd rfl h⟩, Below.refl _ _⟩
  case rest =>
  obtain ⟨rfl, hs1, hb1⟩ := hcut
  go_wp2_with fail
  refine (of_any _ _).mono ?_
  rintro e w3 ⟨v3, rfl, hs3, hb3⟩
  have hb3' := Below.next hb1 hb3
  go_wp2_with fail
  refine (error_any _ _ _ (HL.out _ hb3')).mono ?_
  rintro e w4 ⟨rfl, hb4⟩
  rw [beq_self_eq_true]
  have hs1' := (hs1.later hb3).later hb4
  have hs3' := hs3.is.later hb4
  have hb4' := Below.next hb3' hb4
  clear hs1 hs3 hb3 hb1 hb3' hb4
  go_wp2_with fail
  refine (ints_any _ _ _ _ _ hs3' hs1').mono ?_
  rintro e w5 ⟨rfl, q5, rfl⟩
  rw [eqB_self]
  have HB5 : Hid (Below w1.heap.size w1 (w4.drewN q5)) := Below.next hb4' (below_drew _ _ _)
  clear hs1' hs3' hb4'
  generalize w4.drewN q5 = w5 at HB5 ⊢
  generalize errV (ofE i) = E1
  generalize ofE i = e1
  go_wp2
  go_loopw [8, 13, 14] (fun s8 s13 s14 wr => ∃ k : Nat, k ≤ 24 ∧ s14 = .int .i64 k ∧ s8 = .int .i64 (fnd xs k).1 ∧ s13 = .int .i64 (fnd xs k).2 ∧ Below w1.heap.size w1 wr) (fun _ _ i _ => 24 - (intOf i).toNat)
  case atStart => exact ⟨0, Nat.zero_le _, rfl, rfl, rfl, HB5.out⟩
  case round =>
    clear HB5
    obtain ⟨k, hk, rfl, rfl, rfl, hbr⟩ := hrel
    by_cases hlt : k < 24
    · have hk1 : (k : Int) < 24 := by omega
      obtain ⟨u, hc, hs⟩ := HC.out wr hbr k hlt
      have HI : Hid _ := fun (_ : Nat) => ints_any wr u v _ _ hs (HX.out wr hbr).is
      have HB : Hid (Below w1.heap.size w1 wr) := hbr
      obtain ⟨au, cu, rfl, _, _⟩ := hs
      generalize (ofL (k : Int)).length = nu at HI hc
      by_cases he : eqB (ofL (k : Int)) xs = true
      · have HF : Hid (fnd xs (k + 1) = (0, (k : Int))) := by show fnd xs (k + 1) = _; rw [fnd, if_pos he]
        rw [he] at HI
        clear he hbr
        generalize (fnd xs k).1 = f1
        generalize (fnd xs k).2 = f2
        go_wp2_with (go_at_call 8; refine (HI.out 0).mono ?_; rintro e w6 ⟨rfl, q6, rfl⟩)
        go_roundw
        case rel => exact ⟨k + 1, by omega, by go_num, by rw [HF.out], by rw [HF.out], Below.next HB.out (below_drew _ _ _)⟩
        case measure => simp [intOf]; omega
      · have HF : Hid (fnd xs (k + 1) = fnd xs k) := by show fnd xs (k + 1) = _; rw [fnd, if_neg he]
        rw [show eqB (ofL (k : Int)) xs = false by simpa using he] at HI
        clear he hbr
        go_wp2_with (go_at_call 8; refine (HI.out 0).mono ?_; rintro e w6 ⟨rfl, q6, rfl⟩)
        go_roundw
        case rel => exact ⟨k + 1, by omega, by go_num, by rw [HF.out], by rw [HF.out], Below.next HB.out (below_drew _ _ _)⟩
        case measure => simp [intOf]; omega
    · have hk4 : k = 24 := by omega
      subst hk4
      clear hlt hk HC
      rw [show ((24 : Nat) : Int) = 24 from rfl, (fnd_end xs).1]
      have HB : Hid (Below w1.heap.size w1 wr) := hbr
      have hv := HX.out wr hbr
      obtain ⟨av, cv, rfl, _, _⟩ := hv
      have HV : Hid (SliceC wr (.slice av xs.length cv) xs) := HX.out wr hbr
      have HP : Hid _ := fun (_ : Nat) => way_parts wr av cv xs HV.out
      have HBk : Hid _ := fun (_ : Nat) => block_any wr _ xs HV.out
      clear hbr HV HX
      generalize xs.length = n at HP HBk ⊢
      generalize wayE xs = we at HP HBk ⊢
      generalize wayN xs = wn at HP HBk ⊢
      generalize (fnd xs 24).1 = f1 at HP HBk ⊢
      go_upto_if 51 with fail
      go_cut [8] (fun s8 wx => s8 = .int .i64 (we : Int) ∧ wr = wx)
      case first =>
        clear HBk
        rcases HP.out 0 with ⟨rfl, rfl⟩ | ⟨m, b, o, x, B, rfl, rfl, hc, hl, c0, ha, hw⟩
        · clear HP
          go_wp2_with fail
          go_meet
          case rel => exact ⟨rfl, rfl⟩
        · have HA : Hid (∀ (a : Option Addr) (u : Nat), (0 < m → a = some ⟨b, o + 1, none⟩ ∧ u = cv - 1) → Calls Tryd.prog 9 #[.slice a m u, .int .i64 0, .int .i64 3] wr fun e w' => e = .returned (.bool B) ∧ wr = w') := ha
          clear ha HP
          unfold maxLen at hl
          rcases hw with ⟨hx5, rfl, rfl⟩ | ⟨hx5, rfl, rfl⟩ | ⟨hx5, rfl⟩
          · have HIN : Hid _ := fun (_ : Nat) => in_yes x 0 5 wr hx5
            clear hx5
            by_cases hc1 : cv = 1
            · obtain rfl : m = 0 := by omega
              subst hc1
              go_wp2_with (first | (go_at_call 5; refine (HIN.out 0).mono ?_; rintro e w6 ⟨rfl, rfl⟩) | (go_at_call 9; refine (HA.out _ _ (fun h => absurd h (Nat.lt_irrefl 0))).mono ?_; rintro e w7 ⟨rfl, rfl⟩))
              go_meet
              case rel => exact ⟨rfl, rfl⟩
            · have hc2 : ¬ (cv : Int) = 1 := by omega
              go_wp2_with (first | (go_at_call 5; refine (HIN.out 0).mono ?_; rintro e w6 ⟨rfl, rfl⟩) | (go_at_call 9; refine (HA.out _ _ (fun _ => ⟨rfl, rfl⟩)).mono ?_; rintro e w7 ⟨rfl, rfl⟩))
              go_meet
              case rel => exact ⟨rfl, rfl⟩
          · have HIN : Hid _ := fun (_ : Nat) => in_yes x 0 5 wr hx5
            clear hx5
            by_cases hc1 : cv = 1
            · obtain rfl : m = 0 := by omega
              subst hc1
              go_wp2_with (first | (go_at_call 5; refine (HIN.out 0).mono ?_; rintro e w6 ⟨rfl, rfl⟩) | (go_at_call 9; refine (HA.out _ _ (fun h => absurd h (Nat.lt_irrefl 0))).mono ?_; rintro e w7 ⟨rfl, rfl⟩))
              go_meet
              case rel => exact ⟨rfl, rfl⟩
            · have hc2 : ¬ (cv : Int) = 1 := by omega
              go_wp2_with (first | (go_at_call 5; refine (HIN.out 0).mono ?_; rintro e w6 ⟨rfl, rfl⟩) | (go_at_call 9; refine (HA.out _ _ (fun _ => ⟨rfl, rfl⟩)).mono ?_; rintro e w7 ⟨rfl, rfl⟩))
              go_meet
              case rel => exact ⟨rfl, rfl⟩
          · have HIN : Hid _ := fun (_ : Nat) => in_no x 0 5 wr hx5
            clear hx5
            go_wp2_with (first | (go_at_call 5; refine (HIN.out 0).mono ?_; rintro e w6 ⟨rfl, rfl⟩))
            go_meet
            case rel => exact ⟨rfl, rfl⟩
      case rest =>
      obtain ⟨rfl, rfl⟩ := hcut
      clear HP
      go_wp2_with fail
      refine (HBk.out 0).mono ?_
      rintro e w6 ⟨rfl, q6, rfl⟩
      have hb6 : Below w1.heap.size w1 (wr.drewN q6) := Below.next HB.out (below_drew _ _ _)
      clear HB HBk
      generalize wr.drewN q6 = w6 at hb6 ⊢
      go_wp2_with fail
      refine (error_any _ _ _ (HL.out _ hb6)).mono ?_
      rintro e w7 ⟨rfl, hb7⟩
      rw [beq_self_eq_true]
      have HB7 : Hid (Below w1.heap.size w1 w7) := Below.next hb6 hb7
      clear hb6 hb7
      generalize errV we = E2
      go_wp2_with fail
      refine (in_any _ _ _ _).mono ?_
      rintro e w8 ⟨rfl, rfl⟩
      go_upto_if 77 with fail
      go_cut [8, 17] (fun s8 s17 wx => s8 = .int .i64 (tbE bl : Int) ∧ s17 = .int .i64 (tbN bl) ∧ w7 = wx)
      case first =>
        by_cases hi : 0 ≤ bl ∧ bl ≤ 24
        · have HE : Hid (tbE bl = 0) := tbE_yes hi
          obtain ⟨h1, h2⟩ := hi
          by_cases h3 : bl ≤ 4
          · have HN : Hid (tbN bl = 0) := tbN_none ⟨h1, h3⟩
            go_wp2_with fail
            go_meet
            case rel => exact ⟨by rw [HE.out]; rfl, by rw [HN.out], rfl⟩
          · by_cases h4 : bl ≤ 8
            · have HN : Hid (tbN bl = 1) := tbN_one ⟨by omega, h4⟩
              go_wp2_with fail
              go_meet
              case rel => exact ⟨by rw [HE.out]; rfl, by rw [HN.out], rfl⟩
            · have HN : Hid (tbN bl = 2 + (bl - 5) / 4) := tbN_more ⟨by omega, h2⟩
              go_wp2_with fail
              go_meet
              case rel => exact ⟨by rw [HE.out]; rfl, by rw [HN.out], rfl⟩
        · have HE : Hid (tbE bl = 1) := tbE_no hi
          have HN : Hid (tbN bl = 0) := tbN_no hi
          have hi2 : bl < 0 ∨ (0 ≤ bl ∧ 24 < bl) := by omega
          clear hi
          rcases hi2 with hi | ⟨hi, hj⟩
          · go_wp2_with fail
            go_meet
            case rel => exact ⟨by rw [HE.out]; rfl, by rw [HN.out], rfl⟩
          · go_wp2_with fail
            go_meet
            case rel => exact ⟨by rw [HE.out]; rfl, by rw [HN.out], rfl⟩
      case rest =>
      obtain ⟨rfl, rfl, rfl⟩ := hcut
      have HT : Hid _ := fun (_ : Nat) => tables_any bl w7
      go_wp2_with fail
      refine (HT.out 0).mono ?_
      rintro e w8 ⟨rfl, rfl⟩
      have HER : Hid _ := fun (_ : Nat) => error_any (tbE bl) (tbE bl : Int) w7 (HL.out _ HB7.out)
      rw [beq_self_eq_true] at HER
      clear HT
      generalize errV (tbE bl) = E3 at HER ⊢
      generalize ((tbE bl : Nat) : Int) = e3 at HER ⊢
      generalize tbN bl = n3
      go_wp2_with (go_at_call 7; refine (HER.out 0).mono ?_; rintro e w9 ⟨rfl, hb9⟩)
      go_ret
      exact ⟨rfl, Below.next HB0.out (Below.next HB7.out hb9)⟩

end Go.Proofs.YteapobmmfjpblaaDoor
