/- This text proves what the library's Index and Contains, and has of package shadow, tell of eight numbers, and what leastFree tells of a disk; nothing is turned; the condition is that the numbers lie there, and that the tables say the same of some page. -/
import Derived.Test.YthgbknfdbobmiaaS1
import Derived.BigQuiet
namespace Go.Proofs.Ythgbknfdbobmiaa
open Go.RowKit Go.Deep

/-- Is a number among eight? -/
def hasF (F : Nat → Int) (x : Int) : Bool := (List.range 8).any fun i => F i == x
theorem hasF_yes {F : Nat → Int} {x : Int} {k : Nat} (hk : k < 8) (h : F k = x) : hasF F x = true := by
  unfold hasF
  rw [List.any_eq_true]
  exact ⟨k, List.mem_range.2 hk, by simp [h]⟩
theorem hasF_no {F : Nat → Int} {x : Int} (h : ∀ j, j < 8 → F j ≠ x) : hasF F x = false := by
  unfold hasF
  rw [List.any_eq_false]
  intro i hi
  simp [h i (List.mem_range.1 hi)]

set_option maxHeartbeats 2000000 in
theorem index_any (w : World) (B : Nat) (F : Nat → Int) (h : VlI w B F) (x : Int) :
    Calls Try.prog 44 #[.slice (some ⟨B, 0, none⟩) 8 8, .int .i64 x] w fun e w' => ∃ i : Int, e = .returned (.int .i64 i) ∧ decide (0 ≤ i) = hasF F x ∧ w = w' := by
  have HC : Hid (∀ k, k < 8 → w.cell? ⟨B, k, none⟩ = some (.int .i64 (F k))) := fun k hk => h.cell hk
  clear h
  go_enter Try.func44, Try.ntmps44
  go_wp2
  go_loop [5, 8] (fun _ i => ∃ k : Nat, k ≤ 8 ∧ i = .int .i64 (k : Int) ∧ ∀ j, j < k → F j ≠ x) (fun _ i => 8 - (Go.RowKit.intOf i).toNat)
  case atStart => exact ⟨0, Nat.zero_le _, rfl, fun j hj => absurd hj (Nat.not_lt_zero _)⟩
  case round =>
    obtain ⟨k, hk, rfl, hall⟩ := hrel
    have HA : Hid (∀ j, j < k → F j ≠ x) := hall
    clear hall
    by_cases hlt : k < 8
    · have hck := HC.out k hlt
      by_cases hi : F k = x
      · have HI : Hid (F k = x) := hi
        rw [hi] at hck
        clear hi
        go_wp2
        go_ret
        exact ⟨_, rfl, by rw [hasF_yes hlt HI.out]; simp, rfl⟩
      · have HI : Hid (F k ≠ x) := hi
        have hne : (x == F k) = false := by simp; exact fun e => hi e.symm
        generalize F k = y at hck hne
        clear hi
        go_wp2
        go_round
        case rel =>
          refine ⟨k + 1, by omega, by go_num, fun j hj => ?_⟩
          by_cases e : j = k
          · subst e; exact HI.out
          · exact HA.out j (by omega)
        case measure => simp [Go.RowKit.intOf]; omega
    · have hkn : k = 8 := by omega
      subst hkn
      go_wp2
      go_ret
      exact ⟨_, rfl, by rw [hasF_no HA.out]; rfl, rfl⟩

set_option maxHeartbeats 1000000 in
theorem contains_any (w : World) (B : Nat) (F : Nat → Int) (h : VlI w B F) (x : Int) :
    Calls Try.prog 42 #[.slice (some ⟨B, 0, none⟩) 8 8, .int .i64 x] w fun e w' => e = .returned (.bool (hasF F x)) ∧ w = w' := by
  have HK : Hid _ := fun (_ : Nat) => index_any w B F h x
  clear h
  go_enter Try.func42, Try.ntmps42
  go_wp2_with (go_at_call 44; refine (HK.out 0).mono ?_; rintro e w' ⟨i, rfl, hi, rfl⟩)
  go_ret
  exact ⟨by rw [← hi]; rfl, rfl⟩

/-- Eight numbers, as a value. -/
def tbV (F : Nat → Int) : Value := .agg #[.int .i64 (F 0), .int .i64 (F 1), .int .i64 (F 2), .int .i64 (F 3), .int .i64 (F 4), .int .i64 (F 5), .int .i64 (F 6), .int .i64 (F 7)]

set_option maxHeartbeats 1000000 in
theorem has_any (w : World) (F : Nat → Int) (x : Int) :
    Calls Try.prog 37 #[tbV F, .int .i64 x] w fun e w' => e = .returned (.bool (hasF F x)) ∧ Below w.heap.size w w' := by
  have HK : Hid (∀ q0 q1 q2 q3 q4 q5 q6 q7, q0 = F 0 → q1 = F 1 → q2 = F 2 → q3 = F 3 → q4 = F 4 → q5 = F 5 → q6 = F 6 → q7 = F 7 →
      Calls Try.prog 42 #[.slice (some ⟨w.heap.size, 0, none⟩) 8 8, .int .i64 x] (w.alloc (.cells #[.int .i64 q0, .int .i64 q1, .int .i64 q2, .int .i64 q3, .int .i64 q4, .int .i64 q5, .int .i64 q6, .int .i64 q7] 52)) fun e w' => e = .returned (.bool (hasF F x)) ∧ (w.alloc (.cells #[.int .i64 q0, .int .i64 q1, .int .i64 q2, .int .i64 q3, .int .i64 q4, .int .i64 q5, .int .i64 q6, .int .i64 q7] 52)) = w') := by
    rintro _ _ _ _ _ _ _ _ rfl rfl rfl rfl rfl rfl rfl rfl
    refine contains_any _ _ F ⟨52, ?_⟩ x
    rw [celI8]
    exact blk_alloc_new _ _
  unfold tbV
  go_enter Try.func37, Try.ntmps37
  go_wp2_with (go_at_call 42; refine (HK.out _ _ _ _ _ _ _ _ rfl rfl rfl rfl rfl rfl rfl rfl).mono ?_; rintro e w' ⟨rfl, rfl⟩)
  go_ret
  exact ⟨rfl, below_one _ _⟩

theorem ShaM.tabs {w : World} {base g : Nat} {C : Nat → Int} (h : ShaM w base g C) (z : Nat) (hz : z ≤ 24) :
    w.cell? ⟨g, z, none⟩ = some (.int .i64 (C (z + 0))) ∧ w.cell? ⟨g, z + 1, none⟩ = some (.int .i64 (C (z + 1))) ∧ w.cell? ⟨g, z + 2, none⟩ = some (.int .i64 (C (z + 2))) ∧ w.cell? ⟨g, z + 3, none⟩ = some (.int .i64 (C (z + 3))) ∧
    w.cell? ⟨g, z + 4, none⟩ = some (.int .i64 (C (z + 4))) ∧ w.cell? ⟨g, z + 5, none⟩ = some (.int .i64 (C (z + 5))) ∧ w.cell? ⟨g, z + 6, none⟩ = some (.int .i64 (C (z + 6))) ∧ w.cell? ⟨g, z + 7, none⟩ = some (.int .i64 (C (z + 7))) :=
  ⟨h.cell (i := z) (by omega), h.cell (by omega), h.cell (by omega), h.cell (by omega), h.cell (by omega), h.cell (by omega), h.cell (by omega), h.cell (by omega)⟩

set_option maxHeartbeats 4000000 in
set_option maxRecDepth 100000 in
theorem least_any (w : World) (base g : Nat) (C : Nat → Int) (h : ShaM w base g C) (p : Nat) (hp : p < 8) (he : C (24 + p) = C (16 + p)) :
    Calls Try.prog 27 #[ptrS g] w fun e w' => e = .returned (.int .i64 (lfS C : Int)) ∧ Below w.heap.size w w' := by
  obtain ⟨hl, hno, hyes⟩ := lfS_some hp he
  obtain ⟨m, hm⟩ : ∃ m, lfS C = m := ⟨_, rfl⟩
  rw [hm] at hl hno hyes ⊢
  have HM : Hid (∀ wr, Below w.heap.size w wr → ShaM wr base g C) := fun wr hb => h.later hb
  have HN : Hid (namS C m = false) := hno
  have HY : Hid (∀ j, j < m → namS C j = true) := hyes
  have HH : Hid _ := fun (wr : World) (z : Nat) (x : Int) => has_any wr (fun i => C (z + i)) x
  have HX : Hid (∀ wr, Below w.heap.size w wr → wr.cell? ⟨g, 16, none⟩ = some (.int .i64 (C 16)) ∧ wr.cell? ⟨g, 17, none⟩ = some (.int .i64 (C 17)) ∧ wr.cell? ⟨g, 18, none⟩ = some (.int .i64 (C 18)) ∧ wr.cell? ⟨g, 19, none⟩ = some (.int .i64 (C 19)) ∧
      wr.cell? ⟨g, 20, none⟩ = some (.int .i64 (C 20)) ∧ wr.cell? ⟨g, 21, none⟩ = some (.int .i64 (C 21)) ∧ wr.cell? ⟨g, 22, none⟩ = some (.int .i64 (C 22)) ∧ wr.cell? ⟨g, 23, none⟩ = some (.int .i64 (C 23))) := fun wr hb => (h.later hb).tabs 16 (by decide)
  clear h hno hyes hm he hp p
  unfold ptrS
  go_enter Try.func27, Try.ntmps27
  go_wp2
  go_loopw [3] (fun i wr => ∃ k : Nat, k ≤ m ∧ i = .int .i64 (k : Int) ∧ Below w.heap.size w wr) (fun i _ => m - (Go.RowKit.intOf i).toNat)
  case atStart => exact ⟨0, Nat.zero_le _, rfl, Below.refl _ _⟩
  case round =>
    obtain ⟨k, hk, rfl, hb⟩ := hrel
    have HB : Hid (Below w.heap.size w wr) := hb
    obtain ⟨c0, c1, c2, c3, c4, c5, c6, c7⟩ := (HM.out wr hb).tabs 24 (by decide)
    simp only [Nat.add_zero, Nat.reduceAdd] at c0 c1 c2 c3 c4 c5 c6 c7
    obtain ⟨d0, d1, d2, d3, d4, d5, d6, d7⟩ := HX.out wr HB.out
    cases hn : hasF (fun i => C (24 + i)) (k : Int) with
    | true =>
      have hkm : k ≠ m := fun e => by
        subst e
        have := HN.out
        unfold namS at this
        rw [Bool.or_eq_false_iff] at this
        rw [show hasF (fun i => C (24 + i)) (k : Int) = inT C 24 (k : Int) from rfl, this.1] at hn
        cases hn
      have HV : Hid (hasF (fun i => C (24 + i)) (k : Int) = true) := hn
      clear hb hn
      go_wp2_with (go_at_call 37; refine (HH.out _ 24 (k : Int)).mono ?_; rintro e w' ⟨rfl, hb⟩; rw [HV.out]; have HB2 : Hid _ := Below.next HB.out hb; clear hb)
      go_roundw
      case rel => exact ⟨k + 1, by omega, by go_num, HB2.out⟩
      case measure => simp [Go.RowKit.intOf]; omega
    | false =>
      cases ho : hasF (fun i => C (16 + i)) (k : Int) with
      | true =>
        have hkm : k ≠ m := fun e => by
          subst e
          have := HN.out
          unfold namS at this
          rw [Bool.or_eq_false_iff] at this
          rw [show hasF (fun i => C (16 + i)) (k : Int) = inT C 16 (k : Int) from rfl, this.2] at ho
          cases ho
        have HV : Hid (hasF (fun i => C (24 + i)) (k : Int) = false) := hn
        have HW : Hid (hasF (fun i => C (16 + i)) (k : Int) = true) := ho
        clear hb hn ho
        go_wp2_with fail
        refine (HH.out _ 24 (k : Int)).mono ?_
        rintro e w2 ⟨rfl, hb⟩
        rw [HV.out]
        have HB2 : Hid _ := Below.next HB.out hb
        clear hb c0 c1 c2 c3 c4 c5 c6 c7 d0 d1 d2 d3 d4 d5 d6 d7
        obtain ⟨d0, d1, d2, d3, d4, d5, d6, d7⟩ := HX.out w2 HB2.out
        go_wp2_with fail
        refine (HH.out _ 16 (k : Int)).mono ?_
        rintro e w3 ⟨rfl, hb⟩
        rw [HW.out]
        have HB3 : Hid _ := Below.next HB2.out hb
        clear hb
        go_wp2
        go_roundw
        case rel => exact ⟨k + 1, by omega, by go_num, HB3.out⟩
        case measure => simp [Go.RowKit.intOf]; omega
      | false =>
        have hkm : k = m := by
          refine Classical.byContradiction fun e => ?_
          have := HY.out k (by omega)
          unfold namS at this
          rw [show inT C 24 (k : Int) = hasF (fun i => C (24 + i)) (k : Int) from rfl, show inT C 16 (k : Int) = hasF (fun i => C (16 + i)) (k : Int) from rfl, hn, ho] at this
          cases this
        have HV : Hid (hasF (fun i => C (24 + i)) (k : Int) = false) := hn
        have HW : Hid (hasF (fun i => C (16 + i)) (k : Int) = false) := ho
        clear hb hn ho
        subst hkm
        go_wp2_with fail
        refine (HH.out _ 24 (k : Int)).mono ?_
        rintro e w2 ⟨rfl, hb⟩
        rw [HV.out]
        have HB2 : Hid _ := Below.next HB.out hb
        clear hb c0 c1 c2 c3 c4 c5 c6 c7 d0 d1 d2 d3 d4 d5 d6 d7
        obtain ⟨d0, d1, d2, d3, d4, d5, d6, d7⟩ := HX.out w2 HB2.out
        go_wp2_with fail
        refine (HH.out _ 16 (k : Int)).mono ?_
        rintro e w3 ⟨rfl, hb⟩
        rw [HW.out]
        have HB3 : Hid _ := Below.next HB2.out hb
        clear hb
        go_wp2
        go_ret
        exact ⟨rfl, HB3.out⟩

end Go.Proofs.Ythgbknfdbobmiaa
