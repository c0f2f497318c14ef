/- This text proves what ranges.isAgainst answers: whether one of an owner's places stands against a lock; old memory is as it was; the condition: the lock's places are some of the owner's. -/
import Derived.Test.YtigoacnbbichoaaDoorL2
namespace Go.Proofs.YtigoacnbbichoaaDoor
open Go.RowKit Go.Deep

theorem bad_two {s : Nat} (h : s = 2) (a : Bool) : bad s a = true := by subst h; rfl
theorem bad_one {s : Nat} (h : s = 1) : bad s true = true := by subst h; rfl
theorem bad_no {s : Nat} {a : Bool} (h : s ≠ 2) (h1 : s = 1 → a = false) : bad s a = false := by
  unfold bad
  by_cases e : s = 1
  · rw [h1 e, e]; rfl
  · simp [h, e]

theorem size_state : (Tryd.prog.info? 47).map (·.size) = some 1 := by kernel_rfl
theorem size_run {t : TypeId} {n : Nat} (h : (Tryd.prog.info? t).map (·.size) = some n) (W : World) : (sizeOf t).run Tryd.prog W = .ok n W := by
  cases hq : Tryd.prog.info? t with
  | none => simp [hq] at h
  | some i =>
    simp [hq] at h
    simp [sizeOf, typeInfo, hq, h]

/-- A part of a row, as a slice. -/
theorem slice_row (b f z : Nat) (hz : 1 ≤ z) (hfz : f + z ≤ 64) (W : World) :
    (Instr.sliceAt 49 (.pointer (some ⟨b, 0, none⟩)) (some (.int .i64 (f : Int))) (some (.int .i64 ((f : Int) + (z : Int)))) none).run Tryd.prog W = .ok (.slice (some ⟨b, f, none⟩) z (64 - f)) W := by
  have hu : (underlying 49).run Tryd.prog W = .ok (.array 64 47) W := run_underlying Tryd.underlying49 W
  have hs := size_run size_state W
  have h1 : (0 : Int) ≤ (f : Int) + (z : Int) ∧ (f : Int) + (z : Int) ≤ ((64 : Nat) : Int) := by omega
  have e1 : ((f : Int) + (z : Int)).toNat = f + z := by omega
  have h2 : (0 : Int) ≤ (f : Int) ∧ (f : Int) ≤ ((f + z : Nat) : Int) := by omega
  have e2 : (f + z) - f = z := by omega
  have h3 : ¬ 64 = f := by omega
  unfold Instr.sliceAt
  rw [Sem.run_bind, hu]
  simp only [Result.andThen_ok, Instr.sureAddr, Instr.sliceBounds, Instr.sliceBound, asIntOf, Sem.run_bind, Sem.run_pure, if_pos h1, e1, if_pos h2, Int.toNat_natCast, hs, Nat.mul_one, if_neg h3, addr_at, e2]

set_option maxHeartbeats 4000000 in
set_option maxRecDepth 100000 in
theorem against_any (R : Nat → Nat) (o : Int) (f z : Nat) (a : Bool) (w : World) (hz : 1 ≤ z) (hfz : f + z ≤ 64) :
    Calls Tryd.prog 24 #[.agg (celN R 64), lkV o (f : Int) (z : Int) a] w fun e w' => e = .returned (.bool (ag R a f z)) ∧ Below w.heap.size w w' := by
  have HC : Hid (∀ i, i < 64 → (celN R 64)[i]? = some (.int .i64 (R i : Int))) := fun i hi => celN_get hi
  generalize celN R 64 = C at HC
  unfold lkV
  have hf1 : (f : Int) + (z : Int) ≤ 64 := by omega
  have hsl := slice_row w.heap.size f z hz hfz
  go_enter Tryd.func24, Tryd.ntmps24
  go_wp2
  obtain ⟨W, hW⟩ : ∃ W, W = (w.alloc (.cells C 49)).alloc (.cells #[.int .i64 o, .int .i64 (f : Int), .int .i64 (z : Int), .bool a] 29) := ⟨_, rfl⟩
  rw [← hW]
  have HW : Hid (∀ i, i < 64 → W.cell? ⟨w.heap.size, i, none⟩ = some (.int .i64 (R i : Int))) := fun i hi => by rw [hW, World.cell?_alloc2_first]; exact HC.out i hi
  have ha : W.cell? ⟨w.heap.size + 1, 3, none⟩ = some (.bool a) := by rw [hW, World.cell?_alloc2_new]; rfl
  have HB : Hid (Below w.heap.size w W) := by rw [hW]; exact Below.next (below_one _ _) (below_one _ _)
  clear hW hsl
  go_loopw [6, 16] (fun _ i wr => ∃ k : Nat, k ≤ z ∧ i = .int .i64 k ∧ ag R a f k = false ∧ wr = W) (fun _ i _ => z - (intOf i).toNat)
  case atStart => exact ⟨0, Nat.zero_le _, rfl, rfl, rfl⟩
  case round =>
    obtain ⟨k, hk, rfl, hag, rfl⟩ := hrel
    have HG : Hid (ag R a f k = false) := hag
    clear hag
    by_cases hlt : k < z
    · have hlt' : (k : Int) < (z : Int) := by omega
      have hc := HW.out (f + k) (by omega)
      have HS : Hid (∀ b, bad (R (f + k)) a = b → (b = true → ag R a f z = true) ∧ (b = false → ag R a f (k + 1) = false)) := fun b hb => ⟨fun e => ag_found hlt (hb.trans e), fun e => ag_step HG.out (hb.trans e)⟩
      generalize R (f + k) = s at hc HS
      by_cases h2 : s = 2
      · subst h2
        have hc : wr.cell? ⟨w.heap.size, f + k, none⟩ = some (.int .i64 2) := hc
        go_wp2
        go_ret
        exact ⟨by rw [(HS.out true rfl).1 rfl]; rfl, HB.out⟩
      · have hb2 : ((s : Int) == 2) = false := by simp; omega
        by_cases h1 : s = 1
        · subst h1
          have hc : wr.cell? ⟨w.heap.size, f + k, none⟩ = some (.int .i64 1) := hc
          clear hb2
          cases a
          · go_wp2
            go_roundw
            case rel => exact ⟨k + 1, by omega, by go_num, (HS.out false rfl).2 rfl, by simp⟩
            case measure => simp [intOf]; omega
          · go_wp2
            go_ret
            exact ⟨by rw [(HS.out true rfl).1 rfl]; rfl, HB.out⟩
        · have hb1 : ((s : Int) == 1) = false := by simp; omega
          have HN : Hid (bad s a = false) := bad_no h2 (fun e => absurd e h1)
          clear h1 h2
          go_wp2
          go_roundw
          case rel => exact ⟨k + 1, by omega, by go_num, (HS.out false HN.out).2 rfl, by simp⟩
          case measure => simp [intOf]; omega
    · have hkz : k = z := by omega
      subst hkz
      go_wp2
      go_ret
      exact ⟨by rw [HG.out]; rfl, HB.out⟩

end Go.Proofs.YtigoacnbbichoaaDoor
