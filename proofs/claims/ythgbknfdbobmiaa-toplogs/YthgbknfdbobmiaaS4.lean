/- This text proves what End and Crash of package shadow tell and store; nothing is turned but the disk's block; the condition is that the disk lies there. -/
import Derived.Test.YthgbknfdbobmiaaS3
namespace Go.Proofs.Ythgbknfdbobmiaa
open Go.RowKit Go.Deep

/-- A whole table is stored. -/
theorem ShaM.set8 {w : World} {base g : Nat} {C : Nat → Int} (h : ShaM w base g C) (z : Nat) (q0 q1 q2 q3 q4 q5 q6 q7 : Int) {D : Nat → Int} (hd : GoodS D)
    (e : ∀ i, i < 32 → putI (putI (putI (putI (putI (putI (putI (putI C z q0) (z + 1) q1) (z + 2) q2) (z + 3) q3) (z + 4) q4) (z + 5) q5) (z + 6) q6) (z + 7) q7 i = D i) :
    TurnS w ((((((((w.setCell ⟨g, z, none⟩ (.int .i64 q0)).setCell ⟨g, z + 1, none⟩ (.int .i64 q1)).setCell ⟨g, z + 2, none⟩ (.int .i64 q2)).setCell ⟨g, z + 3, none⟩ (.int .i64 q3)).setCell ⟨g, z + 4, none⟩ (.int .i64 q4)).setCell ⟨g, z + 5, none⟩ (.int .i64 q5)).setCell ⟨g, z + 6, none⟩ (.int .i64 q6)).setCell ⟨g, z + 7, none⟩ (.int .i64 q7)) base g D := by
  refine ⟨⟨?_, hd, h.low⟩, ?_⟩
  · rw [sha_set (sha_set (sha_set (sha_set (sha_set (sha_set (sha_set (sha_set h.cells z q0) (z + 1) q1) (z + 2) q2) (z + 3) q3) (z + 4) q4) (z + 5) q5) (z + 6) q6) (z + 7) q7, celI_same e]
  · exact (((((((Stay.set (S := fun x => x = g) _ _ rfl).trans (Stay.set _ _ rfl)).trans (Stay.set _ _ rfl)).trans (Stay.set _ _ rfl)).trans (Stay.set _ _ rfl)).trans (Stay.set _ _ rfl)).trans (Stay.set _ _ rfl)).trans (Stay.set _ _ rfl)

theorem crash_puts (C : Nat → Int) (i : Nat) (hi : i < 32) : putI (putI (putI (putI (putI (putI (putI (putI C 24 (C 16)) 25 (C 17)) 26 (C 18)) 27 (C 19)) 28 (C 20)) 29 (C 21)) 30 (C 22)) 31 (C 23) i = crS C i := by
  unfold putI crS
  by_cases h : i < 24
  · rw [if_neg (by omega), if_neg (by omega), if_neg (by omega), if_neg (by omega), if_neg (by omega), if_neg (by omega), if_neg (by omega), if_neg (by omega), if_neg (by omega)]
  · rcases (show i = 24 ∨ i = 25 ∨ i = 26 ∨ i = 27 ∨ i = 28 ∨ i = 29 ∨ i = 30 ∨ i = 31 by omega) with rfl | rfl | rfl | rfl | rfl | rfl | rfl | rfl <;> rfl
theorem end_puts (C : Nat → Int) (i : Nat) (hi : i < 32) : putI (putI (putI (putI (putI (putI (putI (putI C 16 (C 24)) 17 (C 25)) 18 (C 26)) 19 (C 27)) 20 (C 28)) 21 (C 29)) 22 (C 30)) 23 (C 31) i = endS C i := by
  unfold putI endS
  by_cases h : 16 ≤ i ∧ i < 24
  · rcases (show i = 16 ∨ i = 17 ∨ i = 18 ∨ i = 19 ∨ i = 20 ∨ i = 21 ∨ i = 22 ∨ i = 23 by omega) with rfl | rfl | rfl | rfl | rfl | rfl | rfl | rfl <;> rfl
  · rw [if_neg (by omega), if_neg (by omega), if_neg (by omega), if_neg (by omega), if_neg (by omega), if_neg (by omega), if_neg (by omega), if_neg (by omega), if_neg h]

set_option maxHeartbeats 4000000 in
set_option maxRecDepth 100000 in
theorem crashS_any (w : World) (base g : Nat) (C : Nat → Int) (h : ShaM w base g C) :
    Calls Try.prog 12 #[ptrS g] w fun e w' => e = .returned (.tuple #[]) ∧ TurnS w w' base g (crS C) := by
  have HT : Hid _ := h.set8 24 (C 16) (C 17) (C 18) (C 19) (C 20) (C 21) (C 22) (C 23) h.good.crash (crash_puts C)
  obtain ⟨c0, c1, c2, c3, c4, c5, c6, c7⟩ := h.tabs 16 (by decide)
  obtain ⟨d0, d1, d2, d3, d4, d5, d6, d7⟩ := h.tabs 24 (by decide)
  simp only [Nat.add_zero, Nat.reduceAdd] at c0 c1 c2 c3 c4 c5 c6 c7 d0 d1 d2 d3 d4 d5 d6 d7
  have f0 := h.free 24
  have f1 := h.free 25
  have f2 := h.free 26
  have f3 := h.free 27
  have f4 := h.free 28
  have f5 := h.free 29
  have f6 := h.free 30
  have f7 := h.free 31
  clear h
  unfold ptrS at *
  go_enter Try.func12, Try.ntmps12
  go_wp2
  go_end0
  exact ⟨rfl, HT.out⟩

theorem tb_at (F : Nat → Int) (k : Nat) (W : World) (h : k < 8) :
    (Instr.index 52 (Value.agg #[.int .i64 (F 0), .int .i64 (F 1), .int .i64 (F 2), .int .i64 (F 3), .int .i64 (F 4), .int .i64 (F 5), .int .i64 (F 6), .int .i64 (F 7)]) (.int .i64 (k : Int))).run Try.prog W = .ok (.int .i64 (F k)) W := by
  rcases (show k = 0 ∨ k = 1 ∨ k = 2 ∨ k = 3 ∨ k = 4 ∨ k = 5 ∨ k = 6 ∨ k = 7 by omega) with rfl | rfl | rfl | rfl | rfl | rfl | rfl | rfl <;> rfl

set_option maxHeartbeats 4000000 in
set_option maxRecDepth 100000 in
theorem endS_any (w : World) (base g : Nat) (C : Nat → Int) (h : ShaM w base g C) :
    Calls Try.prog 13 #[ptrS g] w fun e w' => e = .returned (.int .i64 (cnS C 8 : Int)) ∧ TurnS w w' base g (endS C) := by
  have HT : Hid _ := h.set8 16 (C 24) (C 25) (C 26) (C 27) (C 28) (C 29) (C 30) (C 31) h.good.end' (end_puts C)
  have HO : Hid (∀ k, k < 8 → w.cell? ⟨g, 16 + k, none⟩ = some (.int .i64 (C (16 + k)))) := fun k hk => h.cell (by omega)
  have HA : Hid _ := tb_at (fun i => C (24 + i))
  have HX : Hid _ := h.tabs 16 (by decide)
  obtain ⟨c0, c1, c2, c3, c4, c5, c6, c7⟩ := h.tabs 24 (by decide)
  simp only [Nat.add_zero, Nat.reduceAdd] at c0 c1 c2 c3 c4 c5 c6 c7 HA
  have f0 := h.free 16
  have f1 := h.free 17
  have f2 := h.free 18
  have f3 := h.free 19
  have f4 := h.free 20
  have f5 := h.free 21
  have f6 := h.free 22
  have f7 := h.free 23
  clear h
  unfold ptrS at *
  go_enter Try.func13, Try.ntmps13
  go_wp2
  go_loop [3, 4, 5, 10] (fun n _ _ i => ∃ k : Nat, k ≤ 8 ∧ i = .int .i64 (k : Int) ∧ n = .int .i64 (cnS C k : Int)) (fun _ _ _ i => 8 - (Go.RowKit.intOf i).toNat)
  case atStart => exact ⟨0, by omega, rfl, rfl⟩
  case round =>
    obtain ⟨k, hk, rfl, rfl⟩ := hrel
    by_cases hlt : k < 8
    · have hx := HA.out k w hlt
      have ho := HO.out k hlt
      have hle := cnS_le C k
      by_cases he : C (24 + k) = C (16 + k)
      · have HC : Hid (cnS C (k + 1) = cnS C k) := by show _ = _; rw [cnS, if_pos he]; rfl
        rw [he] at hx
        have hne : (C (16 + k) != C (16 + k)) = false := by simp
        generalize C (16 + k) = y at hx ho hne
        generalize cnS C k = c at hle HC
        clear he
        go_wp2
        go_round
        case rel => exact ⟨k + 1, by omega, by go_num, by rw [HC.out]⟩
        case measure => simp [Go.RowKit.intOf]; omega
      · have HC : Hid (cnS C (k + 1) = cnS C k + 1) := by show _ = _; rw [cnS, if_neg he]
        have hne : (C (24 + k) != C (16 + k)) = true := by simp [he]
        generalize C (16 + k) = y at ho hne
        generalize C (24 + k) = z at hx hne
        generalize cnS C k = c at hle HC
        clear he
        go_wp2
        go_round
        case rel => exact ⟨k + 1, by omega, by go_num, by rw [HC.out]; go_num⟩
        case measure => simp [Go.RowKit.intOf]; omega
    · obtain rfl : k = 8 := by omega
      obtain ⟨d0, d1, d2, d3, d4, d5, d6, d7⟩ := HX.out
      simp only [Nat.add_zero, Nat.reduceAdd] at d0 d1 d2 d3 d4 d5 d6 d7
      go_wp2
      go_ret
      exact ⟨rfl, HT.out⟩

end Go.Proofs.Ythgbknfdbobmiaa
