/- This text proves what Write of package undo tells, and what the disk is behind it; nothing is turned but the disk's block and its notes'; the condition is that the disk lies there. -/
import Derived.Test.YthgbknfdbobmiaaW3
import Derived.Deep.AppendLies
import Derived.Deep.RegionWith
namespace Go.Proofs.Ythgbknfdbobmiaa
open Go.RowKit Go.Deep

theorem Try.info69 : (Try.prog.info? 69).map (fun i => (i.zero, i.size, i.bytes)) = some (some (.agg #[.int .i64 0, .int .i64 0, .int .i64 0]), 3, 24) := by kernel_rfl

theorem noteu_mem {w W w5 : World} {base g g2 cap n : Nat} {v : Value} {d : Ud} (h : UndoM w base g v d) (hb : Below w.heap.size w W) (r : Nt) (hn : d.L.length = n)
    (ho : w5.ownsRow base 69 3 (.slice (some ⟨g2, 0, none⟩) (n + 1) cap) (n + 1) (ntc d.L ++ [.int .i64 (r.t : Int), .int .i64 (r.b : Int), .int .i64 (r.w : Int)])) (hgr : W.grownBy w5 v.ownBlock) (hat : v.ownBlock = some g2 ∨ g2 = W.heap.size)
    (hf : GoodU ⟨d.H, d.L ++ [r]⟩) :
    (w5.cell? ⟨g, 8, none⟩ = some v ∧ w5.frozen? ⟨g, 8, none⟩ = false) ∧ Turn w (w5.setCell ⟨g, 8, none⟩ (.slice (some ⟨g2, 0, none⟩) (n + 1) cap)) base g v (.slice (some ⟨g2, 0, none⟩) (n + 1) cap) ⟨d.H, d.L ++ [r]⟩ ∧
      ∀ q, q < W.heap.size → ¬ Up g v q → (w5.setCell ⟨g, 8, none⟩ (.slice (some ⟨g2, 0, none⟩) (n + 1) cap)).heap[q]? = W.heap[q]? := by
  have hg : g < W.heap.size := Nat.lt_of_lt_of_le h.lt hb.size
  have hap : some g ≠ v.ownBlock := fun e => h.ap e.symm
  have hW := h.later hb
  have e5 : w5.heap[g]? = W.heap[g]? := hgr.block g hg hap
  have hc : w5.heap[g]? = some (.cells (udC d v) 62 (0, 0)) := e5.trans hW.cells
  have hg2 : g2 ≠ g := by
    rintro rfl
    rcases hat with e | e
    · exact h.ap e
    · omega
  have hst : ∀ q, q < W.heap.size → ¬ Up g v q → (w5.setCell ⟨g, 8, none⟩ (.slice (some ⟨g2, 0, none⟩) (n + 1) cap)).heap[q]? = W.heap[q]? := fun x hx hS => by
    rw [Below.heap_setCell w5 ⟨g, 8, none⟩ _ x (fun e => hS (.inl e))]
    exact hgr.block x hx (fun e => hS (.inr e.symm))
  have ho2 : w5.ownsRow base 69 3 (.slice (some ⟨g2, 0, none⟩) (n + 1) cap) (d.L ++ [r]).length (ntc (d.L ++ [r])) := by
    rw [ntc_snoc] at ho
    have h2 : (d.L ++ [r]).length = n + 1 := by rw [List.length_append, hn]; rfl
    rw [h2]
    exact ho
  refine ⟨⟨(cell_in hc 8).1.trans (udC_log d v), (cell_in hc 8).2⟩, ⟨UndoM.notes hc h.low ho2 (fun e => hg2 (Option.some.inj e)) hf, ?_, ?_⟩, hst⟩
  · exact (Stay.of hb).trans ⟨hgr.os, hgr.tape, hgr.output, by have := hgr.size; simpa [World.setCell] using this, hst⟩
  · intro x e
    have e2 : g2 = x := Option.some.inj e
    subst e2
    rcases hat with e | e
    · exact .inl e
    · exact .inr (by have := hb.size; omega)

theorem wr_bad {L : List Nt} {t b v : Int} (h : ¬ ((0 ≤ t ∧ t < 20) ∧ (0 ≤ b ∧ b < 8) ∧ 0 ≤ v ∧ v ≤ 1000)) : wrE L t b v = 1 := if_neg fun k => h (okP_iff.1 k)

set_option maxHeartbeats 4000000 in
set_option maxRecDepth 100000 in
theorem write_bad (w : World) (g : Nat) (t b x : Int) (hbad : ¬ ((0 ≤ t ∧ t < 20) ∧ (0 ≤ b ∧ b < 8) ∧ 0 ≤ x ∧ x ≤ 1000)) :
    Calls Try.prog 20 #[ptrU g, .agg #[.int .i64 t, .int .i64 b, .int .i64 x]] w fun e w' => e = .returned (errV 1) ∧ Below w.heap.size w w' := by
  have HB1 : Hid (Below w.heap.size w (w.alloc (.cells #[.int .i64 t, .int .i64 b, .int .i64 x] 46))) := below_one _ _
  have HT : Hid _ := fun (w2 : World) => turn_any w2 t
  unfold ptrU
  by_cases h1 : 0 ≤ t ∧ t < 20
  · have e1 : decide (0 ≤ t ∧ t < 20) = true := by simp [h1]
    rw [e1] at HT
    by_cases h2 : b < 0
    · clear hbad h1 e1
      go_enter Try.func20, Try.ntmps20
      go_wp2_with (go_at_call 30; refine (HT.out _).mono ?_; rintro e w2 ⟨rfl, rfl⟩)
      go_ret
      exact ⟨rfl, HB1.out⟩
    · by_cases h3 : 8 ≤ b
      · clear hbad h1 e1
        go_enter Try.func20, Try.ntmps20
        go_wp2_with (go_at_call 30; refine (HT.out _).mono ?_; rintro e w2 ⟨rfl, rfl⟩)
        go_ret
        exact ⟨rfl, HB1.out⟩
      · by_cases h4 : x < 0
        · clear hbad h1 e1
          go_enter Try.func20, Try.ntmps20
          go_wp2_with (go_at_call 30; refine (HT.out _).mono ?_; rintro e w2 ⟨rfl, rfl⟩)
          go_ret
          exact ⟨rfl, HB1.out⟩
        · have h5 : 1000 < x := Int.not_le.1 fun k => hbad ⟨h1, ⟨by omega, by omega⟩, by omega, k⟩
          clear hbad h1 e1
          go_enter Try.func20, Try.ntmps20
          go_wp2_with (go_at_call 30; refine (HT.out _).mono ?_; rintro e w2 ⟨rfl, rfl⟩)
          go_ret
          exact ⟨rfl, HB1.out⟩
  · have e1 : decide (0 ≤ t ∧ t < 20) = false := by simp; omega
    rw [e1] at HT
    clear hbad h1 e1
    go_enter Try.func20, Try.ntmps20
    go_wp2_with (go_at_call 30; refine (HT.out _).mono ?_; rintro e w2 ⟨rfl, rfl⟩)
    go_ret
    exact ⟨rfl, HB1.out⟩

set_option maxHeartbeats 4000000 in
set_option maxRecDepth 100000 in
theorem write_clash (w : World) (base g : Nat) (v : Value) (d : Ud) (h : UndoM w base g v d) (T B X : Nat) (hT : T < 20) (hB : B < 8) (hX : X ≤ 1000) (h1 : own d.L B ≠ -1) (h2 : own d.L B ≠ (T : Int)) :
    Calls Try.prog 20 #[ptrU g, .agg #[.int .i64 (T : Int), .int .i64 (B : Int), .int .i64 (X : Int)]] w fun e w' => e = .returned (errV 6) ∧ Below w.heap.size w w' := by
  have HB1 : Hid (Below w.heap.size w (w.alloc (.cells #[.int .i64 (T : Int), .int .i64 (B : Int), .int .i64 (X : Int)] 46))) := below_one _ _
  have HT : Hid _ := fun (w2 : World) => turn_any w2 (T : Int)
  have e1 : decide (0 ≤ (T : Int) ∧ (T : Int) < 20) = true := by simp; omega
  rw [e1] at HT
  have HBu : Hid _ := fun (_ : Nat) => busy_any _ base g v d (h.later HB1.out) (B : Int)
  rw [ownI_nat] at HBu
  generalize own d.L B = o at HBu h1 h2
  have n1 : (o != -1) = true := by simp [h1]
  have n2 : (o != (T : Int)) = true := by simp [h2]
  have HP : Hid (∀ w2, Below (w.alloc (.cells #[.int .i64 (T : Int), .int .i64 (B : Int), .int .i64 (X : Int)] 46)).heap.size (w.alloc (.cells #[.int .i64 (T : Int), .int .i64 (B : Int), .int .i64 (X : Int)] 46)) w2 → w2.cell? ⟨w.heap.size, 0, none⟩ = some (.int .i64 (T : Int))) := fun w2 hb =>
    by rw [hb.cell (p := ⟨w.heap.size, 0, none⟩) (by simp)]; exact cell_new _ _ _ _
  clear h e1
  unfold ptrU at *
  go_enter Try.func20, Try.ntmps20
  go_wp2_with (first
    | (go_at_call 30; refine (HT.out _).mono ?_; rintro e w2 ⟨rfl, rfl⟩)
    | (go_at_call 31; refine (HBu.out 0).mono ?_; rintro e w3 ⟨rfl, hb3⟩; have p0 := HP.out w3 hb3; have HB3 : Hid (Below w.heap.size w w3) := Below.next HB1.out hb3; clear hb3))
  go_ret
  exact ⟨rfl, HB3.out⟩

set_option maxHeartbeats 4000000 in
set_option maxRecDepth 100000 in
theorem write_full (w : World) (base g : Nat) (v : Value) (d : Ud) (h : UndoM w base g v d) (T B X : Nat) (hT : T < 20) (hB : B < 8) (hX : X ≤ 1000) (h1 : own d.L B = -1 ∨ own d.L B = (T : Int)) (hl : d.L.length = 60) :
    Calls Try.prog 20 #[ptrU g, .agg #[.int .i64 (T : Int), .int .i64 (B : Int), .int .i64 (X : Int)]] w fun e w' => e = .returned (errV 4) ∧ Below w.heap.size w w' := by
  have HB1 : Hid (Below w.heap.size w (w.alloc (.cells #[.int .i64 (T : Int), .int .i64 (B : Int), .int .i64 (X : Int)] 46))) := below_one _ _
  have HT : Hid _ := fun (w2 : World) => turn_any w2 (T : Int)
  have e1 : decide (0 ≤ (T : Int) ∧ (T : Int) < 20) = true := by simp; omega
  rw [e1] at HT
  have HBu : Hid _ := fun (_ : Nat) => busy_any _ base g v d (h.later HB1.out) (B : Int)
  rw [ownI_nat] at HBu
  have HP : Hid (∀ w2, Below (w.alloc (.cells #[.int .i64 (T : Int), .int .i64 (B : Int), .int .i64 (X : Int)] 46)).heap.size (w.alloc (.cells #[.int .i64 (T : Int), .int .i64 (B : Int), .int .i64 (X : Int)] 46)) w2 → w2.cell? ⟨w.heap.size, 0, none⟩ = some (.int .i64 (T : Int)) ∧ w2.cell? ⟨g, 8, none⟩ = some v) := fun w2 hb =>
    ⟨by rw [hb.cell (p := ⟨w.heap.size, 0, none⟩) (by simp)]; exact cell_new _ _ _ _, ((h.later HB1.out).later hb).facts.1⟩
  obtain ⟨a, c, rfl⟩ := rown_form h.log
  rw [hl] at HP
  clear h e1 hl
  unfold ptrU at *
  rcases h1 with h1 | h1
  · rw [h1] at HBu
    go_enter Try.func20, Try.ntmps20
    go_wp2_with (first
      | (go_at_call 30; refine (HT.out _).mono ?_; rintro e w2 ⟨rfl, rfl⟩)
      | (go_at_call 31; refine (HBu.out 0).mono ?_; rintro e w3 ⟨rfl, hb3⟩; obtain ⟨p0, p8⟩ := HP.out w3 hb3; have HB3 : Hid (Below w.heap.size w w3) := Below.next HB1.out hb3; clear hb3))
    go_ret
    exact ⟨rfl, HB3.out⟩
  · rw [h1] at HBu
    have n1 : ((T : Int) != -1) = true := by first | (simp; done) | (simp; omega)
    go_enter Try.func20, Try.ntmps20
    go_wp2_with (first
      | (go_at_call 30; refine (HT.out _).mono ?_; rintro e w2 ⟨rfl, rfl⟩)
      | (go_at_call 31; refine (HBu.out 0).mono ?_; rintro e w3 ⟨rfl, hb3⟩; obtain ⟨p0, p8⟩ := HP.out w3 hb3; have HB3 : Hid (Below w.heap.size w w3) := Below.next HB1.out hb3; clear hb3))
    go_ret
    exact ⟨rfl, HB3.out⟩

end Go.Proofs.Ythgbknfdbobmiaa
