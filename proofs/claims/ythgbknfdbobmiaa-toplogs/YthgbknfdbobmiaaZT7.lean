/- This text proves what Write, End and Crash of package wal tell, and what the disk is behind them; nothing is turned but the disk's blocks and its log's; the condition is that the disk lies there. -/
import Derived.Test.YthgbknfdbobmiaaZT6
import Derived.Deep.AppendLies
namespace Go.Proofs.Ythgbknfdbobmiaa.Zw
open Go.RowKit Go.Deep Go.Maps

theorem Try.info65 : (Try.prog.info? 65).map (fun i => (i.zero, i.size, i.bytes)) = some (some (.agg #[.int .i64 0, .int .i64 0, .int .i64 0, .bool false]), 4, 32) := by kernel_rfl

/-- What a step leaves of a disk, in memory. -/
structure Step (w w' : World) (base g : Nat) (v v' : Value) (d : Dk) : Prop where
  disk : DiskM w' base g v' d
  stay : Stay (Fp g v) w w'
  lies : ∀ x, v'.ownBlock = some x → v.ownBlock = some x ∨ w.heap.size ≤ x

theorem Step.none' {w w' : World} {base g : Nat} {v : Value} {d : Dk} (h : DiskM w base g v d) (hb : Below w.heap.size w w') : Step w w' base g v v d := ⟨h.later hb, Stay.of hb, fun _ e => .inl e⟩

/-- A step behind old memory's rest. -/
theorem Step.ahead {w w1 w' : World} {base g : Nat} {v v' : Value} {d : Dk} (hb : Below w.heap.size w w1) (h : Step w1 w' base g v v' d) : Step w w' base g v v' d :=
  ⟨h.disk, (Stay.of hb).trans h.stay, fun x e => by rcases h.lies x e with k | k; exact .inl k; exact .inr (Nat.le_trans hb.size k)⟩

theorem Step.fp {w w' : World} {base g : Nat} {v v' : Value} {d : Dk} (h : Step w w' base g v v' d) (x : Nat) (hx : Fp g v' x) : Fp g v x ∨ w.heap.size ≤ x := by
  rcases hx with e | e
  · exact .inl (.inl e)
  · rcases h.lies x e with k | k
    · exact .inl (.inr k)
    · exact .inr k

theorem note_mem {w W w5 : World} {base g g2 cap n : Nat} {v : Value} {d : Dk} (h : DiskM w base g v d) (hb : Below w.heap.size w W) (r : Rc) (hn : d.L.length = n)
    (ho : w5.ownsRow base 65 4 (.slice (some ⟨g2, 0, none⟩) (n + 1) cap) (n + 1) (rcc d.L ++ [.int .i64 (r.t : Int), .int .i64 (r.b : Int), .int .i64 (r.v : Int), .bool r.e])) (hgr : W.grownBy w5 v.ownBlock) (hat : v.ownBlock = some g2 ∨ g2 = W.heap.size)
    (hf : Fine ⟨d.H, d.L ++ [r], d.s⟩) :
    (w5.cell? ⟨g, 8, none⟩ = some v ∧ w5.frozen? ⟨g, 8, none⟩ = false) ∧ Step w (w5.setCell ⟨g, 8, none⟩ (.slice (some ⟨g2, 0, none⟩) (n + 1) cap)) base g v (.slice (some ⟨g2, 0, none⟩) (n + 1) cap) ⟨d.H, d.L ++ [r], d.s⟩ := by
  have hg : g < W.heap.size := Nat.lt_of_lt_of_le h.lt hb.size
  have hap : some g ≠ v.ownBlock := fun e => h.ap e.symm
  have hW := h.later hb
  have e5 : w5.heap[g]? = W.heap[g]? := hgr.block g hg hap
  have hc : w5.heap[g]? = some (.cells (dkC d v) 59 (0, 0)) := e5.trans hW.cells
  have hg2 : g2 ≠ g := by
    rintro rfl
    rcases hat with e | e
    · exact h.ap e
    · omega
  refine ⟨⟨(cell_in hc 8).1.trans (dkC_log d v), (cell_in hc 8).2⟩, ⟨?_, ?_, ?_, hf, h.low⟩, ?_, ?_⟩
  · rw [heap_set hc, dkC_setLog d v _ (d.L ++ [r])]
  · rw [rcc_snoc] at ho
    have h2 : (d.L ++ [r]).length = n + 1 := by rw [List.length_append, hn]; rfl
    rw [h2]
    exact own_block ho fun b e => Below.heap_setCell w5 ⟨g, 8, none⟩ _ b fun k => hg2 (by have := Option.some.inj e; exact this.trans k)
  · intro e; exact hg2 (Option.some.inj e)
  · refine (Stay.of hb).trans ⟨hgr.os, hgr.tape, hgr.output, by have := hgr.size; simpa [World.setCell] using this, fun x hx hS => ?_⟩
    rw [Below.heap_setCell w5 ⟨g, 8, none⟩ _ x (fun e => hS (.inl e))]
    exact hgr.block x hx (fun e => hS (.inr e.symm))
  · intro x e
    have e2 : g2 = x := Option.some.inj e
    subst e2
    rcases hat with e | e
    · exact .inl e
    · exact .inr (by have := hb.size; omega)

set_option maxHeartbeats 1000000 in
theorem note_full (w : World) (base g : Nat) (v : Value) (d : Dk) (h : DiskM w base g v d) (r : Rc) (hl : d.L.length = 60) :
    Calls Try.prog 29 #[ptrD g, .agg #[.int .i64 (r.t : Int), .int .i64 (r.b : Int), .int .i64 (r.v : Int), .bool r.e]] w fun e w' => e = .returned (errV 4) ∧ Below w.heap.size w w' := by
  obtain ⟨c8, _, _, _⟩ := h.facts
  have k8 : ∀ o, (w.alloc o).cell? ⟨g, 8, none⟩ = some v := fun o => by rw [(below_one w o).cell (p := ⟨g, 8, none⟩) h.lt]; exact c8
  obtain ⟨a, c, rfl⟩ := rown_form h.log
  rw [hl] at k8
  clear c8 h hl
  unfold ptrD
  go_enter Try.func29, Try.ntmps29
  go_wp2
  go_ret
  exact ⟨rfl, below_one _ _⟩

set_option maxHeartbeats 2000000 in
set_option maxRecDepth 100000 in
theorem note_more (w : World) (base g : Nat) (v : Value) (d : Dk) (h : DiskM w base g v d) (r : Rc) (hf : Fine ⟨d.H, d.L ++ [r], d.s⟩) (hl : d.L.length ≠ 60) :
    Calls Try.prog 29 #[ptrD g, .agg #[.int .i64 (r.t : Int), .int .i64 (r.b : Int), .int .i64 (r.v : Int), .bool r.e]] w fun e w' => e = .returned (errV 0) ∧ ∃ v', Step w w' base g v v' ⟨d.H, d.L ++ [r], d.s⟩ := by
  obtain ⟨t, b, x, E⟩ := r
  obtain ⟨c8, _, _, _⟩ := h.facts
  have k8 : (w.alloc (.cells #[.int .i64 (t : Int), .int .i64 (b : Int), .int .i64 (x : Int), .bool E] 65)).cell? ⟨g, 8, none⟩ = some v := by rw [(below_one w _).cell (p := ⟨g, 8, none⟩) h.lt]; exact c8
  have kP : ∀ j, (w.alloc (.cells #[.int .i64 (t : Int), .int .i64 (b : Int), .int .i64 (x : Int), .bool E] 65)).cell? ⟨w.heap.size, j, none⟩ = #[Value.int .i64 (t : Int), .int .i64 (b : Int), .int .i64 (x : Int), .bool E][j]? := fun j => cell_new _ _ _ _
  have p0 := kP 0
  have p1 := kP 1
  have p2 := kP 2
  have p3 := kP 3
  have hb1 := below_one w (.cells #[.int .i64 (t : Int), .int .i64 (b : Int), .int .i64 (x : Int), .bool E] 65)
  have HO : Hid ((w.alloc (.cells #[.int .i64 (t : Int), .int .i64 (b : Int), .int .i64 (x : Int), .bool E] 65)).drew.ownsRow base 65 4 v d.L.length (rcc d.L)) := xown_later (xown_later h.log hb1) (below_drew1 _ _)
  have HM : Hid (DiskM w base g v d) := h
  have HF : Hid (Fine ⟨d.H, d.L ++ [⟨t, b, x, E⟩], d.s⟩) := hf
  have HB : Hid (Below w.heap.size w (w.alloc (.cells #[.int .i64 (t : Int), .int .i64 (b : Int), .int .i64 (x : Int), .bool E] 65)).drew) := hb1.trans (below_drew1 _ _)
  have HZ : Hid (base ≤ (w.alloc (.cells #[.int .i64 (t : Int), .int .i64 (b : Int), .int .i64 (x : Int), .bool E] 65)).heap.size) := by have := h.low; have := h.lt; show base ≤ _; simp; omega
  obtain ⟨ti, hti, hy0, hy1, hy2⟩ := info_parts Try.info65
  have h60 := h.fine.len
  obtain ⟨n, hn⟩ : ∃ n, d.L.length = n := ⟨_, rfl⟩
  have HN : Hid (d.L.length = n) := hn
  obtain ⟨a, c, rfl⟩ := rown_form h.log
  rw [hn] at k8 HO HM hl h60 ⊢
  have hl1 : ((n : Int) == 60) = false := by simp; omega
  clear c8 h hf kP hb1 hn
  unfold ptrD
  go_enter Try.func29, Try.ntmps29
  go_wp2_with fail
  generalize w.alloc _ = W1 at k8 p0 p1 p2 p3 HO HB HZ ⊢
  generalize w.heap.size = P at p0 p1 p2 p3 ⊢
  have k8a : ∀ o, (W1.alloc o).cell? ⟨g, 8, none⟩ = some (.slice a n c) := fun o => by rw [(below_one W1 o).cell (p := ⟨g, 8, none⟩) (World.block_lt_of_cell? _ _ k8)]; exact k8
  go_region_law
    (first
      | (refine step_append_lies _ (by rfl) (.tmp 16) (.tmp 18) 57 (by rfl) base 65 ti (.agg #[.int .i64 0, .int .i64 0, .int .i64 0, .bool false]) 4 32 Try.underlying57 hti hy0 hy1 hy2 rfl (by decide) (.slice a n c) n (rcc d.L) (by rfl) (HO.out.alloc _) ⟨W1.heap.size, 0, none⟩ 1 1 [.int .i64 (t : Int), .int .i64 (b : Int), .int .i64 (x : Int), .bool E] (by rfl) rfl (news_four W1.drew _ _ _ _ 65) (ones_four _ _ _ _) (by decide) (by unfold maxLen; omega) (by omega) (by have := HZ.out; simp; omega) _ rfl ?_; intro g2 cap2 w5 hown hgr hat hlt; have HQ := note_mem HM.out (Below.next HB.out (below_one _ _)) ⟨t, b, x, E⟩ HN.out hown hgr hat HF.out; obtain ⟨⟨e8, ef⟩, hst⟩ := HQ; have HS : Hid _ := fun (_ : Nat) => hst; clear hst hown hgr hat))
  all_goals
    go_wp2
    go_ret
    exact ⟨rfl, _, HS.out 0⟩

end Go.Proofs.Ythgbknfdbobmiaa.Zw
