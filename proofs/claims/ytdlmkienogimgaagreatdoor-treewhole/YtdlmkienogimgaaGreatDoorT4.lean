/- This text proves what New, newDir, and a spot's what, set and clear do; the conditions are that the spot's directory lies there, and that there is room in it. -/
import Derived.Test.YtdlmkienogimgaaGreatDoorT3
import Derived.Laws.ResultCell
namespace Go.Proofs.YtdlmkienogimgaaGreatDoor
open Go.RowKit Go.Deep Go.Shelf Go.Maps

set_option maxRecDepth 100000 in
theorem newDir_any (w : World) : Calls Tryz.prog 45 #[] w fun e w' => e = .returned (ptr (w.heap.size + 1)) ∧ w' = (w.alloc (.map #[] 0)).alloc (.cells #[.map (some w.heap.size)] 77) := by
  have hmm := @run_makeMap Tryz.prog
  go_enter Tryz.func45, Tryz.ntmps45
  go_wp2
  go_ret
  exact ⟨by simp [ptr], rfl⟩

theorem below_draw (w : World) (B : Nat) : Below B w w.drew := ⟨rfl, rfl, rfl, Nat.le_refl _, fun _ _ => rfl⟩

set_option maxRecDepth 100000 in
theorem what_any (w : World) (d m : Nat) (k : List UInt8) (n : Int) (f : List UInt8 → Option Nat) (hd : NodeAt w d (some m)) (hM : MapIs w m f) (hk : k.length ≤ 1000) :
    Calls Tryz.prog 43 #[.agg #[ptr d, .string (bs k), .int .i64 n]] w fun e w' => e = .returned (.tuple #[valO (f k), .bool (f k).isSome]) ∧ Below w.heap.size w w' := by
  obtain ⟨O, hO⟩ : ∃ O, (Obj.cells #[ptr d, .string (bs k), .int .i64 n] 79) = O := ⟨_, rfl⟩
  have hd2 := (hd.alloc O).cell
  have hM2 := (hM.block (w' := (w.alloc O).drew) ((Below.refl w.heap.size w).alloc (Nat.le_refl _) O |>.block m hM.lt)).look (bs_short hk)
  simp only [data_bs] at hM2
  subst hO
  unfold ptr at hd2 hM2 ⊢
  clear hd hM
  go_enter Tryz.func43, Tryz.ntmps43
  go_wp2
  go_region
  go_wp2
  go_ret2
  exact ⟨rfl, (below_alloc w _).trans (below_draw _ _)⟩

/-- Nothing but maps is turned, and nothing below base. -/
structure Turned (base : Nat) (w w' : World) : Prop where
  below : Below base w w'
  rows : ∀ b, b < w.heap.size → (∀ es c, w.heap[b]? ≠ some (.map es c)) → w'.heap[b]? = w.heap[b]?

theorem Turned.of_below {w w' : World} {base : Nat} (h : Below w.heap.size w w') (hb : base ≤ w.heap.size) : Turned base w w' := ⟨h.mono hb, fun b hl _ => h.block b hl⟩
theorem Turned.trans {base : Nat} {a b c : World} (h : Turned base a b) (k : Turned base b c) : Turned base a c :=
  ⟨h.below.trans k.below, fun i hi hn => by
    have e := h.rows i hi hn
    rw [← e]
    exact k.rows i (Nat.lt_of_lt_of_le hi h.below.size) (fun es c => by rw [e]; exact hn es c)⟩
theorem Turned.refl (base : Nat) (w : World) : Turned base w w := ⟨Below.refl _ _, fun _ _ _ => rfl⟩
theorem turned_map {w w' : World} {base m : Nat} (h : w.mapTurned w' m) (hb : base ≤ m) : Turned base w w' ∧ (∀ b, b ≠ m → w'.heap[b]? = w.heap[b]?) ∧ w'.heap.size = w.heap.size := by
  obtain ⟨es, c, es', c', hm, rfl⟩ := h
  have ho : ∀ b, b ≠ m → (ChangeMaps.setBlock w m (.map es' c')).heap[b]? = w.heap[b]? := fun b hne => ChangeMaps.heap_setBlock_other hm _ hne
  refine ⟨⟨⟨rfl, rfl, rfl, by simp [ChangeMaps.setBlock], fun k hk => ho k (by omega)⟩, fun b _ hn => ho b (fun e => by subst e; exact hn _ _ hm)⟩, ho, by simp [ChangeMaps.setBlock]⟩

set_option maxRecDepth 100000 in
theorem set_any (w : World) (base d m j : Nat) (k : List UInt8) (n : Int) (f : List UInt8 → Option Nat) (hd : NodeAt w d (some m)) (hM : MapIs w m f) (hk : k.length ≤ 1000) (ks : List (List UInt8)) (hnd : ks.Nodup) (hm : ∀ k, k ∈ ks ↔ (f k).isSome = true) (hl : ks.length ≤ 1000) (hb : base ≤ m) (hbw : base ≤ w.heap.size) :
    Calls Tryz.prog 72 #[.agg #[ptr d, .string (bs k), .int .i64 n], ptr j] w fun e w' => e = .returned (.tuple #[]) ∧ MapIs w' m (upd f k (some j)) ∧ Turned base w w' ∧ ∀ b, b < w.heap.size → b ≠ m → w'.heap[b]? = w.heap[b]? := by
  obtain ⟨O, hO⟩ : ∃ O, (Obj.cells #[ptr d, .string (bs k), .int .i64 n] 79) = O := ⟨_, rfl⟩
  have hd2 := (hd.alloc O).cell
  have hB : Below w.heap.size w (w.alloc O) := (Below.refl w.heap.size w).alloc (Nat.le_refl _) O
  obtain ⟨w', h1, h2, h3⟩ := (hM.block (w' := (w.alloc O).drew) (hB.block m hM.lt)).put hnd hm hl (bs_short hk) j
  simp only [data_bs] at h2
  obtain ⟨g1, g2, g3⟩ := turned_map h3 hb
  have hT : Turned base w w' := (Turned.of_below hB hbw).trans ⟨⟨g1.below.os, g1.below.tape, g1.below.output, g1.below.size, g1.below.block⟩, g1.rows⟩
  have hO2 : ∀ b, b < w.heap.size → b ≠ m → w'.heap[b]? = w.heap[b]? := fun b hlb hne => (g2 b hne).trans (hB.block b hlb)
  have HZ : Hid (MapIs w' m (upd f k (some j)) ∧ Turned base w w' ∧ ∀ b, b < w.heap.size → b ≠ m → w'.heap[b]? = w.heap[b]?) := ⟨h2, hT, hO2⟩
  subst hO
  unfold ptr at hd2 h1 ⊢
  clear hd hM h2 h3 g1 g2 g3 hT hO2 hB hm hnd hl hb hbw
  go_enter Tryz.func72, Tryz.ntmps72
  go_wp2
  go_region
  go_end0
  exact ⟨rfl, HZ.out⟩

set_option maxRecDepth 100000 in
theorem clear_any (w : World) (base d m : Nat) (k : List UInt8) (n : Int) (f : List UInt8 → Option Nat) (hd : NodeAt w d (some m)) (hM : MapIs w m f) (hk : k.length ≤ 1000) (hb : base ≤ m) (hbw : base ≤ w.heap.size) :
    Calls Tryz.prog 44 #[.agg #[ptr d, .string (bs k), .int .i64 n]] w fun e w' => e = .returned (.tuple #[]) ∧ MapIs w' m (upd f k none) ∧ Turned base w w' ∧ ∀ b, b < w.heap.size → b ≠ m → w'.heap[b]? = w.heap[b]? := by
  obtain ⟨O, hO⟩ : ∃ O, (Obj.cells #[ptr d, .string (bs k), .int .i64 n] 79) = O := ⟨_, rfl⟩
  have hd2 := (hd.alloc O).cell
  have hB : Below w.heap.size w (w.alloc O) := (Below.refl w.heap.size w).alloc (Nat.le_refl _) O
  obtain ⟨w', h1, h2, h3⟩ := (hM.block (w' := (w.alloc O).drew) (hB.block m hM.lt)).cut (bs_short hk) 0
  simp only [data_bs] at h2
  obtain ⟨g1, g2, g3⟩ := turned_map h3 hb
  have hT : Turned base w w' := (Turned.of_below hB hbw).trans ⟨⟨g1.below.os, g1.below.tape, g1.below.output, g1.below.size, g1.below.block⟩, g1.rows⟩
  have hO2 : ∀ b, b < w.heap.size → b ≠ m → w'.heap[b]? = w.heap[b]? := fun b hlb hne => (g2 b hne).trans (hB.block b hlb)
  have HZ : Hid (MapIs w' m (upd f k none) ∧ Turned base w w' ∧ ∀ b, b < w.heap.size → b ≠ m → w'.heap[b]? = w.heap[b]?) := ⟨h2, hT, hO2⟩
  subst hO
  unfold ptr at hd2 h1 ⊢
  clear hd hM h2 h3 g1 g2 g3 hT hO2 hB hb hbw
  go_enter Tryz.func44, Tryz.ntmps44
  go_wp2
  go_region
  go_end0
  exact ⟨rfl, HZ.out⟩

end Go.Proofs.YtdlmkienogimgaaGreatDoor
