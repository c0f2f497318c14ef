/- This text says what it means that a file lies in memory, and proves what New, Size, put, isSize, isNoByte and checkWrite of package sparse do; nothing is turned but the file's map; the condition is that the file lies there. -/
import Derived.Test.YtepnbkonhaongaaDoorF1
import Derived.Test.YtepnbkonhaongaaDoorAs
import Derived.Deep.RegionHeld3
import Derived.BigQuiet
import Derived.Stop.Asserts
namespace Go.Proofs.YtepnbkonhaongaaDoor
open Go.RowKit Go.Deep Go.Maps

/-- A file in memory: its cells, and its map. -/
structure FilM (w : World) (g b : Nat) (f : Fil) : Prop where
  cells : w.heap[g]? = some (.cells #[.int .i64 (f.s : Int), .map (some b)] 54 (0, 0))
  map : MapIs w b f
def ptrF (g : Nat) : Value := .pointer (some ⟨g, 0, none⟩)

/-- Nothing is turned but some blocks. -/
structure Stay (S : Nat → Prop) (w w' : World) : Prop where
  os : w'.os = w.os
  tape : w'.tape = w.tape
  output : w'.output = w.output
  size : w.heap.size ≤ w'.heap.size
  block : ∀ b, b < w.heap.size → ¬ S b → w'.heap[b]? = w.heap[b]?
theorem Stay.refl (S : Nat → Prop) (w : World) : Stay S w w := ⟨rfl, rfl, rfl, Nat.le_refl _, fun _ _ _ => rfl⟩
theorem Stay.of {S : Nat → Prop} {w w' : World} (h : Below w.heap.size w w') : Stay S w w' := ⟨h.os, h.tape, h.output, h.size, fun b hb _ => h.block b hb⟩
theorem Stay.below {S : Nat → Prop} {B : Nat} {w w' : World} (h : Stay S w w') (hB : ∀ b, S b → B ≤ b) (hs : B ≤ w.heap.size) : Below B w w' :=
  ⟨h.os, h.tape, h.output, h.size, fun b hb => h.block b (by omega) fun hS => by have := hB b hS; omega⟩
theorem Stay.trans {S : Nat → Prop} {a b c : World} (h : Stay S a b) (k : Stay S b c) : Stay S a c :=
  ⟨k.os.trans h.os, k.tape.trans h.tape, k.output.trans h.output, Nat.le_trans h.size k.size, fun x hx hS => (k.block x (Nat.lt_of_lt_of_le hx h.size) hS).trans (h.block x hx hS)⟩
theorem Stay.set {S : Nat → Prop} (w : World) {a : Addr} (u : Value) (h : S a.block) : Stay S w (w.setCell a u) :=
  ⟨rfl, rfl, rfl, by simp [World.setCell], fun b _ hS => Below.heap_setCell w a u b fun e => hS (e ▸ h)⟩
theorem Stay.map {S : Nat → Prop} {w w' : World} {b : Nat} (h : w.mapTurned w' b) (hS : S b) : Stay S w w' :=
  have g := h.grown
  ⟨g.os, g.tape, g.output, g.size, fun i hi hn => g.block i hi (fun e => by cases e; exact hn hS)⟩
theorem Stay.drew (S : Nat → Prop) (w : World) : Stay S w w.drew := ⟨rfl, rfl, rfl, Nat.le_refl _, fun _ _ _ => rfl⟩
/-- A file's blocks. -/
def Two (g b x : Nat) : Prop := x = g ∨ x = b

theorem FilM.lt {w : World} {g b : Nat} {f : Fil} (h : FilM w g b f) : g < w.heap.size ∧ b < w.heap.size := ⟨(Array.getElem?_eq_some_iff.1 h.cells).1, h.map.lt⟩
theorem FilM.apart {w : World} {g b : Nat} {f : Fil} (h : FilM w g b f) : g ≠ b := by
  rintro rfl
  obtain ⟨es, c, hb⟩ := h.map.map
  rw [h.cells] at hb
  cases hb
theorem FilM.frame {w w' : World} {g b : Nat} {f : Fil} (h : FilM w g b f) (e1 : w'.heap[g]? = w.heap[g]?) (e2 : w'.heap[b]? = w.heap[b]?) : FilM w' g b f := ⟨e1.trans h.cells, h.map.block e2⟩
theorem FilM.later {w w' : World} {g b : Nat} {f : Fil} (h : FilM w g b f) (hb : Below w.heap.size w w') : FilM w' g b f := h.frame (hb.block g h.lt.1) (hb.block b h.lt.2)
theorem FilM.stay {S : Nat → Prop} {w w' : World} {g b : Nat} {f : Fil} (h : FilM w g b f) (hs : Stay S w w') (h1 : ¬ S g) (h2 : ¬ S b) : FilM w' g b f := h.frame (hs.block g h.lt.1 h1) (hs.block b h.lt.2 h2)
theorem FilM.facts {w : World} {g b : Nat} {f : Fil} (h : FilM w g b f) : w.cell? ⟨g, 0, none⟩ = some (.int .i64 (f.s : Int)) ∧ w.cell? ⟨g, 1, none⟩ = some (.map (some b)) ∧ w.frozen? ⟨g, 0, none⟩ = false ∧ w.frozen? ⟨g, 1, none⟩ = false := by
  have hc := h.cells
  refine ⟨?_, ?_, ?_, ?_⟩ <;> simp [World.cell?, World.frozen?, hc]

theorem sp_new (w : World) : Calls Tryd.prog 5 #[] w fun e w' => ∃ g b, e = .returned (ptrF g) ∧ FilM w' g b fil0 ∧ w.heap.size ≤ g ∧ w.heap.size ≤ b ∧ Below w.heap.size w w' := by
  have hmm := @run_makeMap Tryd.prog
  go_enter Tryd.func5, Tryd.ntmps5
  go_wp2
  go_ret
  refine ⟨w.heap.size + 1, w.heap.size, rfl, ⟨?_, (MapIs.made w).block ((below_alloc (w.alloc _) _).block _ (by simp))⟩, by omega, Nat.le_refl _, Below.next (below_alloc _ _) (below_alloc _ _)⟩
  have := blk_alloc_new (w.alloc (.map #[] 0)) (.cells #[.int .i64 0, .map (some w.heap.size)] 54)
  simpa [fil0] using this

set_option maxHeartbeats 1000000 in
theorem sp_put0 (w : World) (g b : Nat) (f : Fil) (h : FilM w g b f) (p k : Nat) (hp : p < 64) (hk : p = 4 * k + 0) (x : Int) :
    Calls Tryd.prog 30 #[ptrF g, .int .i64 (p : Int), .int .i64 x] w fun e w' => e = .returned (.tuple #[]) ∧ FilM w' g b (put1 f p x) ∧ Stay (Two g b) w w' := by
  obtain ⟨c0, c1, f0, f1⟩ := h.facts
  have hl := h.map.look1 (k := k) (by omega)
  obtain ⟨q0, h0⟩ : ∃ q, f.c (4 * k) = q := ⟨_, rfl⟩
  obtain ⟨q1, h1⟩ : ∃ q, f.c (4 * k + 1) = q := ⟨_, rfl⟩
  obtain ⟨q2, h2⟩ : ∃ q, f.c (4 * k + 2) = q := ⟨_, rfl⟩
  obtain ⟨q3, h3⟩ : ∃ q, f.c (4 * k + 3) = q := ⟨_, rfl⟩
  have eQ : quad f.c k = .agg #[.int .i64 q0, .int .i64 q1, .int .i64 q2, .int .i64 q3] := by unfold quad; rw [h0, h1, h2, h3]
  have eP : quad (put1 f p x).c k = .agg #[.int .i64 x, .int .i64 q1, .int .i64 q2, .int .i64 q3] := by unfold quad put1; dsimp only; rw [if_pos (by omega), if_neg (by omega), h1, if_neg (by omega), h2, if_neg (by omega), h3]
  have ek : p / 4 = k := by omega
  have hb := below_alloc w (.cells #[.int .i64 x, .int .i64 q1, .int .i64 q2, .int .i64 q3] 61)
  obtain ⟨w', u1, u2, u3⟩ := (h.map.block (w' := (w.alloc (.cells #[.int .i64 x, .int .i64 q1, .int .i64 q2, .int .i64 q3] 61)).drew) (hb.block b h.lt.2)).put hp x
  rw [ek, eP] at u1
  rw [eQ] at hl
  have hq : (p : Int) / 4 = (k : Int) := by omega
  have hr : (p : Int) % 4 = 0 := by omega
  have hS : Stay (Two g b) w w' := ((Stay.of hb).trans (Stay.drew _ _)).trans (Stay.map u3 (.inr rfl))
  have hC : w'.heap[g]? = w.heap[g]? := by
    have e1 := u3.grown.block g (show g < (w.alloc _).heap.size from Nat.lt_of_lt_of_le h.lt.1 hb.size) (fun e => h.apart (Option.some.inj e))
    exact e1.trans (hb.block g h.lt.1)
  have HZ : Hid (FilM w' g b (put1 f p x) ∧ Stay (Two g b) w w') := ⟨⟨hC.trans h.cells, u2⟩, hS⟩
  obtain ⟨_, d1, _, _⟩ := (h.later hb).facts
  unfold ptrF
  clear h u2 u3 hS hC hb hk ek eQ eP h0 h1 h2 h3
  go_enter Tryd.func30, Tryd.ntmps30
  go_wp2
  go_region
  go_end0
  exact ⟨rfl, HZ.out⟩

set_option maxHeartbeats 1000000 in
theorem sp_put1 (w : World) (g b : Nat) (f : Fil) (h : FilM w g b f) (p k : Nat) (hp : p < 64) (hk : p = 4 * k + 1) (x : Int) :
    Calls Tryd.prog 30 #[ptrF g, .int .i64 (p : Int), .int .i64 x] w fun e w' => e = .returned (.tuple #[]) ∧ FilM w' g b (put1 f p x) ∧ Stay (Two g b) w w' := by
  obtain ⟨c0, c1, f0, f1⟩ := h.facts
  have hl := h.map.look1 (k := k) (by omega)
  obtain ⟨q0, h0⟩ : ∃ q, f.c (4 * k) = q := ⟨_, rfl⟩
  obtain ⟨q1, h1⟩ : ∃ q, f.c (4 * k + 1) = q := ⟨_, rfl⟩
  obtain ⟨q2, h2⟩ : ∃ q, f.c (4 * k + 2) = q := ⟨_, rfl⟩
  obtain ⟨q3, h3⟩ : ∃ q, f.c (4 * k + 3) = q := ⟨_, rfl⟩
  have eQ : quad f.c k = .agg #[.int .i64 q0, .int .i64 q1, .int .i64 q2, .int .i64 q3] := by unfold quad; rw [h0, h1, h2, h3]
  have eP : quad (put1 f p x).c k = .agg #[.int .i64 q0, .int .i64 x, .int .i64 q2, .int .i64 q3] := by unfold quad put1; dsimp only; rw [if_neg (by omega), h0, if_pos (by omega), if_neg (by omega), h2, if_neg (by omega), h3]
  have ek : p / 4 = k := by omega
  have hb := below_alloc w (.cells #[.int .i64 q0, .int .i64 x, .int .i64 q2, .int .i64 q3] 61)
  obtain ⟨w', u1, u2, u3⟩ := (h.map.block (w' := (w.alloc (.cells #[.int .i64 q0, .int .i64 x, .int .i64 q2, .int .i64 q3] 61)).drew) (hb.block b h.lt.2)).put hp x
  rw [ek, eP] at u1
  rw [eQ] at hl
  have hq : (p : Int) / 4 = (k : Int) := by omega
  have hr : (p : Int) % 4 = 1 := by omega
  have hS : Stay (Two g b) w w' := ((Stay.of hb).trans (Stay.drew _ _)).trans (Stay.map u3 (.inr rfl))
  have hC : w'.heap[g]? = w.heap[g]? := by
    have e1 := u3.grown.block g (show g < (w.alloc _).heap.size from Nat.lt_of_lt_of_le h.lt.1 hb.size) (fun e => h.apart (Option.some.inj e))
    exact e1.trans (hb.block g h.lt.1)
  have HZ : Hid (FilM w' g b (put1 f p x) ∧ Stay (Two g b) w w') := ⟨⟨hC.trans h.cells, u2⟩, hS⟩
  obtain ⟨_, d1, _, _⟩ := (h.later hb).facts
  unfold ptrF
  clear h u2 u3 hS hC hb hk ek eQ eP h0 h1 h2 h3
  go_enter Tryd.func30, Tryd.ntmps30
  go_wp2
  go_region
  go_end0
  exact ⟨rfl, HZ.out⟩

set_option maxHeartbeats 1000000 in
theorem sp_put2 (w : World) (g b : Nat) (f : Fil) (h : FilM w g b f) (p k : Nat) (hp : p < 64) (hk : p = 4 * k + 2) (x : Int) :
    Calls Tryd.prog 30 #[ptrF g, .int .i64 (p : Int), .int .i64 x] w fun e w' => e = .returned (.tuple #[]) ∧ FilM w' g b (put1 f p x) ∧ Stay (Two g b) w w' := by
  obtain ⟨c0, c1, f0, f1⟩ := h.facts
  have hl := h.map.look1 (k := k) (by omega)
  obtain ⟨q0, h0⟩ : ∃ q, f.c (4 * k) = q := ⟨_, rfl⟩
  obtain ⟨q1, h1⟩ : ∃ q, f.c (4 * k + 1) = q := ⟨_, rfl⟩
  obtain ⟨q2, h2⟩ : ∃ q, f.c (4 * k + 2) = q := ⟨_, rfl⟩
  obtain ⟨q3, h3⟩ : ∃ q, f.c (4 * k + 3) = q := ⟨_, rfl⟩
  have eQ : quad f.c k = .agg #[.int .i64 q0, .int .i64 q1, .int .i64 q2, .int .i64 q3] := by unfold quad; rw [h0, h1, h2, h3]
  have eP : quad (put1 f p x).c k = .agg #[.int .i64 q0, .int .i64 q1, .int .i64 x, .int .i64 q3] := by unfold quad put1; dsimp only; rw [if_neg (by omega), h0, if_neg (by omega), h1, if_pos (by omega), if_neg (by omega), h3]
  have ek : p / 4 = k := by omega
  have hb := below_alloc w (.cells #[.int .i64 q0, .int .i64 q1, .int .i64 x, .int .i64 q3] 61)
  obtain ⟨w', u1, u2, u3⟩ := (h.map.block (w' := (w.alloc (.cells #[.int .i64 q0, .int .i64 q1, .int .i64 x, .int .i64 q3] 61)).drew) (hb.block b h.lt.2)).put hp x
  rw [ek, eP] at u1
  rw [eQ] at hl
  have hq : (p : Int) / 4 = (k : Int) := by omega
  have hr : (p : Int) % 4 = 2 := by omega
  have hS : Stay (Two g b) w w' := ((Stay.of hb).trans (Stay.drew _ _)).trans (Stay.map u3 (.inr rfl))
  have hC : w'.heap[g]? = w.heap[g]? := by
    have e1 := u3.grown.block g (show g < (w.alloc _).heap.size from Nat.lt_of_lt_of_le h.lt.1 hb.size) (fun e => h.apart (Option.some.inj e))
    exact e1.trans (hb.block g h.lt.1)
  have HZ : Hid (FilM w' g b (put1 f p x) ∧ Stay (Two g b) w w') := ⟨⟨hC.trans h.cells, u2⟩, hS⟩
  obtain ⟨_, d1, _, _⟩ := (h.later hb).facts
  unfold ptrF
  clear h u2 u3 hS hC hb hk ek eQ eP h0 h1 h2 h3
  go_enter Tryd.func30, Tryd.ntmps30
  go_wp2
  go_region
  go_end0
  exact ⟨rfl, HZ.out⟩

set_option maxHeartbeats 1000000 in
theorem sp_put3 (w : World) (g b : Nat) (f : Fil) (h : FilM w g b f) (p k : Nat) (hp : p < 64) (hk : p = 4 * k + 3) (x : Int) :
    Calls Tryd.prog 30 #[ptrF g, .int .i64 (p : Int), .int .i64 x] w fun e w' => e = .returned (.tuple #[]) ∧ FilM w' g b (put1 f p x) ∧ Stay (Two g b) w w' := by
  obtain ⟨c0, c1, f0, f1⟩ := h.facts
  have hl := h.map.look1 (k := k) (by omega)
  obtain ⟨q0, h0⟩ : ∃ q, f.c (4 * k) = q := ⟨_, rfl⟩
  obtain ⟨q1, h1⟩ : ∃ q, f.c (4 * k + 1) = q := ⟨_, rfl⟩
  obtain ⟨q2, h2⟩ : ∃ q, f.c (4 * k + 2) = q := ⟨_, rfl⟩
  obtain ⟨q3, h3⟩ : ∃ q, f.c (4 * k + 3) = q := ⟨_, rfl⟩
  have eQ : quad f.c k = .agg #[.int .i64 q0, .int .i64 q1, .int .i64 q2, .int .i64 q3] := by unfold quad; rw [h0, h1, h2, h3]
  have eP : quad (put1 f p x).c k = .agg #[.int .i64 q0, .int .i64 q1, .int .i64 q2, .int .i64 x] := by unfold quad put1; dsimp only; rw [if_neg (by omega), h0, if_neg (by omega), h1, if_neg (by omega), h2, if_pos (by omega)]
  have ek : p / 4 = k := by omega
  have hb := below_alloc w (.cells #[.int .i64 q0, .int .i64 q1, .int .i64 q2, .int .i64 x] 61)
  obtain ⟨w', u1, u2, u3⟩ := (h.map.block (w' := (w.alloc (.cells #[.int .i64 q0, .int .i64 q1, .int .i64 q2, .int .i64 x] 61)).drew) (hb.block b h.lt.2)).put hp x
  rw [ek, eP] at u1
  rw [eQ] at hl
  have hq : (p : Int) / 4 = (k : Int) := by omega
  have hr : (p : Int) % 4 = 3 := by omega
  have hS : Stay (Two g b) w w' := ((Stay.of hb).trans (Stay.drew _ _)).trans (Stay.map u3 (.inr rfl))
  have hC : w'.heap[g]? = w.heap[g]? := by
    have e1 := u3.grown.block g (show g < (w.alloc _).heap.size from Nat.lt_of_lt_of_le h.lt.1 hb.size) (fun e => h.apart (Option.some.inj e))
    exact e1.trans (hb.block g h.lt.1)
  have HZ : Hid (FilM w' g b (put1 f p x) ∧ Stay (Two g b) w w') := ⟨⟨hC.trans h.cells, u2⟩, hS⟩
  obtain ⟨_, d1, _, _⟩ := (h.later hb).facts
  unfold ptrF
  clear h u2 u3 hS hC hb hk ek eQ eP h0 h1 h2 h3
  go_enter Tryd.func30, Tryd.ntmps30
  go_wp2
  go_region
  go_end0
  exact ⟨rfl, HZ.out⟩

theorem sp_put (w : World) (g b : Nat) (f : Fil) (h : FilM w g b f) (p : Nat) (hp : p < 64) (x : Int) :
    Calls Tryd.prog 30 #[ptrF g, .int .i64 (p : Int), .int .i64 x] w fun e w' => e = .returned (.tuple #[]) ∧ FilM w' g b (put1 f p x) ∧ Stay (Two g b) w w' := by
  rcases (show p % 4 = 0 ∨ p % 4 = 1 ∨ p % 4 = 2 ∨ p % 4 = 3 by omega) with e | e | e | e
  · exact sp_put0 w g b f h p (p / 4) hp (by omega) x
  · exact sp_put1 w g b f h p (p / 4) hp (by omega) x
  · exact sp_put2 w g b f h p (p / 4) hp (by omega) x
  · exact sp_put3 w g b f h p (p / 4) hp (by omega) x

end Go.Proofs.YtepnbkonhaongaaDoor
