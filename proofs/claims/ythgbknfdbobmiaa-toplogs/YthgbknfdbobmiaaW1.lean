/- This text says what it means that notes of turns lie in memory, and that a disk lies there, and that this stays so whatever is done elsewhere; it speaks of no call; no condition. -/
import Derived.Test.YthgbknfdbobmiaaW0
namespace Go.Proofs.Ythgbknfdbobmiaa
open Go.RowKit Go.Deep

/-- The cells of notes. -/
def ntc : List Nt → List Value
  | [] => []
  | x :: l => .int .i64 (x.t : Int) :: .int .i64 (x.b : Int) :: .int .i64 (x.w : Int) :: ntc l
theorem ntc_len : ∀ l, (ntc l).length = l.length * 3
  | [] => rfl
  | x :: l => by simp only [ntc, List.length_cons, ntc_len l]; omega
theorem ntc_append : ∀ (a b : List Nt), ntc (a ++ b) = ntc a ++ ntc b
  | [], b => rfl
  | y :: l, b => by simp only [ntc, List.cons_append, ntc_append l b]
theorem ntc_snoc (x : Nt) (l : List Nt) : ntc l ++ [.int .i64 (x.t : Int), .int .i64 (x.b : Int), .int .i64 (x.w : Int)] = ntc (l ++ [x]) := by rw [ntc_append]; rfl
/-- The note at a place. -/
def ntAt (l : List Nt) (i : Nat) : Nt := l.getD i ⟨0, 0, 0⟩
theorem ntAt_lt {l : List Nt} {i : Nat} (h : i < l.length) : ntAt l i = l[i] := by unfold ntAt; simp [List.getD, h]
theorem ntAt_mem {l : List Nt} {i : Nat} (h : i < l.length) : ntAt l i ∈ l := by rw [ntAt_lt h]; exact List.getElem_mem h

theorem ntc_at : ∀ (l : List Nt) (i : Nat), i < l.length → (ntc l)[i * 3]? = some (.int .i64 ((ntAt l i).t : Int)) ∧ (ntc l)[i * 3 + 1]? = some (.int .i64 ((ntAt l i).b : Int)) ∧ (ntc l)[i * 3 + 2]? = some (.int .i64 ((ntAt l i).w : Int))
  | [], i, h => by simp at h
  | x :: l, 0, _ => by simp [ntc, ntAt]
  | x :: l, i + 1, h => by
    have := ntc_at l i (by simpa using h)
    simp only [ntc, show (i + 1) * 3 = i * 3 + 1 + 1 + 1 by omega, List.getElem?_cons_succ, ntAt, List.getD_cons_succ]
    exact this

/-- Where notes lie: a block, and its cells. -/
def NtsAt (w : World) (b : Nat) (l : List Nt) : Prop := ∀ i, i < l.length → w.cell? ⟨b, i * 3, none⟩ = some (.int .i64 ((ntAt l i).t : Int)) ∧ w.cell? ⟨b, i * 3 + 1, none⟩ = some (.int .i64 ((ntAt l i).b : Int)) ∧ w.cell? ⟨b, i * 3 + 2, none⟩ = some (.int .i64 ((ntAt l i).w : Int))
theorem NtsAt.block {w w' : World} {b : Nat} {l : List Nt} (h : NtsAt w b l) (e : w'.heap[b]? = w.heap[b]?) : NtsAt w' b l := fun i hi => by
  obtain ⟨q0, q1, q2⟩ := h i hi
  exact ⟨(World.cell?_of_block (w := w) (a := ⟨b, i * 3, none⟩) e).trans q0, (World.cell?_of_block (w := w) (a := ⟨b, i * 3 + 1, none⟩) e).trans q1, (World.cell?_of_block (w := w) (a := ⟨b, i * 3 + 2, none⟩) e).trans q2⟩
/-- The value is a slice that holds these notes. -/
def NtsIs (w : World) (v : Value) (l : List Nt) : Prop :=
  ∃ a cap, v = .slice a l.length cap ∧ l.length ≤ maxLen ∧ (l ≠ [] → ∃ b, a = some ⟨b, 0, none⟩ ∧ b < w.heap.size ∧ NtsAt w b l)

theorem NtsIs.later {w w' : World} {v : Value} {l : List Nt} (h : NtsIs w v l) (hb : Below w.heap.size w w') : NtsIs w' v l := by
  obtain ⟨a, cap, hv, hl, hx⟩ := h
  refine ⟨a, cap, hv, hl, fun hne => ?_⟩
  obtain ⟨b, ha, hlt, hc⟩ := hx hne
  exact ⟨b, ha, Nat.lt_of_lt_of_le hlt hb.size, hc.block (hb.block b hlt)⟩
theorem NtsIs.where {w : World} {v : Value} {l : List Nt} (h : NtsIs w v l) :
    ∃ a c b, v = .slice a l.length c ∧ l.length ≤ maxLen ∧ (0 < l.length → a = some ⟨b, 0, none⟩) ∧ (0 < l.length → b < w.heap.size) ∧ NtsAt w b l := by
  obtain ⟨a, c, rfl, hl, hi⟩ := h
  by_cases hx : l = []
  · subst hx
    exact ⟨a, c, 0, rfl, hl, fun h => absurd h (by simp), fun h => absurd h (by simp), fun i h => absurd h (by simp)⟩
  · obtain ⟨b, ha, hb, hc⟩ := hi hx
    exact ⟨a, c, b, rfl, hl, fun _ => ha, fun _ => hb, hc⟩

/-- Notes that the call itself has laid. -/
theorem nts_own {w : World} {base n : Nat} {v : Value} {l : List Nt} (h : w.ownsRow base 69 3 v n (ntc l)) (hm : n ≤ maxLen) : NtsIs w v l := by
  have hl : l.length = n := by have := h.1; rw [ntc_len] at this; omega
  rcases h.2 with ⟨h0, h1⟩ | ⟨g, cap, cur, h1, h2, h3, _⟩
  · subst h0
    obtain rfl : l = [] := List.length_eq_zero_iff.1 (by omega)
    exact ⟨none, 0, rfl, Nat.zero_le _, fun h => absurd rfl h⟩
  · subst h1
    refine ⟨_, cap, by rw [hl], by omega, fun _ => ⟨g, rfl, (Array.getElem?_eq_some_iff.1 h3).1, fun i hi => ?_⟩⟩
    obtain ⟨k0, k1, k2⟩ := ntc_at l i hi
    have m0 := h.cells (g := g) rfl (i * 3) _ k0
    have m1 := h.cells (g := g) rfl (i * 3 + 1) _ k1
    have m2 := h.cells (g := g) rfl (i * 3 + 2) _ k2
    rw [addr_at] at m0 m1 m2
    exact ⟨m0, m1, m2⟩
theorem news_three (w : World) (u v x : Value) (t : TypeId) : ∀ (j : Nat) (z : Value), [u, v, x][j]? = some z → (w.alloc (.cells #[u, v, x] t)).cell? ((⟨w.heap.size, 0, none⟩ : Addr).add j) = some z := by
  intro j x hx
  rw [addr_at, cell_new]
  simpa using hx
theorem ones_three (x y z : Int) : ∀ u ∈ [Value.int .i64 x, .int .i64 y, .int .i64 z], u.oneCell' = true := fun u hu => by
  simp only [List.mem_cons, List.not_mem_nil, or_false] at hu
  rcases hu with rfl | rfl | rfl <;> rfl
/-- A part of the notes that is at the front. -/
theorem ntc_take : ∀ (l : List Nt) (k : Nat), k ≤ l.length → (ntc l).take (k * 3) = ntc (l.take k)
  | l, 0, _ => by simp [ntc]
  | [], k + 1, h => by simp at h
  | x :: l, k + 1, h => by
    have := ntc_take l k (by simpa using h)
    simp only [ntc, show (k + 1) * 3 = k * 3 + 1 + 1 + 1 by omega, List.take_succ_cons, this]

/-- The cells of a disk. -/
def udC (d : Ud) (v : Value) : Array Value := celN d.H 8 ++ #[v]
/-- A disk in memory: its cells, and its notes'. -/
structure UndoM (w : World) (base g : Nat) (v : Value) (d : Ud) : Prop where
  cells : w.heap[g]? = some (.cells (udC d v) 62 (0, 0))
  log : w.ownsRow base 69 3 v d.L.length (ntc d.L)
  ap : v.ownBlock ≠ some g
  good : GoodU d
  low : base ≤ g
/-- A disk's blocks. -/
def Up (g : Nat) (v : Value) (x : Nat) : Prop := x = g ∨ v.ownBlock = some x
def ptrU (g : Nat) : Value := .pointer (some ⟨g, 0, none⟩)

theorem UndoM.lt {w : World} {base g : Nat} {v : Value} {d : Ud} (h : UndoM w base g v d) : g < w.heap.size := (Array.getElem?_eq_some_iff.1 h.cells).1
theorem UndoM.fp {w : World} {base g : Nat} {v : Value} {d : Ud} (h : UndoM w base g v d) {x : Nat} (hx : Up g v x) : base ≤ x ∧ x < w.heap.size := by
  rcases hx with rfl | e
  · exact ⟨h.low, h.lt⟩
  · exact h.log.lt x e
theorem UndoM.frame {w w' : World} {base g : Nat} {v : Value} {d : Ud} (h : UndoM w base g v d) (hs : ∀ x, Up g v x → w'.heap[x]? = w.heap[x]?) : UndoM w' base g v d :=
  ⟨(hs g (.inl rfl)).trans h.cells, own_block h.log fun b e => hs b (.inr e), h.ap, h.good, h.low⟩
theorem UndoM.later {w w' : World} {base g : Nat} {v : Value} {d : Ud} (h : UndoM w base g v d) (hb : Below w.heap.size w w') : UndoM w' base g v d := h.frame fun x hx => hb.block x (h.fp hx).2
theorem UndoM.stay {S : Nat → Prop} {w w' : World} {base g : Nat} {v : Value} {d : Ud} (h : UndoM w base g v d) (hs : Stay S w w') (hn : ∀ x, Up g v x → ¬ S x) : UndoM w' base g v d := h.frame fun x hx => hs.block x (h.fp hx).2 (hn x hx)
theorem UndoM.nts {w : World} {base g : Nat} {v : Value} {d : Ud} (h : UndoM w base g v d) : NtsIs w v d.L := nts_own h.log (by have := h.good.len; unfold maxLen; omega)
theorem udC_log (d : Ud) (v : Value) : (udC d v)[8]? = some v := by unfold udC; rw [Array.getElem?_append_right (by rw [celN_size]; omega), celN_size]; rfl
theorem udC_val (d : Ud) (v : Value) {i : Nat} (hi : i < 8) : (udC d v)[i]? = some (.int .i64 (d.H i : Int)) := by unfold udC; rw [Array.getElem?_append_left (by rw [celN_size]; omega), celN_get hi]
theorem udC_setLog (d : Ud) (v u : Value) (L : List Nt) : (udC d v).setIfInBounds 8 u = udC ⟨d.H, L⟩ u := by
  unfold udC
  rw [Array.setIfInBounds_append_right (by rw [celN_size]; omega), celN_size]
  rfl
theorem udC_setVal (d : Ud) (v : Value) (i s : Nat) (hi : i < 8) (L : List Nt) : (udC d v).setIfInBounds i (.int .i64 (s : Int)) = udC ⟨putV d.H i s, L⟩ v := by
  unfold udC
  rw [Array.setIfInBounds_append_left (by rw [celN_size]; omega), celN_set]
theorem UndoM.facts {w : World} {base g : Nat} {v : Value} {d : Ud} (h : UndoM w base g v d) : w.cell? ⟨g, 8, none⟩ = some v ∧ w.frozen? ⟨g, 8, none⟩ = false :=
  ⟨(cell_in h.cells 8).1.trans (udC_log d v), (cell_in h.cells 8).2⟩
theorem UndoM.val {w : World} {base g : Nat} {v : Value} {d : Ud} (h : UndoM w base g v d) {i : Nat} (hi : i < 8) : w.cell? ⟨g, i, none⟩ = some (.int .i64 (d.H i : Int)) ∧ w.frozen? ⟨g, i, none⟩ = false :=
  ⟨(cell_in h.cells i).1.trans (udC_val d v hi), (cell_in h.cells i).2⟩
/-- A value is stored. -/
theorem UndoM.put {w : World} {base g : Nat} {v : Value} {d : Ud} (h : UndoM w base g v d) {i : Nat} (hi : i < 8) (s : Nat) : UndoM (w.setCell ⟨g, i, none⟩ (.int .i64 (s : Int))) base g v ⟨putV d.H i s, d.L⟩ :=
  ⟨by rw [heap_set h.cells, udC_setVal d v i s hi d.L], own_block h.log fun b e => Below.heap_setCell w ⟨g, i, none⟩ _ b fun k => h.ap (by rw [e]; exact congrArg some k), h.ap, ⟨h.good.one, h.good.len, h.good.sole⟩, h.low⟩
/-- Other notes are stored, that lie in a block of the disk's own or in a new one. -/
theorem UndoM.notes {w : World} {base g : Nat} {v u : Value} {d : Ud} {L : List Nt} (h : w.heap[g]? = some (.cells (udC d v) 62 (0, 0))) (hl : base ≤ g) (ho : w.ownsRow base 69 3 u L.length (ntc L)) (hu : u.ownBlock ≠ some g) (hg : GoodU ⟨d.H, L⟩) :
    UndoM (w.setCell ⟨g, 8, none⟩ u) base g u ⟨d.H, L⟩ :=
  ⟨by rw [heap_set h, udC_setLog d v u L], own_block ho fun b e => Below.heap_setCell w ⟨g, 8, none⟩ _ b fun k => hu (by rw [e]; exact congrArg some k), hu, hg, hl⟩

/-- What a step leaves of a disk, in memory. -/
structure Turn (w w' : World) (base g : Nat) (v v' : Value) (d : Ud) : Prop where
  disk : UndoM w' base g v' d
  stay : Stay (Up g v) w w'
  lies : ∀ x, v'.ownBlock = some x → v.ownBlock = some x ∨ w.heap.size ≤ x
theorem Turn.none' {w w' : World} {base g : Nat} {v : Value} {d : Ud} (h : UndoM w base g v d) (hb : Below w.heap.size w w') : Turn w w' base g v v d := ⟨h.later hb, Stay.of hb, fun _ e => .inl e⟩
theorem Turn.ahead {w w1 w' : World} {base g : Nat} {v v' : Value} {d : Ud} (hb : Below w.heap.size w w1) (h : Turn w1 w' base g v v' d) : Turn w w' base g v v' d :=
  ⟨h.disk, (Stay.of hb).trans h.stay, fun x e => by rcases h.lies x e with k | k; exact .inl k; exact .inr (Nat.le_trans hb.size k)⟩
theorem Turn.fp {w w' : World} {base g : Nat} {v v' : Value} {d : Ud} (h : Turn w w' base g v v' d) (x : Nat) (hx : Up g v' x) : Up g v x ∨ w.heap.size ≤ x := by
  rcases hx with e | e
  · exact .inl (.inl e)
  · rcases h.lies x e with k | k
    · exact .inl (.inr k)
    · exact .inr k
/-- A step behind another one. -/
theorem Turn.next {a b c : World} {base g : Nat} {v v' v'' : Value} {d d' : Ud} (h : Turn a b base g v v' d) (k : Turn b c base g v' v'' d') : Turn a c base g v v'' d' :=
  ⟨k.disk, h.stay.next k.stay fun x hx => h.fp x hx, fun x e => by
    rcases k.lies x e with m | m
    · exact h.lies x m
    · exact .inr (Nat.le_trans h.stay.size m)⟩

end Go.Proofs.Ythgbknfdbobmiaa
