/- This text says what it means that a log of records lies in memory, and that a disk lies there, and that this stays so whatever is done elsewhere; it speaks of no call; no condition. -/
import Derived.Test.YthgbknfdbobmiaaZT0
import Derived.Test.YthgbknfdbobmiaaLo
import Derived.Test.YthgbknfdbobmiaaEr
import Derived.Below
import Derived.Laws.OwnMore
import Derived.Laws.Rows
namespace Go.Proofs.Ythgbknfdbobmiaa.Zw
open Go.RowKit Go.Deep

/-- The cells of records. -/
def rcc : List Rc → List Value
  | [] => []
  | x :: l => .int .i64 (x.t : Int) :: .int .i64 (x.b : Int) :: .int .i64 (x.v : Int) :: .bool x.e :: rcc l

theorem rcc_len : ∀ l, (rcc l).length = l.length * 4
  | [] => rfl
  | x :: l => by simp only [rcc, List.length_cons, rcc_len l]; omega

theorem rcc_append : ∀ (a b : List Rc), rcc (a ++ b) = rcc a ++ rcc b
  | [], b => rfl
  | y :: l, b => by simp only [rcc, List.cons_append, rcc_append l b]

theorem rcc_snoc (x : Rc) (l : List Rc) : rcc l ++ [.int .i64 (x.t : Int), .int .i64 (x.b : Int), .int .i64 (x.v : Int), .bool x.e] = rcc (l ++ [x]) := by rw [rcc_append]; rfl

/-- The record at a place. -/
def rcAt (l : List Rc) (i : Nat) : Rc := l.getD i ⟨0, 0, 0, false⟩

theorem rcAt_lt {l : List Rc} {i : Nat} (h : i < l.length) : rcAt l i = l[i] := by unfold rcAt; simp [List.getD, h]

theorem rcAt_mem {l : List Rc} {i : Nat} (h : i < l.length) : rcAt l i ∈ l := by rw [rcAt_lt h]; exact List.getElem_mem h

theorem rcAt_last (a : List Rc) (x : Rc) : rcAt (a ++ [x]) a.length = x := by unfold rcAt; simp

theorem rcc_at : ∀ (l : List Rc) (i : Nat), i < l.length → (rcc l)[i * 4]? = some (.int .i64 ((rcAt l i).t : Int)) ∧ (rcc l)[i * 4 + 1]? = some (.int .i64 ((rcAt l i).b : Int)) ∧ (rcc l)[i * 4 + 2]? = some (.int .i64 ((rcAt l i).v : Int)) ∧ (rcc l)[i * 4 + 3]? = some (.bool (rcAt l i).e)
  | [], i, h => by simp at h
  | x :: l, 0, _ => by simp [rcc, rcAt]
  | x :: l, i + 1, h => by
    have := rcc_at l i (by simpa using h)
    simp only [rcc, show (i + 1) * 4 = i * 4 + 1 + 1 + 1 + 1 by omega, List.getElem?_cons_succ, rcAt, List.getD_cons_succ]
    exact this

/-- The value is a slice that holds these records. -/
def RcsIs (w : World) (v : Value) (l : List Rc) : Prop :=
  ∃ a cap, v = .slice a l.length cap ∧ l.length ≤ maxLen ∧ (l ≠ [] → ∃ b, a = some ⟨b, 0, none⟩ ∧ b < w.heap.size ∧
    ∀ i, i < l.length → w.cell? ⟨b, i * 4, none⟩ = some (.int .i64 ((rcAt l i).t : Int)) ∧ w.cell? ⟨b, i * 4 + 1, none⟩ = some (.int .i64 ((rcAt l i).b : Int)) ∧
      w.cell? ⟨b, i * 4 + 2, none⟩ = some (.int .i64 ((rcAt l i).v : Int)) ∧ w.cell? ⟨b, i * 4 + 3, none⟩ = some (.bool (rcAt l i).e))

theorem RcsIs.later {w w' : World} {v : Value} {l : List Rc} (h : RcsIs w v l) (hb : Below w.heap.size w w') : RcsIs w' v l := by
  obtain ⟨a, cap, hv, hl, hx⟩ := h
  refine ⟨a, cap, hv, hl, fun hne => ?_⟩
  obtain ⟨b, ha, hlt, hc⟩ := hx hne
  refine ⟨b, ha, Nat.lt_of_lt_of_le hlt hb.size, fun i hi => ?_⟩
  have := hc i hi
  exact ⟨by rw [hb.cell (p := ⟨b, i * 4, none⟩) hlt]; exact this.1, by rw [hb.cell (p := ⟨b, i * 4 + 1, none⟩) hlt]; exact this.2.1, by rw [hb.cell (p := ⟨b, i * 4 + 2, none⟩) hlt]; exact this.2.2.1, by rw [hb.cell (p := ⟨b, i * 4 + 3, none⟩) hlt]; exact this.2.2.2⟩

theorem RcsIs.where {w : World} {v : Value} {l : List Rc} (h : RcsIs w v l) :
    ∃ a c b, v = .slice a l.length c ∧ l.length ≤ maxLen ∧ (0 < l.length → a = some ⟨b, 0, none⟩) ∧ (0 < l.length → b < w.heap.size) ∧
    ∀ i, i < l.length → w.cell? ⟨b, i * 4, none⟩ = some (.int .i64 ((rcAt l i).t : Int)) ∧ w.cell? ⟨b, i * 4 + 1, none⟩ = some (.int .i64 ((rcAt l i).b : Int)) ∧
      w.cell? ⟨b, i * 4 + 2, none⟩ = some (.int .i64 ((rcAt l i).v : Int)) ∧ w.cell? ⟨b, i * 4 + 3, none⟩ = some (.bool (rcAt l i).e) := by
  obtain ⟨a, c, rfl, hl, hi⟩ := h
  by_cases hx : l = []
  · subst hx
    exact ⟨a, c, 0, rfl, hl, fun h => absurd h (by simp), fun h => absurd h (by simp), fun i h => absurd h (by simp)⟩
  · obtain ⟨b, ha, hb, hc⟩ := hi hx
    exact ⟨a, c, b, rfl, hl, fun _ => ha, fun _ => hb, hc⟩

/-- Records that the call itself has laid. -/
theorem rcs_own {w : World} {base n : Nat} {v : Value} {l : List Rc} (h : w.ownsRow base 65 4 v n (rcc l)) (hm : n ≤ maxLen) : RcsIs w v l := by
  have hl : l.length = n := by have := h.1; rw [rcc_len] at this; omega
  rcases h.2 with ⟨h0, h1⟩ | ⟨g, cap, cur, h1, h2, h3, _⟩
  · subst h0
    obtain rfl : l = [] := List.length_eq_zero_iff.1 (by omega)
    exact ⟨none, 0, rfl, Nat.zero_le _, fun h => absurd rfl h⟩
  · subst h1
    refine ⟨_, cap, by rw [hl], by omega, fun _ => ⟨g, rfl, (Array.getElem?_eq_some_iff.1 h3).1, fun i hi => ?_⟩⟩
    obtain ⟨k0, k1, k2, k3⟩ := rcc_at l i hi
    have m0 := h.cells (g := g) rfl (i * 4) _ k0
    have m1 := h.cells (g := g) rfl (i * 4 + 1) _ k1
    have m2 := h.cells (g := g) rfl (i * 4 + 2) _ k2
    have m3 := h.cells (g := g) rfl (i * 4 + 3) _ k3
    rw [addr_at] at m0 m1 m2 m3
    exact ⟨m0, m1, m2, m3⟩

theorem news_four (w : World) (u v x y : Value) (t : TypeId) : ∀ (j : Nat) (z : Value), [u, v, x, y][j]? = some z → (w.alloc (.cells #[u, v, x, y] t)).cell? ((⟨w.heap.size, 0, none⟩ : Addr).add j) = some z := by
  intro j x hx
  rw [addr_at, cell_new]
  simpa using hx

theorem ones_four (x y z : Int) (b : Bool) : ∀ u ∈ [Value.int .i64 x, .int .i64 y, .int .i64 z, .bool b], u.oneCell' = true := fun u hu => by
  simp only [List.mem_cons, List.not_mem_nil, or_false] at hu
  rcases hu with rfl | rfl | rfl | rfl <;> rfl

/-- A part of the records that is at the front. -/
theorem rcc_take : ∀ (l : List Rc) (k : Nat), k ≤ l.length → (rcc l).take (k * 4) = rcc (l.take k)
  | l, 0, _ => by simp [rcc]
  | [], k + 1, h => by simp at h
  | x :: l, k + 1, h => by
    have := rcc_take l k (by simpa using h)
    simp only [rcc, show (k + 1) * 4 = k * 4 + 1 + 1 + 1 + 1 by omega, List.take_succ_cons, this]

/-- The cells of a disk. -/
def dkC (d : Dk) (v : Value) : Array Value := celN d.H 8 ++ #[v, .int .i64 (d.s : Int)]

/-- A disk in memory: its cells, and its log's. -/
structure DiskM (w : World) (base g : Nat) (v : Value) (d : Dk) : Prop where
  cells : w.heap[g]? = some (.cells (dkC d v) 59 (0, 0))
  log : w.ownsRow base 65 4 v d.L.length (rcc d.L)
  ap : v.ownBlock ≠ some g
  fine : Fine d
  low : base ≤ g

/-- A disk's blocks. -/
def Fp (g : Nat) (v : Value) (x : Nat) : Prop := x = g ∨ v.ownBlock = some x

def ptrD (g : Nat) : Value := .pointer (some ⟨g, 0, none⟩)

theorem DiskM.lt {w : World} {base g : Nat} {v : Value} {d : Dk} (h : DiskM w base g v d) : g < w.heap.size := (Array.getElem?_eq_some_iff.1 h.cells).1

theorem DiskM.fp {w : World} {base g : Nat} {v : Value} {d : Dk} (h : DiskM w base g v d) {x : Nat} (hx : Fp g v x) : base ≤ x ∧ x < w.heap.size := by
  rcases hx with rfl | e
  · exact ⟨h.low, h.lt⟩
  · exact h.log.lt x e

theorem DiskM.frame {w w' : World} {base g : Nat} {v : Value} {d : Dk} (h : DiskM w base g v d) (hs : ∀ x, Fp g v x → w'.heap[x]? = w.heap[x]?) : DiskM w' base g v d :=
  ⟨(hs g (.inl rfl)).trans h.cells, own_block h.log fun b e => hs b (.inr e), h.ap, h.fine, h.low⟩

theorem DiskM.later {w w' : World} {base g : Nat} {v : Value} {d : Dk} (h : DiskM w base g v d) (hb : Below w.heap.size w w') : DiskM w' base g v d := h.frame fun x hx => hb.block x (h.fp hx).2

theorem DiskM.stay {S : Nat → Prop} {w w' : World} {base g : Nat} {v : Value} {d : Dk} (h : DiskM w base g v d) (hs : Stay S w w') (hn : ∀ x, Fp g v x → ¬ S x) : DiskM w' base g v d := h.frame fun x hx => hs.block x (h.fp hx).2 (hn x hx)

theorem DiskM.recs {w : World} {base g : Nat} {v : Value} {d : Dk} (h : DiskM w base g v d) : RcsIs w v d.L := rcs_own h.log (by have := h.fine.len; unfold maxLen; omega)

theorem dkC_log (d : Dk) (v : Value) : (dkC d v)[8]? = some v := by unfold dkC; rw [Array.getElem?_append_right (by rw [celN_size]; omega), celN_size]; rfl

theorem dkC_syn (d : Dk) (v : Value) : (dkC d v)[9]? = some (.int .i64 (d.s : Int)) := by unfold dkC; rw [Array.getElem?_append_right (by rw [celN_size]; omega), celN_size]; rfl

theorem dkC_val (d : Dk) (v : Value) {i : Nat} (hi : i < 8) : (dkC d v)[i]? = some (.int .i64 (d.H i : Int)) := by unfold dkC; rw [Array.getElem?_append_left (by rw [celN_size]; omega), celN_get hi]

theorem dkC_size (d : Dk) (v : Value) : (dkC d v).size = 10 := by unfold dkC; rw [Array.size_append, celN_size]; rfl

theorem dkC_setLog (d : Dk) (v u : Value) (L : List Rc) : (dkC d v).setIfInBounds 8 u = dkC ⟨d.H, L, d.s⟩ u := by
  unfold dkC
  rw [Array.setIfInBounds_append_right (by rw [celN_size]; omega), celN_size]
  rfl

theorem dkC_setSyn (d : Dk) (v : Value) (s : Nat) (L : List Rc) : (dkC d v).setIfInBounds 9 (.int .i64 (s : Int)) = dkC ⟨d.H, L, s⟩ v := by
  unfold dkC
  rw [Array.setIfInBounds_append_right (by rw [celN_size]; omega), celN_size]
  rfl

theorem DiskM.facts {w : World} {base g : Nat} {v : Value} {d : Dk} (h : DiskM w base g v d) : w.cell? ⟨g, 8, none⟩ = some v ∧ w.cell? ⟨g, 9, none⟩ = some (.int .i64 (d.s : Int)) ∧ w.frozen? ⟨g, 8, none⟩ = false ∧ w.frozen? ⟨g, 9, none⟩ = false :=
  ⟨(cell_in h.cells 8).1.trans (dkC_log d v), (cell_in h.cells 9).1.trans (dkC_syn d v), (cell_in h.cells 8).2, (cell_in h.cells 9).2⟩

/-- How many records last is written down. -/
theorem DiskM.setSyn {w : World} {base g : Nat} {v : Value} {d : Dk} (h : DiskM w base g v d) (s : Nat) : DiskM (w.setCell ⟨g, 9, none⟩ (.int .i64 (s : Int))) base g v ⟨d.H, d.L, s⟩ :=
  ⟨by rw [heap_set h.cells, dkC_setSyn d v s d.L], own_block h.log fun b e => Below.heap_setCell w ⟨g, 9, none⟩ _ b fun k => h.ap (by rw [e]; exact congrArg some k), h.ap, ⟨h.fine.one, h.fine.two, h.fine.len⟩, h.low⟩

end Go.Proofs.Ythgbknfdbobmiaa.Zw
