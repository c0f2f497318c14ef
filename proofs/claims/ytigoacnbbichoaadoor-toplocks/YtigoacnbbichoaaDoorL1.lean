/- This text says what it means that a table of locks, and a list of locks, lie in memory, and that this stays so whatever is done elsewhere; it speaks of no call; no condition. -/
import Derived.Test.YtigoacnbbichoaaDoorL0
import Derived.Test.YtigoacnbbichoaaDoorLo
import Derived.Test.YtigoacnbbichoaaDoorAs
import Derived.Below
import Derived.Laws.OwnMore
import Derived.Laws.Rows
namespace Go.Proofs.YtigoacnbbichoaaDoor
open Go.RowKit Go.Deep

/-- The first n numbers of a function, as cells. -/
def celN (R : Nat → Nat) (n : Nat) : Array Value := ((List.range n).map fun i => Value.int .i64 (R i : Int)).toArray

theorem celN_size (R : Nat → Nat) (n : Nat) : (celN R n).size = n := by simp [celN]
theorem celN_get {R : Nat → Nat} {n i : Nat} (h : i < n) : (celN R n)[i]? = some (.int .i64 (R i : Int)) := by simp [celN, h]
theorem celN_out {R : Nat → Nat} {n i : Nat} (h : n ≤ i) : (celN R n)[i]? = none := by simp [celN, h]
theorem celN_set (R : Nat → Nat) (n i s : Nat) : (celN R n).setIfInBounds i (.int .i64 (s : Int)) = celN (upS R i (i + 1) s) n := by
  apply Array.ext_getElem?
  intro j
  by_cases hj : j < n
  · rw [celN_get hj, Array.getElem?_setIfInBounds, celN_size]
    unfold upS
    by_cases e : i = j
    · subst e; rw [if_pos rfl, if_pos hj, if_pos (by omega)]
    · rw [if_neg e, celN_get hj, if_neg (by omega)]
  · rw [celN_out (by omega), Array.getElem?_setIfInBounds, celN_size]
    by_cases e : i = j
    · subst e; rw [if_pos rfl, if_neg hj]
    · rw [if_neg e, celN_out (by omega)]
theorem celN_part (S : Nat → Nat) {k : Nat} (h : k < 4) : (celN S 256).extract (k * 64) (k * 64 + 64) = celN (row S k) 64 := by
  apply Array.ext_getElem?
  intro j
  rw [Array.getElem?_extract, celN_size]
  by_cases hj : j < 64
  · rw [if_pos (by omega), celN_get (by omega), celN_get hj]; rfl
  · rw [if_neg (by omega), celN_out (by omega)]
theorem celN_one (R : Nat → Nat) (n : Nat) : (celN R n).all (·.oneCell') = true := by
  refine Array.all_eq_true_iff_forall_mem.2 fun v hv => ?_
  unfold celN at hv
  rw [List.mem_toArray] at hv
  obtain ⟨i, _, rfl⟩ := List.mem_map.1 hv
  rfl
theorem celN_nought (n : Nat) : celN nS n = (List.replicate n (Value.int .i64 0)).toArray := by
  have h : ((List.range n).map fun i => Value.int .i64 (nS i : Int)) = List.replicate n (Value.int .i64 0) :=
    List.eq_replicate_iff.2 ⟨by simp, fun b hb => by obtain ⟨i, _, rfl⟩ := List.mem_map.1 hb; rfl⟩
  unfold celN
  rw [h]

/-- A table in memory. -/
def TabAt (w : World) (g : Nat) (S : Nat → Nat) : Prop := w.heap[g]? = some (.cells (celN S 256) 52 (0, 0))
theorem TabAt.lt {w : World} {g : Nat} {S : Nat → Nat} (h : TabAt w g S) : g < w.heap.size := (Array.getElem?_eq_some_iff.1 h).1
theorem TabAt.later {w w' : World} {g : Nat} {S : Nat → Nat} (h : TabAt w g S) (hb : Below w.heap.size w w') : TabAt w' g S := (hb.block g h.lt).trans h

/-- Nothing is turned but one block. -/
structure Tch (g : Nat) (w w' : World) : Prop where
  os : w'.os = w.os
  tape : w'.tape = w.tape
  output : w'.output = w.output
  size : w.heap.size ≤ w'.heap.size
  block : ∀ b, b < w.heap.size → b ≠ g → w'.heap[b]? = w.heap[b]?
theorem Tch.of {g : Nat} {w w' : World} (h : Below w.heap.size w w') : Tch g w w' := ⟨h.os, h.tape, h.output, h.size, fun b hb _ => h.block b hb⟩
theorem Tch.below {g B : Nat} {w w' : World} (h : Tch g w w') (hg : B ≤ g) (hs : B ≤ w.heap.size) : Below B w w' :=
  ⟨h.os, h.tape, h.output, h.size, fun b hb => h.block b (by omega) (by omega)⟩
theorem Tch.next {g : Nat} {a b c : World} (h : Below a.heap.size a b) (k : Tch g b c) : Tch g a c :=
  ⟨k.os.trans h.os, k.tape.trans h.tape, k.output.trans h.output, Nat.le_trans h.size k.size, fun x hx hn => (k.block x (Nat.lt_of_lt_of_le hx h.size) hn).trans (h.block x hx)⟩

/-- The cells of locks. -/
def lkc : List Lk → List Value
  | [] => []
  | x :: l => .int .i64 ((x.p / 64 : Nat) : Int) :: .int .i64 ((x.p % 64 : Nat) : Int) :: .int .i64 (x.z : Int) :: .bool x.a :: lkc l
theorem lkc_len : ∀ l, (lkc l).length = l.length * 4
  | [] => rfl
  | x :: l => by simp only [lkc, List.length_cons, lkc_len l]; omega
theorem lkc_append : ∀ (a b : List Lk), lkc (a ++ b) = lkc a ++ lkc b
  | [], b => rfl
  | y :: l, b => by simp only [lkc, List.cons_append, lkc_append l b]
theorem lkc_snoc (x : Lk) (l : List Lk) : lkc l ++ [.int .i64 ((x.p / 64 : Nat) : Int), .int .i64 ((x.p % 64 : Nat) : Int), .int .i64 (x.z : Int), .bool x.a] = lkc (l ++ [x]) := by rw [lkc_append]; rfl
theorem lkc_set : ∀ (a : List Lk) (x : Lk) (y : Nat), (lkc (a ++ [x])).set (a.length * 4 + 2) (.int .i64 (y : Int)) = lkc (a ++ [⟨x.p, y, x.a⟩])
  | [], x, y => rfl
  | z :: a, x, y => by
    have := lkc_set a x y
    simp only [List.cons_append, lkc, List.length_cons, show (a.length + 1) * 4 + 2 = a.length * 4 + 2 + 1 + 1 + 1 + 1 by omega, List.set_cons_succ]
    rw [this]

/-- The lock at a place. -/
def lAt (l : List Lk) (i : Nat) : Lk := l.getD i ⟨0, 0, false⟩
theorem lAt_lt {l : List Lk} {i : Nat} (h : i < l.length) : lAt l i = l[i] := by unfold lAt; simp [List.getD, h]
theorem lAt_mem {l : List Lk} {i : Nat} (h : i < l.length) : lAt l i ∈ l := by rw [lAt_lt h]; exact List.getElem_mem h
theorem lAt_last (a : List Lk) (x : Lk) : lAt (a ++ [x]) a.length = x := by unfold lAt; simp

theorem lkc_at : ∀ (l : List Lk) (i : Nat), i < l.length → (lkc l)[i * 4]? = some (.int .i64 (((lAt l i).p / 64 : Nat) : Int)) ∧ (lkc l)[i * 4 + 1]? = some (.int .i64 (((lAt l i).p % 64 : Nat) : Int)) ∧ (lkc l)[i * 4 + 2]? = some (.int .i64 ((lAt l i).z : Int)) ∧ (lkc l)[i * 4 + 3]? = some (.bool (lAt l i).a)
  | [], i, h => by simp at h
  | x :: l, 0, _ => by simp [lkc, lAt]
  | x :: l, i + 1, h => by
    have := lkc_at l i (by simpa using h)
    simp only [lkc, show (i + 1) * 4 = i * 4 + 1 + 1 + 1 + 1 by omega, List.getElem?_cons_succ, lAt, List.getD_cons_succ]
    exact this

/-- The value is a slice that holds these locks. -/
def LksIs (w : World) (v : Value) (l : List Lk) : Prop :=
  ∃ a cap, v = .slice a l.length cap ∧ l.length ≤ maxLen ∧ (l ≠ [] → ∃ b, a = some ⟨b, 0, none⟩ ∧ b < w.heap.size ∧
    ∀ i, i < l.length → w.cell? ⟨b, i * 4, none⟩ = some (.int .i64 (((lAt l i).p / 64 : Nat) : Int)) ∧ w.cell? ⟨b, i * 4 + 1, none⟩ = some (.int .i64 (((lAt l i).p % 64 : Nat) : Int)) ∧
      w.cell? ⟨b, i * 4 + 2, none⟩ = some (.int .i64 ((lAt l i).z : Int)) ∧ w.cell? ⟨b, i * 4 + 3, none⟩ = some (.bool (lAt l i).a))

theorem LksIs.later {w w' : World} {v : Value} {l : List Lk} (h : LksIs w v l) (hb : Below w.heap.size w w') : LksIs w' v l := by
  obtain ⟨a, cap, hv, hl, hx⟩ := h
  refine ⟨a, cap, hv, hl, fun hne => ?_⟩
  obtain ⟨b, ha, hlt, hc⟩ := hx hne
  refine ⟨b, ha, Nat.lt_of_lt_of_le hlt hb.size, fun i hi => ?_⟩
  have := hc i hi
  exact ⟨by rw [hb.cell (p := ⟨b, i * 4, none⟩) hlt]; exact this.1, by rw [hb.cell (p := ⟨b, i * 4 + 1, none⟩) hlt]; exact this.2.1, by rw [hb.cell (p := ⟨b, i * 4 + 2, none⟩) hlt]; exact this.2.2.1, by rw [hb.cell (p := ⟨b, i * 4 + 3, none⟩) hlt]; exact this.2.2.2⟩

theorem LksIs.where {w : World} {v : Value} {l : List Lk} (h : LksIs w v l) :
    ∃ a c b, v = .slice a l.length c ∧ l.length ≤ maxLen ∧ (0 < l.length → a = some ⟨b, 0, none⟩) ∧ (0 < l.length → b < w.heap.size) ∧
    ∀ i, i < l.length → w.cell? ⟨b, i * 4, none⟩ = some (.int .i64 (((lAt l i).p / 64 : Nat) : Int)) ∧ w.cell? ⟨b, i * 4 + 1, none⟩ = some (.int .i64 (((lAt l i).p % 64 : Nat) : Int)) ∧
      w.cell? ⟨b, i * 4 + 2, none⟩ = some (.int .i64 ((lAt l i).z : Int)) ∧ w.cell? ⟨b, i * 4 + 3, none⟩ = some (.bool (lAt l i).a) := by
  obtain ⟨a, c, rfl, hl, hi⟩ := h
  by_cases hx : l = []
  · subst hx
    exact ⟨a, c, 0, rfl, hl, fun h => absurd h (by simp), fun h => absurd h (by simp), fun i h => absurd h (by simp)⟩
  · obtain ⟨b, ha, hb, hc⟩ := hi hx
    exact ⟨a, c, b, rfl, hl, fun _ => ha, fun _ => hb, hc⟩

/-- Locks that the call itself has laid. -/
theorem lks_own {w : World} {base n : Nat} {v : Value} {l : List Lk} (h : w.ownsRow base 29 4 v n (lkc l)) (hm : n ≤ maxLen) : LksIs w v l := by
  have hl : l.length = n := by have := h.1; rw [lkc_len] at this; omega
  rcases h.2 with ⟨h0, h1⟩ | ⟨g, cap, cur, h1, h2, h3, _⟩
  · subst h0
    obtain rfl : l = [] := List.length_eq_zero_iff.1 (by omega)
    exact ⟨none, 0, rfl, Nat.zero_le _, fun h => absurd rfl h⟩
  · subst h1
    refine ⟨_, cap, by rw [hl], by omega, fun _ => ⟨g, rfl, (Array.getElem?_eq_some_iff.1 h3).1, fun i hi => ?_⟩⟩
    obtain ⟨k0, k1, k2, k3⟩ := lkc_at l i hi
    have m0 := h.cells (g := g) rfl (i * 4) _ k0
    have m1 := h.cells (g := g) rfl (i * 4 + 1) _ k1
    have m2 := h.cells (g := g) rfl (i * 4 + 2) _ k2
    have m3 := h.cells (g := g) rfl (i * 4 + 3) _ k3
    rw [addr_at] at m0 m1 m2 m3
    exact ⟨m0, m1, m2, m3⟩

theorem below_one (w : World) (o : Obj) : Below w.heap.size w (w.alloc o) := (Below.refl _ _).alloc (Nat.le_refl _) _
theorem xown_later {w w' : World} {base e s n : Nat} {v : Value} {xs : List Value} (h : w.ownsRow base e s v n xs) (hb : Below w.heap.size w w') : w'.ownsRow base e s v n xs :=
  h.kept (row := none) ⟨hb.os, hb.tape, hb.output, hb.size, fun k hk _ => hb.block k hk⟩ (by cases v.ownBlock <;> simp)
theorem rown_form {w : World} {base e z n : Nat} {v : Value} {vs : List Value} (h : w.ownsRow base e z v n vs) : ∃ a c, v = .slice a n c := by
  rcases h.2 with ⟨h0, h1⟩ | ⟨g, cap, cur, h1, _⟩
  · subst h1; exact ⟨none, 0, h0⟩
  · exact ⟨_, _, h1⟩
theorem rown_where {w : World} {base e z n : Nat} {v : Value} {vs : List Value} (h : w.ownsRow base e z v n vs) (hn : 0 < n) : ∃ g cap, v = .slice (some ⟨g, 0, none⟩) n cap ∧ base ≤ g ∧ g < w.heap.size := by
  rcases h.2 with ⟨_, h0⟩ | ⟨g, cap, cur, h1, h2, h3, _⟩
  · omega
  · exact ⟨g, cap, h1, h2, (Array.getElem?_eq_some_iff.1 h3).1⟩
theorem news_four (w : World) (u v x y : Value) (t : TypeId) : ∀ (j : Nat) (z : Value), [u, v, x, y][j]? = some z → (w.alloc (.cells #[u, v, x, y] t)).cell? ((⟨w.heap.size, 0, none⟩ : Addr).add j) = some z := by
  intro j x hx
  rw [addr_at, cell_new]
  simpa using hx
theorem ones_four (x y z : Int) (b : Bool) : ∀ u ∈ [Value.int .i64 x, .int .i64 y, .int .i64 z, .bool b], u.oneCell' = true := fun u hu => by
  simp only [List.mem_cons, List.not_mem_nil, or_false] at hu
  rcases hu with rfl | rfl | rfl | rfl <;> rfl

end Go.Proofs.YtigoacnbbichoaaDoor
