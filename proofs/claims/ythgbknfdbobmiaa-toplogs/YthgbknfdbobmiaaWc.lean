/- This text says plain facts on blocks of memory that hold numbers, on slices of the call's own, and on what stays where something is turned; it speaks of no call; no condition. -/
import Derived.Test.YthgbknfdbobmiaaLo
import Derived.Test.YthgbknfdbobmiaaEr
import Derived.Below
import Derived.Laws.OwnMore
import Derived.Laws.Rows
namespace Go.Proofs.Ythgbknfdbobmiaa
open Go.RowKit Go.Deep

def putV (H : Nat → Nat) (b v : Nat) : Nat → Nat := fun i => if i = b then v else H i
def nV : Nat → Nat := fun _ => 0
/-- The first n numbers of a function, as cells. -/
def celN (R : Nat → Nat) (n : Nat) : Array Value := ((List.range n).map fun i => Value.int .i64 (R i : Int)).toArray

theorem celN_size (R : Nat → Nat) (n : Nat) : (celN R n).size = n := by simp [celN]
theorem celN_get {R : Nat → Nat} {n i : Nat} (h : i < n) : (celN R n)[i]? = some (.int .i64 (R i : Int)) := by simp [celN, h]
theorem celN_out {R : Nat → Nat} {n i : Nat} (h : n ≤ i) : (celN R n)[i]? = none := by simp [celN, h]
theorem celN_set (R : Nat → Nat) (n i s : Nat) : (celN R n).setIfInBounds i (.int .i64 (s : Int)) = celN (putV R i s) n := by
  apply Array.ext_getElem?
  intro j
  by_cases hj : j < n
  · rw [celN_get hj, Array.getElem?_setIfInBounds, celN_size]
    unfold putV
    by_cases e : i = j
    · subst e; rw [if_pos rfl, if_pos hj, if_pos rfl]
    · rw [if_neg e, celN_get hj, if_neg (fun h => e h.symm)]
  · rw [celN_out (by omega), Array.getElem?_setIfInBounds, celN_size]
    by_cases e : i = j
    · subst e; rw [if_pos rfl, if_neg hj]
    · rw [if_neg e, celN_out (by omega)]
theorem celN_one (R : Nat → Nat) (n : Nat) : (celN R n).all (·.oneCell') = true := by
  refine Array.all_eq_true_iff_forall_mem.2 fun v hv => ?_
  unfold celN at hv
  rw [List.mem_toArray] at hv
  obtain ⟨i, _, rfl⟩ := List.mem_map.1 hv
  rfl

theorem celN8 (R : Nat → Nat) : celN R 8 = #[.int .i64 (R 0 : Int), .int .i64 (R 1 : Int), .int .i64 (R 2 : Int), .int .i64 (R 3 : Int), .int .i64 (R 4 : Int), .int .i64 (R 5 : Int), .int .i64 (R 6 : Int), .int .i64 (R 7 : Int)] := rfl

theorem below_one (w : World) (o : Obj) : Below w.heap.size w (w.alloc o) := (Below.refl _ _).alloc (Nat.le_refl _) _
theorem xown_later {w w' : World} {base e s n : Nat} {v : Value} {xs : List Value} (h : w.ownsRow base e s v n xs) (hb : Below w.heap.size w w') : w'.ownsRow base e s v n xs :=
  h.kept (row := none) ⟨hb.os, hb.tape, hb.output, hb.size, fun k hk _ => hb.block k hk⟩ (by cases v.ownBlock <;> simp)
theorem rown_form {w : World} {base e z n : Nat} {v : Value} {vs : List Value} (h : w.ownsRow base e z v n vs) : ∃ a c, v = .slice a n c := by
  rcases h.2 with ⟨h0, h1⟩ | ⟨g, cap, cur, h1, _⟩
  · subst h1; exact ⟨none, 0, h0⟩
  · exact ⟨_, _, h1⟩
theorem rown_where {w : World} {base e z n : Nat} {v : Value} {vs : List Value} (h : w.ownsRow base e z v n vs) (hn : 0 < n) : ∃ g cap, v = .slice (some ⟨g, 0, none⟩) n cap ∧ base ≤ g ∧ g < w.heap.size := by
  rcases h.2 with ⟨_, h0⟩ | ⟨g, cap, cur, h1, h2, h3, _⟩
  · omega
  · exact ⟨g, cap, h1, h2, (Array.getElem?_eq_some_iff.1 h3).1⟩
/-- Nothing is turned but some blocks. -/
structure Stay (S : Nat → Prop) (w w' : World) : Prop where
  os : w'.os = w.os
  tape : w'.tape = w.tape
  output : w'.output = w.output
  size : w.heap.size ≤ w'.heap.size
  block : ∀ b, b < w.heap.size → ¬ S b → w'.heap[b]? = w.heap[b]?
theorem Stay.refl (S : Nat → Prop) (w : World) : Stay S w w := ⟨rfl, rfl, rfl, Nat.le_refl _, fun _ _ _ => rfl⟩
theorem Stay.of {S : Nat → Prop} {w w' : World} (h : Below w.heap.size w w') : Stay S w w' := ⟨h.os, h.tape, h.output, h.size, fun b hb _ => h.block b hb⟩
theorem Stay.below {S : Nat → Prop} {B : Nat} {w w' : World} (h : Stay S w w') (hB : ∀ b, S b → B ≤ b) (hs : B ≤ w.heap.size) : Below B w w' :=
  ⟨h.os, h.tape, h.output, h.size, fun b hb => h.block b (by omega) fun hS => by have := hB b hS; omega⟩
theorem Stay.trans {S : Nat → Prop} {a b c : World} (h : Stay S a b) (k : Stay S b c) : Stay S a c :=
  ⟨k.os.trans h.os, k.tape.trans h.tape, k.output.trans h.output, Nat.le_trans h.size k.size, fun x hx hS => (k.block x (Nat.lt_of_lt_of_le hx h.size) hS).trans (h.block x hx hS)⟩
theorem Stay.set {S : Nat → Prop} (w : World) {a : Addr} (u : Value) (h : S a.block) : Stay S w (w.setCell a u) :=
  ⟨rfl, rfl, rfl, by simp [World.setCell], fun b _ hS => Below.heap_setCell w a u b fun e => hS (e ▸ h)⟩
theorem Stay.drew (S : Nat → Prop) (w : World) : Stay S w w.drew := ⟨rfl, rfl, rfl, Nat.le_refl _, fun _ _ _ => rfl⟩
theorem Stay.sub {S T : Nat → Prop} {w w' : World} (h : Stay S w w') (hS : ∀ x, S x → T x) : Stay T w w' := ⟨h.os, h.tape, h.output, h.size, fun b hb hn => h.block b hb fun k => hn (hS b k)⟩
/-- What was new may be turned behind it, too. -/
theorem Stay.next {S T : Nat → Prop} {a b c : World} (h : Stay S a b) (k : Stay T b c) (hT : ∀ x, T x → S x ∨ a.heap.size ≤ x) : Stay S a c :=
  ⟨k.os.trans h.os, k.tape.trans h.tape, k.output.trans h.output, Nat.le_trans h.size k.size, fun x hx hS => (k.block x (Nat.lt_of_lt_of_le hx h.size) (fun e => by rcases hT x e with e | e; exact hS e; omega)).trans (h.block x hx hS)⟩

theorem own_block {w w' : World} {base e s n : Nat} {v : Value} {xs : List Value} (h : w.ownsRow base e s v n xs) (hb : ∀ b, v.ownBlock = some b → w'.heap[b]? = w.heap[b]?) : w'.ownsRow base e s v n xs := by
  refine ⟨h.1, ?_⟩
  rcases h.2 with h0 | ⟨b, cap, cur, h1, h2, h3, h4⟩
  · exact .inl h0
  · exact .inr ⟨b, cap, cur, h1, h2, (hb b (by rw [h1]; rfl)).trans h3, h4⟩
theorem cell_in {w : World} {g : Nat} {C : Array Value} {t : TypeId} (h : w.heap[g]? = some (.cells C t (0, 0))) (i : Nat) : w.cell? ⟨g, i, none⟩ = C[i]? ∧ w.frozen? ⟨g, i, none⟩ = false := by
  constructor
  · simp [World.cell?, h]
  · simp [World.frozen?, h]
theorem heap_set {w : World} {g : Nat} {C : Array Value} {t : TypeId} (h : w.heap[g]? = some (.cells C t (0, 0))) (i : Nat) (u : Value) : (w.setCell ⟨g, i, none⟩ u).heap[g]? = some (.cells (C.setIfInBounds i u) t (0, 0)) := by
  simp [World.setCell, Array.getElem?_modify, h]
theorem undrew1 {B : Nat} {w w' : World} (h : Below B w.drew w') : Below B w w' := ⟨h.os, h.tape, h.output, h.size, h.block⟩
theorem below_drew1 (B : Nat) (w : World) : Below B w w.drew := ⟨rfl, rfl, rfl, Nat.le_refl _, fun _ _ => rfl⟩

/-- Where a row's slice lies. -/
theorem RowsIs.row {w : World} {a : Option Addr} {n c : Nat} {rs : List (List Int)} (h : RowsIs w (.slice a n c) rs) (i : Nat) (hi : i < n) :
    ∃ b o v, a = some ⟨b, o, none⟩ ∧ b < w.heap.size ∧ w.cell? ⟨b, o + i, none⟩ = some v ∧ SliceIs w v (rowAt rs i) := by
  obtain ⟨a', c', e, hl, hx⟩ := h
  cases e
  obtain ⟨b, o, ha, hb, hc⟩ := hx (fun e => by rw [e] at hi; simp at hi)
  obtain ⟨v, h1, h2⟩ := hc i hi
  exact ⟨b, o, v, ha, hb, h1, h2⟩
theorem row_cells {w : World} {v : Value} {xs : List Int} {z : Nat} (h : SliceIs w v xs) (hl : xs.length = z) (hz : 0 < z) :
    ∃ b o c, v = .slice (some ⟨b, o, none⟩) z c ∧ b < w.heap.size ∧ ∀ i, i < z → w.cell? ⟨b, o + i, none⟩ = some (.int .i64 (nth xs i)) := by
  obtain ⟨a, c, rfl, _, hx⟩ := h
  obtain ⟨b, o, ha, hb, hc⟩ := hx (fun e => by rw [e] at hl; simp at hl; omega)
  subst ha
  exact ⟨b, o, c, by rw [hl], hb, fun i hi => hc i (by omega)⟩

/-- Values as a list. -/
def lst (H : Nat → Nat) : List Int := (List.range 8).map fun i => (H i : Int)
theorem lst_len (H : Nat → Nat) : (lst H).length = 8 := by simp [lst]
theorem lst_nth {H : Nat → Nat} {i : Nat} (hi : i < 8) : nth (lst H) i = (H i : Int) := by
  rw [nth_lt (by rw [lst_len]; exact hi)]
  simp [lst]

end Go.Proofs.Ythgbknfdbobmiaa
