/- This text says what it means that a disk with two tables lies in memory, and that numbers that were told lie there; it speaks of no call; no condition. -/
import Derived.Test.YthgbknfdbobmiaaS0
import Derived.Test.YthgbknfdbobmiaaWc
namespace Go.Proofs.Ythgbknfdbobmiaa
open Go.RowKit Go.Deep

/-- The first n numbers of a function, as cells. -/
def celI (C : Nat → Int) (n : Nat) : Array Value := ((List.range n).map fun i => Value.int .i64 (C i)).toArray
theorem celI_size (C : Nat → Int) (n : Nat) : (celI C n).size = n := by simp [celI]
theorem celI_get {C : Nat → Int} {n i : Nat} (h : i < n) : (celI C n)[i]? = some (.int .i64 (C i)) := by simp [celI, h]
theorem celI_out {C : Nat → Int} {n i : Nat} (h : n ≤ i) : (celI C n)[i]? = none := by simp [celI, h]
theorem celI_set (C : Nat → Int) (n i : Nat) (s : Int) : (celI C n).setIfInBounds i (.int .i64 s) = celI (putI C i s) n := by
  apply Array.ext_getElem?
  intro j
  by_cases hj : j < n
  · rw [celI_get hj, Array.getElem?_setIfInBounds, celI_size]
    unfold putI
    by_cases e : i = j
    · subst e; rw [if_pos rfl, if_pos hj, if_pos rfl]
    · rw [if_neg e, celI_get hj, if_neg (fun h => e h.symm)]
  · rw [celI_out (by omega), Array.getElem?_setIfInBounds, celI_size]
    by_cases e : i = j
    · subst e; rw [if_pos rfl, if_neg hj]
    · rw [if_neg e, celI_out (by omega)]
theorem celI_same {C D : Nat → Int} {n : Nat} (h : ∀ i, i < n → C i = D i) : celI C n = celI D n := by
  unfold celI
  congr 1
  exact List.map_congr_left fun i hi => by rw [h i (List.mem_range.1 hi)]
theorem celI8 (C : Nat → Int) : celI C 8 = #[.int .i64 (C 0), .int .i64 (C 1), .int .i64 (C 2), .int .i64 (C 3), .int .i64 (C 4), .int .i64 (C 5), .int .i64 (C 6), .int .i64 (C 7)] := rfl
/-- Eight numbers as a list. -/
def lsI (C : Nat → Int) : List Int := (List.range 8).map C
theorem lsI_len (C : Nat → Int) : (lsI C).length = 8 := by simp [lsI]
theorem lsI_nth {C : Nat → Int} {i : Nat} (hi : i < 8) : nth (lsI C) i = C i := by
  rw [nth_lt (by rw [lsI_len]; exact hi)]
  simp [lsI]
theorem lsI_same {C D : Nat → Int} (h : ∀ i, i < 8 → C i = D i) : lsI C = lsI D := List.map_congr_left fun i hi => h i (List.mem_range.1 hi)
theorem lsI_lst (H : Nat → Nat) : lst H = lsI fun i => (H i : Int) := rfl

/-- A disk in memory. -/
structure ShaM (w : World) (base g : Nat) (C : Nat → Int) : Prop where
  cells : w.heap[g]? = some (.cells (celI C 32) 54 (0, 0))
  good : GoodS C
  low : base ≤ g
def ptrS (g : Nat) : Value := .pointer (some ⟨g, 0, none⟩)
theorem ShaM.lt {w : World} {base g : Nat} {C : Nat → Int} (h : ShaM w base g C) : g < w.heap.size := (Array.getElem?_eq_some_iff.1 h.cells).1
theorem ShaM.frame {w w' : World} {base g : Nat} {C : Nat → Int} (h : ShaM w base g C) (hs : w'.heap[g]? = w.heap[g]?) : ShaM w' base g C := ⟨hs.trans h.cells, h.good, h.low⟩
theorem ShaM.later {w w' : World} {base g : Nat} {C : Nat → Int} (h : ShaM w base g C) (hb : Below w.heap.size w w') : ShaM w' base g C := h.frame (hb.block g h.lt)
theorem ShaM.stay {S : Nat → Prop} {w w' : World} {base g : Nat} {C : Nat → Int} (h : ShaM w base g C) (hs : Stay S w w') (hn : ¬ S g) : ShaM w' base g C := h.frame (hs.block g h.lt hn)
theorem ShaM.cell {w : World} {base g : Nat} {C : Nat → Int} (h : ShaM w base g C) {i : Nat} (hi : i < 32) : w.cell? ⟨g, i, none⟩ = some (.int .i64 (C i)) := (cell_in h.cells i).1.trans (celI_get hi)
theorem ShaM.free {w : World} {base g : Nat} {C : Nat → Int} (h : ShaM w base g C) (i : Nat) : w.frozen? ⟨g, i, none⟩ = false := (cell_in h.cells i).2
/-- A world where only a disk's block was turned. -/
theorem sha_set {w : World} {g : Nat} {C : Nat → Int} (h : w.heap[g]? = some (.cells (celI C 32) 54 (0, 0))) (i : Nat) (s : Int) :
    (w.setCell ⟨g, i, none⟩ (.int .i64 s)).heap[g]? = some (.cells (celI (putI C i s) 32) 54 (0, 0)) := by rw [heap_set h, celI_set]

/-- Eight numbers in a block of their own. -/
def VlI (w : World) (B : Nat) (F : Nat → Int) : Prop := ∃ t, w.heap[B]? = some (.cells (celI F 8) t (0, 0))
theorem VlI.lt {w : World} {B : Nat} {F : Nat → Int} (h : VlI w B F) : B < w.heap.size := by obtain ⟨t, h⟩ := h; exact (Array.getElem?_eq_some_iff.1 h).1
theorem VlI.later {w w' : World} {B : Nat} {F : Nat → Int} (h : VlI w B F) (hb : Below w.heap.size w w') : VlI w' B F := by have hl := h.lt; obtain ⟨t, h⟩ := h; exact ⟨t, (hb.block B hl).trans h⟩
theorem VlI.stay {S : Nat → Prop} {w w' : World} {B : Nat} {F : Nat → Int} (h : VlI w B F) (hs : Stay S w w') (hn : ¬ S B) : VlI w' B F := by have hl := h.lt; obtain ⟨t, h⟩ := h; exact ⟨t, (hs.block B hl hn).trans h⟩
theorem VlI.cell {w : World} {B : Nat} {F : Nat → Int} (h : VlI w B F) {i : Nat} (hi : i < 8) : w.cell? ⟨B, i, none⟩ = some (.int .i64 (F i)) := by obtain ⟨t, h⟩ := h; exact (cell_in h i).1.trans (celI_get hi)
theorem VlI.is {w : World} {B : Nat} {F : Nat → Int} (h : VlI w B F) : SliceIs w (.slice (some ⟨B, 0, none⟩) 8 8) (lsI F) :=
  ⟨_, 8, by rw [lsI_len], by rw [lsI_len]; unfold maxLen; omega, fun _ => ⟨B, 0, rfl, h.lt, fun i hi => by rw [lsI_len] at hi; rw [Nat.zero_add, h.cell hi, lsI_nth hi]⟩⟩
theorem VlI.same {w : World} {B : Nat} {F G : Nat → Int} (h : VlI w B F) (e : ∀ i, i < 8 → F i = G i) : VlI w B G := by obtain ⟨t, h⟩ := h; exact ⟨t, by rw [← celI_same e]; exact h⟩

end Go.Proofs.Ythgbknfdbobmiaa
