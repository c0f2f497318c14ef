/- This text says what it means that a file lies in memory of the call's own while old memory is as it was, and that lists stay while the file is turned; it speaks of no call; no condition. -/
import Derived.Test.YtepnbkonhaongaaDoorF6
namespace Go.Proofs.YtepnbkonhaongaaDoor
open Go.RowKit Go.Deep Go.Maps

theorem below_drew1 (B : Nat) (w : World) : Below B w w.drew := ⟨rfl, rfl, rfl, Nat.le_refl _, fun _ _ => rfl⟩
theorem keeps_old {w wr : World} {g b : Nat} {v : Value} {xs : List Int} (hB : Below w.heap.size w wr) (hg : w.heap.size ≤ g) (hb : w.heap.size ≤ b) (hx : SliceIs w v xs) : Keeps (Two g b) wr v xs := fun w' hs =>
  hx.later (hB.trans (hs.below (by rintro x (rfl | rfl) <;> assumption) hB.size))

/-- The file lies there, and old memory is as it was. -/
structure OnF (w wr : World) (g b : Nat) (f : Fil) : Prop where
  fil : FilM wr g b f
  wel : Wel f
  low : w.heap.size ≤ g ∧ w.heap.size ≤ b
  old : Below w.heap.size w wr
theorem OnF.step {w wr w' : World} {g b : Nat} {f f' : Fil} (h : OnF w wr g b f) (hf : FilM w' g b f') (hw : Wel f') (hs : Stay (Two g b) wr w') : OnF w w' g b f' :=
  ⟨hf, hw, h.low, h.old.trans (hs.below (by rintro x (rfl | rfl); exact h.low.1; exact h.low.2) h.old.size)⟩
theorem OnF.later {w wr w' : World} {g b : Nat} {f : Fil} (h : OnF w wr g b f) (hb : Below wr.heap.size wr w') : OnF w w' g b f :=
  h.step (h.fil.later hb) h.wel (Stay.of hb)
theorem OnF.drew1 {w wr : World} {g b : Nat} {f : Fil} (h : OnF w wr g b f) : OnF w wr.drew g b f := h.later (below_drew1 _ _)

theorem slice_block {w w' : World} {B n cap : Nat} {xs : List Int} (h : SliceIs w (.slice (some ⟨B, 0, none⟩) n cap) xs) (e : w'.heap[B]? = w.heap[B]?) (hs : w.heap.size ≤ w'.heap.size) : SliceIs w' (.slice (some ⟨B, 0, none⟩) n cap) xs := by
  obtain ⟨a, c, hv, hl, hx⟩ := h
  refine ⟨a, c, hv, hl, fun hne => ?_⟩
  obtain ⟨b, o, h1, h2, h3⟩ := hx hne
  cases hv
  cases h1
  exact ⟨B, 0, rfl, Nat.lt_of_lt_of_le h2 hs, fun i hi => by rw [World.cell?_of_block e]; exact h3 i hi⟩
/-- A list that the call has just laid stays while a file's blocks are turned. -/
theorem keeps_lit {w : World} {g b : Nat} (hg : g < w.heap.size) (hb : b < w.heap.size) (xs : List Int) (hm : xs.length ≤ maxLen) (cap : Nat) :
    Keeps (Two g b) (w.alloc (.cells (xs.map fun x => Value.int .i64 x).toArray 3)) (.slice (some ⟨w.heap.size, 0, none⟩) xs.length cap) xs := fun w' hs =>
  slice_block (ints_lit w xs hm cap) (hs.block _ (by simp) (by rintro (e | e) <;> omega)) hs.size

end Go.Proofs.YtepnbkonhaongaaDoor
