/- This text proves what the library's slices.Clone and slices.Delete return for slices of numbers: a list of the call's own, and the same list without one place; the only condition is that the slice lies there. -/
import Derived.Test.YtckdknkgadhmjaaDoorLo
import Derived.Shelf.Slices.Delete
import Derived.Shelf.Slices.Clone
import Derived.Lib.OwnBridge
namespace Go.Proofs.YtckdknkgadhmjaaDoor
open Go.RowKit Go.Deep Go.Shelf Go.Sort

def Tryd.renC : Go.Shelf.Ren := ⟨fun | 15 => 28 | n => n, fun | 22 => 22 | n => n, fun n => n⟩
def Tryd.renD : Go.Shelf.Ren := ⟨fun | 23 => 29 | n => n, fun | 22 => 22 | n => n, fun n => n⟩

theorem Tryd.layC : Lays2.n15 Tryd.prog Tryd.renC where
  mixed := by kernel_rfl
  f15 := Tryd.func28.trans (congrArg some (by kernel_rfl))
  t3 := Tryd.underlying3
  a3 := Tryd.isAgg3
  z3 := Tryd.sizeOf3
  v3 := Tryd.zeroValue3
  t4 := Tryd.underlying4
  a4 := Tryd.isAgg4
  z4 := Tryd.sizeOf4
  v4 := Tryd.zeroValue4
  t22 := Tryd.underlying22
  a22 := Tryd.isAgg22
  z22 := Tryd.sizeOf22
  v22 := Tryd.zeroValue22
  i3 := by kernel_rfl

theorem Tryd.layD : Lays2.n23 Tryd.prog Tryd.renD where
  mixed := by kernel_rfl
  f23 := Tryd.func29.trans (congrArg some (by kernel_rfl))
  t0 := Tryd.underlying0
  a0 := Tryd.isAgg0
  z0 := Tryd.sizeOf0
  v0 := Tryd.zeroValue0
  t3 := Tryd.underlying3
  a3 := Tryd.isAgg3
  z3 := Tryd.sizeOf3
  v3 := Tryd.zeroValue3
  t4 := Tryd.underlying4
  a4 := Tryd.isAgg4
  z4 := Tryd.sizeOf4
  v4 := Tryd.zeroValue4
  t22 := Tryd.underlying22
  a22 := Tryd.isAgg22
  z22 := Tryd.sizeOf22
  v22 := Tryd.zeroValue22
  i3 := by kernel_rfl

/-- A copy of a list, the call's own. -/
theorem clone_any (w : World) (v : Value) (xs : List Int) (hx : SliceIs w v xs) (hn : xs.length ≤ 1000000) :
    Calls Tryd.prog 28 #[v] w fun e w' => ∃ v', e = .returned v' ∧ w'.ownsRow w.heap.size 3 1 v' xs.length (cellsOf xs) ∧ Below w.heap.size w w' := by
  obtain ⟨a, c, rfl, hl, hi⟩ := hx
  cases a with
  | none =>
    obtain rfl : xs = [] := Classical.byContradiction fun hne => by
      obtain ⟨b, off, h1, _⟩ := hi hne
      cases h1
    refine (Any.slices_Clone_int_nil Tryd.layC 0 c w).mono ?_
    rintro e w' ⟨rfl, rfl⟩
    exact ⟨_, rfl, World.ownsRow_nil _ _ _ _, Below.refl _ _⟩
  | some ad =>
    by_cases hne : xs = []
    · subst hne
      refine (Any.slices_Clone_int_zero Tryd.layC ad c w).mono ?_
      rintro e w' ⟨v', rfl, h1, _, h2⟩
      exact ⟨_, rfl, h1, h2⟩
    · obtain ⟨b, off, h1, _, h2⟩ := hi hne
      cases h1
      refine (Any.slices_Clone_int Tryd.layC b off xs.length c xs w (Nat.le_refl _) (by omega) (fun j hj => by rw [h2 j hj]; rfl)).mono ?_
      rintro e w' ⟨v', rfl, h1, _, h2⟩
      rw [List.take_length] at h1
      exact ⟨_, rfl, h1, h2⟩

/-- A list of the call's own without one place: the same slice, one shorter; no other block changes. -/
theorem delete_any (w : World) (base g n cap k : Nat) (xs : List Int) (h : w.ownsRow base 3 1 (.slice (some ⟨g, 0, none⟩) n cap) n (cellsOf xs)) (hk : k < n) (k1 : Int) (hk1 : k1 = ((k + 1 : Nat) : Int)) :
    Calls Tryd.prog 29 #[.slice (some ⟨g, 0, none⟩) n cap, .int .i64 (k : Int), .int .i64 k1] w fun e w' => e = .returned (.slice (some ⟨g, 0, none⟩) (n - 1) cap) ∧
      w'.ownsRow base 3 1 (.slice (some ⟨g, 0, none⟩) (n - 1) cap) (n - 1) (cellsOf (xs.eraseIdx k)) ∧ w.grownBy w' (some g) := by
  have hl : xs.length = n := by have := h.1; rw [cellsOf_len] at this; omega
  subst hk1
  subst hl
  have hcap : xs.length ≤ cap ∧ cap ≤ maxLen := by
    rcases h.2 with ⟨h0, _⟩ | ⟨g', cap', cur, h0, _, _, h1, h2, _⟩ <;> cases h0
    exact ⟨h1, h2⟩
  have hH : Holds (Value.int .i64) w g 0 xs.toArray := by
    intro j hj
    have hj' : j < xs.length := by simpa using hj
    refine ⟨?_, h.frozenAt _⟩
    rw [Nat.zero_add, h.cellAt j (by omega), cellsOf_get hj', nth_lt hj', getElem!_pos xs.toArray j hj]
    rfl
  refine (Any.slices_Delete_int Tryd.layD g 0 cap k (k + 1) xs w hH hcap.1 (by have := hcap.2; unfold maxLen at this; omega) (by omega) hk).mono ?_
  rintro e w' ⟨rfl, q, rfl⟩
  have e1 : k + 1 - k = 1 := by omega
  rw [e1]
  refine ⟨rfl, ?_, rfl, rfl, rfl, by simp [Sort.ahead], fun b hb hne => ?_⟩
  · have := Lib.ownsRow_putRow (enc := Value.int .i64) (q := q) (k := xs.length - 1) (ys := xs.take k ++ xs.drop (k + 1) ++ List.replicate 1 0) h (by simp; omega) (by omega)
    have e2 : (xs.take k ++ xs.drop (k + 1) ++ List.replicate 1 0).take (xs.length - 1) = xs.eraseIdx k := by
      rw [List.eraseIdx_eq_take_drop_succ]
      exact List.take_left' (by simp; omega)
    rw [e2] at this
    exact this
  · have : g ≠ b := fun e => hne (by rw [e])
    simp [putRow, mapBlock, Sort.ahead, Array.getElem?_modify, this]

end Go.Proofs.YtckdknkgadhmjaaDoor
