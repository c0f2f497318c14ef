/- This text proves nothing of the program: it says what it means that a map lies in memory, and what stays when its word alone is changed; no condition. -/
import Derived.Test.YtihefpnagdacpaaV1
import Derived.OneCell
import Derived.Below
namespace Go.Proofs.Ytihefpnagdacpaa
open Go.RowKit Go.Deep

/-- At block g there lies a map whose word is m. -/
structure MapAt (w : World) (g m : Nat) : Prop where
  blk : w.heap[g]? = some (.cells #[.int .u32 (m : Int)] 56 (0, 0))
  lt : m < 2 ^ 32

theorem MapAt.cell {w : World} {g m : Nat} (h : MapAt w g m) : w.cell? ⟨g, 0, none⟩ = some (.int .u32 (m : Int)) := by
  simp only [World.cell?, h.blk]; rfl
theorem MapAt.loose {w : World} {g m : Nat} (h : MapAt w g m) : w.frozen? ⟨g, 0, none⟩ = false := by
  simp [World.frozen?, h.blk]
theorem MapAt.inside {w : World} {g m : Nat} (h : MapAt w g m) : g < w.heap.size := (Array.getElem?_eq_some_iff.1 h.blk).1
theorem MapAt.later {w w' : World} {g m : Nat} (h : MapAt w g m) (hb : Below w.heap.size w w') : MapAt w' g m := ⟨by rw [hb.block g h.inside]; exact h.blk, h.lt⟩
theorem MapAt.set {w : World} {g m m' : Nat} (h : MapAt w g m) (hm : m' < 2 ^ 32) : MapAt (w.setCell ⟨g, 0, none⟩ (.int .u32 (m' : Int))) g m' := ⟨one_setCell h.blk, hm⟩

/-- All but one block is as it was. -/
structure Chg (g : Nat) (w w' : World) : Prop where
  os : w'.os = w.os
  tape : w'.tape = w.tape
  output : w'.output = w.output
  size : w'.heap.size = w.heap.size
  block : ∀ k, k ≠ g → w'.heap[k]? = w.heap[k]?

theorem Chg.refl (g : Nat) (w : World) : Chg g w w := ⟨rfl, rfl, rfl, rfl, fun _ _ => rfl⟩
theorem Chg.drew (g : Nat) (w : World) (q : Nat) : Chg g w (w.drewN q) := ⟨rfl, rfl, rfl, rfl, fun _ _ => rfl⟩
theorem Chg.set (g : Nat) (w : World) (u : Value) : Chg g w (w.setCell ⟨g, 0, none⟩ u) :=
  ⟨rfl, rfl, rfl, by simp [World.setCell], fun k hk => Below.heap_setCell w ⟨g, 0, none⟩ u k hk⟩
theorem Chg.below {g B : Nat} {w w' : World} (h : Chg g w w') (hB : B ≤ g) : Below B w w' :=
  ⟨h.os, h.tape, h.output, by rw [h.size]; exact Nat.le_refl _, fun k hk => h.block k (by omega)⟩
theorem Chg.own {g base e n : Nat} {w w' : World} {v : Value} {xs : List Value} (h : Chg g w w') (hg : g < base) (ho : w.ownsRow base e 1 v n xs) : w'.ownsRow base e 1 v n xs := by
  refine ⟨ho.1, ?_⟩
  rcases ho.2 with h0 | ⟨b, cap, cur, h1, h2, h3, h4⟩
  · exact .inl h0
  · exact .inr ⟨b, cap, cur, h1, h2, by rw [h.block b (by omega)]; exact h3, h4⟩
theorem MapAt.drew {w : World} {g m : Nat} (h : MapAt w g m) (q : Nat) : MapAt (w.drewN q) g m := ⟨h.blk, h.lt⟩

theorem map_new (w : World) : MapAt (w.alloc (.cells #[.int .u32 0] 56)) w.heap.size 0 := ⟨blk_alloc_new _ _, by decide⟩

end Go.Proofs.Ytihefpnagdacpaa
