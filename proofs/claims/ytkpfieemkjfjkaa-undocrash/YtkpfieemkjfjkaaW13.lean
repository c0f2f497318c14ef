/- This text says what it means that a disk lies in memory and two lists of eight numbers beside it, and proves plain facts on what must be there behind a crash; it speaks of no call; no condition. -/
import Derived.Test.YtkpfieemkjfjkaaW12
import Derived.Deep.RegionWith
namespace Go.Proofs.Ytkpfieemkjfjkaa
open Go.RowKit Go.Deep

/-- A list of eight numbers of the law's own, in a block of memory. -/
def LsAt (w : World) (B : Nat) (H : Nat → Nat) : Prop := w.heap[B]? = some (.cells (celN H 8) 3 (0, 0))
theorem LsAt.lt {w : World} {B : Nat} {H : Nat → Nat} (h : LsAt w B H) : B < w.heap.size := (Array.getElem?_eq_some_iff.1 h).1
theorem LsAt.later {w w' : World} {B : Nat} {H : Nat → Nat} (h : LsAt w B H) (hb : Below w.heap.size w w') : LsAt w' B H := (hb.block B h.lt).trans h
theorem LsAt.stay {S : Nat → Prop} {w w' : World} {B : Nat} {H : Nat → Nat} (h : LsAt w B H) (hs : Stay S w w') (hn : ¬ S B) : LsAt w' B H := (hs.block B h.lt hn).trans h
theorem LsAt.cell {w : World} {B : Nat} {H : Nat → Nat} (h : LsAt w B H) {i : Nat} (hi : i < 8) : w.cell? ⟨B, i, none⟩ = some (.int .i64 (H i : Int)) := (cell_in h i).1.trans (celN_get hi)
theorem LsAt.put {w : World} {B : Nat} {H : Nat → Nat} (h : LsAt w B H) (b v : Nat) : LsAt (w.setCell ⟨B, b, none⟩ (.int .i64 (v : Int))) B (putV H b v) := by
  unfold LsAt
  rw [heap_set h, celN_set]
theorem celN_same {H K : Nat → Nat} (e : ∀ i, i < 8 → H i = K i) : celN H 8 = celN K 8 := by
  unfold celN
  congr 1
  refine List.map_congr_left fun i hi => ?_
  rw [e i (List.mem_range.1 hi)]
theorem LsAt.as {w : World} {B : Nat} {H K : Nat → Nat} (h : LsAt w B H) (e : ∀ i, i < 8 → H i = K i) : LsAt w B K := by
  unfold LsAt
  rw [← celN_same e]
  exact h
theorem LsAt.is {w : World} {B : Nat} {H : Nat → Nat} (h : LsAt w B H) (c : Nat) : SliceIs w (.slice (some ⟨B, 0, none⟩) 8 c) (lst H) :=
  ⟨_, c, by rw [lst_len], by rw [lst_len]; unfold maxLen; omega, fun _ => ⟨B, 0, rfl, h.lt, fun i hi => by rw [lst_len] at hi; rw [Nat.zero_add, h.cell hi, lst_nth hi]⟩⟩

/-- What must be there behind a crash, while a turn ends, block by block. -/
def goal (d : Ud) (x : Int) (j : Nat) : Nat → Nat := fun i => if i < j ∧ own d.L i = x ∧ 0 ≤ x then d.H i else udo all d.L d.H i
theorem goal_zero (d : Ud) (x : Int) : goal d x 0 = udo all d.L d.H := by
  funext i
  exact if_neg fun h => by omega
theorem goal_yes {d : Ud} {x : Int} {j : Nat} (h : own d.L j = x ∧ 0 ≤ x) : putV (goal d x j) j (d.H j) = goal d x (j + 1) := by
  funext i
  rw [putV_at]
  unfold goal
  by_cases e : i = j
  · subst e
    rw [if_pos rfl, if_pos ⟨by omega, h⟩]
  · rw [if_neg e]
    have : (i < j + 1 ∧ own d.L i = x ∧ 0 ≤ x) ↔ (i < j ∧ own d.L i = x ∧ 0 ≤ x) := ⟨fun k => ⟨by omega, k.2⟩, fun k => ⟨by omega, k.2⟩⟩
    simp only [this]
theorem goal_no {d : Ud} {x : Int} {j : Nat} (h : ¬ (own d.L j = x ∧ 0 ≤ x)) : goal d x (j + 1) = goal d x j := by
  funext i
  unfold goal
  by_cases e : i = j
  · subst e
    rw [if_neg fun k => h k.2, if_neg fun k => h k.2]
  · have : (i < j + 1 ∧ own d.L i = x ∧ 0 ≤ x) ↔ (i < j ∧ own d.L i = x ∧ 0 ≤ x) := ⟨fun k => ⟨by omega, k.2⟩, fun k => ⟨by omega, k.2⟩⟩
    simp only [this]
theorem goal_end {d : Ud} (hg : GoodU d) (x : Int) : ∀ i, i < 8 → goal d x 8 i = udo all (enD d x).L (enD d x).H i := fun i hi => by
  show _ = udo all (cut x d.L) d.H i
  rw [udo_at, wat_cut hg.sole, ← udo_at]
  unfold goal
  by_cases h1 : own d.L i = x
  · rw [if_pos h1]
    by_cases h2 : 0 ≤ x
    · rw [if_pos ⟨hi, h1, h2⟩]
    · rw [if_neg fun k => h2 k.2.2, udo_at]
      rcases own_low (L := d.L) (b := i) with k | k
      · exact wat_none fun y hy _ => own_none.1 k y hy
      · omega
  · rw [if_neg h1, if_neg fun k => h1 k.2.1]
theorem goal_wr {d : Ud} {t b v : Int} (h : wrE d.L t b v = 0) : udo all (wrD d t b v).L (wrD d t b v).H = udo all d.L d.H := by
  rw [wrD_yes h]
  exact udo_wr all d.L d.H t.toNat b.toNat v.toNat rfl

/-- A disk in memory, and two lists of the law's own: what must be there, and what is. -/
structure CrU (w wr : World) (g : Nat) (v : Value) (d : Ud) (A B : Nat) (K H : Nat → Nat) : Prop where
  one : OnU w wr g v d
  want : LsAt wr A K
  now : LsAt wr B H
  apA : ¬ Up g v A
  apB : ¬ Up g v B
  ab : A ≠ B
  lowA : w.heap.size ≤ A
  lowB : w.heap.size ≤ B
theorem CrU.later {w wr w' : World} {g A B : Nat} {v : Value} {d : Ud} {K H : Nat → Nat} (h : CrU w wr g v d A B K H) (hb : Below wr.heap.size wr w') : CrU w w' g v d A B K H := ⟨h.one.later hb, h.want.later hb, h.now.later hb, h.apA, h.apB, h.ab, h.lowA, h.lowB⟩
theorem CrU.step {w wr w' : World} {g A B : Nat} {v v' : Value} {d d' : Ud} {K H : Nat → Nat} (h : CrU w wr g v d A B K H) (hs : Turn wr w' w.heap.size g v v' d') : CrU w w' g v' d' A B K H :=
  ⟨h.one.step hs, h.want.stay hs.stay h.apA, h.now.stay hs.stay h.apB, fun e => by rcases hs.fp A e with k | k; exact h.apA k; have := h.want.lt; omega, fun e => by rcases hs.fp B e with k | k; exact h.apB k; have := h.now.lt; omega, h.ab, h.lowA, h.lowB⟩
theorem CrU.setB {w wr : World} {g A B : Nat} {v : Value} {d : Ud} {K H : Nat → Nat} (h : CrU w wr g v d A B K H) (b x : Nat) : CrU w (wr.setCell ⟨B, b, none⟩ (.int .i64 (x : Int))) g v d A B K (putV H b x) :=
  have hs : Stay (fun y => y = B) wr (wr.setCell ⟨B, b, none⟩ (.int .i64 (x : Int))) := Stay.set _ _ rfl
  ⟨⟨h.one.disk.stay hs fun y hy e => h.apB (e ▸ hy), h.one.old.trans (hs.below (fun y e => by rw [e]; exact h.lowB) h.one.old.size)⟩, h.want.stay hs h.ab, h.now.put b x, h.apA, h.apB, h.ab, h.lowA, h.lowB⟩
theorem CrU.setA {w wr : World} {g A B : Nat} {v : Value} {d : Ud} {K H : Nat → Nat} (h : CrU w wr g v d A B K H) (b x : Nat) : CrU w (wr.setCell ⟨A, b, none⟩ (.int .i64 (x : Int))) g v d A B (putV K b x) H :=
  have hs : Stay (fun y => y = A) wr (wr.setCell ⟨A, b, none⟩ (.int .i64 (x : Int))) := Stay.set _ _ rfl
  ⟨⟨h.one.disk.stay hs fun y hy e => h.apA (e ▸ hy), h.one.old.trans (hs.below (fun y e => by rw [e]; exact h.lowA) h.one.old.size)⟩, h.want.put b x, h.now.stay hs (fun e => h.ab e.symm), h.apA, h.apB, h.ab, h.lowA, h.lowB⟩

end Go.Proofs.Ytkpfieemkjfjkaa
