/- This text proves nothing of the program: rows of numbers of the call's own in a slice of the call's own, and what an alloc, an append and a store leave of them; no condition. -/
import Derived.Test.YtebjefgdjfjndaaDoorEl
import Derived.Test.YtebjefgdjfjndaaDoorRe6
namespace Go.Proofs.YtebjefgdjfjndaaDoor
open Go.RowKit Go.Deep

theorem Tryd.info22 : (Tryd.prog.info? 22).map (fun i => (i.zero, i.size, i.bytes)) = some (some (.slice none 0 0), 1, 24) := by kernel_rfl

/-- The first j values of a function. -/
def vl (V : Nat → Value) (j : Nat) : List Value := (List.range j).map V

theorem vl_len (V : Nat → Value) (j : Nat) : (vl V j).length = j := by simp [vl]
theorem vl_get {V : Nat → Value} {j i : Nat} (h : i < j) : (vl V j)[i]? = some (V i) := by simp [vl, h]
theorem vl_succ (V : Nat → Value) (j : Nat) (v : Value) : vl V j ++ [v] = vl (upd V j v) (j + 1) := by
  unfold vl
  rw [List.range_succ, List.map_append, List.map_singleton, upd_at]
  congr 1
  refine List.map_congr_left fun i hi => ?_
  have : i < j := by simpa using hi
  rw [upd_else _ _ (by omega)]
theorem vl_set (V : Nat → Value) (j k : Nat) (v : Value) : (vl V j).set k v = vl (upd V k v) j := by
  unfold vl
  refine List.ext_getElem (by simp) fun i h1 h2 => ?_
  rw [List.getElem_set]
  by_cases e : k = i
  · subst e; simp [upd]
  · rw [if_neg e]; simp [upd]; intro h; exact absurd h.symm e

theorem own_later {w w' : World} {base e n : Nat} {v : Value} {vs : List Value} (h : w.ownsRow base e 1 v n vs) (hb : Below w.heap.size w w') : w'.ownsRow base e 1 v n vs := by
  refine ⟨h.1, ?_⟩
  rcases h.2 with h0 | ⟨g, cap, cur, h1, h2, h3, h4⟩
  · exact .inl h0
  · exact .inr ⟨g, cap, cur, h1, h2, by rw [hb.block g (Array.getElem?_eq_some_iff.1 h3).1]; exact h3, h4⟩

theorem own_apart {w : World} {b1 b2 e1 e2 n1 n2 : Nat} {v1 v2 : Value} {vs1 vs2 : List Value} (h1 : w.ownsRow b1 e1 1 v1 n1 vs1) (h2 : w.ownsRow b2 e2 1 v2 n2 vs2) (he : e1 ≠ e2) : v1.ownBlock = none ∨ v1.ownBlock ≠ v2.ownBlock := by
  rcases h1.2 with ⟨rfl, _⟩ | ⟨g, cap, cur, rfl, _, hg, _⟩
  · exact .inl rfl
  · refine .inr fun e => ?_
    rcases h2.2 with ⟨rfl, _⟩ | ⟨g', cap', cur', rfl, _, hg', _⟩
    · cases e
    · cases e
      rw [hg] at hg'
      cases hg'
      exact he rfl

/-- Rows of n + 1 numbers each, j of them. -/
structure Mat (w : World) (base j n : Nat) (v : Value) (V : Nat → Value) (M : Nat → Nat → Nat) : Prop where
  outer : w.ownsRow base 22 1 v j (vl V j)
  inner : ∀ i, i < j → w.ownsRow base 3 1 (V i) (n + 1) (cellsOf (fl (n + 1) (M i)))

theorem mat_none (w : World) (base n : Nat) (V : Nat → Value) (M : Nat → Nat → Nat) : Mat w base 0 n (.slice none 0 0) V M := ⟨World.ownsRow_nil _ _ _ _, fun _ hi => absurd hi (Nat.not_lt_zero _)⟩

theorem Mat.later {w w' : World} {base j n : Nat} {v : Value} {V : Nat → Value} {M : Nat → Nat → Nat} (h : Mat w base j n v V M) (hb : Below w.heap.size w w') : Mat w' base j n v V M :=
  ⟨own_later h.outer hb, fun i hi => own_later (h.inner i hi) hb⟩

theorem Mat.congr {w : World} {base j n : Nat} {v : Value} {V V' : Nat → Value} {M M' : Nat → Nat → Nat} (h : Mat w base j n v V M) (hV : ∀ i, i < j → V i = V' i) (hM : ∀ i, i < j → ∀ q, q < n + 1 → M i q = M' i q) : Mat w base j n v V' M' := by
  refine ⟨?_, fun i hi => ?_⟩
  · have : vl V j = vl V' j := List.map_congr_left fun i hi => hV i (by simpa using hi)
    rw [← this]; exact h.outer
  · rw [← hV i hi, ← fl_congr (hM i hi)]; exact h.inner i hi

/-- One row more, behind an append. -/
theorem Mat.more {w w' : World} {base j n : Nat} {v v' u : Value} {V : Nat → Value} {M : Nat → Nat → Nat} (h : Mat w base j n v V M) (hu : w.ownsRow base 3 1 u (n + 1) (cellsOf (fl (n + 1) (M j)))) (hg : w.grownBy w' v.ownBlock) (ho : w'.ownsRow base 22 1 v' (j + 1) (vl V j ++ [u])) : Mat w' base (j + 1) n v' (upd V j u) M := by
  refine ⟨by rw [← vl_succ]; exact ho, fun i hi => ?_⟩
  by_cases e : i = j
  · subst e
    rw [upd_at]
    exact hu.kept hg (own_apart hu h.outer (by decide))
  · rw [upd_else _ _ e]
    exact (h.inner i (by omega)).kept hg (own_apart (h.inner i (by omega)) h.outer (by decide))

/-- A row is put in another's place. -/
theorem Mat.put {w : World} {base j n g cap k : Nat} {u : Value} {V : Nat → Value} {M : Nat → Nat → Nat} {f : Nat → Nat} (h : Mat w base j n (.slice (some ⟨g, 0, none⟩) j cap) V M) (hu : w.ownsRow base 3 1 u (n + 1) (cellsOf (fl (n + 1) f))) :
    Mat (w.setCell ⟨g, k, none⟩ u) base j n (.slice (some ⟨g, 0, none⟩) j cap) (upd V k u) (upd M k f) ∧ (∀ (x : Value) (m : Nat) (xs : List Value), w.ownsRow base 3 1 x m xs → (w.setCell ⟨g, k, none⟩ u).ownsRow base 3 1 x m xs) := by
  have hx : ∀ (x : Value) (m : Nat) (xs : List Value), w.ownsRow base 3 1 x m xs → (w.setCell ⟨g, k, none⟩ u).ownsRow base 3 1 x m xs := fun x m xs hh => by
    refine ownsRow_setCell_other hh (a := ⟨g, k, none⟩) ?_ u
    rcases own_apart hh h.outer (by decide) with e | e
    · rw [e]; intro e'; cases e'
    · exact e
  refine ⟨⟨?_, fun i hi => ?_⟩, hx⟩
  · rw [← vl_set]; exact (h.outer.stored k u).1
  · by_cases e : i = k
    · subst e; rw [upd_at, upd_at]; exact hx _ _ _ hu
    · rw [upd_else _ _ e, upd_else _ _ e]; exact hx _ _ _ (h.inner i hi)

theorem own_at {w : World} {base e g n cap i : Nat} {vs : List Value} {u : Value} (h : w.ownsRow base e 1 (.slice (some ⟨g, 0, none⟩) n cap) n vs) (hi : i < n) (hu : vs[i]? = some u) : w.cell? ⟨g, i, none⟩ = some u := by
  rw [h.cellAt i (by omega), hu]

theorem own_num {w : World} {base g n cap i : Nat} {f : Nat → Nat} (h : w.ownsRow base 3 1 (.slice (some ⟨g, 0, none⟩) n cap) n (cellsOf (fl n f))) (hi : i < n) : w.cell? ⟨g, i, none⟩ = some (.int .i64 (f i : Int)) :=
  own_at h hi (by rw [cellsOf_get (by rw [fl_len]; exact hi), fl_nth hi])

/-- What a row of rows holds. -/
theorem Mat.read {w : World} {base j n g cap : Nat} {V : Nat → Value} {M : Nat → Nat → Nat} (h : Mat w base j n (.slice (some ⟨g, 0, none⟩) j cap) V M) {i : Nat} (hi : i < j) :
    ∃ b c, V i = .slice (some ⟨b, 0, none⟩) (n + 1) c ∧ b < w.heap.size ∧ b ≠ g ∧ w.cell? ⟨g, i, none⟩ = some (.slice (some ⟨b, 0, none⟩) (n + 1) c) ∧ ∀ q, q < n + 1 → w.cell? ⟨b, q, none⟩ = some (.int .i64 (M i q : Int)) := by
  have hin := h.inner i hi
  obtain ⟨b, c, hv, _, hb⟩ := own_where hin (by omega)
  have hne : b ≠ g := by
    rintro rfl
    rw [hv] at hin
    rcases own_apart hin h.outer (by decide) with e | e
    · cases e
    · exact e rfl
  refine ⟨b, c, hv, hb, hne, ?_, fun q hq => ?_⟩
  · rw [own_at h.outer hi (vl_get hi), hv]
  · rw [hv] at hin
    exact own_num hin hq

theorem own_base {w : World} {b1 b2 e n : Nat} {v : Value} {vs : List Value} (h : w.ownsRow b1 e 1 v n vs) (hb : b2 ≤ b1) : w.ownsRow b2 e 1 v n vs := by
  refine ⟨h.1, ?_⟩
  rcases h.2 with h0 | ⟨g, cap, cur, e1, e2, e3⟩
  · exact .inl h0
  · exact .inr ⟨g, cap, cur, e1, Nat.le_trans hb e2, e3⟩

theorem grown_cell {w w' : World} {row : Option Nat} {b j B : Nat} (h : w.grownBy w' row) (hb : b < B) (hB : B ≤ w.heap.size) (hr : ∀ k, row = some k → B ≤ k) : w'.cell? ⟨b, j, none⟩ = w.cell? ⟨b, j, none⟩ :=
  World.cell?_of_block (w := w) (h.block b (Nat.lt_of_lt_of_le hb hB) (fun e => by have := hr b e.symm; omega))

theorem cells_succ (k : Nat) (f : Nat → Nat) : cellsOf (fl k f) ++ [.int .i64 (f k : Int)] = cellsOf (fl (k + 1) f) := by simp [cellsOf, fl, List.range_succ]

/-- A number of one's own, as append takes it. -/
theorem news_one (w : World) (u : Value) (t : TypeId) : ∀ (j : Nat) (x : Value), [u][j]? = some x → (w.alloc (.cells #[u] t)).cell? ((⟨w.heap.size, 0, none⟩ : Addr).add j) = some x := by
  intro j x hx
  rw [addr_at, cell_new]
  simpa using hx
theorem ones_int (x : Int) : ∀ u ∈ [Value.int .i64 x], u.oneCell' = true := fun u hu => by rw [List.mem_singleton.1 hu]; rfl
theorem ones_slice (a : Option Addr) (n c : Nat) : ∀ u ∈ [Value.slice a n c], u.oneCell' = true := fun u hu => by rw [List.mem_singleton.1 hu]; rfl

end Go.Proofs.YtebjefgdjfjndaaDoor
