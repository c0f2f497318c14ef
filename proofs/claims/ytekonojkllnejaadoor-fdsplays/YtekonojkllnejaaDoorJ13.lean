/- This text proves what stays of a play of numbers behind each step: the program's numbers and the document's lie beside each other and are the same; it speaks of no call; the conditions are those that each fact names. -/
import Derived.Test.YtekonojkllnejaaDoorJ12
namespace Go.Proofs.YtekonojkllnejaaDoor
open Go.RowKit Go.Deep

/-- A play: the program's numbers, and the document's, the same, with at most so many files. -/
def PlS (w wr : World) (G X k : Nat) (F : Nat → Option Nat) (Z : Nat → Nat × Nat) : Prop :=
  ∃ vo vs va O S A adr, Mem w wr G X vo vs va F Z O S A ∧ Rel F Z O S A adr ∧ (∀ a ∈ adr, a < wr.heap.size) ∧ S.length ≤ k

theorem Doc.down {w : World} {base base' : Nat} {vo vs va : Value} {O S A : List Int} (h : Doc w base vo vs va O S A) (hb : base' ≤ base) : Doc w base' vo vs va O S A :=
  ⟨own_down h.o hb, own_down h.s hb, own_down h.a hb, h.os, h.sa, h.len⟩

theorem PlS.new {w w1 w2 : World} {G : Nat} {vo : Value} {O : List Int} (hT : TabAt w1 G G (fun _ => none) (fun _ => (0, 0))) (hb1 : Below G w w1) (hD : Doc w2 w1.heap.size vo (.slice none 0 0) (.slice none 0 0) O [] []) (hO : O = List.replicate 8 (-1)) (hb2 : Below w1.heap.size w1 w2) :
    PlS w (w2.alloc (.cells #[vo, .slice none 0 0, .slice none 0 0] 38)) G w2.heap.size 0 (fun _ => none) (fun _ => (0, 0)) := by
  have hlt := hT.lt
  have hz := hb2.size
  have hdb : ∀ b, Db vo (.slice none 0 0) (.slice none 0 0) b → w1.heap.size ≤ b ∧ b < w2.heap.size := fun b h => hD.fp h
  have hfp : ∀ b, Fp G (fun _ => none) b → b = G := fun b h => by
    rcases h with h | ⟨i, _, h⟩
    · exact h
    · cases h
  refine ⟨vo, .slice none 0 0, .slice none 0 0, O, [], [], [], ⟨(hT.later hb2).later (below_alloc _ _), (hD.down (Nat.le_of_lt hlt)).later (below_alloc _ _), box3_new _ _ _ _, (hb1.trans (hb2.mono (Nat.le_of_lt hlt))).trans ((below_alloc w2 _).mono (by omega)), by omega, fun h => by have := hfp _ h; omega, fun h => by have := hdb _ h; omega, fun b h hF => by have := hdb b h; have := hfp b hF; omega⟩, hO ▸ rel_new, (fun a h => by cases h), Nat.le_refl _⟩

theorem PlS.later {w wr w' : World} {G X k : Nat} {F : Nat → Option Nat} {Z : Nat → Nat × Nat} (h : PlS w wr G X k F Z) (hb : Below wr.heap.size wr w') : PlS w w' G X k F Z := by
  obtain ⟨vo, vs, va, O, S, A, adr, h1, h2, h3, h4⟩ := h
  exact ⟨vo, vs, va, O, S, A, adr, h1.later hb, h2, fun a ha => Nat.lt_of_lt_of_le (h3 a ha) hb.size, h4⟩
theorem PlS.more {w wr : World} {G X k : Nat} {F : Nat → Option Nat} {Z : Nat → Nat × Nat} (h : PlS w wr G X k F Z) : PlS w wr G X (k + 1) F Z := by
  obtain ⟨vo, vs, va, O, S, A, adr, h1, h2, h3, h4⟩ := h
  exact ⟨vo, vs, va, O, S, A, adr, h1, h2, h3, by omega⟩
theorem PlS.old {w wr : World} {G X k : Nat} {F : Nat → Option Nat} {Z : Nat → Nat × Nat} (h : PlS w wr G X k F Z) : Below G w wr := by
  obtain ⟨vo, vs, va, O, S, A, adr, h1, _⟩ := h
  exact h1.old
theorem PlS.tab {w wr : World} {G X k : Nat} {F : Nat → Option Nat} {Z : Nat → Nat × Nat} (h : PlS w wr G X k F Z) : TabAt wr G G F Z := by
  obtain ⟨vo, vs, va, O, S, A, adr, h1, _⟩ := h
  exact h1.tab

theorem PlS.opened {w w3 w4 : World} {G X k : Nat} {vo vs va : Value} {F : Nat → Option Nat} {Z : Nat → Nat × Nat} {O S A : List Int} {adr : List Nat} {n : Int} (hM : Mem w w3 G X vo vs va F Z (onO F O S n) (onS F S n) (onA F A n)) (hR : Rel F Z O S A adr) (ha : ∀ a ∈ adr, a < w3.heap.size) (hl : S.length ≤ k) (hO : O.length = 8) (hA : A.length = S.length)
    (hs : Stp w3 w4 G G F (onF F n w3.heap.size) (onZ Z n w3.heap.size)) : PlS w w4 G X (k + 1) (onF F n w3.heap.size) (onZ Z n w3.heap.size) := by
  have hq : w3.heap.size ∉ adr := fun h => Nat.lt_irrefl _ (ha _ h)
  have hsz := hs.tch.size
  refine ⟨_, _, _, _, _, _, _, hM.prog hs, rel_open (n := n) hR hO hA hq, fun a h => ?_, ?_⟩
  · by_cases he : onE F n = 0
    · rw [if_pos he] at h
      rcases List.mem_append.1 h with h | h
      · exact Nat.lt_of_lt_of_le (ha a h) hsz
      · have e : a = w3.heap.size := by simpa using h
        subst e
        have hn : 0 ≤ n ∧ n ≤ 64 := by
          refine Classical.byContradiction fun hc => ?_
          have : onE F n = 1 := if_neg hc
          omega
        have hl8 : lst F < 8 := by
          refine Classical.byContradiction fun hc => ?_
          have : onE F n = 4 := by unfold onE; rw [if_pos hn]; unfold giE; rw [if_neg hc]
          omega
        obtain ⟨x, hx, _, _, _, e3, _⟩ := on_good (Z := Z) (q := w3.heap.size) hl8 (lst_free hl8) hn
        exact (hs.at'.fp (.inr ⟨x, hx, by rw [e3, upd_self]⟩)).2
    · rw [if_neg he] at h
      exact Nat.lt_of_lt_of_le (ha a h) hsz
  · unfold onS
    by_cases he : onE F n = 0
    · rw [if_pos he, List.length_append]
      show S.length + 1 ≤ k + 1
      omega
    · rw [if_neg he]; omega
theorem PlS.dupped {w w3 w4 : World} {G X k : Nat} {vo vs va : Value} {F : Nat → Option Nat} {Z : Nat → Nat × Nat} {O S A : List Int} {adr : List Nat} {fd : Int} (hM : Mem w w3 G X vo vs va F Z (dpO F O fd) S A) (hR : Rel F Z O S A adr) (ha : ∀ a ∈ adr, a < w3.heap.size) (hl : S.length ≤ k) (hO : O.length = 8)
    (hs : Stp w3 w4 G G F (dpF F fd) Z) : PlS w w4 G X (k + 1) (dpF F fd) Z :=
  ⟨_, _, _, _, _, _, _, hM.prog hs, rel_dup hR hO, fun a h => Nat.lt_of_lt_of_le (ha a h) hs.tch.size, by omega⟩
theorem PlS.closed {w w3 w4 : World} {G X k i : Nat} {vo vs va : Value} {F : Nat → Option Nat} {Z : Nat → Nat × Nat} {O S A : List Int} {adr : List Nat} (hM : Mem w w3 G X vo vs va F Z (O.set i (-1)) S A) (hR : Rel F Z O S A adr) (ha : ∀ a ∈ adr, a < w3.heap.size) (hl : S.length ≤ k) (hO : O.length = 8) (hi : i < 8)
    (hs : Stp w3 w4 G G F (upd F i none) Z) : PlS w w4 G X (k + 1) (upd F i none) Z :=
  ⟨_, _, _, _, _, _, _, hM.prog hs, rel_close hR hO hi, fun a h => Nat.lt_of_lt_of_le (ha a h) hs.tch.size, by omega⟩
theorem PlS.moved {w w3 w4 : World} {G X k : Nat} {vo vs va : Value} {F : Nat → Option Nat} {Z : Nat → Nat × Nat} {O S A : List Int} {adr : List Nat} {fd y : Int} (hM : Mem w w3 G X vo vs va F Z O S (mvA F Z O A fd y)) (hR : Rel F Z O S A adr) (ha : ∀ a ∈ adr, a < w3.heap.size) (hl : S.length ≤ k) (hA : A.length = S.length)
    (hs : Stp w3 w4 G G F F (mvZ F Z fd y)) : PlS w w4 G X (k + 1) F (mvZ F Z fd y) :=
  ⟨_, _, _, _, _, _, _, hM.prog hs, rel_move hR hA, fun a h => Nat.lt_of_lt_of_le (ha a h) hs.tch.size, by omega⟩
theorem PlS.same {w w3 w4 : World} {G X k : Nat} {F : Nat → Option Nat} {Z : Nat → Nat × Nat} (h : PlS w w3 G X k F Z) (hs : Stp w3 w4 G G F F Z) : PlS w w4 G X (k + 1) F Z := by
  obtain ⟨vo, vs, va, O, S, A, adr, h1, h2, h3, h4⟩ := h
  exact ⟨vo, vs, va, O, S, A, adr, h1.prog hs, h2, fun a h => Nat.lt_of_lt_of_le (h3 a h) hs.tch.size, by omega⟩

end Go.Proofs.YtekonojkllnejaaDoor
