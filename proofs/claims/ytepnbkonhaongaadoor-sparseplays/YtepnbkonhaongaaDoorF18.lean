/- This text proves what a play's later steps ask: where the document's lists lie, and Size, Read, Blocks and Ints as a region takes them, in any later world; old memory is as it was; the conditions are that the file lies there, and the document's lists. -/
import Derived.Test.YtepnbkonhaongaaDoorF17
import Derived.Test.YtepnbkonhaongaaDoorLj
namespace Go.Proofs.YtepnbkonhaongaaDoor
open Go.RowKit Go.Deep Go.Maps

theorem eqB_self (xs : List Int) : eqB xs xs = true := by simp [eqB]

/-- Where the document's lists lie. -/
theorem DocS.cells {S : Nat → Prop} {w : World} {vb vk : Value} {f : Fil} (h : DocS S w vb vk f) : ∃ gb ob cb gk ok ck, vb = .slice (some ⟨gb, ob, none⟩) 64 cb ∧ 64 ≤ cb ∧ vk = .slice (some ⟨gk, ok, none⟩) 16 ck ∧ 16 ≤ ck ∧ gb < w.heap.size ∧
    (∀ w', Stay S w w' → ∀ i, i < 64 → w'.cell? ⟨gb, ob + i, none⟩ = some (.int .i64 (f.c i))) ∧ (∀ w', Stay S w w' → ∀ i, i < 16 → w'.cell? ⟨gk, ok + i, none⟩ = some (.int .i64 (if f.h i = true then 1 else 0))) := by
  obtain ⟨gb, ob, cb, h1, h2, h3⟩ := h.by'.parts (by rw [byC_len]; decide)
  obtain ⟨gk, ok, ck, k1, k2, k3⟩ := h.bk.parts (by rw [bkH_len]; decide)
  rw [byC_len] at h1 h2 h3
  rw [bkH_len] at k1 k2 k3
  obtain ⟨a, c, b, o, e1, _, e2, e3, _⟩ := h.by'.is.parts
  rw [byC_len] at e1 e2 e3
  have e4 := e2 (by decide)
  subst e4
  rw [h1] at e1
  cases e1
  exact ⟨gb, ob, cb, gk, ok, ck, h1, h2, k1, k2, e3 (by decide), fun w' hs i hi => by rw [h3 w' hs i hi, byC_nth hi], fun w' hs i hi => by rw [k3 w' hs i hi, bkH_nth hi]⟩

theorem rdL_le (f : Fil) (a n : Nat) : (rdL f a n).length ≤ n := by rw [rdL_len]; omega

/-- All bytes. -/
theorem read_all (w : World) (g b : Nat) (f : Fil) (h : FilM w g b f) (hw : Wel f) :
    Calls Tryd.prog 12 #[ptrF g, .int .i64 0, .int .i64 64] w fun e w' => ∃ v, e = .returned (.tuple #[v, .nilIface]) ∧ SliceIs w' v (rdL f 0 64) ∧ Below w.heap.size w w' := by
  refine (sp_read w g b f h hw 0 64).mono ?_
  rintro e w' ⟨v, rfl, h1, h2⟩
  rw [show rdE 0 64 = 0 by decide, errV_zero]
  rw [show rdV f 0 64 = rdL f 0 64 from if_pos (by decide)] at h1
  exact ⟨v, rfl, slice_own h1 (by have := rdL_le f 0 64; unfold maxLen; omega), h2⟩
/-- No bytes, where a number is none of a place. -/
theorem read_not (w : World) (g b : Nat) (f : Fil) (h : FilM w g b f) (hw : Wel f) (a n : Int) (hne : isS a = false ∨ isS n = false) :
    Calls Tryd.prog 12 #[ptrF g, .int .i64 a, .int .i64 n] w fun e w' => ∃ a' c, e = .returned (.tuple #[.slice a' 0 c, errV 1]) ∧ Below w.heap.size w w' := by
  have hn : ¬ (isS a = true ∧ isS n = true) := by
    rintro ⟨h1, h2⟩
    rcases hne with e | e
    · rw [h1] at e; cases e
    · rw [h2] at e; cases e
  refine (sp_read w g b f h hw a n).mono ?_
  rintro e w' ⟨v, rfl, h1, h2⟩
  rw [show rdE a n = 1 from if_neg hn]
  rw [show rdV f a n = [] from if_neg hn] at h1
  obtain ⟨a', c, rfl, _, _⟩ := slice_own (w := w') (xs := []) h1 (by decide)
  exact ⟨a', c, rfl, h2⟩
/-- The bytes from a place on. -/
theorem read_yes (w : World) (g b : Nat) (f : Fil) (h : FilM w g b f) (hw : Wel f) (A N : Nat) (hA : A ≤ 64) (hN : N ≤ 64) :
    Calls Tryd.prog 12 #[ptrF g, .int .i64 (A : Int), .int .i64 (N : Int)] w fun e w' => ∃ a' c, e = .returned (.tuple #[.slice a' (rdL f A N).length c, .nilIface]) ∧ SliceIs w' (.slice a' (rdL f A N).length c) (rdL f A N) ∧ Below w.heap.size w w' := by
  have hy : isS (A : Int) = true ∧ isS (N : Int) = true := ⟨isS_iff.2 (by omega), isS_iff.2 (by omega)⟩
  refine (sp_read w g b f h hw A N).mono ?_
  rintro e w' ⟨v, rfl, h1, h2⟩
  rw [show rdE (A : Int) (N : Int) = 0 from if_pos hy, errV_zero]
  rw [show rdV f (A : Int) (N : Int) = rdL f A N from if_pos hy] at h1
  obtain ⟨a', c, rfl, hl, hx⟩ := slice_own h1 (by have := rdL_le f A N; unfold maxLen; omega)
  exact ⟨a', c, rfl, ⟨a', c, rfl, hl, hx⟩, h2⟩
/-- Size, in a later world. -/
theorem size_later {w w' : World} {g b : Nat} {f : Fil} (h : FilM w g b f) (hb : Below w.heap.size w w') :
    Calls Tryd.prog 13 #[ptrF g] w' fun e w'' => e = .returned (.int .i64 (f.s : Int)) ∧ Below w.heap.size w w'' := by
  refine (sp_size w' g b f (h.later hb)).mono ?_
  rintro e w'' ⟨rfl, rfl⟩
  exact ⟨rfl, hb⟩
theorem blocks_later {w w' : World} {g b : Nat} {f : Fil} (h : FilM w g b f) (hw : Wel f) (hb : Below w.heap.size w w') :
    Calls Tryd.prog 15 #[ptrF g] w' fun e w'' => ∃ v, e = .returned v ∧ SliceIs w'' v (blL f) ∧ Below w.heap.size w w'' := by
  refine (sp_blocks w' g b f (h.later hb) hw).mono ?_
  rintro e w'' ⟨v, rfl, h1, h2⟩
  exact ⟨v, rfl, slice_own h1 (by rw [blL_len]; have := blN_le f; unfold maxLen; omega), Below.next hb h2⟩
theorem ints_later {w w' : World} {v v' : Value} {xs : List Int} (hb : Below w.heap.size w w') (hx : SliceIs w' v xs) (hy : SliceIs w' v' xs) :
    Calls Tryd.prog 14 #[v, v'] w' fun e w'' => e = .returned (.bool true) ∧ Below w.heap.size w w'' := by
  have H := ints_any w' v v' xs xs hx hy
  rw [eqB_self] at H
  refine H.mono ?_
  rintro e w'' ⟨rfl, q, rfl⟩
  exact ⟨rfl, hb.trans (below_drewN _ _ _)⟩
theorem error_one (w : World) (hg : Laid w) : Calls Tryd.prog 8 #[errV 1, .int .i64 1] w fun e w' => e = .returned (.bool true) ∧ Below w.heap.size w w' := by
  have := error_any 1 1 w hg
  rwa [show (((1 : Nat) : Int) == (1 : Int)) = true by decide] at this

end Go.Proofs.YtepnbkonhaongaaDoor
