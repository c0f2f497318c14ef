/- This text proves what the document's own in and NewSparse answer: whether a number lies between two, and a file without bytes in new memory; old memory is as it was; no condition. -/
import Derived.Test.YtepnbkonhaongaaDoorF13
namespace Go.Proofs.YtepnbkonhaongaaDoor
open Go.RowKit Go.Deep Go.Maps

set_option maxHeartbeats 1000000 in
theorem r2in_any (x : Int) (w : World) : Calls Tryd.prog 22 #[.int .i64 x, .int .i64 0, .int .i64 64] w fun e w' => e = .returned (.bool (isS x)) ∧ w = w' := by
  unfold isS
  by_cases h1 : 0 ≤ x
  · go_enter Tryd.func22, Tryd.ntmps22
    go_wp2
    go_ret
    exact ⟨by simp [h1], rfl⟩
  · go_enter Tryd.func22, Tryd.ntmps22
    go_wp2
    go_ret
    exact ⟨by simp; omega, rfl⟩

/-- A box of three values. -/
def Box3 (w : World) (b : Nat) (x y z : Value) : Prop := w.heap[b]? = some (.cells #[x, y, z] 27 (0, 0))
theorem Box3.facts {w : World} {b : Nat} {x y z : Value} (h : Box3 w b x y z) : w.cell? ⟨b, 0, none⟩ = some x ∧ w.cell? ⟨b, 1, none⟩ = some y ∧ w.cell? ⟨b, 2, none⟩ = some z ∧ w.frozen? ⟨b, 0, none⟩ = false ∧ w.frozen? ⟨b, 1, none⟩ = false ∧ w.frozen? ⟨b, 2, none⟩ = false := by
  unfold Box3 at h
  refine ⟨?_, ?_, ?_, ?_, ?_, ?_⟩ <;> simp [World.cell?, World.frozen?, h]
theorem Box3.lt {w : World} {b : Nat} {x y z : Value} (h : Box3 w b x y z) : b < w.heap.size := (Array.getElem?_eq_some_iff.1 h).1
theorem Box3.same {w w' : World} {b : Nat} {x y z : Value} (h : Box3 w b x y z) (hb : w'.heap[b]? = w.heap[b]?) : Box3 w' b x y z := hb.trans h
theorem Box3.later {w w' : World} {b : Nat} {x y z : Value} (h : Box3 w b x y z) (hb : Below w.heap.size w w') : Box3 w' b x y z := (hb.block b h.lt).trans h
theorem Box3.off {w : World} {b : Nat} {x y z : Value} (h : Box3 w b x y z) {p : Addr} (hp : b ≠ p.block) (u : Value) : Box3 (w.setCell p u) b x y z := h.same (Below.heap_setCell w p u b hp)
theorem Box3.set {w : World} {b : Nat} {x y z : Value} (h : Box3 w b x y z) (p q r : Value) : Box3 (((w.setCell ⟨b, 0, none⟩ p).setCell ⟨b, 1, none⟩ q).setCell ⟨b, 2, none⟩ r) b p q r := by
  unfold Box3 at h ⊢
  simp [World.setCell, Array.getElem?_modify, h]
theorem Box3.set0 {w : World} {b : Nat} {x y z : Value} (h : Box3 w b x y z) (p : Value) : Box3 (w.setCell ⟨b, 0, none⟩ p) b p y z := by
  unfold Box3 at h ⊢
  simp [World.setCell, Array.getElem?_modify, h]
theorem Box3.set1 {w : World} {b : Nat} {x y z : Value} (h : Box3 w b x y z) (p : Value) : Box3 (w.setCell ⟨b, 1, none⟩ p) b x p z := by
  unfold Box3 at h ⊢
  simp [World.setCell, Array.getElem?_modify, h]
theorem Box3.set2 {w : World} {b : Nat} {x y z : Value} (h : Box3 w b x y z) (p : Value) : Box3 (w.setCell ⟨b, 2, none⟩ p) b x y p := by
  unfold Box3 at h ⊢
  simp [World.setCell, Array.getElem?_modify, h]
theorem box3_new (w : World) (x y z : Value) : Box3 (w.alloc (.cells #[x, y, z] 27)) w.heap.size x y z := blk_alloc_new _ _
theorem results_cell2 {fn : Func} {p q : Tmp} {ty : TypeId} (h : fn.results = #[.cell p ty, .tmp q]) (tmps : Array Value) (P : Program) (w : World) :
    (results fn tmps).run P w = ((asAddr (tmps.getD p undef)).run P w).andThen fun a w₁ => ((loadVar ty a).run P w₁).andThen fun x w₂ => .ok (.tuple #[x, tmps.getD q undef]) w₂ := by
  simp only [results, h]
  simp [Sem.run_bind, Result.andThen]
theorem results_cell1 {fn : Func} {p : Tmp} {ty : TypeId} (h : fn.results = #[.cell p ty]) (tmps : Array Value) (P : Program) (w : World) :
    (results fn tmps).run P w = ((asAddr (tmps.getD p undef)).run P w).andThen fun a w₁ => (loadVar ty a).run P w₁ := by
  simp only [results, h]
  simp [Sem.run_bind, Result.andThen]
/-- Two boxes at the start of a call. -/
theorem boxes_new (w : World) (x y z x' y' z' : Value) : ∃ w1, (w.alloc (.cells #[x, y, z] 27)).alloc (.cells #[x', y', z'] 27) = w1 ∧ Below w.heap.size w w1 ∧ Box3 w1 w.heap.size x y z ∧ Box3 w1 (w.heap.size + 1) x' y' z' := by
  refine ⟨_, rfl, (below_alloc w _).trans ((below_alloc _ _).mono (by simp)), (box3_new w x y z).later (below_alloc _ _), ?_⟩
  have := box3_new (w.alloc (.cells #[x, y, z] 27)) x' y' z'
  simpa using this

theorem made_own (w : World) (n : Nat) (xs : List Int) (hn : xs = List.replicate n 0) (hm : n ≤ maxLen) : (w.alloc (.cells (madeCells #[.int .i64 0] n) 3)).ownsRow w.heap.size 3 1 (.slice (some ⟨w.heap.size, 0, none⟩) n n) n (cellsOf xs) := by
  subst hn
  refine ⟨by rw [cellsOf_len]; simp, .inr ⟨w.heap.size, n, madeCells #[.int .i64 0] n, rfl, Nat.le_refl _, blk_alloc_new _ _, Nat.le_refl _, hm, by rw [size_madeCells]; simp, ?_⟩⟩
  rw [toList_madeCells_one]
  simp [cellsOf]
theorem byC_none : byC fil0.c = List.replicate 64 0 := by decide +kernel
theorem bkH_none : bkH fil0.h = List.replicate 16 0 := by decide +kernel

theorem made_two (S : Nat → Prop) (w : World) (hS : ∀ x, S x → x < w.heap.size) (n m : Nat) (xs ys : List Int) (hx : xs = List.replicate n 0) (hy : ys = List.replicate m 0) (hn : n ≤ maxLen) (hm : m ≤ maxLen) (n0 : 0 < n) (m0 : 0 < m) {O : Obj} :
    (KeepsC S ((((w.alloc O).alloc (.cells (madeCells #[.int .i64 0] n) 3)).alloc (.cells (madeCells #[.int .i64 0] m) 3)).drew) (.slice (some ⟨w.heap.size + 1, 0, none⟩) n n) xs ∧ KeepsC S ((((w.alloc O).alloc (.cells (madeCells #[.int .i64 0] n) 3)).alloc (.cells (madeCells #[.int .i64 0] m) 3)).drew) (.slice (some ⟨w.heap.size + 1 + 1, 0, none⟩) m m) ys) ∧
      Below w.heap.size w (((w.alloc O).alloc (.cells (madeCells #[.int .i64 0] n) 3)).alloc (.cells (madeCells #[.int .i64 0] m) 3)).drew := by
  have e1 : (w.alloc O).heap.size = w.heap.size + 1 := by simp
  have e2 : ((w.alloc O).alloc (.cells (madeCells #[.int .i64 0] n) 3)).heap.size = w.heap.size + 1 + 1 := by simp
  have h1 := made_own (w.alloc O) n xs hx hn
  have h2 := made_own ((w.alloc O).alloc (.cells (madeCells #[.int .i64 0] n) 3)) m ys hy hm
  rw [e1] at h1
  rw [e2] at h2
  have hS' : ∀ x, S x → x < w.heap.size + 1 := fun x h => by have := hS x h; omega
  have hS'' : ∀ x, S x → x < w.heap.size + 1 + 1 := fun x h => by have := hS x h; omega
  have hb := (below_alloc w O).trans (((below_alloc (w.alloc O) (.cells (madeCells #[.int .i64 0] n) 3)).mono (by rw [e1]; omega)).trans ((below_alloc ((w.alloc O).alloc (.cells (madeCells #[.int .i64 0] n) 3)) (.cells (madeCells #[.int .i64 0] m) 3)).mono (by rw [e2]; omega)))
  exact ⟨⟨((KeepsC.own h1 n0 hS').stay (Stay.of (below_alloc _ _))).stay (Stay.drew _ _), (KeepsC.own h2 m0 hS'').stay (Stay.drew _ _)⟩, hb.trans (below_drew _ _ 1)⟩

set_option maxHeartbeats 4000000 in
set_option maxRecDepth 100000 in
theorem r2new_any (S : Nat → Prop) (w : World) (hS : ∀ x, S x → x < w.heap.size) : Calls Tryd.prog 6 #[] w fun e w' => ∃ vb vk, e = .returned (.agg #[vb, .int .i64 0, vk]) ∧ DocS S w' vb vk fil0 ∧ Below w.heap.size w w' := by
  have hm64 := run_make_row' (P := Tryd.prog) 25 3 (.int .i64 0) 8 Tryd.underlying25 Tryd.info3 rfl .i64 .i64 64 (by omega) (by omega)
  rw [show ((64 : Nat) : Int) = 64 from rfl] at hm64
  have hm16 := run_make_row' (P := Tryd.prog) 25 3 (.int .i64 0) 8 Tryd.underlying25 Tryd.info3 rfl .i64 .i64 16 (by omega) (by omega)
  rw [show ((16 : Nat) : Int) = 16 from rfl] at hm16
  have HZ : Hid (∀ {O : Obj}, DocS S ((((w.alloc O).alloc (.cells (madeCells #[.int .i64 0] 64) 3)).alloc (.cells (madeCells #[.int .i64 0] 16) 3)).drew) (.slice (some ⟨w.heap.size + 1, 0, none⟩) 64 64) (.slice (some ⟨w.heap.size + 1 + 1, 0, none⟩) 16 16) fil0 ∧ Below w.heap.size w (((w.alloc O).alloc (.cells (madeCells #[.int .i64 0] 64) 3)).alloc (.cells (madeCells #[.int .i64 0] 16) 3)).drew) := fun {O} => by
    obtain ⟨⟨h1, h2⟩, h3⟩ := made_two S w hS 64 16 (byC fil0.c) (bkH fil0.h) byC_none bkH_none (by decide) (by decide) (by decide) (by decide) (O := O)
    exact ⟨⟨h1, h2⟩, h3⟩
  have HY : Hid (∀ {O : Obj}, DocS S ((((w.alloc O).alloc (.cells (madeCells #[.int .i64 0] 16) 3)).alloc (.cells (madeCells #[.int .i64 0] 64) 3)).drew) (.slice (some ⟨w.heap.size + 1 + 1, 0, none⟩) 64 64) (.slice (some ⟨w.heap.size + 1, 0, none⟩) 16 16) fil0 ∧ Below w.heap.size w (((w.alloc O).alloc (.cells (madeCells #[.int .i64 0] 16) 3)).alloc (.cells (madeCells #[.int .i64 0] 64) 3)).drew) := fun {O} => by
    obtain ⟨⟨h1, h2⟩, h3⟩ := made_two S w hS 16 64 (bkH fil0.h) (byC fil0.c) bkH_none byC_none (by decide) (by decide) (by decide) (by decide) (O := O)
    exact ⟨⟨h2, h1⟩, h3⟩
  go_enter Tryd.func6, Tryd.ntmps6
  go_wp2
  go_region
  · go_wp2_with fail
    refine bodyPost_ret (v := .agg #[.slice (some ⟨w.heap.size + 1, 0, none⟩) 64 64, .int .i64 0, .slice (some ⟨w.heap.size + 1 + 1, 0, none⟩) 16 16]) ?_ rfl ?_
    · rw [results_cell1 rfl]
      go_simp
    · exact ⟨_, _, rfl, HZ.out.1, HZ.out.2⟩
  · go_wp2_with fail
    refine bodyPost_ret (v := .agg #[.slice (some ⟨w.heap.size + 1 + 1, 0, none⟩) 64 64, .int .i64 0, .slice (some ⟨w.heap.size + 1, 0, none⟩) 16 16]) ?_ rfl ?_
    · rw [results_cell1 rfl]
      go_simp
    · exact ⟨_, _, rfl, HY.out.1, HY.out.2⟩

end Go.Proofs.YtepnbkonhaongaaDoor
