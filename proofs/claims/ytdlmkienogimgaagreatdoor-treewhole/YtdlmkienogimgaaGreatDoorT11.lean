/- This text proves what holds and deepest answer: whether a node is another one or above it, and how many names deep it goes below a node; old memory is as it was; the conditions are that the tree lies there. -/
import Derived.Test.YtdlmkienogimgaaGreatDoorT10
import Derived.LaidEqlPtr
namespace Go.Proofs.YtdlmkienogimgaaGreatDoor
open Go.RowKit Go.Deep Go.Shelf Go.Maps

theorem Tryz.infoNode : (Tryz.prog.info? 77).map (fun i => (i.zero, i.size, i.bytes)) = some (some (.agg #[.map none]), 1, 8) := by kernel_rfl

theorem eql_node (w : World) (j o : Nat) (mj mo : Option Nat) (hj : NodeAt w j mj) (ho : NodeAt w o mo) : (binOp .eql 59 (.pointer (some ⟨j, 0, none⟩)) (.pointer (some ⟨o, 0, none⟩))).run Tryz.prog w = .ok (.bool (decide (j = o))) w := by
  obtain ⟨ti, hti, _, hz1, _⟩ := info_parts Tryz.infoNode
  by_cases e : j = o
  · subst e
    rw [decide_eq_true rfl]
    exact run_eql_ptr_same w _ Tryz.underlying59 hti
  · rw [decide_eq_false e]
    exact run_eql_ptr_other w Tryz.underlying59 hti (by rw [hz1]; decide) (fun h => e (by cases h; rfl)) hj ho

set_option maxRecDepth 100000 in
theorem Tryz.enter92 : ∀ args w, (callFunc 92 args).run Tryz.prog w = .ok (.enter 92 args) w := fun _ _ => by rfl
set_option maxRecDepth 100000 in
theorem Tryz.enter93 : ∀ args w, (callFunc 93 args).run Tryz.prog w = .ok (.enter 93 args) w := fun _ _ => by rfl

set_option maxHeartbeats 2000000 in
set_option maxRecDepth 100000 in
theorem holdsOne_any (w : World) (Bf Bo : Nat) (c : Bool) (v : Value) (j o : Nat) (mj mo : Option Nat) (h1 : Boxed w Bf 4 (.bool c)) (h2 : Boxed w Bo 59 (ptr o)) (hj : NodeAt w j mj) (ho : NodeAt w o mo) :
    Calls Tryz.prog 92 #[v, ptr j, .pointer (some ⟨Bf, 0, none⟩), .pointer (some ⟨Bo, 0, none⟩)] w fun e w' => e = .returned (.tuple #[]) ∧ Boxed w' Bf 4 (.bool (c || decide (j = o))) ∧ Kept (fun b => b = Bf) w w' := by
  have c1 := h1.cell
  have c2 := h2.cell
  have f1 := h1.frozen
  have he := eql_node w j o mj mo hj ho
  have HS : Hid (Boxed w Bf 4 (.bool c)) := h1
  unfold ptr at c2 ⊢
  clear h1 h2 hj ho
  generalize decide (j = o) = d at *
  cases c with
  | true =>
    rw [Bool.true_or]
    go_enter Tryz.func92, Tryz.ntmps92
    go_wp2
    go_end0
    exact ⟨rfl, boxed_set HS.out⟩
  | false =>
    rw [Bool.false_or]
    go_enter Tryz.func92, Tryz.ntmps92
    go_wp2
    go_end0
    exact ⟨rfl, boxed_set HS.out⟩

set_option maxHeartbeats 2000000 in
set_option maxRecDepth 100000 in
theorem deepOne_any (w : World) (Bm : Nat) (c n : Nat) (a : Option Addr) (cp : Nat) (u : Value) (h1 : Boxed w Bm 3 (.int .i64 c)) :
    Calls Tryz.prog 93 #[.slice a n cp, u, .pointer (some ⟨Bm, 0, none⟩)] w fun e w' => e = .returned (.tuple #[]) ∧ Boxed w' Bm 3 (.int .i64 ((max c n : Nat) : Int)) ∧ Kept (fun b => b = Bm) w w' := by
  have c1 := h1.cell
  have f1 := h1.frozen
  have HS : Hid (Boxed w Bm 3 (.int .i64 c)) := h1
  clear h1
  go_enter Tryz.func93, Tryz.ntmps93
  go_wp2
  go_end0
  rw [show ((max c n : Nat) : Int) = max (c : Int) n by omega]
  exact ⟨rfl, boxed_set HS.out⟩

/-- How deep the visited names are. -/
def dpt (xs : List Ent) : Nat := xs.foldl (fun m x => max m x.1.length) 0
theorem dpt_snoc (xs : List Ent) (x : Ent) : dpt (xs ++ [x]) = max (dpt xs) x.1.length := by simp [dpt]

set_option maxHeartbeats 2000000 in
set_option maxRecDepth 100000 in
theorem deepest_any (w : World) (base t : Nat) (L : List Ent) (M : Nat → Option Nat) (h : TreeAt w base t L M) (p : List (List UInt8)) (i : Nat) (hi : (p, i) ∈ L) :
    Calls Tryz.prog 75 #[ptr i] w fun e w' => e = .returned (.int .i64 (dpt (wk 8 L p))) ∧ Below w.heap.size w w' := by
  have HW : Hid (∀ o, Boxed (w.alloc o) w.heap.size 3 (.int .i64 0) → Calls Tryz.prog 30 #[ptr i, .slice none 0 0, .func (.func 93) #[] #[.pointer (some ⟨w.heap.size, 0, none⟩)]] (w.alloc o) fun e w' => e = .returned (.tuple #[]) ∧ Boxed w' w.heap.size 3 (.int .i64 (dpt (wk 8 L p))) ∧ Kept (fun b => b = w.heap.size) (w.alloc o) w') := by
    show ∀ o, _ → _
    intro o hB
    refine walk_fold 93 _ Tryz.enter93 (w.alloc o) base t L M (h.later (below_alloc w o)) p i hi w.heap.size 3 (fun xs => .int .i64 (dpt xs)) hB (fun hF => by have := (h.fp hF).2; omega) ?_
    intro W xs v ns j ho hs hB hv hm
    obtain ⟨a, c, rfl, _⟩ := hv
    refine (deepOne_any W w.heap.size (dpt xs) ns.length a c (ptr j) hB).mono ?_
    rintro e w' ⟨rfl, k1, k2⟩
    refine ⟨rfl, ?_, k2⟩
    show Boxed w' w.heap.size 3 (.int .i64 (dpt (xs ++ [(ns, j)])))
    rw [dpt_snoc]
    exact k1
  unfold ptr at HW ⊢
  go_enter Tryz.func75, Tryz.ntmps75
  go_wp2_with (go_at_call 30; refine (HW.out _ (Boxed.new w _ _)).mono ?_; rintro e w' ⟨rfl, h1, h2⟩; have h3 := h1.cell)
  go_ret
  exact ⟨rfl, (below_alloc w _).trans (h2.below (by simp) fun b hb e => by omega)⟩

theorem boxed_two (w : World) (o1 : Obj) (ty : TypeId) (v : Value) : Boxed ((w.alloc o1).alloc (.cells #[v] ty)) (w.heap.size + 1) ty v := by
  have := Boxed.new (w.alloc o1) ty v
  simpa using this
/-- Whether a thing is met. -/
def met (i o : Nat) (xs : List Ent) : Bool := decide (i = o) || xs.any fun x => decide (x.2 = o)
theorem met_snoc (i o : Nat) (xs : List Ent) (x : Ent) : met i o (xs ++ [x]) = (met i o xs || decide (x.2 = o)) := by
  simp [met, Bool.or_assoc]

set_option maxHeartbeats 2000000 in
set_option maxRecDepth 100000 in
theorem holds_any (w : World) (base t : Nat) (L : List Ent) (M : Nat → Option Nat) (h : TreeAt w base t L M) (p q : List (List UInt8)) (i o : Nat) (hi : (p, i) ∈ L) (ho : (q, o) ∈ L) :
    Calls Tryz.prog 74 #[ptr i, ptr o] w fun e w' => e = .returned (.bool (met i o (wk 8 L p))) ∧ Below w.heap.size w w' := by
  obtain ⟨hni, _⟩ := h.node _ _ hi
  obtain ⟨hno, _⟩ := h.node _ _ ho
  have HW : Hid (∀ W0, Below w.heap.size w W0 → Boxed W0 w.heap.size 59 (ptr o) → Boxed W0 (w.heap.size + 1) 4 (.bool (decide (i = o))) →
      Calls Tryz.prog 30 #[ptr i, .slice none 0 0, .func (.func 92) #[] #[.pointer (some ⟨w.heap.size + 1, 0, none⟩), .pointer (some ⟨w.heap.size, 0, none⟩)]] W0 fun e w' => e = .returned (.tuple #[]) ∧ Boxed w' (w.heap.size + 1) 4 (.bool (met i o (wk 8 L p))) ∧ Kept (fun b => b = w.heap.size + 1) W0 w') := by
    show ∀ W0, _ → _ → _ → _
    intro W0 hb h1 h2
    refine walk_fold 92 _ Tryz.enter92 W0 base t L M (h.later hb) p i hi (w.heap.size + 1) 4 (fun xs => .bool (met i o xs)) (by simpa [met] using h2) (fun hF => by have := (h.fp hF).2; omega) ?_
    intro W xs v ns j hold hs hB _ hm
    have hz := hb.size
    have hbW : ∀ b, b < w.heap.size → W.heap[b]? = w.heap[b]? := fun b hl => (hold b (by omega) (by omega)).trans (hb.block b hl)
    obtain ⟨hnj, _⟩ := h.node _ _ hm
    refine (holdsOne_any W (w.heap.size + 1) w.heap.size (met i o xs) v j o _ _ hB ((hold _ h1.lt (by omega)).trans h1) ((hbW _ hnj.lt).trans hnj) ((hbW _ hno.lt).trans hno)).mono ?_
    rintro e w' ⟨rfl, k1, k2⟩
    refine ⟨rfl, ?_, k2⟩
    show Boxed w' (w.heap.size + 1) 4 (.bool (met i o (xs ++ [(ns, j)])))
    rw [met_snoc]
    exact k1
  have he := eql_node (w.alloc (.cells #[ptr o] 59)) i o _ _ (hni.alloc _) (hno.alloc _)
  have HZ : Hid (∀ o1 o2, Below w.heap.size w ((w.alloc o1).alloc o2)) := fun o1 o2 => (below_alloc w o1).trans ((below_alloc _ o2).mono (by simp))
  unfold ptr at HW he ⊢
  go_enter Tryz.func74, Tryz.ntmps74
  go_wp2_with (go_at_call 30; refine (HW.out _ (HZ.out _ _) ((Boxed.new w _ _).alloc _) (boxed_two _ _ _ _)).mono ?_; rintro e w' ⟨rfl, h1, h2⟩; have h3 := h1.cell)
  go_ret
  exact ⟨rfl, (HZ.out _ _).trans (h2.below (by simp; omega) fun b hb e => by omega)⟩

end Go.Proofs.YtdlmkienogimgaaGreatDoor
