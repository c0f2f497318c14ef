/- This text joins 7 parts of a proof. (1) This text proves what holds and deepest answer: whether a node is another one or above it, and how many names deep it goes below a node; old memory is as it was; the conditions are that the tree lies there. (2) This text proves plain facts on texts' sizes, and on a clean path; it speaks of no call; no condition. (3) This text proves what Walk answers: all paths of names, those of directories with a / behind, in new memory; old memory is as it was; the condition is that the tree lies there. (4) This text proves that a tree lies in memory still when a directory's map has a name more, one less, or when a name has moved; the condition is that it lay there. (5) This text proves what put does: a thing has one more name at a path's spot, or what is wrong is told; nothing is turned but the map of the spot's directory; the conditions are that the tree and the thing lie there. (6) This text proves what Dir, File, Link and Drop do: a name more, or less, or what is wrong is told; nothing is turned but one directory's map; the conditions are that the tree lies there. (7) This text proves what Link and Drop do: a file has one more name, or a name is there no more, or what is wrong is told; nothing is turned but one directory's map; the conditions are that the tree lies there. -/
import Derived.Test.YtdlmkienogimgaaGreatDoorMa7
import Derived.LaidEqlPtr
import Derived.Test.YtdlmkienogimgaaGreatDoorQ6
import Derived.Test.YtdlmkienogimgaaGreatDoorMa1
namespace Go.Proofs.YtdlmkienogimgaaGreatDoor
open Go.RowKit Go.Deep Go.Shelf Go.Maps

theorem Tryz.infoNode : (Tryz.prog.info? 77).map (fun i => (i.zero, i.size, i.bytes)) = some (some (.agg #[.map none]), 1, 8) := by kernel_rfl

theorem eql_node (w : World) (j o : Nat) (mj mo : Option Nat) (hj : NodeAt w j mj) (ho : NodeAt w o mo) : (binOp .eql 59 (.pointer (some ⟨j, 0, none⟩)) (.pointer (some ⟨o, 0, none⟩))).run Tryz.prog w = .ok (.bool (decide (j = o))) w := by
  obtain ⟨ti, hti, _, hz1, _⟩ := info_parts Tryz.infoNode
  by_cases e : j = o
  · subst e
    rw [decide_eq_true rfl]
    exact run_eql_ptr_same w _ Tryz.underlying59 hti
  · rw [decide_eq_false e]
    exact run_eql_ptr_other w Tryz.underlying59 hti (by rw [hz1]; decide) (fun h => e (by cases h; rfl)) hj ho

set_option maxRecDepth 100000 in
theorem Tryz.enter92 : ∀ args w, (callFunc 92 args).run Tryz.prog w = .ok (.enter 92 args) w := fun _ _ => by rfl
set_option maxRecDepth 100000 in
theorem Tryz.enter93 : ∀ args w, (callFunc 93 args).run Tryz.prog w = .ok (.enter 93 args) w := fun _ _ => by rfl

set_option maxHeartbeats 2000000 in
set_option maxRecDepth 100000 in
theorem holdsOne_any (w : World) (Bf Bo : Nat) (c : Bool) (v : Value) (j o : Nat) (mj mo : Option Nat) (h1 : Boxed w Bf 4 (.bool c)) (h2 : Boxed w Bo 59 (ptr o)) (hj : NodeAt w j mj) (ho : NodeAt w o mo) :
    Calls Tryz.prog 92 #[v, ptr j, .pointer (some ⟨Bf, 0, none⟩), .pointer (some ⟨Bo, 0, none⟩)] w fun e w' => e = .returned (.tuple #[]) ∧ Boxed w' Bf 4 (.bool (c || decide (j = o))) ∧ Kept (fun b => b = Bf) w w' := by
  have c1 := h1.cell
  have c2 := h2.cell
  have f1 := h1.frozen
  have he := eql_node w j o mj mo hj ho
  have HS : Hid (Boxed w Bf 4 (.bool c)) := h1
  unfold ptr at c2 ⊢
  clear h1 h2 hj ho
  generalize decide (j = o) = d at *
  cases c with
  | true =>
    rw [Bool.true_or]
    go_enter Tryz.func92, Tryz.ntmps92
    go_wp2
    go_end0
    exact ⟨rfl, boxed_set HS.out⟩
  | false =>
    rw [Bool.false_or]
    go_enter Tryz.func92, Tryz.ntmps92
    go_wp2
    go_end0
    exact ⟨rfl, boxed_set HS.out⟩

set_option maxHeartbeats 2000000 in
set_option maxRecDepth 100000 in
theorem deepOne_any (w : World) (Bm : Nat) (c n : Nat) (a : Option Addr) (cp : Nat) (u : Value) (h1 : Boxed w Bm 3 (.int .i64 c)) :
    Calls Tryz.prog 93 #[.slice a n cp, u, .pointer (some ⟨Bm, 0, none⟩)] w fun e w' => e = .returned (.tuple #[]) ∧ Boxed w' Bm 3 (.int .i64 ((max c n : Nat) : Int)) ∧ Kept (fun b => b = Bm) w w' := by
  have c1 := h1.cell
  have f1 := h1.frozen
  have HS : Hid (Boxed w Bm 3 (.int .i64 c)) := h1
  clear h1
  go_enter Tryz.func93, Tryz.ntmps93
  go_wp2
  go_end0
  rw [show ((max c n : Nat) : Int) = max (c : Int) n by omega]
  exact ⟨rfl, boxed_set HS.out⟩

/-- How deep the visited names are. -/
def dpt (xs : List Ent) : Nat := xs.foldl (fun m x => max m x.1.length) 0
theorem dpt_snoc (xs : List Ent) (x : Ent) : dpt (xs ++ [x]) = max (dpt xs) x.1.length := by simp [dpt]

set_option maxHeartbeats 2000000 in
set_option maxRecDepth 100000 in
theorem deepest_any (w : World) (base t : Nat) (L : List Ent) (M : Nat → Option Nat) (h : TreeAt w base t L M) (p : List (List UInt8)) (i : Nat) (hi : (p, i) ∈ L) :
    Calls Tryz.prog 75 #[ptr i] w fun e w' => e = .returned (.int .i64 (dpt (wk 8 L p))) ∧ Below w.heap.size w w' := by
  have HW : Hid (∀ o, Boxed (w.alloc o) w.heap.size 3 (.int .i64 0) → Calls Tryz.prog 30 #[ptr i, .slice none 0 0, .func (.func 93) #[] #[.pointer (some ⟨w.heap.size, 0, none⟩)]] (w.alloc o) fun e w' => e = .returned (.tuple #[]) ∧ Boxed w' w.heap.size 3 (.int .i64 (dpt (wk 8 L p))) ∧ Kept (fun b => b = w.heap.size) (w.alloc o) w') := by
    show ∀ o, _ → _
    intro o hB
    refine walk_fold 93 _ Tryz.enter93 (w.alloc o) base t L M (h.later (below_alloc w o)) p i hi w.heap.size 3 (fun xs => .int .i64 (dpt xs)) hB (fun hF => by have := (h.fp hF).2; omega) ?_
    intro W xs v ns j ho hs hB hv hm
    obtain ⟨a, c, rfl, _⟩ := hv
    refine (deepOne_any W w.heap.size (dpt xs) ns.length a c (ptr j) hB).mono ?_
    rintro e w' ⟨rfl, k1, k2⟩
    refine ⟨rfl, ?_, k2⟩
    show Boxed w' w.heap.size 3 (.int .i64 (dpt (xs ++ [(ns, j)])))
    rw [dpt_snoc]
    exact k1
  unfold ptr at HW ⊢
  go_enter Tryz.func75, Tryz.ntmps75
  go_wp2_with (go_at_call 30; refine (HW.out _ (Boxed.new w _ _)).mono ?_; rintro e w' ⟨rfl, h1, h2⟩; have h3 := h1.cell)
  go_ret
  exact ⟨rfl, (below_alloc w _).trans (h2.below (by simp) fun b hb e => by omega)⟩

theorem boxed_two (w : World) (o1 : Obj) (ty : TypeId) (v : Value) : Boxed ((w.alloc o1).alloc (.cells #[v] ty)) (w.heap.size + 1) ty v := by
  have := Boxed.new (w.alloc o1) ty v
  simpa using this
/-- Whether a thing is met. -/
def met (i o : Nat) (xs : List Ent) : Bool := decide (i = o) || xs.any fun x => decide (x.2 = o)
theorem met_snoc (i o : Nat) (xs : List Ent) (x : Ent) : met i o (xs ++ [x]) = (met i o xs || decide (x.2 = o)) := by
  simp [met, Bool.or_assoc]

set_option maxHeartbeats 2000000 in
set_option maxRecDepth 100000 in
theorem holds_any (w : World) (base t : Nat) (L : List Ent) (M : Nat → Option Nat) (h : TreeAt w base t L M) (p q : List (List UInt8)) (i o : Nat) (hi : (p, i) ∈ L) (ho : (q, o) ∈ L) :
    Calls Tryz.prog 74 #[ptr i, ptr o] w fun e w' => e = .returned (.bool (met i o (wk 8 L p))) ∧ Below w.heap.size w w' := by
  obtain ⟨hni, _⟩ := h.node _ _ hi
  obtain ⟨hno, _⟩ := h.node _ _ ho
  have HW : Hid (∀ W0, Below w.heap.size w W0 → Boxed W0 w.heap.size 59 (ptr o) → Boxed W0 (w.heap.size + 1) 4 (.bool (decide (i = o))) →
      Calls Tryz.prog 30 #[ptr i, .slice none 0 0, .func (.func 92) #[] #[.pointer (some ⟨w.heap.size + 1, 0, none⟩), .pointer (some ⟨w.heap.size, 0, none⟩)]] W0 fun e w' => e = .returned (.tuple #[]) ∧ Boxed w' (w.heap.size + 1) 4 (.bool (met i o (wk 8 L p))) ∧ Kept (fun b => b = w.heap.size + 1) W0 w') := by
    show ∀ W0, _ → _ → _ → _
    intro W0 hb h1 h2
    refine walk_fold 92 _ Tryz.enter92 W0 base t L M (h.later hb) p i hi (w.heap.size + 1) 4 (fun xs => .bool (met i o xs)) (by simpa [met] using h2) (fun hF => by have := (h.fp hF).2; omega) ?_
    intro W xs v ns j hold hs hB _ hm
    have hz := hb.size
    have hbW : ∀ b, b < w.heap.size → W.heap[b]? = w.heap[b]? := fun b hl => (hold b (by omega) (by omega)).trans (hb.block b hl)
    obtain ⟨hnj, _⟩ := h.node _ _ hm
    refine (holdsOne_any W (w.heap.size + 1) w.heap.size (met i o xs) v j o _ _ hB ((hold _ h1.lt (by omega)).trans h1) ((hbW _ hnj.lt).trans hnj) ((hbW _ hno.lt).trans hno)).mono ?_
    rintro e w' ⟨rfl, k1, k2⟩
    refine ⟨rfl, ?_, k2⟩
    show Boxed w' (w.heap.size + 1) 4 (.bool (met i o (xs ++ [(ns, j)])))
    rw [met_snoc]
    exact k1
  have he := eql_node (w.alloc (.cells #[ptr o] 59)) i o _ _ (hni.alloc _) (hno.alloc _)
  have HZ : Hid (∀ o1 o2, Below w.heap.size w ((w.alloc o1).alloc o2)) := fun o1 o2 => (below_alloc w o1).trans ((below_alloc _ o2).mono (by simp))
  unfold ptr at HW he ⊢
  go_enter Tryz.func74, Tryz.ntmps74
  go_wp2_with (go_at_call 30; refine (HW.out _ (HZ.out _ _) ((Boxed.new w _ _).alloc _) (boxed_two _ _ _ _)).mono ?_; rintro e w' ⟨rfl, h1, h2⟩; have h3 := h1.cell)
  go_ret
  exact ⟨rfl, (HZ.out _ _).trans (h2.below (by simp; omega) fun b hb e => by omega)⟩

end Go.Proofs.YtdlmkienogimgaaGreatDoor

namespace Go.Proofs.YtdlmkienogimgaaGreatDoor
open Go.RowKit Go.Deep Go.Shelf

theorem size_app (a b : ByteArray) : (a ++ b).size = a.size + b.size := by
  rw [Lib.size_eq, data_app, List.length_append, ← Lib.size_eq, ← Lib.size_eq]
theorem size_one : (⟨#[47]⟩ : ByteArray).size = 1 := rfl
theorem size_bs (l : List UInt8) : (bs l).size = l.length := by rw [Lib.size_eq, data_bs]
theorem cln_none {l : List UInt8} (h : pE l ≠ 0) : cln l = [] := by unfold cln; rw [if_neg h]
theorem cln_some {l : List UInt8} (h : pE l = 0) : cln l = shw (pN l) := by unfold cln; rw [if_pos h]
theorem nms_pN {l : List UInt8} (h : pE l = 0) : nms l = pN l := by unfold nms; rw [if_pos h]

end Go.Proofs.YtdlmkienogimgaaGreatDoor

namespace Go.Proofs.YtdlmkienogimgaaGreatDoor
open Go.RowKit Go.Deep Go.Shelf Go.Maps

/-- The world of a walk that tells paths. -/
structure WkSt (w0 : World) (B : Nat) (M : Nat → Option Nat) (xs : List Ent) (F : Nat → Prop) (w : World) : Prop where
  size : w0.heap.size ≤ w.heap.size
  old : ∀ b, b < w0.heap.size → b ≠ B → w.heap[b]? = w0.heap[b]?
  low : B < w0.heap.size
  box : ∃ v, Boxed w B 26 v ∧ w.ownsRow w0.heap.size 9 1 v xs.length (cellsS (xs.map (tx M))) ∧ ∀ b, F b ↔ b = B ∨ v.ownBlock = some b

set_option maxRecDepth 100000 in
theorem Tryz.enter31 : ∀ args w, (callFunc 31 args).run Tryz.prog w = .ok (.enter 31 args) w := fun _ _ => by rfl

theorem push_facts {w w1 w2 : World} {base B n : Nat} {v v' : Value} {ls : List (List UInt8)} {z : List UInt8} (hB : Boxed w B 26 v) (hrow : w.ownsRow base 9 1 v n (cellsS ls)) (hb : Below w.heap.size w w1)
    (h1 : w2.ownsRow base 9 1 v' (n + 1) (cellsS (ls ++ [z]))) (h3 : Kept (fun b => v.ownBlock = some b) w1 w2) (h4 : Lies w1 w2 base n v v' ls z) :
    Boxed w2 B 26 v ∧ Boxed (w2.setCell ⟨B, 0, none⟩ v') B 26 v' ∧ (w2.setCell ⟨B, 0, none⟩ v').ownsRow base 9 1 v' (n + 1) (cellsS (ls ++ [z])) ∧ (∀ b, v'.ownBlock = some b → v.ownBlock = some b ∨ w.heap.size ≤ b) ∧ Kept (fun b => b = B ∨ v.ownBlock = some b) w (w2.setCell ⟨B, 0, none⟩ v') := by
  have hne : v.ownBlock ≠ some B := fun e => hB.not_row (e := 9) (by decide) hrow e.symm
  have hB2 : Boxed w2 B 26 v := (h3.block B (Nat.lt_of_lt_of_le hB.lt hb.size) hne).trans ((hb.block B hB.lt).trans hB)
  have hne' : v'.ownBlock ≠ some B := fun e => hB2.not_row (e := 9) (by decide) h1 e.symm
  have hO : ∀ b, v'.ownBlock = some b → v.ownBlock = some b ∨ w.heap.size ≤ b := fun b hb' => by
    rcases h4 with ⟨h5, _⟩ | h5
    · exact .inl (by rw [← h5]; exact hb')
    · exact .inr (Nat.le_trans hb.size (h5 b hb').1)
  refine ⟨hB2, hB2.set v', own_kept h1 fun a ha => Below.heap_setCell w2 ⟨B, 0, none⟩ v' a (fun e => hne' (by rw [ha, e])), hO, ?_⟩
  have k := (Kept.of_below (F := fun _ => False) hb).trans h3 (H := fun b => b = B ∨ v.ownBlock = some b) (fun _ _ h => absurd h id) fun _ _ h => .inr h
  exact k.trans (G := fun b => b = B) ⟨rfl, rfl, rfl, by simp, fun b _ hne => Below.heap_setCell w2 ⟨B, 0, none⟩ v' b hne⟩ (fun _ _ h => h) fun _ _ h => .inl h

set_option maxHeartbeats 4000000 in
set_option maxRecDepth 100000 in
theorem wkOne_any (w : World) (base B n j : Nat) (M : Nat → Option Nat) (nv v : Value) (ns : List (List UInt8)) (ls : List (List UInt8)) (hnv : StrsIs w nv ns) (hl : ns.length ≤ 8) (hn : ∀ k ∈ ns, isN k = true) (hj : NodeAt w j (M j)) (hB : Boxed w B 26 v) (hrow : w.ownsRow base 9 1 v n (cellsS ls)) (hbase : base ≤ w.heap.size) (hnl : n ≤ 1000000) :
    Calls Tryz.prog 31 #[nv, ptr j, .pointer (some ⟨B, 0, none⟩)] w fun e w' => e = .returned (.tuple #[]) ∧ ∃ v', Boxed w' B 26 v' ∧ w'.ownsRow base 9 1 v' (n + 1) (cellsS (ls ++ [tx M (ns, j)])) ∧ (∀ b, v'.ownBlock = some b → v.ownBlock = some b ∨ w.heap.size ≤ b) ∧ Kept (fun b => b = B ∨ v.ownBlock = some b) w w' := by
  have hw := wid_names hn
  have hjl : (Lib.join ns [47]).length ≤ 100 := by
    have := shw_len ns
    unfold shw at this
    rw [List.length_cons] at this
    split at this
    · omega
    · omega
  have HJ : Hid _ := fun (_ : Nat) => join_any w nv ns hnv (by omega) (by omega)
  have HD : Hid _ := fun (w' : World) (hb : Below w.heap.size w w') => isDir_any w' j (M j) ((hb.block _ hj.lt).trans hj)
  obtain ⟨x, hx⟩ : ∃ x, bs (Lib.join ns [47]) = x := ⟨_, rfl⟩
  have hxs : x.size ≤ 100 := by rw [← hx, size_bs]; exact hjl
  have HX : Hid (⟨#[47]⟩ ++ x = bs (shw ns)) := by show (⟨#[47]⟩ : ByteArray) ++ x = bs (shw ns); rw [app_bs, ← hx, data_bs]; rfl
  have HB : Hid (Boxed w B 26 v) := hB
  have HR : Hid (w.ownsRow base 9 1 v n (cellsS ls)) := hrow
  have HO : Hid (∀ w1, Below w.heap.size w w1 → ∀ o, (w1.alloc o).ownsRow base 9 1 v n (cellsS ls)) := by
    show ∀ w1, Below w.heap.size w w1 → ∀ o, (w1.alloc o).ownsRow base 9 1 v n (cellsS ls)
    exact fun w1 hb o => (own_kept hrow fun a ha => hb.block a (hrow.lt a ha).2).alloc o
  have HL : Hid (∀ w1, Below w.heap.size w w1 → ∀ o, base ≤ (w1.alloc o).heap.size) := by
    show ∀ w1, Below w.heap.size w w1 → ∀ o, base ≤ (w1.alloc o).heap.size
    intro w1 hb o
    have := hb.size
    simp; omega
  have hso := size_one
  rw [hx] at HJ
  unfold ptr at HD ⊢
  clear hx hjl hw hnv hl hn hj hB hrow
  cases hM : M j with
  | none =>
    have HT : Hid (tx M (ns, j) = shw ns) := by show tx M (ns, j) = shw ns; unfold tx; rw [hM]; simp
    rw [HT.out]
    rw [hM] at HD
    clear HT hM
    generalize hy : (⟨#[47]⟩ : ByteArray) ++ x = y at *
    generalize shw ns = z at *
    obtain rfl : y = bs z := HX.out
    go_enter Tryz.func31, Tryz.ntmps31
    go_wp2_with (first
      | (go_at_call 32; refine (HJ.out 0).mono ?_; rintro e w1 ⟨rfl, hb⟩; have hB1 : Boxed w1 B 26 v := (hb.block _ (Boxed.lt HB.out)).trans HB.out; have hc1 := hB1.cell)
      | (go_at_call 33; refine (HD.out _ hb).mono ?_; rintro e w' ⟨rfl, rfl⟩)
      | (at_builtin; refine wpList_append_str rfl (.tmp 13) (.tmp 15) rfl base v n ls (by simp [Act.eval]) (HO.out _ hb _) (.slice (some ⟨w1.heap.size, 0, none⟩) 1 1) z (by simp [Act.eval]) (strs_one w1 z) hnl (HL.out _ hb _) ?_; intro v' w2 h1 h2 h3 h4; obtain ⟨ga, gc, rfl, _, _⟩ := own_where h1 (Nat.succ_pos _); obtain ⟨g1, g2, g3, g4, g5⟩ := push_facts HB.out HR.out (hb.trans ((below_alloc w1 _).mono hb.size)) h1 h3 h4; have g6 := Boxed.cell g1; have g7 := Boxed.frozen g1))
    go_end0
    exact ⟨rfl, _, g2, g3, g4, g5⟩
  | some m =>
    have HT : Hid (bs (shw ns) ++ ⟨#[47]⟩ = bs (tx M (ns, j))) := by show bs (shw ns) ++ ⟨#[47]⟩ = bs (tx M (ns, j)); rw [app_bs, data_bs]; unfold tx; rw [hM]; simp
    have hss : (bs (shw ns)).size ≤ 101 := by rw [← HX.out, size_app, size_one]; omega
    rw [hM] at HD
    clear hM
    generalize hy : (⟨#[47]⟩ : ByteArray) ++ x = y at *
    obtain ⟨u, hu⟩ : ∃ u, bs (shw ns) = u := ⟨_, rfl⟩
    rw [hu] at HX HT hss
    obtain rfl : y = u := HX.out
    generalize hv : y ++ (⟨#[47]⟩ : ByteArray) = y2 at *
    generalize tx M (ns, j) = z at *
    obtain rfl : y2 = bs z := HT.out
    clear hu HX HT
    go_enter Tryz.func31, Tryz.ntmps31
    go_wp2_with (first
      | (go_at_call 32; refine (HJ.out 0).mono ?_; rintro e w1 ⟨rfl, hb⟩; have hB1 : Boxed w1 B 26 v := (hb.block _ (Boxed.lt HB.out)).trans HB.out; have hc1 := hB1.cell)
      | (go_at_call 33; refine (HD.out _ hb).mono ?_; rintro e w' ⟨rfl, rfl⟩)
      | (at_builtin; refine wpList_append_str rfl (.tmp 13) (.tmp 15) rfl base v n ls (by simp [Act.eval]) (HO.out _ hb _) (.slice (some ⟨w1.heap.size, 0, none⟩) 1 1) z (by simp [Act.eval]) (strs_one w1 z) hnl (HL.out _ hb _) ?_; intro v' w2 h1 h2 h3 h4; obtain ⟨ga, gc, rfl, _, _⟩ := own_where h1 (Nat.succ_pos _); obtain ⟨g1, g2, g3, g4, g5⟩ := push_facts HB.out HR.out (hb.trans ((below_alloc w1 _).mono hb.size)) h1 h3 h4; have g6 := Boxed.cell g1; have g7 := Boxed.frozen g1))
    go_end0
    exact ⟨rfl, _, g2, g3, g4, g5⟩


set_option maxHeartbeats 4000000 in
set_option maxRecDepth 100000 in
theorem treeWalk_any (w : World) (base t : Nat) (L : List Ent) (M : Nat → Option Nat) (h : TreeAt w base t L M) :
    Calls Tryz.prog 8 #[ptr t] w fun e w' => ∃ v, e = .returned v ∧ w'.ownsRow w.heap.size 9 1 v (txs L M).length (cellsS (txs L M)) ∧ Below w.heap.size w w' := by
  obtain ⟨r, hr, _⟩ := h.good.start
  have hc := fun o => ((h.tree r hr).alloc o).cell
  have HW : Hid (∀ o, Boxed (w.alloc o) w.heap.size 26 (.slice none 0 0) → Calls Tryz.prog 30 #[ptr r, .slice none 0 0, .func (.func 31) #[] #[.pointer (some ⟨w.heap.size, 0, none⟩)]] (w.alloc o) fun e w' => e = .returned (.tuple #[]) ∧ ∃ v, Boxed w' w.heap.size 26 v ∧ w'.ownsRow w.heap.size 9 1 v (txs L M).length (cellsS (txs L M)) ∧ Below w.heap.size w w') := by
    show ∀ o, _ → _
    intro o hB
    have hlen : (wk 8 L []).length ≤ 1000000 := by have := wka_len h.good; have := h.good.few; unfold wka at *; omega
    have hb0 := below_alloc w o
    have hFB : ¬ Fp t L M w.heap.size := fun hF => by have := (h.fp hF).2; omega
    have hsz : (w.alloc o).heap.size = w.heap.size + 1 := by simp
    have := walk_any 31 #[.pointer (some ⟨w.heap.size, 0, none⟩)] Tryz.enter31 base t L M [] (w.alloc o).heap.size (wk 8 L []).length (WkSt (w.alloc o) w.heap.size M)
      (fun xs F W k b hb => by
        obtain ⟨v, k1, k2, k3⟩ := k.box
        rcases (k3 b).1 hb with rfl | hb
        · exact k1.lt
        · exact (k2.lt b hb).2)
      (fun xs F W k => (h.later hb0).frame fun b hb => k.old b (((h.later hb0).fp hb).2) (fun e => hFB (e ▸ hb)))
      (fun xs F W W' k hk => by
        obtain ⟨v, k1, k2, k3⟩ := k.box
        have hs : ∀ b, b < W.heap.size → (F b ∨ b < (w.alloc o).heap.size) → W'.heap[b]? = W.heap[b]? := fun b hb hc => hk.block b hb fun ⟨h1, h2⟩ => by
          rcases hc with hc | hc
          · exact h1 hc
          · omega
        exact ⟨Nat.le_trans k.size hk.size, fun b hb hne => (hs b (Nat.lt_of_lt_of_le hb k.size) (.inr hb)).trans (k.old b hb hne), k.low,
          v, (hs _ k1.lt (.inl ((k3 _).2 (.inl rfl)))).trans k1, own_kept k2 fun a ha => hs a (k2.lt a ha).2 (.inl ((k3 a).2 (.inr ha))), k3⟩)
      (fun xs F W nv ns j k hnv hm _ hB0 hN => by
        obtain ⟨v, k1, k2, k3⟩ := k.box
        obtain ⟨hnm1, hnm2⟩ := h.good.nam _ _ hm
        obtain ⟨hnj, _⟩ := h.node _ _ hm
        have hnj2 : NodeAt W j (M j) := (k.old _ (by rw [hsz]; have := hnj.lt; omega) (by have := hnj.lt; omega)).trans ((hb0.block _ hnj.lt).trans hnj)
        refine (wkOne_any W (w.alloc o).heap.size w.heap.size xs.length j M nv v ns _ hnv hnm1 hnm2 hnj2 k1 k2 hB0 (by omega)).mono ?_
        rintro e w' ⟨rfl, v', g1, g2, g3, g4⟩
        refine ⟨rfl, fun b => b = w.heap.size ∨ v'.ownBlock = some b, ⟨Nat.le_trans k.size g4.size, fun b hb hne => (g4.block b (Nat.lt_of_lt_of_le hb k.size) ?_).trans (k.old b hb hne), k.low, v', g1, ?_, fun b => Iff.rfl⟩, fun b hb => ?_, ⟨g4.os, g4.tape, g4.output, g4.size, fun b hb hn => g4.block b hb fun e => hn ((k3 b).2 e)⟩⟩
        · rintro (e | e)
          · exact hne e
          · have := (k2.lt b e).1
            omega
        · rw [List.length_append, List.map_append]
          exact g2
        · rcases hb with rfl | hb
          · exact .inl ((k3 _).2 (.inl rfl))
          · rcases g3 b hb with h5 | h5
            · exact .inl ((k3 b).2 (.inr h5))
            · exact .inr h5)
      8 [] r (w.alloc o) (.slice none 0 0) (fun b => b = w.heap.size ∨ False) [] hr (by omega) ⟨Nat.le_refl _, fun _ _ _ => rfl, by rw [hsz]; omega, _, hB, World.ownsRow_nil _ _ _ _, fun b => by simp [Value.ownBlock]⟩ (World.ownsRow_nil _ _ _ _) (fun a ha => by cases ha) (Nat.le_refl _) (by simp)
    refine this.mono ?_
    rintro e w' ⟨rfl, F', k, _, hk, _⟩
    rw [List.nil_append, List.nil_append, pref_nil] at k
    obtain ⟨v, k1, k2, k3⟩ := k.box
    refine ⟨rfl, v, k1, ?_, hb0.trans (hk.below (by rw [hsz]; omega) fun b hb e => ?_)⟩
    · have : (txs L M).length = (wk 8 L []).length := by unfold txs wka; rw [List.length_map]
      rw [this]
      exact own_low k2 (by rw [hsz]; omega)
    · rcases e with (rfl | e) | e
      · omega
      · exact e
      · cases e
  unfold ptr at hc HW ⊢
  go_enter Tryz.func8, Tryz.ntmps8
  go_wp2_with (go_at_call 30; refine (HW.out _ (Boxed.new w _ _)).mono ?_; rintro e w' ⟨rfl, v, h1, h2, h3⟩; have h4 := h1.cell)
  go_ret
  exact ⟨v, rfl, h2, h3⟩

end Go.Proofs.YtdlmkienogimgaaGreatDoor

namespace Go.Proofs.YtdlmkienogimgaaGreatDoor
open Go.RowKit Go.Deep Go.Shelf Go.Maps

theorem box_map {w : World} {b m : Nat} {ty : TypeId} {v : Value} {f : List UInt8 → Option Nat} (h : Boxed w b ty v) (hm : MapIs w m f) : b ≠ m := by
  intro e
  subst e
  obtain ⟨es, c, hc⟩ := hm.map
  rw [show w.heap[b]? = _ from h] at hc
  cases hc
theorem MapIs.congr {w : World} {b : Nat} {f g : List UInt8 → Option Nat} (h : MapIs w b f) (e : ∀ k, f k = g k) : MapIs w b g := by
  rw [show g = f from funext fun k => (e k).symm]; exact h

/-- All but some maps of the tree are as they were: its boxes are. -/
theorem TreeAt.boxes {w w' : World} {base t : Nat} {L : List Ent} {M : Nat → Option Nat} (h : TreeAt w base t L M) {X : Nat → Prop} (hX : ∀ b, X b → ∃ p i, (p, i) ∈ L ∧ M i = some b) (ho : ∀ b, b < w.heap.size → ¬ X b → w'.heap[b]? = w.heap[b]?) {b : Nat} {ty : TypeId} {v : Value} (hb : Boxed w b ty v) : Boxed w' b ty v := by
  refine (ho b hb.lt fun hx => ?_).trans hb
  obtain ⟨p, i, hi, hm⟩ := hX b hx
  exact box_map hb (h.maps p i b hi hm).1 rfl

theorem tree_put {w w' : World} {base t : Nat} {L : List Ent} {M : Nat → Option Nat} {q : List (List UInt8)} {k : List UInt8} {d m i : Nat} (h : TreeAt w base t L M) (hq : look L q = some d) (hd : M d = some m) (hp : look L (q ++ [k]) = none) (hk : isN k = true) (hl : q.length + 1 ≤ 8) (hf : L.length ≤ 24)
    (hi : M i = none ∨ ∀ x, (x, i) ∉ L) (hnode : NodeAt w' i (M i) ∧ base ≤ i) (hmap : ∀ mi, M i = some mi → MapIs w' mi (fun _ => none) ∧ base ≤ mi ∧ ∀ x j, (x, j) ∈ L → M j ≠ some mi)
    (hM : MapIs w' m (upd (fun c => look L (q ++ [c])) k (some i))) (ho : ∀ b, b < w.heap.size → b ≠ m → w'.heap[b]? = w.heap[b]?) : TreeAt w' base t (L ++ [(q ++ [k], i)]) M := by
  have hG := put_good h.good hq (by rw [hd]; rfl) hp hk hl hf hi
  have hbox : ∀ {b : Nat} {ty : TypeId} {v : Value}, Boxed w b ty v → Boxed w' b ty v := fun hb => h.boxes (X := fun b => b = m) (fun b e => ⟨q, d, look_mem hq, by rw [hd, e]⟩) ho hb
  have hmem : ∀ x j, (x, j) ∈ L ++ [(q ++ [k], i)] → (x, j) ∈ L ∨ (x = q ++ [k] ∧ j = i) := fun x j hx => by
    rcases List.mem_append.1 hx with hx | hx
    · exact .inl hx
    · rw [List.mem_singleton] at hx
      cases hx
      exact .inr ⟨rfl, rfl⟩
  have hnew : ∀ mi, M i = some mi → ∀ x, (x, i) ∉ L := fun mi hmi => by
    rcases hi with hi | hi
    · rw [hi] at hmi; cases hmi
    · exact hi
  refine ⟨hG, h.low, fun r hr => ?_, fun x j hx => ?_, fun x j mj hx hmj => ?_, fun x j y j' mj hx hy h1 h2 => ?_⟩
  · rcases hmem _ _ hr with hr | ⟨hr, _⟩
    · exact hbox (h.tree r hr)
    · simp at hr
  · rcases hmem _ _ hx with hx | ⟨_, rfl⟩
    · exact ⟨hbox (h.node x j hx).1, (h.node x j hx).2⟩
    · exact hnode
  · rcases hmem _ _ hx with hx1 | ⟨rfl, rfl⟩
    · obtain ⟨g1, g2⟩ := h.maps x j mj hx1 hmj
      refine ⟨?_, g2⟩
      by_cases e : mj = m
      · subst e
        have e1 := h.apart x j q d mj hx1 (look_mem hq) hmj hd
        subst e1
        have e2 := h.good.one x q j hx1 (look_mem hq) (by rw [hd]; rfl)
        subst e2
        refine hM.congr fun c => ?_
        rw [put_look h.good.uni hp]
        unfold upd
        by_cases hc : c = k
        · rw [if_pos hc, if_pos (by rw [hc])]
        · rw [if_neg hc, if_neg (fun e => hc (by simpa using e))]
      · refine (g1.block (ho mj g1.lt e)).congr fun c => ?_
        rw [put_look h.good.uni hp, if_neg]
        intro e1
        obtain ⟨rfl, _⟩ := List.append_inj' e1 rfl
        have := h.good.uni.same hx1 (look_mem hq)
        rw [this, hd] at hmj
        cases hmj
        exact e rfl
    · obtain ⟨g1, g2, _⟩ := hmap mj hmj
      refine ⟨g1.congr fun c => ?_, g2⟩
      rw [put_look h.good.uni hp, if_neg (fun e => by simp at e)]
      cases e : look L (q ++ [k] ++ [c]) with
      | none => rfl
      | some j' =>
        obtain ⟨d', hd', _⟩ := h.good.up _ _ _ (look_mem e)
        exact absurd hd' (look_none.1 hp d')
  · rcases hmem _ _ hx with hx1 | ⟨_, rfl⟩
    · rcases hmem _ _ hy with hy1 | ⟨_, rfl⟩
      · exact h.apart x j y j' mj hx1 hy1 h1 h2
      · exact absurd h1 ((hmap mj h2).2.2 x j hx1)
    · rcases hmem _ _ hy with hy1 | ⟨_, rfl⟩
      · exact absurd h2 ((hmap mj h1).2.2 y j' hy1)
      · rfl

theorem tree_cut {w w' : World} {base t : Nat} {L : List Ent} {M : Nat → Option Nat} {q : List (List UInt8)} {k : List UInt8} {d m : Nat} (h : TreeAt w base t L M) (hq : look L q = some d) (hd : M d = some m) (hk : kids L (q ++ [k]) = [])
    (hM : MapIs w' m (upd (fun c => look L (q ++ [c])) k none)) (ho : ∀ b, b < w.heap.size → b ≠ m → w'.heap[b]? = w.heap[b]?) : TreeAt w' base t (cutL L (q ++ [k])) M := by
  have hbox : ∀ {b : Nat} {ty : TypeId} {v : Value}, Boxed w b ty v → Boxed w' b ty v := fun hb => h.boxes (X := fun b => b = m) (fun b e => ⟨q, d, look_mem hq, by rw [hd, e]⟩) ho hb
  refine ⟨cut_good h.good (by simp) hk, h.low, fun r hr => hbox (h.tree r (mem_cutL.1 hr).1), fun x j hx => ⟨hbox (h.node x j (mem_cutL.1 hx).1).1, (h.node x j (mem_cutL.1 hx).1).2⟩, fun x j mj hx hmj => ?_, fun x j y j' mj hx hy => h.apart x j y j' mj (mem_cutL.1 hx).1 (mem_cutL.1 hy).1⟩
  obtain ⟨hx1, hxk⟩ := mem_cutL.1 hx
  obtain ⟨g1, g2⟩ := h.maps x j mj hx1 hmj
  refine ⟨?_, g2⟩
  by_cases e : mj = m
  · subst e
    have e1 := h.apart x j q d mj hx1 (look_mem hq) hmj hd
    subst e1
    have e2 := h.good.one x q j hx1 (look_mem hq) (by rw [hd]; rfl)
    subst e2
    refine hM.congr fun c => ?_
    rw [cut_look h.good.uni]
    unfold upd
    by_cases hc : c = k
    · rw [if_pos hc, if_pos (by rw [hc])]
    · rw [if_neg hc, if_neg (fun e => hc (by simpa using e))]
  · refine (g1.block (ho mj g1.lt e)).congr fun c => ?_
    rw [cut_look h.good.uni, if_neg]
    intro e1
    obtain ⟨rfl, _⟩ := List.append_inj' e1 rfl
    have := h.good.uni.same hx1 (look_mem hq)
    rw [this, hd] at hmj
    cases hmj
    exact e rfl

/-- What a directory has behind a move. -/
def movF (L : List Ent) (q q2 : List (List UInt8)) (k k2 : List UInt8) (i : Nat) (x : List (List UInt8)) (c : List UInt8) : Option Nat := if x = q2 ∧ c = k2 then some i else if x = q ∧ c = k then none else look L (x ++ [c])

theorem tree_move {w w' : World} {base t : Nat} {L : List Ent} {M : Nat → Option Nat} {q q2 : List (List UInt8)} {k k2 : List UInt8} {i d d2 m m2 : Nat} (h : TreeAt w base t L M) (hm : Mov L M q q2 k k2 i d d2) (hd : M d = some m) (hd2 : M d2 = some m2)
    (hM : MapIs w' m (movF L q q2 k k2 i q)) (hM2 : MapIs w' m2 (movF L q q2 k k2 i q2)) (ho : ∀ b, b < w.heap.size → b ≠ m → b ≠ m2 → w'.heap[b]? = w.heap[b]?) : TreeAt w' base t (movL L (q ++ [k]) (q2 ++ [k2])) M := by
  have hbox : ∀ {b : Nat} {ty : TypeId} {v : Value}, Boxed w b ty v → Boxed w' b ty v := fun hb => h.boxes (X := fun b => b = m ∨ b = m2) (fun b e => by
    rcases e with e | e
    · exact ⟨q, d, look_mem hm.from'.1, by rw [hd, e]⟩
    · exact ⟨q2, d2, look_mem hm.goal.1, by rw [hd2, e]⟩) (fun b hb hn => ho b hb (fun e => hn (.inl e)) (fun e => hn (.inr e))) hb
  refine ⟨hm.good', h.low, fun r hr => ?_, fun x j hx => ?_, fun x j mj hx hmj => ?_, fun x j y j' mj hx hy => ?_⟩
  · obtain ⟨y, j, hy, e⟩ := mem_movL.1 hr
    simp only [Prod.mk.injEq] at e
    obtain ⟨e, rfl⟩ := e
    obtain ⟨r', hr', _⟩ := h.good.start
    have hroot : mv (q ++ [k]) (q2 ++ [k2]) [] = [] := mv_off fun ⟨u, hu⟩ => by simp at hu
    have := hm.inj (a := (y, r)) (b := ([], r')) hy hr' (by
      show mv (q ++ [k]) (q2 ++ [k2]) y = mv (q ++ [k]) (q2 ++ [k2]) []
      rw [hroot]; exact e.symm)
    have hy2 : y = [] := this
    subst hy2
    exact hbox (h.tree r hy)
  · obtain ⟨y, j', hy, e⟩ := mem_movL.1 hx
    cases e
    exact ⟨hbox (h.node y j hy).1, (h.node y j hy).2⟩
  · obtain ⟨y, j', hy, e⟩ := mem_movL.1 hx
    simp only [Prod.mk.injEq] at e
    obtain ⟨rfl, rfl⟩ := e
    obtain ⟨g1, g2⟩ := h.maps y j mj hy hmj
    refine ⟨MapIs.congr (f := movF L q q2 k k2 i y) ?_ fun c => by rw [hm.look hy]; rfl, g2⟩
    by_cases e : mj = m
    · subst e
      have e1 := h.apart y j q d mj hy (look_mem hm.from'.1) hmj hd
      subst e1
      have e2 := h.good.one y q j hy (look_mem hm.from'.1) hm.from'.2
      subst e2
      exact hM
    · by_cases e' : mj = m2
      · subst e'
        have e1 := h.apart y j q2 d2 mj hy (look_mem hm.goal.1) hmj hd2
        subst e1
        have e2 := h.good.one y q2 j hy (look_mem hm.goal.1) hm.goal.2
        subst e2
        exact hM2
      · refine (g1.block (ho mj g1.lt e e')).congr fun c => ?_
        unfold movF
        rw [if_neg, if_neg]
        · rintro ⟨rfl, _⟩
          have := h.good.uni.same hy (look_mem hm.from'.1)
          rw [this, hd] at hmj
          cases hmj
          exact e rfl
        · rintro ⟨rfl, _⟩
          have := h.good.uni.same hy (look_mem hm.goal.1)
          rw [this, hd2] at hmj
          cases hmj
          exact e' rfl
  · obtain ⟨a, ja, ha, e1⟩ := mem_movL.1 hx
    obtain ⟨b, jb, hb, e2⟩ := mem_movL.1 hy
    cases e1
    cases e2
    exact h.apart a j b j' mj ha hb

end Go.Proofs.YtdlmkienogimgaaGreatDoor

namespace Go.Proofs.YtdlmkienogimgaaGreatDoor
open Go.RowKit Go.Deep Go.Shelf Go.Maps

theorem Mx.turned {base : Nat} {w w' : World} (h : Mx w) (hT : Turned base w w') : Mx w' := by
  obtain ⟨m, h1, h2⟩ := h
  have hb : w'.heap[1]? = w.heap[1]? := hT.rows _ h2 fun es c e => by
    simp [World.cell?, e] at h1
  exact ⟨m, by rw [World.cell?_of_block (w := w) (a := ⟨1, 0, none⟩) hb]; exact h1, Nat.lt_of_lt_of_le h2 hT.below.size⟩

def puE (L : List Ent) (M : Nat → Option Nat) (l : List UInt8) : Nat := if frE L M l ≠ 0 then frE L M l else if 25 ≤ L.length then 4 else 0
def puL (L : List Ent) (M : Nat → Option Nat) (l : List UInt8) (i : Nat) : List Ent := if puE L M l = 0 then L ++ [(pN l, i)] else L

theorem frE_zero {L : List Ent} {M : Nat → Option Nat} (hG : Good L M) {l : List UInt8} (h : frE L M l = 0) :
    ∃ q k d m, pE l = 0 ∧ pN l = q ++ [k] ∧ isN k = true ∧ look L q = some d ∧ M d = some m ∧ frV L M l = .agg #[ptr d, .string (bs k), .int .i64 ((q.length : Int) + 1)] ∧ look L (q ++ [k]) = none ∧ q.length + 1 ≤ 8 := by
  have h0 := h
  unfold frE at h
  split at h
  · rename_i h1; exact absurd h h1
  · rename_i h1
    obtain ⟨q, k, d, m, g1, g2, g3, g4, g5, g6⟩ := spE_zero hG (by simpa using h1)
    split at h
    · cases h
    · rename_i h2
      refine ⟨q, k, d, m, g1, g2, g3, g4, g5, by unfold frV; rw [if_pos h0, g6], ?_, ?_⟩
      · rw [← g2]; simpa using h2
      · have := (pE_ok g1).2.2.2
        rw [g2, List.length_append, List.length_singleton] at this
        exact this

set_option maxRecDepth 100000 in
theorem Tryz.enter71 : ∀ args w, (callFunc 71 args).run Tryz.prog w = .ok (.enter 71 args) w := fun _ _ => by rfl

theorem yes_any (w : World) (v : Value) : Calls Tryz.prog 71 #[v] w fun e w' => e = .returned (.bool true) ∧ w = w' := by
  go_enter Tryz.func71, Tryz.ntmps71
  go_wp2
  go_ret
  exact ⟨rfl, rfl⟩

theorem countAll_any (w : World) (base t : Nat) (L : List Ent) (M : Nat → Option Nat) (h : TreeAt w base t L M) :
    Calls Tryz.prog 54 #[ptr t, .func (.func 71) #[] #[]] w fun e w' => e = .returned (.int .i64 ((L.length - 1 : Nat) : Int)) ∧ Below w.heap.size w w' := by
  have := count_any w base t L M h 71 #[] Tryz.enter71 (fun _ => true) (fun w' _ _ j _ => yes_any w' (ptr j))
  have e : (wka L).countP (fun _ => true) = L.length - 1 := by
    have := wka_len h.good
    rw [List.countP_true]; omega
  rw [e] at this
  exact this

set_option maxHeartbeats 4000000 in
set_option maxRecDepth 100000 in
theorem put_any (w : World) (base t i : Nat) (L : List Ent) (M : Nat → Option Nat) (h : TreeAt w base t L M) (s : ByteArray) (hs : s.size ≤ maxLen) (hm : Mx w) (hbw : base ≤ w.heap.size)
    (hi : M i = none ∨ ∀ x, (x, i) ∉ L) (hnode : NodeAt w i (M i) ∧ base ≤ i) (hmap : ∀ mi, M i = some mi → MapIs w mi (fun _ => none) ∧ base ≤ mi ∧ ∀ x j, (x, j) ∈ L → M j ≠ some mi) :
    Calls Tryz.prog 41 #[ptr t, .string s, ptr i] w fun e w' => e = .returned (errV (puE L M s.data.toList)) ∧ TreeAt w' base t (puL L M s.data.toList i) M ∧ Turned base w w' := by
  have HT : Hid (TreeAt w base t L M) := h
  have HP : Hid _ := fun (_ : Nat) => freeSpotOf_any w base t L M h s hs hm
  have HB : Hid (base ≤ w.heap.size) := hbw
  clear hs hm
  by_cases he : frE L M s.data.toList = 0
  · obtain ⟨q, k, d, m, hp, hqk, hk, hl, hM, hV, hfree, h8⟩ := frE_zero h.good he
    rw [he, hV, errV_zero] at HP
    have HC : Hid _ := fun (w' : World) (hb : Below w.heap.size w w') => countAll_any w' base t L M (h.later hb)
    have hlen := h.good.few
    by_cases h25 : 25 ≤ L.length
    · have hE : puE L M s.data.toList = 4 := by unfold puE; rw [if_neg (by simp [he]), if_pos h25]
      unfold puL
      rw [if_neg (by rw [hE]; decide), hE, errV_pos (by decide)]
      obtain ⟨n, hn⟩ : ∃ n, L.length - 1 = n := ⟨_, rfl⟩
      rw [hn] at HC
      have hn24 : 24 ≤ n := by omega
      generalize hN : ((q.length : Int) + 1) = x at *
      unfold ptr at HP HC ⊢
      clear hV hE hl hM hqk hp he hN hk h8 hfree hi hnode hmap h hbw hlen h25 hn
      go_enter Tryz.func41, Tryz.ntmps41
      go_wp2_with (first
        | (go_at_call 70; refine (HP.out 0).mono ?_; rintro e w1 ⟨rfl, hb⟩)
        | (go_at_call 54; refine (HC.out _ (hb.trans ((below_alloc w1 _).mono hb.size))).mono ?_; rintro e w2 ⟨rfl, hb2⟩))
      go_ret
      have hbb := hb.trans (((below_alloc w1 _).trans (hb2.mono (by simp))).mono hb.size)
      exact ⟨rfl, HT.out.later hbb, Turned.of_below hbb HB.out⟩
    · have hE : puE L M s.data.toList = 0 := by unfold puE; rw [if_neg (by simp [he]), if_neg h25]
      unfold puL
      rw [if_pos hE, hE, errV_zero, hqk]
      obtain ⟨n, hn⟩ : ∃ n, L.length - 1 = n := ⟨_, rfl⟩
      rw [hn] at HC
      have hn24 : n < 24 := by omega
      have HS : Hid (∀ (w2 : World) (x : Int), Below w.heap.size w w2 → Calls Tryz.prog 72 #[.agg #[ptr d, .string (bs k), .int .i64 x], ptr i] w2 fun e w' => e = .returned (.tuple #[]) ∧ TreeAt w' base t (L ++ [(q ++ [k], i)]) M ∧ Turned base w w') := by
        show ∀ (w2 : World) (x : Int), Below w.heap.size w w2 → _
        intro w2 x hb
        have h2 := h.later hb
        obtain ⟨hmp, hbm⟩ := h2.maps _ _ _ (look_mem hl) hM
        obtain ⟨hnd, _⟩ := h2.node _ _ (look_mem hl)
        rw [hM] at hnd
        have hkl := isN_len hk
        have hz := hb.size
        refine (set_any w2 base d m i k x _ hnd hmp (by omega) (kd L q) (kd_nodup h.good.uni q) (fun c => kd_some h.good.uni q c) (by have := kd_len L q; omega) hbm (by omega)).mono ?_
        rintro e w' ⟨rfl, g1, g2, g3⟩
        have hni : NodeAt w2 i (M i) := (hb.block _ hnode.1.lt).trans hnode.1
        refine ⟨rfl, tree_put h2 hl hM hfree hk h8 (by omega) hi ⟨(g3 i hni.lt (box_map hni hmp)).trans hni, hnode.2⟩ (fun mi hmi => ?_) g1 g3, (Turned.of_below hb HB.out).trans g2⟩
        obtain ⟨k1, k2, k3⟩ := hmap mi hmi
        have hml : mi < w2.heap.size := Nat.lt_of_lt_of_le k1.lt hb.size
        exact ⟨(k1.block (hb.block _ k1.lt)).block (g3 mi hml (fun e => k3 q d (look_mem hl) (by rw [hM, e]))), k2, k3⟩
      generalize hN : ((q.length : Int) + 1) = x at *
      unfold ptr at HP HC HS ⊢
      clear hV hE hl hM hqk hp he hN hk h8 hfree hi hnode hmap h hbw hlen h25 hn
      go_enter Tryz.func41, Tryz.ntmps41
      go_wp2_with (first
        | (go_at_call 70; refine (HP.out 0).mono ?_; rintro e w1 ⟨rfl, hb⟩)
        | (go_at_call 54; refine (HC.out _ (hb.trans ((below_alloc w1 _).mono hb.size))).mono ?_; rintro e w2 ⟨rfl, hb2⟩; have hbb := hb.trans (((below_alloc w1 _).trans (hb2.mono (by simp))).mono hb.size); obtain ⟨d0, d1, d2, _⟩ := (box3_here hb2).facts)
        | (go_at_call 72; refine (HS.out _ _ hbb).mono ?_; rintro e w3 ⟨rfl, hT3, hT4⟩))
      go_ret
      exact ⟨rfl, hT3, hT4⟩
  · have hE : puE L M s.data.toList = frE L M s.data.toList := if_pos he
    unfold puL
    rw [if_neg (by rw [hE]; exact he), hE, errV_pos he]
    rw [errV_pos he, show frV L M s.data.toList = noSpot from if_neg he] at HP
    unfold noSpot at HP
    generalize frE L M s.data.toList = E at *
    unfold ptr at HP ⊢
    clear he hE hi hnode hmap h hbw
    go_enter Tryz.func41, Tryz.ntmps41
    go_wp2_with (go_at_call 70; refine (HP.out 0).mono ?_; rintro e w1 ⟨rfl, hb⟩)
    go_ret
    have hbb : ∀ o, Below w.heap.size w (w1.alloc o) := fun o => hb.trans ((below_alloc w1 o).mono hb.size)
    exact ⟨rfl, HT.out.later (hbb _), Turned.of_below (hbb _) HB.out⟩

end Go.Proofs.YtdlmkienogimgaaGreatDoor

namespace Go.Proofs.YtdlmkienogimgaaGreatDoor
open Go.RowKit Go.Deep Go.Shelf Go.Maps

theorem fo_congr {L : List Ent} {M M' : Nat → Option Nat} (he : ∀ p i, (p, i) ∈ L → M' i = M i) : ∀ (ks p : List (List UInt8)) (i : Nat), (p, i) ∈ L → fo L M' p i ks = fo L M p i ks
  | [], _, _, _ => rfl
  | k :: ks, p, i, hi => by
    have e := he p i hi
    cases hM : M i with
    | none => rw [fo_file hM, fo_file (by rw [e, hM])]
    | some m =>
      cases hl : look L (p ++ [k]) with
      | none => rw [fo_none hM hl, fo_none (by rw [e, hM]) hl]
      | some j => rw [fo_some hM hl, fo_some (by rw [e, hM]) hl, fo_congr he ks _ j (look_mem hl)]
theorem atF_congr {L : List Ent} {M M' : Nat → Option Nat} (hG : Good L M) (he : ∀ p i, (p, i) ∈ L → M' i = M i) (ns : List (List UInt8)) : atF L M' ns = atF L M ns :=
  fo_congr he ns [] _ (look_mem (root_look hG))
theorem spE_congr {L : List Ent} {M M' : Nat → Option Nat} (hG : Good L M) (he : ∀ p i, (p, i) ∈ L → M' i = M i) (l : List UInt8) : spE L M' l = spE L M l := by
  unfold spE
  rw [atF_congr hG he]
  rcases atF_cases hG (pN l).dropLast with ⟨j, hj, hl⟩ | ⟨e, hee, hj, hl⟩
  · rw [hj, Option.getD_some, he _ j (look_mem hl)]
  · rw [hj]
    have : e ≠ 0 := by rcases hee with rfl | rfl <;> decide
    simp [this]
theorem puE_congr {L : List Ent} {M M' : Nat → Option Nat} (hG : Good L M) (he : ∀ p i, (p, i) ∈ L → M' i = M i) (l : List UInt8) : puE L M' l = puE L M l := by
  unfold puE frE
  rw [spE_congr hG he]
theorem TreeAt.congrM {w : World} {base t : Nat} {L : List Ent} {M M' : Nat → Option Nat} (h : TreeAt w base t L M) (he : ∀ p i, (p, i) ∈ L → M' i = M i) : TreeAt w base t L M' :=
  ⟨h.good.congr he, h.low, h.tree, fun p i hi => by rw [he p i hi]; exact h.node p i hi, fun p i m hi hm => h.maps p i m hi (by rw [← he p i hi]; exact hm), fun p i q j m hi hj h1 h2 => h.apart p i q j m hi hj (by rw [← he p i hi]; exact h1) (by rw [← he q j hj]; exact h2)⟩

/-- A new thing has a name, or what is wrong is told. -/
def MkS (dir : Bool) (L : List Ent) (M : Nat → Option Nat) (s : List UInt8) (e : Nat) (L' : List Ent) (M' : Nat → Option Nat) : Prop :=
  e = puE L M s ∧ ∃ i, (∀ x, (x, i) ∉ L) ∧ (M' i).isSome = dir ∧ (∀ j, j ≠ i → M' j = M j) ∧ L' = if puE L M s = 0 then L ++ [(pN s, i)] else L

theorem not_old {w : World} {base t i : Nat} {L : List Ent} {M : Nat → Option Nat} (h : TreeAt w base t L M) (hi : w.heap.size ≤ i) (x : List (List UInt8)) : (x, i) ∉ L := fun hx => by
  have := (h.node x i hx).1.lt
  omega

/-- One thing more. -/
def ext (M : Nat → Option Nat) (i : Nat) (o : Option Nat) (j : Nat) : Option Nat := if j = i then o else M j
theorem ext_same (M : Nat → Option Nat) (i : Nat) (o : Option Nat) : ext M i o i = o := if_pos rfl
theorem ext_other {M : Nat → Option Nat} {i j : Nat} {o : Option Nat} (h : j ≠ i) : ext M i o j = M j := if_neg h

/-- A new thing's name. -/
theorem put_new (w w1 : World) (base t i : Nat) (o : Option Nat) (L : List Ent) (M : Nat → Option Nat) (h : TreeAt w base t L M) (s : ByteArray) (hs : s.size ≤ maxLen) (hm : Mx w) (hbw : base ≤ w.heap.size) (hb : Below w.heap.size w w1) (hi : w.heap.size ≤ i)
    (hn : NodeAt w1 i o) (hmap : ∀ mi, o = some mi → MapIs w1 mi (fun _ => none) ∧ w.heap.size ≤ mi) :
    Calls Tryz.prog 41 #[ptr t, .string s, ptr i] w1 fun e w' => ∃ n L' M', e = .returned (errV n) ∧ MkS o.isSome L M s.data.toList n L' M' ∧ TreeAt w' base t L' M' ∧ Turned base w w' := by
  have he : ∀ p j, (p, j) ∈ L → ext M i o j = M j := fun p j hj => ext_other (by have := (h.node p j hj).1.lt; omega)
  have hT := (h.later hb).congrM he
  have hnew := fun x => not_old h hi x
  have hz := hb.size
  refine (put_any _ base t i L _ hT s hs (hm.later hb) (by omega) (.inr hnew) ⟨by rw [ext_same]; exact hn, by omega⟩ (fun mi hmi => ?_)).mono ?_
  · rw [ext_same] at hmi
    obtain ⟨g1, g2⟩ := hmap mi hmi
    refine ⟨g1, by omega, fun x j hx e => ?_⟩
    rw [he x j hx] at e
    have := (h.maps x j _ hx e).1.lt
    omega
  · rintro e w' ⟨rfl, g1, g2⟩
    refine ⟨_, _, _, rfl, ⟨puE_congr h.good he _, i, hnew, by rw [ext_same], fun j hj => ext_other hj, rfl⟩, ?_, (Turned.of_below hb hbw).trans g2⟩
    unfold puL at g1
    rw [puE_congr h.good he] at g1
    exact g1

set_option maxHeartbeats 2000000 in
set_option maxRecDepth 100000 in
theorem dir_any (w : World) (base t : Nat) (L : List Ent) (M : Nat → Option Nat) (h : TreeAt w base t L M) (s : ByteArray) (hs : s.size ≤ maxLen) (hm : Mx w) (hbw : base ≤ w.heap.size) :
    Calls Tryz.prog 14 #[ptr t, .string s] w fun e w' => ∃ n L' M', e = .returned (errV n) ∧ MkS true L M s.data.toList n L' M' ∧ TreeAt w' base t L' M' ∧ Turned base w w' := by
  have HP : Hid (∀ w1, w1 = (w.alloc (.map #[] 0)).alloc (.cells #[.map (some w.heap.size)] 77) → Calls Tryz.prog 41 #[ptr t, .string s, ptr (w.heap.size + 1)] w1 fun e w' => ∃ n L' M', e = .returned (errV n) ∧ MkS true L M s.data.toList n L' M' ∧ TreeAt w' base t L' M' ∧ Turned base w w') := by
    show ∀ w1, _ → _
    rintro w1 rfl
    have hmade := MapIs.made w
    refine put_new w _ base t (w.heap.size + 1) (some w.heap.size) L M h s hs hm hbw ((below_alloc w _).trans ((below_alloc _ _).mono (by simp))) (by omega) (boxed_two _ _ _ _) fun mi e => ?_
    cases e
    exact ⟨hmade.block ((below_alloc (w.alloc (.map #[] 0)) _).block _ (by simp)), Nat.le_refl _⟩
  unfold ptr at HP ⊢
  go_enter Tryz.func14, Tryz.ntmps14
  go_wp2_with (first
    | (go_at_call 45; refine (newDir_any _).mono ?_; unfold ptr; rintro e w1 ⟨rfl, rfl⟩)
    | (go_at_call 41; refine (HP.out _ rfl).mono ?_; rintro e w2 ⟨n, L', M', rfl, k1, k2, k3⟩))
  go_ret
  exact ⟨n, L', M', rfl, k1, k2, k3⟩

set_option maxHeartbeats 2000000 in
set_option maxRecDepth 100000 in
theorem file_any (w : World) (base t : Nat) (L : List Ent) (M : Nat → Option Nat) (h : TreeAt w base t L M) (s : ByteArray) (hs : s.size ≤ maxLen) (hm : Mx w) (hbw : base ≤ w.heap.size) :
    Calls Tryz.prog 12 #[ptr t, .string s] w fun e w' => ∃ n L' M', e = .returned (errV n) ∧ MkS false L M s.data.toList n L' M' ∧ TreeAt w' base t L' M' ∧ Turned base w w' := by
  have HP : Hid (∀ w1, w1 = w.alloc (.cells #[.map none] 77) → Calls Tryz.prog 41 #[ptr t, .string s, ptr w.heap.size] w1 fun e w' => ∃ n L' M', e = .returned (errV n) ∧ MkS false L M s.data.toList n L' M' ∧ TreeAt w' base t L' M' ∧ Turned base w w') := by
    show ∀ w1, _ → _
    rintro w1 rfl
    refine put_new w _ base t w.heap.size none L M h s hs hm hbw (below_alloc w _) (Nat.le_refl _) (Boxed.new w _ _) fun mi e => ?_
    cases e
  unfold ptr at HP ⊢
  go_enter Tryz.func12, Tryz.ntmps12
  go_wp2_with (first
    | (go_at_call 41; refine (HP.out _ rfl).mono ?_; rintro e w2 ⟨n, L', M', rfl, k1, k2, k3⟩))
  go_ret
  exact ⟨n, L', M', rfl, k1, k2, k3⟩

end Go.Proofs.YtdlmkienogimgaaGreatDoor

namespace Go.Proofs.YtdlmkienogimgaaGreatDoor
open Go.RowKit Go.Deep Go.Shelf Go.Maps

def thing (L : List Ent) (M : Nat → Option Nat) (a : List UInt8) : Nat := (atS L M a).2.getD 0
def lkE (L : List Ent) (M : Nat → Option Nat) (a b : List UInt8) : Nat := if (atS L M a).1 ≠ 0 then (atS L M a).1 else if (M (thing L M a)).isSome then 3 else puE L M b
def lkL (L : List Ent) (M : Nat → Option Nat) (a b : List UInt8) : List Ent := if lkE L M a b = 0 then L ++ [(pN b, thing L M a)] else L

theorem atS_cases {L : List Ent} {M : Nat → Option Nat} (hG : Good L M) (l : List UInt8) : (∃ j, atS L M l = (0, some j) ∧ pE l = 0 ∧ look L (pN l) = some j) ∨ (∃ e, e ≠ 0 ∧ atS L M l = (e, none)) := by
  unfold atS
  by_cases h : pE l = 0
  · rw [if_pos h]
    rcases atF_cases hG (pN l) with ⟨j, h1, h2⟩ | ⟨e, h0, h1, h2⟩
    · exact .inl ⟨j, h1, h, h2⟩
    · exact .inr ⟨e, by rcases h0 with rfl | rfl <;> decide, h1⟩
  · rw [if_neg h]
    exact .inr ⟨_, h, rfl⟩

set_option maxHeartbeats 4000000 in
set_option maxRecDepth 100000 in
theorem link_any (w : World) (base t : Nat) (L : List Ent) (M : Nat → Option Nat) (h : TreeAt w base t L M) (a b : ByteArray) (ha : a.size ≤ maxLen) (hb : b.size ≤ maxLen) (hm : Mx w) (hbw : base ≤ w.heap.size) :
    Calls Tryz.prog 29 #[ptr t, .string a, .string b] w fun e w' => e = .returned (errV (lkE L M a.data.toList b.data.toList)) ∧ TreeAt w' base t (lkL L M a.data.toList b.data.toList) M ∧ Turned base w w' := by
  have HA : Hid _ := fun (_ : Nat) => at_any w base t L M h a ha hm
  have HT : Hid (TreeAt w base t L M) := h
  have HB : Hid (base ≤ w.heap.size) := hbw
  rcases atS_cases h.good a.data.toList with ⟨j, h1, h2, h3⟩ | ⟨e, h0, h1⟩
  · rw [h1] at HA
    simp only [valO, errV_zero] at HA
    have hth : thing L M a.data.toList = j := by unfold thing; rw [h1]; rfl
    obtain ⟨hnj, hbj⟩ := h.node _ _ (look_mem h3)
    have HD : Hid _ := fun (w' : World) (hb : Below w.heap.size w w') => isDir_any w' j (M j) ((hb.block _ hnj.lt).trans hnj)
    cases hM : M j with
    | some m =>
      have hE : lkE L M a.data.toList b.data.toList = 3 := by unfold lkE; rw [h1, if_neg (by simp), hth, hM]; rfl
      unfold lkL
      rw [if_neg (by rw [hE]; decide), hE, errV_pos (by decide)]
      rw [hM] at HD
      unfold ptr at HA HD ⊢
      clear hE hM hnj hth h1 h2 h3 h hbj
      go_enter Tryz.func29, Tryz.ntmps29
      go_wp2_with (first
        | (go_at_call 39; refine (HA.out 0).mono ?_; rintro e w1 ⟨rfl, hb1⟩)
        | (go_at_call 33; refine (HD.out _ hb1).mono ?_; rintro e w' ⟨rfl, rfl⟩))
      go_ret
      exact ⟨rfl, HT.out.later hb1, Turned.of_below hb1 HB.out⟩
    | none =>
      have hE : lkE L M a.data.toList b.data.toList = puE L M b.data.toList := by unfold lkE; rw [h1, if_neg (by simp), hth, hM]; rfl
      have hL : lkL L M a.data.toList b.data.toList = puL L M b.data.toList j := by unfold lkL puL; rw [hE, hth]
      rw [hE, hL]
      rw [hM] at HD
      have HP : Hid _ := fun (w' : World) (hb1 : Below w.heap.size w w') => put_any w' base t j L M (h.later hb1) b hb (hm.later hb1) (by have := hb1.size; omega) (.inl hM) ⟨(hb1.block _ hnj.lt).trans hnj, hbj⟩ (fun mi hmi => by rw [hM] at hmi; cases hmi)
      unfold ptr at HA HD HP ⊢
      clear hE hL hM hnj hth h1 h2 h3 h hbj
      go_enter Tryz.func29, Tryz.ntmps29
      go_wp2_with (first
        | (go_at_call 39; refine (HA.out 0).mono ?_; rintro e w1 ⟨rfl, hb1⟩)
        | (go_at_call 33; refine (HD.out _ hb1).mono ?_; rintro e w' ⟨rfl, rfl⟩)
        | (go_at_call 41; refine (HP.out _ hb1).mono ?_; rintro e w2 ⟨rfl, k1, k2⟩))
      go_ret
      exact ⟨rfl, k1, (Turned.of_below hb1 HB.out).trans k2⟩
  · have hE : lkE L M a.data.toList b.data.toList = e := by unfold lkE; rw [h1, if_pos h0]
    unfold lkL
    rw [if_neg (by rw [hE]; exact h0), hE, errV_pos h0]
    rw [h1] at HA
    simp only [valO] at HA
    rw [errV_pos h0] at HA
    unfold ptr at HA ⊢
    clear hE h1 h0 h
    go_enter Tryz.func29, Tryz.ntmps29
    go_wp2_with (first
      | (go_at_call 39; refine (HA.out 0).mono ?_; rintro e w1 ⟨rfl, hb1⟩))
    go_ret
    exact ⟨rfl, HT.out.later hb1, Turned.of_below hb1 HB.out⟩

def drE (L : List Ent) (M : Nat → Option Nat) (s : List UInt8) : Nat := if spE L M s ≠ 0 then spE L M s else if look L (pN s) = none then 5 else if kids L (pN s) = [] then 0 else 7
def drL (L : List Ent) (M : Nat → Option Nat) (s : List UInt8) : List Ent := if drE L M s = 0 then cutL L (pN s) else L

/-- How many names a node's map has. -/
theorem node_len (w : World) (base t : Nat) (L : List Ent) (M : Nat → Option Nat) (h : TreeAt w base t L M) (p : List (List UInt8)) (i : Nat) (hi : (p, i) ∈ L) :
    ∃ m, w.cell? ⟨i, 0, none⟩ = some (.map m) ∧ ∀ ty, (Builtin.len_ #[75] ty #[.map m]).run Tryz.prog w = .ok (.int .i64 ((kids L p).length : Nat)) w := by
  obtain ⟨hn, _⟩ := h.node p i hi
  refine ⟨M i, hn.cell, fun ty => ?_⟩
  cases hM : M i with
  | none => rw [kids_file h.good hi hM]; exact nil_len w ty
  | some m =>
    rw [kids_len]
    exact (h.maps p i m hi hM).1.len (kd_nodup h.good.uni p) (fun k => kd_some h.good.uni p k) ty

set_option maxHeartbeats 4000000 in
set_option maxRecDepth 100000 in
theorem drop_any (w : World) (base t : Nat) (L : List Ent) (M : Nat → Option Nat) (h : TreeAt w base t L M) (s : ByteArray) (hs : s.size ≤ maxLen) (hm : Mx w) (hbw : base ≤ w.heap.size) :
    Calls Tryz.prog 13 #[ptr t, .string s] w fun e w' => e = .returned (errV (drE L M s.data.toList)) ∧ TreeAt w' base t (drL L M s.data.toList) M ∧ Turned base w w' := by
  have HS : Hid _ := fun (_ : Nat) => spotOf_any w base t L M h s hs hm
  have HT : Hid (TreeAt w base t L M) := h
  have HB : Hid (base ≤ w.heap.size) := hbw
  by_cases he : spE L M s.data.toList = 0
  · obtain ⟨q, k, d, m, hp, hqk, hk, hl, hM, hV⟩ := spE_zero h.good he
    obtain ⟨hmap, hbm⟩ := h.maps _ _ _ (look_mem hl) hM
    obtain ⟨hnode, _⟩ := h.node _ _ (look_mem hl)
    rw [hM] at hnode
    have hkl := isN_len hk
    have HW : Hid _ := fun (w' : World) (n : Int) (hb : Below w.heap.size w w') => what_any w' d m k n _ ((hb.block _ hnode.lt).trans hnode) (hmap.block (hb.block _ hmap.lt)) (by omega)
    rw [he, hV, errV_zero] at HS
    cases hf : look L (q ++ [k]) with
    | none =>
      have hE : drE L M s.data.toList = 5 := by unfold drE; rw [if_neg (by simp [he]), hqk, if_pos hf]
      unfold drL
      rw [if_neg (by rw [hE]; decide), hE, errV_pos (by decide)]
      rw [hf] at HW
      simp only [valO] at HW
      generalize hN : ((q.length : Int) + 1) = n at *
      unfold ptr at HS HW ⊢
      clear hV hE hl hM hmap hnode hqk hp he hN hk hkl hf hbm h
      go_enter Tryz.func13, Tryz.ntmps13
      go_wp2_with (first
        | (go_at_call 42; refine (HS.out 0).mono ?_; rintro e w1 ⟨rfl, hb⟩)
        | (go_at_call 43; refine (HW.out _ _ (hb.trans ((below_alloc w1 _).mono hb.size))).mono ?_; rintro e w2 ⟨rfl, hb2⟩))
      go_ret
      have hbb := hb.trans (((below_alloc w1 _).trans (hb2.mono (by simp))).mono hb.size)
      exact ⟨rfl, HT.out.later hbb, Turned.of_below hbb HB.out⟩
    | some j =>
      rw [hf] at HW
      simp only [valO] at HW
      have HN : Hid _ := fun (w' : World) (hb : Below w.heap.size w w') => node_len w' base t L M (h.later hb) _ j (look_mem hf)
      by_cases hkd : kids L (q ++ [k]) = []
      · have hE : drE L M s.data.toList = 0 := by unfold drE; rw [if_neg (by simp [he]), hqk, if_neg (by rw [hf]; simp), if_pos hkd]
        unfold drL
        rw [if_pos hE, hE, hqk, errV_zero]
        rw [hkd] at HN
        have HC : Hid (∀ (w2 : World) (x : Int), Below w.heap.size w w2 → Calls Tryz.prog 44 #[.agg #[ptr d, .string (bs k), .int .i64 x]] w2 fun e w' => e = .returned (.tuple #[]) ∧ TreeAt w' base t (cutL L (q ++ [k])) M ∧ Turned base w w') := by
          show ∀ (w2 : World) (x : Int), Below w.heap.size w w2 → _
          intro w2 x hb
          refine (clear_any w2 base d m k x _ ((hb.block _ hnode.lt).trans hnode) (hmap.block (hb.block _ hmap.lt)) (by omega) hbm (by have := hb.size; omega)).mono ?_
          rintro e w' ⟨rfl, g1, g2, g3⟩
          exact ⟨rfl, tree_cut (h.later hb) hl hM hkd g1 g3, (Turned.of_below hb HB.out).trans g2⟩
        generalize hN : ((q.length : Int) + 1) = n at *
        unfold ptr at HS HW HC ⊢
        clear hV hE hl hM hmap hnode hqk hp he hN hk hkl hf hbm h hkd
        go_enter Tryz.func13, Tryz.ntmps13
        go_wp2_with (first
          | (go_at_call 42; refine (HS.out 0).mono ?_; rintro e w1 ⟨rfl, hb⟩)
          | (go_at_call 43; refine (HW.out _ _ (hb.trans ((below_alloc w1 _).mono hb.size))).mono ?_; rintro e w2 ⟨rfl, hb2⟩; have hbb := hb.trans (((below_alloc w1 _).trans (hb2.mono (by simp))).mono hb.size); obtain ⟨d0, d1, d2, _⟩ := (box3_here hb2).facts; obtain ⟨mm, e1, e2⟩ := HN.out w2 hbb)
          | (go_at_call 44; refine (HC.out _ _ hbb).mono ?_; rintro e w3 ⟨rfl, k1, k2⟩))
        go_ret
        exact ⟨rfl, k1, k2⟩
      · have hE : drE L M s.data.toList = 7 := by unfold drE; rw [if_neg (by simp [he]), hqk, if_neg (by rw [hf]; simp), if_neg hkd]
        unfold drL
        rw [if_neg (by rw [hE]; decide), hE, errV_pos (by decide)]
        obtain ⟨c, hc⟩ : ∃ c, (kids L (q ++ [k])).length = c := ⟨_, rfl⟩
        have hc0 : 0 < c := by rw [← hc]; exact List.length_pos_iff.2 hkd
        rw [hc] at HN
        generalize hN : ((q.length : Int) + 1) = n at *
        unfold ptr at HS HW ⊢
        clear hV hE hl hM hmap hnode hqk hp he hN hk hkl hf hbm h hkd hc
        go_enter Tryz.func13, Tryz.ntmps13
        go_wp2_with (first
          | (go_at_call 42; refine (HS.out 0).mono ?_; rintro e w1 ⟨rfl, hb⟩)
          | (go_at_call 43; refine (HW.out _ _ (hb.trans ((below_alloc w1 _).mono hb.size))).mono ?_; rintro e w2 ⟨rfl, hb2⟩; have hbb := hb.trans (((below_alloc w1 _).trans (hb2.mono (by simp))).mono hb.size); obtain ⟨mm, e1, e2⟩ := HN.out w2 hbb))
        go_ret
        exact ⟨rfl, HT.out.later hbb, Turned.of_below hbb HB.out⟩
  · have hE : drE L M s.data.toList = spE L M s.data.toList := if_pos he
    unfold drL
    rw [if_neg (by rw [hE]; exact he), hE, errV_pos he]
    rw [errV_pos he, spV_no he] at HS
    unfold noSpot at HS
    generalize spE L M s.data.toList = E at *
    unfold ptr at HS ⊢
    clear he hE h
    go_enter Tryz.func13, Tryz.ntmps13
    go_wp2_with (go_at_call 42; refine (HS.out 0).mono ?_; rintro e w1 ⟨rfl, hb⟩)
    go_ret
    have hbb : ∀ o, Below w.heap.size w (w1.alloc o) := fun o => hb.trans ((below_alloc w1 o).mono hb.size)
    exact ⟨rfl, HT.out.later (hbb _), Turned.of_below (hbb _) HB.out⟩

end Go.Proofs.YtdlmkienogimgaaGreatDoor
