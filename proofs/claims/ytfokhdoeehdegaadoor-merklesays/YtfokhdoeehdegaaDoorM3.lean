/- This text proves what the cuts of a way do (merkle's has, beside and the function that Way hands to walk), and what merkle.Way answers: the sides of the way up from a value, the lowest cut first, in new memory, or the first error that the document names; the only condition is that the slice lies there and can be cut. -/
import Derived.Test.YtfokhdoeehdegaaDoorM2
import Derived.Test.YtfokhdoeehdegaaDoorMl
import Derived.Deep.RegionHeld3
import Derived.Test.YtfokhdoeehdegaaDoorSp
namespace Go.Proofs.YtfokhdoeehdegaaDoor
open Go.RowKit Go.Deep

def cutV (f m e l r : Int) : Value := .agg #[.int .i64 f, .int .i64 m, .int .i64 e, .int .i64 l, .int .i64 r]

set_option maxHeartbeats 2000000 in
theorem has_any (w : World) (f m e l r i : Int) :
    Calls Tryd.prog 27 #[.agg #[.int .i64 f, .int .i64 m, .int .i64 e, .int .i64 l, .int .i64 r], .int .i64 i] w fun x w' => x = .returned (.bool (decide (f ≤ i ∧ i < e))) ∧ Below w.heap.size w w' := by
  by_cases h1 : f ≤ i
  · by_cases h2 : i < e
    · rw [decide_eq_true (show f ≤ i ∧ i < e from ⟨h1, h2⟩)]
      go_enter Tryd.func27, Tryd.ntmps27
      go_wp2
      go_ret
      exact ⟨rfl, (Below.refl _ _).alloc (Nat.le_refl _) _⟩
    · rw [decide_eq_false (show ¬ (f ≤ i ∧ i < e) from fun h => h2 h.2)]
      go_enter Tryd.func27, Tryd.ntmps27
      go_wp2
      go_ret
      exact ⟨rfl, (Below.refl _ _).alloc (Nat.le_refl _) _⟩
  · rw [decide_eq_false (show ¬ (f ≤ i ∧ i < e) from fun h => h1 h.1)]
    go_enter Tryd.func27, Tryd.ntmps27
    go_wp2
    go_ret
    exact ⟨rfl, (Below.refl _ _).alloc (Nat.le_refl _) _⟩

/-- The side beside a value at a cut. -/
def besideS (m l r i : Int) : Bool × Int := if i < m then (false, r) else (true, l)

theorem results_cell1 {fn : Func} {p : Tmp} {ty : TypeId} (h : fn.results = #[.cell p ty]) (tmps : Array Value) (P : Program) (w : World) :
    (results fn tmps).run P w = ((asAddr (tmps.getD p undef)).run P w).andThen fun a w₁ => (loadVar ty a).run P w₁ := by
  simp only [results, h]
  simp [Sem.run_bind, Result.andThen]

set_option maxHeartbeats 2000000 in
theorem beside_any (w : World) (f m e l r i : Int) :
    Calls Tryd.prog 28 #[.agg #[.int .i64 f, .int .i64 m, .int .i64 e, .int .i64 l, .int .i64 r], .int .i64 i] w fun x w' => x = .returned (.agg #[.bool (besideS m l r i).1, .int .i64 (besideS m l r i).2]) ∧ Below w.heap.size w w' := by
  by_cases h1 : i < m
  · rw [show besideS m l r i = (false, r) from if_pos h1]
    go_enter Tryd.func28, Tryd.ntmps28
    go_wp2
    refine bodyPost_ret (v := .agg #[.bool false, .int .i64 r]) ?_ rfl ?_
    · rw [results_cell1 rfl]
      go_simp
    · exact ⟨rfl, ((Below.refl _ _).alloc (Nat.le_refl _) _).alloc (by simp) _⟩
  · rw [show besideS m l r i = (true, l) from if_neg h1]
    go_enter Tryd.func28, Tryd.ntmps28
    go_wp2
    refine bodyPost_ret (v := .agg #[.bool true, .int .i64 l]) ?_ rfl ?_
    · rw [results_cell1 rfl]
      go_simp
    · exact ⟨rfl, ((Below.refl _ _).alloc (Nat.le_refl _) _).alloc (by simp) _⟩

theorem cell_of1 {w : World} {b : Nat} {v : Value} {t : TypeId} (h : w.heap[b]? = some (.cells #[v] t (0, 0))) : w.cell? ⟨b, 0, none⟩ = some v := by
  simp [World.cell?, h]
theorem free_of1 {w : World} {b : Nat} {v : Value} {t : TypeId} (h : w.heap[b]? = some (.cells #[v] t (0, 0))) : w.frozen? ⟨b, 0, none⟩ = false := by
  simp [World.frozen?, h]
theorem set_of1 {w : World} {b : Nat} {u v : Value} {t : TypeId} (h : w.heap[b]? = some (.cells #[u] t (0, 0))) : (w.setCell ⟨b, 0, none⟩ v).heap[b]? = some (.cells #[v] t (0, 0)) := by
  simp [World.setCell, Array.getElem?_modify, h]
theorem ncell_new (w : World) (c : Array Value) (t : TypeId) (j : Nat) : (w.alloc (.cells c t)).cell? ⟨w.heap.size, j, none⟩ = c[j]? := by
  have h : (w.alloc (.cells c t)).heap[w.heap.size]? = some (.cells c t (0, 0)) := blk_alloc_new _ _
  simp only [World.cell?, h]
  rfl
theorem sown_later {w w' : World} {base e s n : Nat} {v : Value} {xs : List Value} (h : w.ownsRow base e s v n xs) (hb : Below w.heap.size w w') : w'.ownsRow base e s v n xs :=
  h.kept (row := none) ⟨hb.os, hb.tape, hb.output, hb.size, fun k hk _ => hb.block k hk⟩ (by cases v.ownBlock <;> simp)
theorem ngrown_cell {w w' : World} {row : Option Nat} {b j : Nat} (h : w.grownBy w' row) (hb : b < w.heap.size) (hr : row ≠ some b) : w'.cell? ⟨b, j, none⟩ = w.cell? ⟨b, j, none⟩ :=
  World.cell?_of_block (w := w) (h.block b hb (fun e => hr e.symm))
/-- The row of the call's own is no block that holds another type. -/
theorem own_not {w : World} {base e s n b : Nat} {v : Value} {xs : List Value} {c : Array Value} {t : TypeId} (h : w.ownsRow base e s v n xs) (hb : w.heap[b]? = some (.cells c t (0, 0))) (ht : t ≠ e) : v.ownBlock ≠ some b := by
  rcases h.2 with ⟨rfl, _⟩ | ⟨g, cap, cur, rfl, _, hg, _⟩
  · intro e; cases e
  · intro e'
    cases e'
    rw [hg] at hb
    cases hb
    exact ht rfl

theorem below_d (w : World) : Below w.heap.size w w.drew := ⟨rfl, rfl, rfl, Nat.le_refl _, fun _ _ => rfl⟩

/-- What lies in memory while a way is gone: the place, and the sides so far. -/
def WSt (base Bi Bw : Nat) (i : Int) (w : World) (s : List (Bool × Int)) : Prop :=
  base ≤ Bi ∧ base ≤ Bw ∧ w.heap[Bi]? = some (.cells #[.int .i64 i] 3 (0, 0)) ∧ ∃ v, w.heap[Bw]? = some (.cells #[v] 23 (0, 0)) ∧ w.ownsRow base 32 2 v s.length (sdc s)

theorem WSt.later {base Bi Bw : Nat} {i : Int} {w w' : World} {s : List (Bool × Int)} (h : WSt base Bi Bw i w s) (hb : Below w.heap.size w w') : WSt base Bi Bw i w' s := by
  obtain ⟨h1, h2, h3, v, h4, h5⟩ := h
  exact ⟨h1, h2, by rw [hb.block _ (Array.getElem?_eq_some_iff.1 h3).1]; exact h3, v, by rw [hb.block _ (Array.getElem?_eq_some_iff.1 h4).1]; exact h4, sown_later h5 hb⟩

theorem wst_push {base Bi Bw : Nat} {i : Int} {w w5 : World} {s : List (Bool × Int)} {v v' : Value} {x : Bool × Int} {o : Obj} (h1 : base ≤ Bi) (h2 : base ≤ Bw) (h3 : w.heap[Bi]? = some (.cells #[.int .i64 i] 3 (0, 0)))
    (h4 : w.heap[Bw]? = some (.cells #[v] 23 (0, 0))) (h5 : w.ownsRow base 32 2 v s.length (sdc s)) (hbase : base ≤ w.heap.size)
    (ho : w5.ownsRow base 32 2 v' (s.length + 1) (sdc s ++ [.bool x.1, .int .i64 x.2])) (hg : (w.alloc o).grownBy w5 v.ownBlock) :
    WSt base Bi Bw i (w5.setCell ⟨Bw, 0, none⟩ v') (s ++ [x]) ∧ Below base w (w5.setCell ⟨Bw, 0, none⟩ v') ∧ w5.frozen? ⟨Bw, 0, none⟩ = false ∧ w5.cell? ⟨Bw, 0, none⟩ = some v := by
  have l3 := (Array.getElem?_eq_some_iff.1 h3).1
  have l4 := (Array.getElem?_eq_some_iff.1 h4).1
  have b1 : Below w.heap.size w (w.alloc o) := (Below.refl _ _).alloc (Nat.le_refl _) _
  have k3 : w5.heap[Bi]? = some (.cells #[.int .i64 i] 3 (0, 0)) := by
    rw [hg.block Bi (by simp; omega) (fun e => own_not h5 h3 (by decide) e.symm), b1.block _ l3]; exact h3
  have k4 : w5.heap[Bw]? = some (.cells #[v] 23 (0, 0)) := by
    rw [hg.block Bw (by simp; omega) (fun e => own_not h5 h4 (by decide) e.symm), b1.block _ l4]; exact h4
  have hne : Bi ≠ Bw := fun e => by subst e; rw [h3] at h4; cases h4
  refine ⟨⟨h1, h2, ?_, v', set_of1 k4, ?_⟩, ?_, free_of1 k4, cell_of1 k4⟩
  · exact (Below.heap_setCell _ _ _ _ (by show Bi ≠ Bw; exact hne)).trans k3
  · rw [List.length_append, List.length_singleton, ← sdc_snoc]
    exact ownsRow_setCell_other ho (a := ⟨Bw, 0, none⟩) (own_not ho k4 (by decide)) v'
  · exact (((Below.refl base w).alloc hbase o).grown hg (by simp; omega) (fun k e => (h5.lt k e).1)).setCell h2 _

theorem far_cell {w1 w2 w5 : World} {o : Obj} {row : Option Nat} {c j q : Nat} {u : Value} (hb2 : Below w1.heap.size w1 w2) (hg : (w2.alloc o).grownBy w5 row) (hc : c < w1.heap.size) (hr : row ≠ some c) (hq : c ≠ q) (h : w1.cell? ⟨c, j, none⟩ = some u) (v : Value) :
    (w5.setCell ⟨q, 0, none⟩ v).cell? ⟨c, j, none⟩ = some u := by
  rw [World.cell?_of_block (w := w5) (Below.heap_setCell w5 ⟨q, 0, none⟩ v c hq), ngrown_cell hg (by simp; have := hb2.size; omega) hr]
  rw [((Below.refl w2.heap.size w2).alloc (Nat.le_refl _) o).cell (p := ⟨c, j, none⟩) (by have := hb2.size; show c < w2.heap.size; omega), hb2.cell (p := ⟨c, j, none⟩) hc]
  exact h

theorem sown_where {w : World} {base e z n : Nat} {v : Value} {vs : List Value} (h : w.ownsRow base e z v n vs) (hn : 0 < n) : ∃ g cap, v = .slice (some ⟨g, 0, none⟩) n cap := by
  rcases h.2 with ⟨_, h0⟩ | ⟨g, cap, cur, h1, _⟩
  · omega
  · exact ⟨g, cap, h1⟩

theorem cell_alloc {w : World} {b j : Nat} {v : Value} (o : Obj) (h : w.cell? ⟨b, j, none⟩ = some v) : (w.alloc o).cell? ⟨b, j, none⟩ = some v := by
  have hb : b < w.heap.size := World.block_lt_of_cell? _ _ h
  rw [((Below.refl w.heap.size w).alloc (Nat.le_refl _) o).cell (p := ⟨b, j, none⟩) hb]; exact h

theorem news_two (w : World) (u v : Value) (t : TypeId) : ∀ (j : Nat) (x : Value), [u, v][j]? = some x → (w.alloc (.cells #[u, v] t)).cell? ((⟨w.heap.size, 0, none⟩ : Addr).add j) = some x := by
  intro j x hx
  rw [saddr_at, ncell_new]
  simpa using hx
theorem ones_side (b : Bool) (x : Int) : ∀ u ∈ [Value.bool b, .int .i64 x], u.oneCell' = true := fun u hu => by
  simp only [List.mem_cons, List.not_mem_nil, or_false] at hu
  rcases hu with rfl | rfl <;> rfl

/-- What a cut does to the sides. -/
def wStep (i : Int) (f m e : Nat) (l r : Int) (s : List (Bool × Int)) : List (Bool × Int) := if (f : Int) ≤ i ∧ i < (e : Int) then s ++ [besideS m l r i] else s

set_option maxHeartbeats 4000000 in
set_option maxRecDepth 100000 in
theorem wayJoin_any (base Bi Bw : Nat) (i : Int) (w : World) (s : List (Bool × Int)) (f m e : Nat) (l r : Int) (hl : 0 ≤ l ∧ l ≤ 9972) (hr : 0 ≤ r ∧ r ≤ 9972) (hcn : s.length < 16) (hs : WSt base Bi Bw i w s) (hbase : base ≤ w.heap.size) :
    Calls Tryd.prog 26 #[.agg #[.int .i64 f, .int .i64 m, .int .i64 e, .int .i64 l, .int .i64 r], .pointer (some ⟨Bi, 0, none⟩), .pointer (some ⟨Bw, 0, none⟩)] w fun x w' => x = .returned (.int .i64 (jn l r)) ∧ WSt base Bi Bw i w' (wStep i f m e l r s) ∧ Below base w w' := by
  obtain ⟨hbi, hbw, hci, v, hcw, hown⟩ := hs
  have li : Bi < w.heap.size := (Array.getElem?_eq_some_iff.1 hci).1
  have lw : Bw < w.heap.size := (Array.getElem?_eq_some_iff.1 hcw).1
  have HCI : Hid (w.heap[Bi]? = some (.cells #[.int .i64 i] 3 (0, 0))) := hci
  have HCW : Hid (w.heap[Bw]? = some (.cells #[v] 23 (0, 0))) := hcw
  have HO : Hid (w.ownsRow base 32 2 v s.length (sdc s)) := hown
  have c1 : w.cell? ⟨Bi, 0, none⟩ = some (.int .i64 i) := cell_of1 hci
  clear hci hcw hown
  by_cases hin : (f : Int) ≤ i ∧ i < (e : Int)
  · have HD : Hid (decide ((f : Int) ≤ i ∧ i < (e : Int)) = true) := decide_eq_true hin
    have HW : Hid (wStep i f m e l r s = s ++ [besideS m l r i]) := if_pos hin
    clear hin
    obtain ⟨ti, hti, hz0, hz1, hz2⟩ := info_parts Tryd.info32
    go_enter Tryd.func26, Tryd.ntmps26
    go_wp2_with fail
    refine (has_any _ _ _ _ _ _ _).mono ?_
    rintro e' w1 ⟨rfl, hb1⟩
    rw [HD.out]
    replace hb1 : Below (w.heap.size + 1) (w.alloc (.cells #[.int .i64 f, .int .i64 m, .int .i64 e, .int .i64 l, .int .i64 r] 50)) w1 := by simpa using hb1
    have hb0 : Below w.heap.size w w1 := ((Below.refl _ _).alloc (Nat.le_refl _) _).trans (hb1.mono (Nat.le_succ _))
    have HB1 : Hid (Below w.heap.size w w1) := hb0
    have d1 : w1.cell? ⟨Bi, 0, none⟩ = some (.int .i64 i) := by rw [hb0.cell (p := ⟨Bi, 0, none⟩) li]; exact c1
    have d2 : w1.cell? ⟨Bw, 0, none⟩ = some v := by rw [hb0.cell (p := ⟨Bw, 0, none⟩) lw]; exact cell_of1 HCW.out
    have dd : ∀ j, w1.cell? ⟨w.heap.size, j, none⟩ = #[Value.int .i64 f, .int .i64 m, .int .i64 e, .int .i64 l, .int .i64 r][j]? := fun j => by
      rw [hb1.cell (p := ⟨w.heap.size, j, none⟩) (Nat.lt_succ_self _)]; exact ncell_new _ _ _ _
    have d3 : w1.cell? ⟨w.heap.size, 0, none⟩ = some (.int .i64 f) := dd 0
    have d4 : w1.cell? ⟨w.heap.size, 1, none⟩ = some (.int .i64 m) := dd 1
    have d5 : w1.cell? ⟨w.heap.size, 2, none⟩ = some (.int .i64 e) := dd 2
    have d6 : w1.cell? ⟨w.heap.size, 3, none⟩ = some (.int .i64 l) := dd 3
    have d7 : w1.cell? ⟨w.heap.size, 4, none⟩ = some (.int .i64 r) := dd 4
    have l1 : w.heap.size < w1.heap.size := by have := hb1.size; simp at this; omega
    have HL1 : Hid (w.heap.size < w1.heap.size) := l1
    have HP : Hid (∀ (w2 : World), Below w1.heap.size w1 w2 → w2.heap[Bi]? = some (.cells #[.int .i64 i] 3 (0, 0)) ∧ w2.heap[Bw]? = some (.cells #[v] 23 (0, 0)) ∧ w2.ownsRow base 32 2 v s.length (sdc s)) := fun w2 hb2 => by
      have hb := hb0.trans (hb2.mono (Nat.le_of_lt l1))
      exact ⟨by rw [hb.block _ li]; exact HCI.out, by rw [hb.block _ lw]; exact HCW.out, sown_later HO.out hb⟩
    have HR : Hid (∀ (w2 : World), Below w1.heap.size w1 w2 → base ≤ w2.heap.size) := fun w2 hb2 => by have := hb2.size; omega
    have HQ : Hid (∀ (w2 : World) (o : Obj), Below w1.heap.size w1 w2 → base ≤ (w2.alloc o).heap.size) := fun w2 o hb2 => by have := hb2.size; simp; omega
    have HV : Hid (v.ownBlock ≠ some w.heap.size) := fun e => by have := (HO.out.lt _ e).2; omega
    have HT : Hid (base ≤ w1.heap.size) := Nat.le_trans hbase (Nat.le_of_lt l1)
    clear hb1 hb0 c1 dd l1
    obtain ⟨x, hx⟩ : ∃ x, x = besideS m l r i := ⟨_, rfl⟩
    have HX : Hid _ := beside_any (f := f) (m := m) (e := e) (l := l) (r := r) (i := i)
    rw [← hx] at HW HX
    clear hx
    go_wp2_with fail
    go_region_law
      (first
        | (go_simp; go_at_call 28; refine (HX.out _).mono ?_; rintro e' w2 ⟨rfl, hb2⟩; have d8 : w2.cell? ⟨Bw, 0, none⟩ = some v := cell_of1 (HP.out w2 ((below_d w1).trans hb2)).2.1; have d8b : ∀ o, (w2.alloc o).cell? ⟨Bw, 0, none⟩ = some v := fun o => cell_alloc o d8)
        | (refine step_append_own rfl (.tmp 8) (.tmp 12) 23 rfl base 32 ti (.agg #[.bool false, .int .i64 0]) 2 16 Tryd.underlying23 hti hz0 hz1 hz2 rfl (by decide) v s.length (sdc s) (by simp [Act.eval]) ((HP.out w2 ((below_d w1).trans hb2)).2.2.alloc _) ⟨w2.heap.size, 0, none⟩ 1 1 [.bool x.1, .int .i64 x.2] (by simp [Act.eval]) rfl (news_two w2 _ _ _) (ones_side _ _) (by unfold maxLen; omega) (by omega) (HQ.out w2 _ ((below_d w1).trans hb2)) ?_; intro v' w5 hown hgr; obtain ⟨g', cap', rfl⟩ := sown_where hown (Nat.succ_pos _); obtain ⟨hz, hy, hfz, hcz⟩ := wst_push (w5 := w5) hbi hbw (HP.out w2 ((below_d w1).trans hb2)).1 (HP.out w2 ((below_d w1).trans hb2)).2.1 (HP.out w2 ((below_d w1).trans hb2)).2.2 (HR.out w2 ((below_d w1).trans hb2)) hown hgr; clear hown; have d9 : w5.cell? ⟨Bw, 0, none⟩ = some v := hcz; have d10 := far_cell ((below_d w1).trans hb2) hgr HL1.out HV.out (Nat.ne_of_gt lw) d6; have d11 := far_cell ((below_d w1).trans hb2) hgr HL1.out HV.out (Nat.ne_of_gt lw) d7; have HZ : Hid (WSt base Bi Bw i _ _) := hz; have HY : Hid (Below base w _) := ((HB1.out.mono hbase).trans (((below_d w1).trans hb2).mono HT.out)).trans hy; clear hz hy))
    all_goals
      go_wp2_with (go_at_call 21; refine (sumOf_any _ _ _ hl hr).mono ?_; rintro e' w' ⟨rfl, rfl⟩)
      go_ret
      exact ⟨rfl, by rw [HW.out]; exact HZ.out, HY.out⟩
  · have HD : Hid (decide ((f : Int) ≤ i ∧ i < (e : Int)) = false) := decide_eq_false hin
    have HW : Hid (wStep i f m e l r s = s) := if_neg hin
    clear hin
    go_enter Tryd.func26, Tryd.ntmps26
    go_wp2_with fail
    refine (has_any _ _ _ _ _ _ _).mono ?_
    rintro e' w1 ⟨rfl, hb1⟩
    rw [HD.out]
    replace hb1 : Below (w.heap.size + 1) (w.alloc (.cells #[.int .i64 f, .int .i64 m, .int .i64 e, .int .i64 l, .int .i64 r] 50)) w1 := by simpa using hb1
    have hb0 : Below w.heap.size w w1 := ((Below.refl _ _).alloc (Nat.le_refl _) _).trans (hb1.mono (Nat.le_succ _))
    have HB1 : Hid (Below w.heap.size w w1) := hb0
    have dd : ∀ j, w1.cell? ⟨w.heap.size, j, none⟩ = #[Value.int .i64 f, .int .i64 m, .int .i64 e, .int .i64 l, .int .i64 r][j]? := fun j => by
      rw [hb1.cell (p := ⟨w.heap.size, j, none⟩) (Nat.lt_succ_self _)]; exact ncell_new _ _ _ _
    have d6 : w1.cell? ⟨w.heap.size, 3, none⟩ = some (.int .i64 l) := dd 3
    have d7 : w1.cell? ⟨w.heap.size, 4, none⟩ = some (.int .i64 r) := dd 4
    clear hb1 hb0 c1 dd
    go_wp2_with (go_at_call 21; refine (sumOf_any _ _ _ hl hr).mono ?_; rintro e' w' ⟨rfl, rfl⟩)
    go_ret
    exact ⟨rfl, by rw [HW.out]; exact (show WSt base Bi Bw i w s from ⟨hbi, hbw, HCI.out, v, HCW.out, HO.out⟩).later HB1.out, HB1.out.mono hbase⟩

end Go.Proofs.YtfokhdoeehdegaaDoor
