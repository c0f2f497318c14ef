/- This text says what it means that the document's notes lie in memory, and that they stay while some blocks are turned, and what boxes of the document's disk hold; it proves append of such notes, and what the document's own in and Set answer; it speaks of no call of the program; no condition. -/
import Derived.Test.YtkpfieemkjfjkaaDoorW12
import Derived.Test.YtkpfieemkjfjkaaDoorAp
namespace Go.Proofs.YtkpfieemkjfjkaaDoor
open Go.RowKit Go.Deep Go.Maps

theorem ntc_one : ∀ (l : List Nt), ∀ u ∈ ntc l, u.oneCell' = true
  | [], u, hu => by simp [ntc] at hu
  | x :: l, u, hu => by
    simp only [ntc, List.mem_cons] at hu
    rcases hu with rfl | rfl | rfl | hu
    · rfl
    · rfl
    · rfl
    · exact ntc_one l u hu

/-- The value is a slice that holds these notes, as the document has them. -/
def PutsIs (w : World) (v : Value) (L : List Nt) : Prop :=
  ∃ a cap, v = .slice a L.length cap ∧ L.length ≤ cap ∧ (a = none ∨ ∃ b, a = some ⟨b, 0, none⟩) ∧ (L ≠ [] → ∃ b, a = some ⟨b, 0, none⟩ ∧ b < w.heap.size ∧
    ∀ i, i < L.length → w.cell? ⟨b, i * 3, none⟩ = some (.int .i64 ((ntAt L i).t : Int)) ∧ w.cell? ⟨b, i * 3 + 1, none⟩ = some (.int .i64 ((ntAt L i).b : Int)) ∧ w.cell? ⟨b, i * 3 + 2, none⟩ = some (.int .i64 ((ntAt L i).w : Int)))
theorem PutsIs.later {w w' : World} {v : Value} {L : List Nt} (h : PutsIs w v L) (hb : Below w.heap.size w w') : PutsIs w' v L := by
  obtain ⟨a, cap, hv, hl, hf, hx⟩ := h
  refine ⟨a, cap, hv, hl, hf, fun hne => ?_⟩
  obtain ⟨b, ha, hlt, hc⟩ := hx hne
  refine ⟨b, ha, Nat.lt_of_lt_of_le hlt hb.size, fun i hi => ?_⟩
  have := hc i hi
  exact ⟨by rw [hb.cell (p := ⟨b, i * 3, none⟩) hlt]; exact this.1, by rw [hb.cell (p := ⟨b, i * 3 + 1, none⟩) hlt]; exact this.2.1, by rw [hb.cell (p := ⟨b, i * 3 + 2, none⟩) hlt]; exact this.2.2⟩
theorem PutsIs.where {w : World} {v : Value} {L : List Nt} (h : PutsIs w v L) : ∃ a c b, v = .slice a L.length c ∧ L.length ≤ c ∧ (0 < L.length → a = some ⟨b, 0, none⟩) ∧ (0 < L.length → b < w.heap.size) ∧
    ∀ i, i < L.length → w.cell? ⟨b, i * 3, none⟩ = some (.int .i64 ((ntAt L i).t : Int)) ∧ w.cell? ⟨b, i * 3 + 1, none⟩ = some (.int .i64 ((ntAt L i).b : Int)) ∧ w.cell? ⟨b, i * 3 + 2, none⟩ = some (.int .i64 ((ntAt L i).w : Int)) := by
  obtain ⟨a, c, rfl, hl, _, hi⟩ := h
  by_cases hx : L = []
  · subst hx
    exact ⟨a, c, 0, rfl, hl, fun h => absurd h (by simp), fun h => absurd h (by simp), fun i h => absurd h (by simp)⟩
  · obtain ⟨b, ha, hb, hc⟩ := hi hx
    exact ⟨a, c, b, rfl, hl, fun _ => ha, fun _ => hb, hc⟩
theorem puts_own {w : World} {base n : Nat} {v : Value} {L : List Nt} (h : w.ownsRow base 31 3 v n (ntc L)) : PutsIs w v L := by
  have hl : L.length = n := by have := h.1; rw [ntc_len] at this; omega
  rcases h.2 with ⟨h0, h1⟩ | ⟨g, cap, cur, h1, h2, h3, h4, _⟩
  · subst h0
    obtain rfl : L = [] := List.length_eq_zero_iff.1 (by omega)
    exact ⟨none, 0, rfl, Nat.zero_le _, .inl rfl, fun h => absurd rfl h⟩
  · subst h1
    refine ⟨_, cap, by rw [hl], by omega, .inr ⟨g, rfl⟩, fun _ => ⟨g, rfl, (Array.getElem?_eq_some_iff.1 h3).1, fun i hi => ?_⟩⟩
    obtain ⟨k0, k1, k2⟩ := ntc_at L i hi
    have m0 := h.cells (g := g) rfl (i * 3) _ k0
    have m1 := h.cells (g := g) rfl (i * 3 + 1) _ k1
    have m2 := h.cells (g := g) rfl (i * 3 + 2) _ k2
    rw [addr_at] at m0 m1 m2
    exact ⟨m0, m1, m2⟩
def KP (S : Nat → Prop) (w : World) (P : World → Prop) : Prop := ∀ w', Stay S w w' → P w'
theorem KP.is {S : Nat → Prop} {w : World} {P : World → Prop} (h : KP S w P) : P w := h w (Stay.refl _ _)
theorem KP.step {S T : Nat → Prop} {w w' : World} {P : World → Prop} (h : KP S w P) (hs : Stay S w w') (hT : ∀ x, T x → S x ∨ w.heap.size ≤ x) : KP T w' P := fun w2 k => h w2 (hs.next k hT)
theorem KP.puts {S : Nat → Prop} {w : World} {base n : Nat} {v : Value} {L : List Nt} (h : w.ownsRow base 31 3 v n (ntc L)) (hS : ∀ x, S x → x < base) : KP S w (fun w => PutsIs w v L) := fun w' hs =>
  puts_own (own_block h fun b e => hs.block b (h.lt b e).2 fun k => by have := hS b k; have := (h.lt b e).1; omega)
theorem KP.list {S : Nat → Prop} {w : World} {base n : Nat} {v : Value} {xs : List Int} (h : w.ownsRow base 3 1 v n (cellsOf xs)) (hn : n ≤ 256) (hS : ∀ x, S x → x < base) : KP S w (fun w => SliceIs w v xs) := fun w' hs =>
  slice_own (own_block h fun b e => hs.block b (h.lt b e).2 fun k => by have := hS b k; have := (h.lt b e).1; omega) (by unfold maxLen; omega)
theorem Tryd.info31 : (Tryd.prog.info? 31).map (fun i => (i.zero, i.size, i.bytes)) = some (some (.agg #[.int .i64 0, .int .i64 0, .int .i64 0]), 3, 24) := by kernel_rfl
theorem puts_nil {P : Program} {w : World} (base : Nat) (t ty e : TypeId) (i : TypeInfo) (size c : Nat) (ht : P.underlying t = some (.slice e)) (hi : P.info? e = some i)
    (v : Value) (n : Nat) (xs : List Value) (hown : w.ownsRow base e size v n xs) : (Builtin.append_ #[t, t] ty #[v, .slice none 0 c]).run P w = .ok v w := run_append_nil base t ty e i size c ht hi v n xs hown
theorem wpList_append_puts {ops : Array Oper} {rest : List Oper} {o : Oper} {a : Act} {w : World} {Q : Exit → Act → World → Prop} (hgd : o.guard = none) (s x : Operand)
    (ho : o.op = .call { callee := .builtin .append, args := #[s, x], argTypes := #[37, 37] })
    (base : Nat) (v : Value) (n : Nat) (L : List Nt) (hs : a.eval s = v) (hown : w.ownsRow base 31 3 v n (ntc L)) (y : Value) (M : List Nt) (hx : a.eval x = y) (hy : PutsIs w y M)
    (h63 : n + M.length ≤ 100000) (hbase : base ≤ w.heap.size)
    (h : ∀ v' w', w'.ownsRow base 31 3 v' (n + M.length) (ntc (L ++ M)) → Below base w w' → wpList Tryd.prog ops Q rest (a.put o.dst v') w') : wpList Tryd.prog ops Q (o :: rest) a w := by
  obtain ⟨ti, hti, hz0, hz1, hz2⟩ := info_parts Tryd.info31
  obtain ⟨ad, cap, rfl, hl, _, hi⟩ := hy
  cases ad with
  | none =>
    have h0 : M = [] := by
      refine Classical.byContradiction fun hne => ?_
      obtain ⟨b, h1, _⟩ := hi hne
      cases h1
    subst h0
    refine wpList_plain hgd fun K hK => ?_
    have hrun := puts_nil (P := Tryd.prog) (w := w) base 37 o.type 31 ti 3 cap Tryd.underlying37 hti v n _ hown
    unfold Oper.wp
    simp [execOp, ho, resolve, invoke, builtin, hs, hx, hrun, Result.andThen]
    refine hK _ _ (h v w ?_ (Below.refl _ _))
    simpa using hown
  | some ad =>
    have hc : ∀ j u, (ntc M)[j]? = some u → w.cell? (ad.add j) = some u := by
      intro j u hj
      have hlj : j < M.length * 3 := by have := (List.getElem?_eq_some_iff.1 hj).1; rwa [ntc_len] at this
      obtain ⟨b, h1, _, h2⟩ := hi (fun e => by rw [e] at hlj; simp at hlj)
      cases h1
      rw [addr_at]
      obtain ⟨k0, k1, k2⟩ := ntc_at M (j / 3) (by omega)
      obtain ⟨m0, m1, m2⟩ := h2 (j / 3) (by omega)
      rcases (show j % 3 = 0 ∨ j % 3 = 1 ∨ j % 3 = 2 by omega) with e | e | e
      · have ej : j = j / 3 * 3 := by omega
        rw [← ej] at k0 m0
        rw [k0] at hj
        rw [m0]
        exact hj
      · have ej : j = j / 3 * 3 + 1 := by omega
        rw [← ej] at k1 m1
        rw [k1] at hj
        rw [m1]
        exact hj
      · have ej : j = j / 3 * 3 + 2 := by omega
        rw [← ej] at k2 m2
        rw [k2] at hj
        rw [m2]
        exact hj
    refine wpList_append_own w hgd s x 37 ho base 31 ti (.agg #[.int .i64 0, .int .i64 0, .int .i64 0]) 3 24 Tryd.underlying37 hti hz0 hz1 hz2 rfl (by decide) v n (ntc L) hs hown ad M.length cap (ntc M) hx (by rw [ntc_len]) hc (ntc_one M) (by unfold maxLen; omega) (by omega) hbase ?_
    intro v' w' h1 h2 _
    refine h v' w' ?_ ((Below.refl _ _).grown h2 hbase (fun k e => (hown.lt k e).1))
    rw [ntc_append]
    exact h1

/-- A box of three values. -/
def Box3 (w : World) (b : Nat) (x y z : Value) : Prop := w.heap[b]? = some (.cells #[x, y, z] 39 (0, 0))
theorem Box3.facts {w : World} {b : Nat} {x y z : Value} (h : Box3 w b x y z) : w.cell? ⟨b, 0, none⟩ = some x ∧ w.cell? ⟨b, 1, none⟩ = some y ∧ w.cell? ⟨b, 2, none⟩ = some z ∧ w.frozen? ⟨b, 0, none⟩ = false ∧ w.frozen? ⟨b, 1, none⟩ = false ∧ w.frozen? ⟨b, 2, none⟩ = false := by
  unfold Box3 at h
  refine ⟨?_, ?_, ?_, ?_, ?_, ?_⟩ <;> simp [World.cell?, World.frozen?, h]
theorem Box3.lt {w : World} {b : Nat} {x y z : Value} (h : Box3 w b x y z) : b < w.heap.size := (Array.getElem?_eq_some_iff.1 h).1
theorem Box3.same {w w' : World} {b : Nat} {x y z : Value} (h : Box3 w b x y z) (hb : w'.heap[b]? = w.heap[b]?) : Box3 w' b x y z := hb.trans h
theorem Box3.later {w w' : World} {b : Nat} {x y z : Value} (h : Box3 w b x y z) (hb : Below w.heap.size w w') : Box3 w' b x y z := (hb.block b h.lt).trans h
theorem Box3.set {w : World} {b : Nat} {x y z : Value} (h : Box3 w b x y z) (p q r : Value) : Box3 (((w.setCell ⟨b, 0, none⟩ p).setCell ⟨b, 1, none⟩ q).setCell ⟨b, 2, none⟩ r) b p q r := by
  unfold Box3 at h ⊢
  simp [World.setCell, Array.getElem?_modify, h]
theorem box3_new (w : World) (x y z : Value) : Box3 (w.alloc (.cells #[x, y, z] 39)) w.heap.size x y z := blk_alloc_new _ _
def BoxP (w : World) (b : Nat) (x y z : Int) : Prop := w.heap[b]? = some (.cells #[.int .i64 x, .int .i64 y, .int .i64 z] 31 (0, 0))
theorem BoxP.facts {w : World} {b : Nat} {x y z : Int} (h : BoxP w b x y z) : w.cell? ⟨b, 0, none⟩ = some (.int .i64 x) ∧ w.cell? ⟨b, 1, none⟩ = some (.int .i64 y) ∧ w.cell? ⟨b, 2, none⟩ = some (.int .i64 z) ∧ w.frozen? ⟨b, 0, none⟩ = false ∧ w.frozen? ⟨b, 1, none⟩ = false ∧ w.frozen? ⟨b, 2, none⟩ = false := by
  unfold BoxP at h
  refine ⟨?_, ?_, ?_, ?_, ?_, ?_⟩ <;> simp [World.cell?, World.frozen?, h]
theorem BoxP.lt {w : World} {b : Nat} {x y z : Int} (h : BoxP w b x y z) : b < w.heap.size := (Array.getElem?_eq_some_iff.1 h).1
theorem BoxP.later {w w' : World} {b : Nat} {x y z : Int} (h : BoxP w b x y z) (hb : Below w.heap.size w w') : BoxP w' b x y z := (hb.block b h.lt).trans h
theorem boxP_new (w : World) (x y z : Int) : BoxP (w.alloc (.cells #[.int .i64 x, .int .i64 y, .int .i64 z] 31)) w.heap.size x y z := blk_alloc_new _ _
theorem results_cell2 {fn : Func} {p q : Tmp} {ty : TypeId} (h : fn.results = #[.cell p ty, .tmp q]) (tmps : Array Value) (P : Program) (w : World) :
    (results fn tmps).run P w = ((asAddr (tmps.getD p undef)).run P w).andThen fun a w₁ => ((loadVar ty a).run P w₁).andThen fun x w₂ => .ok (.tuple #[x, tmps.getD q undef]) w₂ := by
  simp only [results, h]
  simp [Sem.run_bind, Result.andThen]
theorem results_cell1 {fn : Func} {p : Tmp} {ty : TypeId} (h : fn.results = #[.cell p ty]) (tmps : Array Value) (P : Program) (w : World) :
    (results fn tmps).run P w = ((asAddr (tmps.getD p undef)).run P w).andThen fun a w₁ => (loadVar ty a).run P w₁ := by
  simp only [results, h]
  simp [Sem.run_bind, Result.andThen]
theorem below_set3 {G b : Nat} {w w' : World} (hb : Below G w w') (hle : G ≤ b) (x y z : Value) : Below G w (((w'.setCell ⟨b, 0, none⟩ x).setCell ⟨b, 1, none⟩ y).setCell ⟨b, 2, none⟩ z) :=
  ((hb.setCell (p := ⟨b, 0, none⟩) hle x).setCell (p := ⟨b, 1, none⟩) hle y).setCell (p := ⟨b, 2, none⟩) hle z
theorem stay_set3 {S : Nat → Prop} (w : World) {b : Nat} (hS : S b) (x y z : Value) : Stay S w (((w.setCell ⟨b, 0, none⟩ x).setCell ⟨b, 1, none⟩ y).setCell ⟨b, 2, none⟩ z) :=
  ((Stay.set (a := ⟨b, 0, none⟩) w x hS).trans (Stay.set (a := ⟨b, 1, none⟩) _ y hS)).trans (Stay.set (a := ⟨b, 2, none⟩) _ z hS)

theorem own_down {w : World} {base base' e n : Nat} {v : Value} {xs : List Value} (h : w.ownsRow base e 1 v n xs) (hb : base' ≤ base) : w.ownsRow base' e 1 v n xs := by
  refine ⟨h.1, ?_⟩
  rcases h.2 with h0 | ⟨b, cap, cur, h1, h2, h3⟩
  · exact .inl h0
  · exact .inr ⟨b, cap, cur, h1, Nat.le_trans hb h2, h3⟩
set_option maxHeartbeats 1000000 in
theorem rin_any (x lo hi : Int) (w : World) :
    Calls Tryd.prog 24 #[.int .i64 x, .int .i64 lo, .int .i64 hi] w fun e w' => e = .returned (.bool (decide (lo ≤ x ∧ x ≤ hi))) ∧ w = w' := by
  by_cases h1 : lo ≤ x
  · by_cases h2 : x ≤ hi
    · have e : decide (lo ≤ x ∧ x ≤ hi) = true := by simp [h1, h2]
      rw [e]
      go_enter Tryd.func24, Tryd.ntmps24
      go_wp2
      go_ret
      exact ⟨rfl, rfl⟩
    · have e : decide (lo ≤ x ∧ x ≤ hi) = false := by simp [h2]
      rw [e]
      go_enter Tryd.func24, Tryd.ntmps24
      go_wp2
      go_ret
      exact ⟨rfl, rfl⟩
  · have e : decide (lo ≤ x ∧ x ≤ hi) = false := by simp [h1]
    rw [e]
    go_enter Tryd.func24, Tryd.ntmps24
    go_wp2
    go_ret
    exact ⟨rfl, rfl⟩
theorem rin_yes (x lo hi : Int) (w : World) (h : lo ≤ x ∧ x ≤ hi) :
    Calls Tryd.prog 24 #[.int .i64 x, .int .i64 lo, .int .i64 hi] w fun e w' => e = .returned (.bool true) ∧ w = w' := by
  have := rin_any x lo hi w
  rwa [decide_eq_true h] at this
theorem rin_no (x lo hi : Int) (w : World) (h : ¬ (lo ≤ x ∧ x ≤ hi)) :
    Calls Tryd.prog 24 #[.int .i64 x, .int .i64 lo, .int .i64 hi] w fun e w' => e = .returned (.bool false) ∧ w = w' := by
  have := rin_any x lo hi w
  rwa [decide_eq_false h] at this

set_option maxHeartbeats 2000000 in
theorem set_own (w : World) (v : Value) (xs : List Int) (n k : Nat) (x : Int) (hx : SliceIs w v xs) (hxn : xs.length = n) (hk : k < n) (hn : n ≤ 256) :
    Calls Tryd.prog 25 #[v, .int .i64 (k : Int), .int .i64 x] w fun e w' => ∃ g cap, e = .returned (.slice (some ⟨g, 0, none⟩) n cap) ∧ w'.ownsRow w.heap.size 3 1 (.slice (some ⟨g, 0, none⟩) n cap) n (cellsOf (xs.set k x)) ∧ Below w.heap.size w w' := by
  have HX : Hid (SliceIs w v xs) := hx
  have HN : Hid (n = xs.length) := hxn.symm
  clear hx hxn
  go_enter Tryd.func25, Tryd.ntmps25
  go_wp2_with (at_builtin; refine wpList_append_ints rfl (.tmp 8) (.tmp 9) rfl w.heap.size (.slice none 0 0) 0 [] rfl (World.ownsRow_nil _ _ _ _) v xs rfl HX.out ?q1 ?q2 ?q3)
  case q1 => rw [← HN.out]; omega
  case q2 => exact Nat.le_refl _
  case q3 =>
    intro v1 w1 hown hb
    rw [← HN.out] at hown
    obtain ⟨g, cap, rfl, hg1, hg2⟩ := own_where hown (by omega)
    have HB : Hid (Below w.heap.size w w1) := hb
    have HG : Hid (g < w1.heap.size ∧ w.heap.size ≤ g) := ⟨hg2, hg1⟩
    have hc1 : w1.cell? ⟨g, k, none⟩ = some (.int .i64 (nth xs k)) := by rw [hown.cellAt k (by omega), cellsOf_get (by rw [← HN.out]; exact hk)]
    have hf1 : w1.frozen? ⟨g, k, none⟩ = false := hown.frozenAt k
    have HO2 : Hid ((w1.setCell ⟨g, k, none⟩ (.int .i64 x)).ownsRow w.heap.size 3 1 (.slice (some ⟨g, 0, none⟩) n cap) n (cellsOf (xs.set k x))) := by
      have := hown.stored k (.int .i64 x)
      rw [cellsOf_set] at this
      exact this.1
    have hki : (k : Int) < (n : Int) := by omega
    clear hown hb hg1 hg2
    go_wp2
    go_ret
    exact ⟨g, cap, rfl, HO2.out, HB.out.setCell HG.out.2 _⟩
theorem lst_put (H : Nat → Nat) (b v : Nat) : (lst H).set b (v : Int) = lst (putV H b v) := by
  refine List.ext_getElem (by simp [lst]) fun i h1 h2 => ?_
  rw [List.getElem_set]
  by_cases e : b = i
  · subst e; simp [lst, putV]
  · have e' : ¬ i = b := fun h => e h.symm
    rw [if_neg e]; simp [lst, putV, e']
theorem own_base {w : World} {base base' e z n : Nat} {v : Value} {xs : List Value} (h : w.ownsRow base e z v n xs) (hb : base' ≤ base) : w.ownsRow base' e z v n xs := by
  refine ⟨h.1, ?_⟩
  rcases h.2 with h0 | ⟨b, cap, cur, h1, h2, h3⟩
  · exact .inl h0
  · exact .inr ⟨b, cap, cur, h1, Nat.le_trans hb h2, h3⟩

end Go.Proofs.YtkpfieemkjfjkaaDoor
