/- This text says what it means that the document's records lie in memory, and that they stay while some blocks are turned, and what boxes of the document's log hold; it proves append of such records; it speaks of no call of the program; no condition. -/
import Derived.Test.YtejganpamidkmaaDoorZ10
import Derived.Test.YtejganpamidkmaaDoorAp
namespace Go.Proofs.YtejganpamidkmaaDoor
open Go.RowKit Go.Deep Go.Maps

/-- A record as the document has it: of an end, no block, and a value below 0. -/
def pcB (r : Rc) : Int := if r.e = true then 0 else (r.b : Int)
def pcV (r : Rc) : Int := if r.e = true then -1 else (r.v : Int)
def plc : List Rc → List Value
  | [] => []
  | x :: l => .int .i64 (x.t : Int) :: .int .i64 (pcB x) :: .int .i64 (pcV x) :: plc l
theorem plc_len : ∀ l, (plc l).length = l.length * 3
  | [] => rfl
  | x :: l => by simp only [plc, List.length_cons, plc_len l]; omega
theorem plc_append : ∀ (a b : List Rc), plc (a ++ b) = plc a ++ plc b
  | [], b => rfl
  | y :: l, b => by simp only [plc, List.cons_append, plc_append l b]
theorem plc_snoc (x : Rc) (l : List Rc) : plc l ++ [.int .i64 (x.t : Int), .int .i64 (pcB x), .int .i64 (pcV x)] = plc (l ++ [x]) := by rw [plc_append]; rfl
theorem plc_one : ∀ (l : List Rc), ∀ u ∈ plc l, u.oneCell' = true
  | [], u, hu => by simp [plc] at hu
  | x :: l, u, hu => by
    simp only [plc, List.mem_cons] at hu
    rcases hu with rfl | rfl | rfl | hu
    · rfl
    · rfl
    · rfl
    · exact plc_one l u hu
theorem plc_at : ∀ (l : List Rc) (i : Nat), i < l.length → (plc l)[i * 3]? = some (.int .i64 ((rcAt l i).t : Int)) ∧ (plc l)[i * 3 + 1]? = some (.int .i64 (pcB (rcAt l i))) ∧ (plc l)[i * 3 + 2]? = some (.int .i64 (pcV (rcAt l i)))
  | [], i, h => by simp at h
  | x :: l, 0, _ => by simp [plc, rcAt]
  | x :: l, i + 1, h => by
    have := plc_at l i (by simpa using h)
    simp only [plc, show (i + 1) * 3 = i * 3 + 1 + 1 + 1 by omega, List.getElem?_cons_succ, rcAt, List.getD_cons_succ]
    exact this
theorem pcV_neg {r : Rc} : pcV r < 0 ↔ r.e = true := by
  unfold pcV
  by_cases h : r.e = true
  · rw [if_pos h]; simp [h]
  · rw [if_neg h]; constructor
    · intro k; omega
    · intro k; exact absurd k h

/-- The value is a slice that holds these records, as the document has them. -/
def PutsIs (w : World) (v : Value) (L : List Rc) : Prop :=
  ∃ a cap, v = .slice a L.length cap ∧ L.length ≤ cap ∧ (a = none ∨ ∃ b, a = some ⟨b, 0, none⟩) ∧ (L ≠ [] → ∃ b, a = some ⟨b, 0, none⟩ ∧ b < w.heap.size ∧
    ∀ i, i < L.length → w.cell? ⟨b, i * 3, none⟩ = some (.int .i64 ((rcAt L i).t : Int)) ∧ w.cell? ⟨b, i * 3 + 1, none⟩ = some (.int .i64 (pcB (rcAt L i))) ∧ w.cell? ⟨b, i * 3 + 2, none⟩ = some (.int .i64 (pcV (rcAt L i))))
theorem PutsIs.later {w w' : World} {v : Value} {L : List Rc} (h : PutsIs w v L) (hb : Below w.heap.size w w') : PutsIs w' v L := by
  obtain ⟨a, cap, hv, hl, hf, hx⟩ := h
  refine ⟨a, cap, hv, hl, hf, fun hne => ?_⟩
  obtain ⟨b, ha, hlt, hc⟩ := hx hne
  refine ⟨b, ha, Nat.lt_of_lt_of_le hlt hb.size, fun i hi => ?_⟩
  have := hc i hi
  exact ⟨by rw [hb.cell (p := ⟨b, i * 3, none⟩) hlt]; exact this.1, by rw [hb.cell (p := ⟨b, i * 3 + 1, none⟩) hlt]; exact this.2.1, by rw [hb.cell (p := ⟨b, i * 3 + 2, none⟩) hlt]; exact this.2.2⟩
theorem PutsIs.where {w : World} {v : Value} {L : List Rc} (h : PutsIs w v L) : ∃ a c b, v = .slice a L.length c ∧ L.length ≤ c ∧ (0 < L.length → a = some ⟨b, 0, none⟩) ∧ (0 < L.length → b < w.heap.size) ∧
    ∀ i, i < L.length → w.cell? ⟨b, i * 3, none⟩ = some (.int .i64 ((rcAt L i).t : Int)) ∧ w.cell? ⟨b, i * 3 + 1, none⟩ = some (.int .i64 (pcB (rcAt L i))) ∧ w.cell? ⟨b, i * 3 + 2, none⟩ = some (.int .i64 (pcV (rcAt L i))) := by
  obtain ⟨a, c, rfl, hl, _, hi⟩ := h
  by_cases hx : L = []
  · subst hx
    exact ⟨a, c, 0, rfl, hl, fun h => absurd h (by simp), fun h => absurd h (by simp), fun i h => absurd h (by simp)⟩
  · obtain ⟨b, ha, hb, hc⟩ := hi hx
    exact ⟨a, c, b, rfl, hl, fun _ => ha, fun _ => hb, hc⟩
theorem rcAt_take {L : List Rc} {K i : Nat} (hi : i < K) : rcAt (L.take K) i = rcAt L i := by
  unfold rcAt
  rw [List.getD_eq_getElem?_getD, List.getD_eq_getElem?_getD, List.getElem?_take, if_pos hi]
theorem PutsIs.front {w : World} {a : Option Addr} {N c K : Nat} {L : List Rc} (h : PutsIs w (.slice a N c) L) (hK : K ≤ N) : PutsIs w (.slice a K c) (L.take K) := by
  obtain ⟨a', c', e, hl, hf, hx⟩ := h
  cases e
  have hlen : (L.take K).length = K := by rw [List.length_take]; omega
  refine ⟨a, c, by rw [hlen], by omega, hf, fun hne => ?_⟩
  obtain ⟨b, ha, hb, hc⟩ := hx (fun e => hne (by rw [e, List.take_nil]))
  refine ⟨b, ha, hb, fun i hi => ?_⟩
  rw [hlen] at hi
  rw [rcAt_take hi]
  exact hc i (by omega)
theorem puts_own {w : World} {base n : Nat} {v : Value} {L : List Rc} (h : w.ownsRow base 35 3 v n (plc L)) : PutsIs w v L := by
  have hl : L.length = n := by have := h.1; rw [plc_len] at this; omega
  rcases h.2 with ⟨h0, h1⟩ | ⟨g, cap, cur, h1, h2, h3, h4, _⟩
  · subst h0
    obtain rfl : L = [] := List.length_eq_zero_iff.1 (by omega)
    exact ⟨none, 0, rfl, Nat.zero_le _, .inl rfl, fun h => absurd rfl h⟩
  · subst h1
    refine ⟨_, cap, by rw [hl], by omega, .inr ⟨g, rfl⟩, fun _ => ⟨g, rfl, (Array.getElem?_eq_some_iff.1 h3).1, fun i hi => ?_⟩⟩
    obtain ⟨k0, k1, k2⟩ := plc_at L i hi
    have m0 := h.cells (g := g) rfl (i * 3) _ k0
    have m1 := h.cells (g := g) rfl (i * 3 + 1) _ k1
    have m2 := h.cells (g := g) rfl (i * 3 + 2) _ k2
    rw [addr_at] at m0 m1 m2
    exact ⟨m0, m1, m2⟩

/-- What holds while some blocks are turned. -/
def KP (S : Nat → Prop) (w : World) (P : World → Prop) : Prop := ∀ w', Stay S w w' → P w'
theorem KP.is {S : Nat → Prop} {w : World} {P : World → Prop} (h : KP S w P) : P w := h w (Stay.refl _ _)
/-- Blocks that are new may be turned, too. -/
theorem KP.step {S T : Nat → Prop} {w w' : World} {P : World → Prop} (h : KP S w P) (hs : Stay S w w') (hT : ∀ x, T x → S x ∨ w.heap.size ≤ x) : KP T w' P := fun w2 k => h w2 (hs.next k hT)
theorem KP.puts {S : Nat → Prop} {w : World} {base n : Nat} {v : Value} {L : List Rc} (h : w.ownsRow base 35 3 v n (plc L)) (hS : ∀ x, S x → x < base) : KP S w (fun w => PutsIs w v L) := fun w' hs =>
  puts_own (own_block h fun b e => hs.block b (h.lt b e).2 fun k => by have := hS b k; have := (h.lt b e).1; omega)
theorem KP.list {S : Nat → Prop} {w : World} {base n : Nat} {v : Value} {xs : List Int} (h : w.ownsRow base 3 1 v n (cellsOf xs)) (hn : n ≤ 256) (hS : ∀ x, S x → x < base) : KP S w (fun w => SliceIs w v xs) := fun w' hs =>
  slice_own (own_block h fun b e => hs.block b (h.lt b e).2 fun k => by have := hS b k; have := (h.lt b e).1; omega) (by unfold maxLen; omega)

theorem Tryd.info35 : (Tryd.prog.info? 35).map (fun i => (i.zero, i.size, i.bytes)) = some (some (.agg #[.int .i64 0, .int .i64 0, .int .i64 0]), 3, 24) := by kernel_rfl

theorem puts_nil {P : Program} {w : World} (base : Nat) (t ty e : TypeId) (i : TypeInfo) (size c : Nat) (ht : P.underlying t = some (.slice e)) (hi : P.info? e = some i)
    (v : Value) (n : Nat) (xs : List Value) (hown : w.ownsRow base e size v n xs) : (Builtin.append_ #[t, t] ty #[v, .slice none 0 c]).run P w = .ok v w := run_append_nil base t ty e i size c ht hi v n xs hown

/-- append of the document's records onto a slice of the call's own. -/
theorem wpList_append_puts {ops : Array Oper} {rest : List Oper} {o : Oper} {a : Act} {w : World} {Q : Exit → Act → World → Prop} (hgd : o.guard = none) (s x : Operand)
    (ho : o.op = .call { callee := .builtin .append, args := #[s, x], argTypes := #[26, 26] })
    (base : Nat) (v : Value) (n : Nat) (L : List Rc) (hs : a.eval s = v) (hown : w.ownsRow base 35 3 v n (plc L)) (y : Value) (M : List Rc) (hx : a.eval x = y) (hy : PutsIs w y M)
    (h63 : n + M.length ≤ 100000) (hbase : base ≤ w.heap.size)
    (h : ∀ v' w', w'.ownsRow base 35 3 v' (n + M.length) (plc (L ++ M)) → Below base w w' → wpList Tryd.prog ops Q rest (a.put o.dst v') w') : wpList Tryd.prog ops Q (o :: rest) a w := by
  obtain ⟨ti, hti, hz0, hz1, hz2⟩ := info_parts Tryd.info35
  obtain ⟨ad, cap, rfl, hl, _, hi⟩ := hy
  cases ad with
  | none =>
    have h0 : M = [] := by
      refine Classical.byContradiction fun hne => ?_
      obtain ⟨b, h1, _⟩ := hi hne
      cases h1
    subst h0
    refine wpList_plain hgd fun K hK => ?_
    have hrun := puts_nil (P := Tryd.prog) (w := w) base 26 o.type 35 ti 3 cap Tryd.underlying26 hti v n _ hown
    unfold Oper.wp
    simp [execOp, ho, resolve, invoke, builtin, hs, hx, hrun, Result.andThen]
    refine hK _ _ (h v w ?_ (Below.refl _ _))
    simpa using hown
  | some ad =>
    have hc : ∀ j u, (plc M)[j]? = some u → w.cell? (ad.add j) = some u := by
      intro j u hj
      have hlj : j < M.length * 3 := by have := (List.getElem?_eq_some_iff.1 hj).1; rwa [plc_len] at this
      obtain ⟨b, h1, _, h2⟩ := hi (fun e => by rw [e] at hlj; simp at hlj)
      cases h1
      rw [addr_at]
      obtain ⟨k0, k1, k2⟩ := plc_at M (j / 3) (by omega)
      obtain ⟨m0, m1, m2⟩ := h2 (j / 3) (by omega)
      rcases (show j % 3 = 0 ∨ j % 3 = 1 ∨ j % 3 = 2 by omega) with e | e | e
      · have ej : j = j / 3 * 3 := by omega
        rw [← ej] at k0 m0
        rw [k0] at hj
        rw [m0]
        exact hj
      · have ej : j = j / 3 * 3 + 1 := by omega
        rw [← ej] at k1 m1
        rw [k1] at hj
        rw [m1]
        exact hj
      · have ej : j = j / 3 * 3 + 2 := by omega
        rw [← ej] at k2 m2
        rw [k2] at hj
        rw [m2]
        exact hj
    refine wpList_append_own w hgd s x 26 ho base 35 ti (.agg #[.int .i64 0, .int .i64 0, .int .i64 0]) 3 24 Tryd.underlying26 hti hz0 hz1 hz2 rfl (by decide) v n (plc L) hs hown ad M.length cap (plc M) hx (by rw [plc_len]) hc (plc_one M) (by unfold maxLen; omega) (by omega) hbase ?_
    intro v' w' h1 h2 _
    refine h v' w' ?_ ((Below.refl _ _).grown h2 hbase (fun k e => (hown.lt k e).1))
    rw [plc_append]
    exact h1

/-- A box of three values. -/
def Box3 (w : World) (b : Nat) (x y z : Value) : Prop := w.heap[b]? = some (.cells #[x, y, z] 28 (0, 0))
theorem Box3.facts {w : World} {b : Nat} {x y z : Value} (h : Box3 w b x y z) : w.cell? ⟨b, 0, none⟩ = some x ∧ w.cell? ⟨b, 1, none⟩ = some y ∧ w.cell? ⟨b, 2, none⟩ = some z ∧ w.frozen? ⟨b, 0, none⟩ = false ∧ w.frozen? ⟨b, 1, none⟩ = false ∧ w.frozen? ⟨b, 2, none⟩ = false := by
  unfold Box3 at h
  refine ⟨?_, ?_, ?_, ?_, ?_, ?_⟩ <;> simp [World.cell?, World.frozen?, h]
theorem Box3.lt {w : World} {b : Nat} {x y z : Value} (h : Box3 w b x y z) : b < w.heap.size := (Array.getElem?_eq_some_iff.1 h).1
theorem Box3.same {w w' : World} {b : Nat} {x y z : Value} (h : Box3 w b x y z) (hb : w'.heap[b]? = w.heap[b]?) : Box3 w' b x y z := hb.trans h
theorem Box3.later {w w' : World} {b : Nat} {x y z : Value} (h : Box3 w b x y z) (hb : Below w.heap.size w w') : Box3 w' b x y z := (hb.block b h.lt).trans h
theorem Box3.set {w : World} {b : Nat} {x y z : Value} (h : Box3 w b x y z) (p q r : Value) : Box3 (((w.setCell ⟨b, 0, none⟩ p).setCell ⟨b, 1, none⟩ q).setCell ⟨b, 2, none⟩ r) b p q r := by
  unfold Box3 at h ⊢
  simp [World.setCell, Array.getElem?_modify, h]
theorem Box3.set1 {w : World} {b : Nat} {x y z : Value} (h : Box3 w b x y z) (p : Value) : Box3 (w.setCell ⟨b, 1, none⟩ p) b x p z := by
  unfold Box3 at h ⊢
  simp [World.setCell, Array.getElem?_modify, h]
theorem Box3.set2 {w : World} {b : Nat} {x y z : Value} (h : Box3 w b x y z) (p : Value) : Box3 (w.setCell ⟨b, 2, none⟩ p) b x y p := by
  unfold Box3 at h ⊢
  simp [World.setCell, Array.getElem?_modify, h]
theorem box3_new (w : World) (x y z : Value) : Box3 (w.alloc (.cells #[x, y, z] 28)) w.heap.size x y z := blk_alloc_new _ _
/-- A box of the document's record. -/
def BoxP (w : World) (b : Nat) (x y z : Int) : Prop := w.heap[b]? = some (.cells #[.int .i64 x, .int .i64 y, .int .i64 z] 35 (0, 0))
theorem BoxP.facts {w : World} {b : Nat} {x y z : Int} (h : BoxP w b x y z) : w.cell? ⟨b, 0, none⟩ = some (.int .i64 x) ∧ w.cell? ⟨b, 1, none⟩ = some (.int .i64 y) ∧ w.cell? ⟨b, 2, none⟩ = some (.int .i64 z) ∧ w.frozen? ⟨b, 0, none⟩ = false ∧ w.frozen? ⟨b, 1, none⟩ = false ∧ w.frozen? ⟨b, 2, none⟩ = false := by
  unfold BoxP at h
  refine ⟨?_, ?_, ?_, ?_, ?_, ?_⟩ <;> simp [World.cell?, World.frozen?, h]
theorem BoxP.lt {w : World} {b : Nat} {x y z : Int} (h : BoxP w b x y z) : b < w.heap.size := (Array.getElem?_eq_some_iff.1 h).1
theorem BoxP.later {w w' : World} {b : Nat} {x y z : Int} (h : BoxP w b x y z) (hb : Below w.heap.size w w') : BoxP w' b x y z := (hb.block b h.lt).trans h
theorem BoxP.set {w : World} {b : Nat} {x y z : Int} (h : BoxP w b x y z) (p q r : Int) : BoxP (((w.setCell ⟨b, 0, none⟩ (.int .i64 p)).setCell ⟨b, 1, none⟩ (.int .i64 q)).setCell ⟨b, 2, none⟩ (.int .i64 r)) b p q r := by
  unfold BoxP at h ⊢
  simp [World.setCell, Array.getElem?_modify, h]
theorem boxP_new (w : World) (x y z : Int) : BoxP (w.alloc (.cells #[.int .i64 x, .int .i64 y, .int .i64 z] 35)) w.heap.size x y z := blk_alloc_new _ _

theorem results_cell2 {fn : Func} {p q : Tmp} {ty : TypeId} (h : fn.results = #[.cell p ty, .tmp q]) (tmps : Array Value) (P : Program) (w : World) :
    (results fn tmps).run P w = ((asAddr (tmps.getD p undef)).run P w).andThen fun a w₁ => ((loadVar ty a).run P w₁).andThen fun x w₂ => .ok (.tuple #[x, tmps.getD q undef]) w₂ := by
  simp only [results, h]
  simp [Sem.run_bind, Result.andThen]
theorem results_cell1 {fn : Func} {p : Tmp} {ty : TypeId} (h : fn.results = #[.cell p ty]) (tmps : Array Value) (P : Program) (w : World) :
    (results fn tmps).run P w = ((asAddr (tmps.getD p undef)).run P w).andThen fun a w₁ => (loadVar ty a).run P w₁ := by
  simp only [results, h]
  simp [Sem.run_bind, Result.andThen]
theorem below_set3 {G b : Nat} {w w' : World} (hb : Below G w w') (hle : G ≤ b) (x y z : Value) : Below G w (((w'.setCell ⟨b, 0, none⟩ x).setCell ⟨b, 1, none⟩ y).setCell ⟨b, 2, none⟩ z) :=
  ((hb.setCell (p := ⟨b, 0, none⟩) hle x).setCell (p := ⟨b, 1, none⟩) hle y).setCell (p := ⟨b, 2, none⟩) hle z
theorem stay_set3 {S : Nat → Prop} (w : World) {b : Nat} (hS : S b) (x y z : Value) : Stay S w (((w.setCell ⟨b, 0, none⟩ x).setCell ⟨b, 1, none⟩ y).setCell ⟨b, 2, none⟩ z) :=
  ((Stay.set (a := ⟨b, 0, none⟩) w x hS).trans (Stay.set (a := ⟨b, 1, none⟩) _ y hS)).trans (Stay.set (a := ⟨b, 2, none⟩) _ z hS)

end Go.Proofs.YtejganpamidkmaaDoor
