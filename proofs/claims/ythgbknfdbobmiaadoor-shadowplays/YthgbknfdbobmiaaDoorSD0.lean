/- This text says what boxes of the document's disk hold, and what stays of lists while some blocks are turned; it proves what the document's own Has and Set answer, and that two lists grow beside each other; it speaks of no call of the program; the conditions are those that each fact names. -/
import Derived.Test.YthgbknfdbobmiaaDoorS5
import Derived.Test.YthgbknfdbobmiaaDoorAp
import Derived.Test.YthgbknfdbobmiaaDoorLj
import Derived.Deep.AppendLies
namespace Go.Proofs.YthgbknfdbobmiaaDoor
open Go.RowKit Go.Deep

def KP (S : Nat → Prop) (w : World) (P : World → Prop) : Prop := ∀ w', Stay S w w' → P w'
theorem KP.is {S : Nat → Prop} {w : World} {P : World → Prop} (h : KP S w P) : P w := h w (Stay.refl _ _)
theorem KP.step {S T : Nat → Prop} {w w' : World} {P : World → Prop} (h : KP S w P) (hs : Stay S w w') (hT : ∀ x, T x → S x ∨ w.heap.size ≤ x) : KP T w' P := fun w2 k => h w2 (hs.next k hT)
theorem KP.list {S : Nat → Prop} {w : World} {base n : Nat} {v : Value} {xs : List Int} (h : w.ownsRow base 3 1 v n (cellsOf xs)) (hn : n ≤ 256) (hS : ∀ x, S x → x < base) : KP S w (fun w => SliceIs w v xs) := fun w' hs =>
  slice_own (own_block h fun b e => hs.block b (h.lt b e).2 fun k => by have := hS b k; have := (h.lt b e).1; omega) (by unfold maxLen; omega)
/-- A box of three values. -/
def Box3 (w : World) (b : Nat) (x y z : Value) : Prop := w.heap[b]? = some (.cells #[x, y, z] 27 (0, 0))
theorem Box3.facts {w : World} {b : Nat} {x y z : Value} (h : Box3 w b x y z) : w.cell? ⟨b, 0, none⟩ = some x ∧ w.cell? ⟨b, 1, none⟩ = some y ∧ w.cell? ⟨b, 2, none⟩ = some z ∧ w.frozen? ⟨b, 0, none⟩ = false ∧ w.frozen? ⟨b, 1, none⟩ = false ∧ w.frozen? ⟨b, 2, none⟩ = false := by
  unfold Box3 at h
  refine ⟨?_, ?_, ?_, ?_, ?_, ?_⟩ <;> simp [World.cell?, World.frozen?, h]
theorem Box3.lt {w : World} {b : Nat} {x y z : Value} (h : Box3 w b x y z) : b < w.heap.size := (Array.getElem?_eq_some_iff.1 h).1
theorem Box3.same {w w' : World} {b : Nat} {x y z : Value} (h : Box3 w b x y z) (hb : w'.heap[b]? = w.heap[b]?) : Box3 w' b x y z := hb.trans h
theorem Box3.later {w w' : World} {b : Nat} {x y z : Value} (h : Box3 w b x y z) (hb : Below w.heap.size w w') : Box3 w' b x y z := (hb.block b h.lt).trans h
theorem Box3.set {w : World} {b : Nat} {x y z : Value} (h : Box3 w b x y z) (p q r : Value) : Box3 (((w.setCell ⟨b, 0, none⟩ p).setCell ⟨b, 1, none⟩ q).setCell ⟨b, 2, none⟩ r) b p q r := by
  unfold Box3 at h ⊢
  simp [World.setCell, Array.getElem?_modify, h]
theorem box3_new (w : World) (x y z : Value) : Box3 (w.alloc (.cells #[x, y, z] 27)) w.heap.size x y z := blk_alloc_new _ _
theorem results_cell2 {fn : Func} {p q : Tmp} {ty : TypeId} (h : fn.results = #[.cell p ty, .tmp q]) (tmps : Array Value) (P : Program) (w : World) :
    (results fn tmps).run P w = ((asAddr (tmps.getD p undef)).run P w).andThen fun a w₁ => ((loadVar ty a).run P w₁).andThen fun x w₂ => .ok (.tuple #[x, tmps.getD q undef]) w₂ := by
  simp only [results, h]
  simp [Sem.run_bind, Result.andThen]
theorem results_cell1 {fn : Func} {p : Tmp} {ty : TypeId} (h : fn.results = #[.cell p ty]) (tmps : Array Value) (P : Program) (w : World) :
    (results fn tmps).run P w = ((asAddr (tmps.getD p undef)).run P w).andThen fun a w₁ => (loadVar ty a).run P w₁ := by
  simp only [results, h]
  simp [Sem.run_bind, Result.andThen]
theorem below_set3 {G b : Nat} {w w' : World} (hb : Below G w w') (hle : G ≤ b) (x y z : Value) : Below G w (((w'.setCell ⟨b, 0, none⟩ x).setCell ⟨b, 1, none⟩ y).setCell ⟨b, 2, none⟩ z) :=
  ((hb.setCell (p := ⟨b, 0, none⟩) hle x).setCell (p := ⟨b, 1, none⟩) hle y).setCell (p := ⟨b, 2, none⟩) hle z
theorem stay_set3 {S : Nat → Prop} (w : World) {b : Nat} (hS : S b) (x y z : Value) : Stay S w (((w.setCell ⟨b, 0, none⟩ x).setCell ⟨b, 1, none⟩ y).setCell ⟨b, 2, none⟩ z) :=
  ((Stay.set (a := ⟨b, 0, none⟩) w x hS).trans (Stay.set (a := ⟨b, 1, none⟩) _ y hS)).trans (Stay.set (a := ⟨b, 2, none⟩) _ z hS)
theorem own_down {w : World} {base base' e n : Nat} {v : Value} {xs : List Value} (h : w.ownsRow base e 1 v n xs) (hb : base' ≤ base) : w.ownsRow base' e 1 v n xs := by
  refine ⟨h.1, ?_⟩
  rcases h.2 with h0 | ⟨b, cap, cur, h1, h2, h3⟩
  · exact .inl h0
  · exact .inr ⟨b, cap, cur, h1, Nat.le_trans hb h2, h3⟩
set_option maxHeartbeats 2000000 in
theorem set_own (w : World) (v : Value) (xs : List Int) (n k : Nat) (x : Int) (hx : SliceIs w v xs) (hxn : xs.length = n) (hk : k < n) (hn : n ≤ 256) :
    Calls Tryd.prog 17 #[v, .int .i64 (k : Int), .int .i64 x] w fun e w' => ∃ g cap, e = .returned (.slice (some ⟨g, 0, none⟩) n cap) ∧ w'.ownsRow w.heap.size 3 1 (.slice (some ⟨g, 0, none⟩) n cap) n (cellsOf (xs.set k x)) ∧ Below w.heap.size w w' := by
  have HX : Hid (SliceIs w v xs) := hx
  have HN : Hid (n = xs.length) := hxn.symm
  clear hx hxn
  go_enter Tryd.func17, Tryd.ntmps17
  go_wp2_with (at_builtin; refine wpList_append_ints rfl (.tmp 8) (.tmp 9) rfl w.heap.size (.slice none 0 0) 0 [] rfl (World.ownsRow_nil _ _ _ _) v xs rfl HX.out ?q1 ?q2 ?q3)
  case q1 => rw [← HN.out]; omega
  case q2 => exact Nat.le_refl _
  case q3 =>
    intro v1 w1 hown hb
    rw [← HN.out] at hown
    obtain ⟨g, cap, rfl, hg1, hg2⟩ := own_where hown (by omega)
    have HB : Hid (Below w.heap.size w w1) := hb
    have HG : Hid (g < w1.heap.size ∧ w.heap.size ≤ g) := ⟨hg2, hg1⟩
    have hc1 : w1.cell? ⟨g, k, none⟩ = some (.int .i64 (nth xs k)) := by rw [hown.cellAt k (by omega), cellsOf_get (by rw [← HN.out]; exact hk)]
    have hf1 : w1.frozen? ⟨g, k, none⟩ = false := hown.frozenAt k
    have HO2 : Hid ((w1.setCell ⟨g, k, none⟩ (.int .i64 x)).ownsRow w.heap.size 3 1 (.slice (some ⟨g, 0, none⟩) n cap) n (cellsOf (xs.set k x))) := by
      have := hown.stored k (.int .i64 x)
      rw [cellsOf_set] at this
      exact this.1
    have hki : (k : Int) < (n : Int) := by omega
    clear hown hb hg1 hg2
    go_wp2
    go_ret
    exact ⟨g, cap, rfl, HO2.out, HB.out.setCell HG.out.2 _⟩
theorem own_base {w : World} {base base' e z n : Nat} {v : Value} {xs : List Value} (h : w.ownsRow base e z v n xs) (hb : base' ≤ base) : w.ownsRow base' e z v n xs := by
  refine ⟨h.1, ?_⟩
  rcases h.2 with h0 | ⟨b, cap, cur, h1, h2, h3⟩
  · exact .inl h0
  · exact .inr ⟨b, cap, cur, h1, Nat.le_trans hb h2, h3⟩
theorem Box3.set0 {w : World} {b : Nat} {x y z : Value} (h : Box3 w b x y z) (p : Value) : Box3 (w.setCell ⟨b, 0, none⟩ p) b p y z := by
  unfold Box3 at h ⊢
  simp [World.setCell, Array.getElem?_modify, h]
theorem Box3.set1 {w : World} {b : Nat} {x y z : Value} (h : Box3 w b x y z) (p : Value) : Box3 (w.setCell ⟨b, 1, none⟩ p) b x p z := by
  unfold Box3 at h ⊢
  simp [World.setCell, Array.getElem?_modify, h]
theorem Box3.set2 {w : World} {b : Nat} {x y z : Value} (h : Box3 w b x y z) (p : Value) : Box3 (w.setCell ⟨b, 2, none⟩ p) b x y p := by
  unfold Box3 at h ⊢
  simp [World.setCell, Array.getElem?_modify, h]
theorem size_set3 (w : World) (g : Nat) (p q r : Value) : (((w.setCell ⟨g, 0, none⟩ p).setCell ⟨g, 1, none⟩ q).setCell ⟨g, 2, none⟩ r).heap.size = w.heap.size := by simp [World.setCell]
theorem own_set3 {w : World} {base e z n : Nat} {v : Value} {xs : List Value} (h : w.ownsRow base e z v n xs) {g : Nat} (hg : g < base) (p q r : Value) : (((w.setCell ⟨g, 0, none⟩ p).setCell ⟨g, 1, none⟩ q).setCell ⟨g, 2, none⟩ r).ownsRow base e z v n xs :=
  own_block h fun b e => by
    have := (h.lt b e).1
    rw [Below.heap_setCell _ ⟨g, 2, none⟩ _ b (by show b ≠ g; omega), Below.heap_setCell _ ⟨g, 1, none⟩ _ b (by show b ≠ g; omega), Below.heap_setCell _ ⟨g, 0, none⟩ _ b (by show b ≠ g; omega)]
theorem own_set1 {w : World} {base e z n : Nat} {v : Value} {xs : List Value} (h : w.ownsRow base e z v n xs) {a : Addr} (hg : a.block < base) (p : Value) : (w.setCell a p).ownsRow base e z v n xs :=
  own_block h fun b e => Below.heap_setCell w a p b (by have := (h.lt b e).1; omega)
theorem news_one (w : World) (u : Value) (t : TypeId) : ∀ (j : Nat) (z : Value), [u][j]? = some z → (w.alloc (.cells #[u] t)).cell? ((⟨w.heap.size, 0, none⟩ : Addr).add j) = some z := by
  intro j x hx
  rw [addr_at, cell_new]
  simpa using hx
theorem ones_one (x : Int) : ∀ u ∈ [Value.int .i64 x], u.oneCell' = true := fun u hu => by
  rw [List.mem_singleton] at hu
  subst hu
  rfl
/-- Two lists that grow beside each other, and the box that holds them. -/
structure NwSt (w1 wr : World) (P j k : Nat) (zz u v : Value) : Prop where
  box : Box3 wr P zz u v
  a : wr.ownsRow w1.heap.size 3 1 u j (cellsOf (List.replicate j (-1)))
  b : wr.ownsRow w1.heap.size 3 1 v k (cellsOf (List.replicate k (-1)))
  ap : ∀ x, u.ownBlock = some x → v.ownBlock ≠ some x
  st : Stay (fun x => x = P) w1 wr
theorem NwSt.fst {w1 wr w2 : World} {P j k g cap : Nat} {zz u v : Value} {o : Obj} (h : NwSt w1 wr P j k zz u v) (hP : P < w1.heap.size)
    (ho : w2.ownsRow w1.heap.size 3 1 (.slice (some ⟨g, 0, none⟩) (j + 1) cap) (j + 1) (cellsOf (List.replicate j (-1)) ++ [.int .i64 (-1)])) (hg : (wr.alloc o).grownBy w2 u.ownBlock) (hl : u.ownBlock = some g ∨ g = wr.heap.size + 1) :
    NwSt w1 (w2.setCell ⟨P, 1, none⟩ (.slice (some ⟨g, 0, none⟩) (j + 1) cap)) P (j + 1) k zz (.slice (some ⟨g, 0, none⟩) (j + 1) cap) v := by
  have hs1 := h.st.size
  have hsz : (wr.alloc o).heap.size = wr.heap.size + 1 := by simp
  have hlt : wr.heap.size < (wr.alloc o).heap.size := by omega
  have hB := below_one wr o
  have keep : ∀ x, x < wr.heap.size → u.ownBlock ≠ some x → w2.heap[x]? = wr.heap[x]? := fun x hx hn => (hg.block x (by omega) fun e => hn e.symm).trans (hB.block x hx)
  have hnu : u.ownBlock ≠ some P := fun e => by have := (h.a.lt P e).1; omega
  have hnP : ∀ x, x ≠ P → ∀ y : Value, (w2.setCell ⟨P, 1, none⟩ y).heap[x]? = w2.heap[x]? := fun x hx y => Below.heap_setCell w2 ⟨P, 1, none⟩ y x hx
  refine ⟨(h.box.same (keep P (by omega) hnu)).set1 _, ?_, ?_, ?_, ?_⟩
  · rw [cellsOf_snoc, ← List.replicate_succ'] at ho
    exact own_set1 ho (a := ⟨P, 1, none⟩) hP _
  · refine own_block h.b fun x e => ?_
    have := h.b.lt x e
    rw [hnP x (by omega)]
    exact keep x this.2 fun k => h.ap x k e
  · intro x e k
    have hx : g = x := by simpa [Value.ownBlock] using e
    subst hx
    rcases hl with m | m
    · exact h.ap g m k
    · have := (h.b.lt g k).2; omega
  · refine ⟨hg.os.trans (hB.os.trans h.st.os), hg.tape.trans (hB.tape.trans h.st.tape), hg.output.trans (hB.output.trans h.st.output), ?_, fun x hx hn => ?_⟩
    · have := hg.size
      simp only [World.setCell, Array.size_modify]
      omega
    · rw [hnP x hn]
      exact (keep x (by omega) fun e => by have := (h.a.lt x e).1; omega).trans (h.st.block x hx hn)
theorem NwSt.snd {w1 wr w2 : World} {P j k g cap : Nat} {zz u v : Value} {o : Obj} (h : NwSt w1 wr P j k zz u v) (hP : P < w1.heap.size)
    (ho : w2.ownsRow w1.heap.size 3 1 (.slice (some ⟨g, 0, none⟩) (k + 1) cap) (k + 1) (cellsOf (List.replicate k (-1)) ++ [.int .i64 (-1)])) (hg : (wr.alloc o).grownBy w2 v.ownBlock) (hl : v.ownBlock = some g ∨ g = wr.heap.size + 1) :
    NwSt w1 (w2.setCell ⟨P, 2, none⟩ (.slice (some ⟨g, 0, none⟩) (k + 1) cap)) P j (k + 1) zz u (.slice (some ⟨g, 0, none⟩) (k + 1) cap) := by
  have hs1 := h.st.size
  have hsz : (wr.alloc o).heap.size = wr.heap.size + 1 := by simp
  have hlt : wr.heap.size < (wr.alloc o).heap.size := by omega
  have hB := below_one wr o
  have keep : ∀ x, x < wr.heap.size → v.ownBlock ≠ some x → w2.heap[x]? = wr.heap[x]? := fun x hx hn => (hg.block x (by omega) fun e => hn e.symm).trans (hB.block x hx)
  have hnu : v.ownBlock ≠ some P := fun e => by have := (h.b.lt P e).1; omega
  have hnP : ∀ x, x ≠ P → ∀ y : Value, (w2.setCell ⟨P, 2, none⟩ y).heap[x]? = w2.heap[x]? := fun x hx y => Below.heap_setCell w2 ⟨P, 2, none⟩ y x hx
  refine ⟨(h.box.same (keep P (by omega) hnu)).set2 _, ?_, ?_, ?_, ?_⟩
  · refine own_block h.a fun x e => ?_
    have := h.a.lt x e
    rw [hnP x (by omega)]
    exact keep x this.2 fun k => h.ap x e k
  · rw [cellsOf_snoc, ← List.replicate_succ'] at ho
    exact own_set1 ho (a := ⟨P, 2, none⟩) hP _
  · intro x k e
    have hx : g = x := by simpa [Value.ownBlock] using e
    subst hx
    rcases hl with m | m
    · exact h.ap g k m
    · have := (h.a.lt g k).2; omega
  · refine ⟨hg.os.trans (hB.os.trans h.st.os), hg.tape.trans (hB.tape.trans h.st.tape), hg.output.trans (hB.output.trans h.st.output), ?_, fun x hx hn => ?_⟩
    · have := hg.size
      simp only [World.setCell, Array.size_modify]
      omega
    · rw [hnP x hn]
      exact (keep x (by omega) fun e => by have := (h.b.lt x e).1; omega).trans (h.st.block x hx hn)

/-- A part of a disk's numbers, as a list. -/
def lsC (C : Nat → Int) (z n : Nat) : List Int := (List.range n).map fun i => C (z + i)
theorem lsC_len (C : Nat → Int) (z n : Nat) : (lsC C z n).length = n := by simp [lsC]
theorem lsC_nth {C : Nat → Int} {z n i : Nat} (h : i < n) : nth (lsC C z n) i = C (z + i) := by
  rw [nth_lt (by rw [lsC_len]; exact h)]
  simp [lsC]
theorem lsC_same {C D : Nat → Int} {z y n : Nat} (h : ∀ i, i < n → C (z + i) = D (y + i)) : lsC C z n = lsC D y n := List.map_congr_left fun i hi => h i (List.mem_range.1 hi)
theorem lsC_set (C : Nat → Int) (z n k : Nat) (x : Int) : (lsC C z n).set k x = lsC (putI C (z + k) x) z n := by
  refine List.ext_getElem (by simp [lsC]) fun i h1 h2 => ?_
  rw [List.getElem_set]
  by_cases e : k = i
  · subst e; simp [lsC, putI]
  · rw [if_neg e]
    have e2 : ¬ i = k := fun h => e h.symm
    simp [lsC, putI, e2]
theorem lsC_any (C : Nat → Int) (z : Nat) (x : Int) : (lsC C z 8).any (· == x) = inT C z x := by
  unfold lsC inT
  rw [List.any_map]
  rfl

theorem any_yes3 {xs : List Int} {x : Int} {k : Nat} (hk : k < xs.length) (h : nth xs k = x) : xs.any (· == x) = true := by
  rw [List.any_eq_true]
  rw [nth_lt hk] at h
  exact ⟨_, List.getElem_mem hk, by simp [h]⟩
theorem any_no3 {xs : List Int} {x : Int} (h : ∀ j, j < xs.length → nth xs j ≠ x) : xs.any (· == x) = false := by
  rw [List.any_eq_false]
  intro y hy
  obtain ⟨i, hi, rfl⟩ := List.mem_iff_getElem.1 hy
  have := h i hi
  rw [nth_lt hi] at this
  simpa using this

set_option maxHeartbeats 2000000 in
theorem r1has_any (w : World) (v : Value) (xs : List Int) (hx : SliceIs w v xs) (x : Int) :
    Calls Tryd.prog 16 #[v, .int .i64 x] w fun e w' => e = .returned (.bool (xs.any (· == x))) ∧ w = w' := by
  obtain ⟨a, c, b, o, rfl, hl, ha, hc⟩ := hx.where
  obtain ⟨n, hxn⟩ : ∃ n, n = xs.length := ⟨_, rfl⟩
  have HX : Hid (n = xs.length) := hxn
  rw [← hxn] at hl ha hc ⊢
  have HC : Hid (∀ i, i < n → w.cell? ⟨b, o + i, none⟩ = some (.int .i64 (nth xs i))) := hc
  unfold maxLen at hl
  clear hc hxn hx
  go_enter Tryd.func16, Tryd.ntmps16
  go_wp2
  go_loop [5] (fun i => ∃ k : Nat, k ≤ n ∧ i = .int .i64 k ∧ ∀ j, j < k → nth xs j ≠ x) (fun i => n - (Go.RowKit.intOf i).toNat)
  case atStart => exact ⟨0, Nat.zero_le _, rfl, fun j hj => absurd hj (Nat.not_lt_zero _)⟩
  case round =>
    obtain ⟨k, hk, rfl, hall⟩ := hrel
    have HA : Hid (∀ j, j < k → nth xs j ≠ x) := hall
    clear hall
    by_cases hlt : k < n
    · have haa := ha (by omega)
      subst haa
      have hck := HC.out k hlt
      by_cases hi : nth xs k = x
      · have HI : Hid (nth xs k = x) := hi
        rw [hi] at hck
        clear hi
        go_wp2
        go_ret
        exact ⟨by rw [any_yes3 (by rw [← HX.out]; exact hlt) HI.out]; rfl, rfl⟩
      · have HI : Hid (nth xs k ≠ x) := hi
        have hne : (nth xs k == x) = false := by simp [hi]
        generalize nth xs k = y at hck hne
        clear hi
        go_wp2
        go_round
        case rel =>
          refine ⟨k + 1, by omega, by go_num, fun j hj => ?_⟩
          by_cases e : j = k
          · subst e; exact HI.out
          · exact HA.out j (by omega)
        case measure => simp [Go.RowKit.intOf]; omega
    · have hkn : k = n := by omega
      subst hkn
      go_wp2
      go_ret
      exact ⟨by rw [any_no3 (by rw [← HX.out]; exact HA.out)]; rfl, rfl⟩

/-- The document's disk: its three lists. -/
structure DocS (w : World) (vs vo vn : Value) (C : Nat → Int) : Prop where
  s : SliceIs w vs (lsC C 0 16)
  o : SliceIs w vo (lsC C 16 8)
  n : SliceIs w vn (lsC C 24 8)
theorem DocS.later {w w' : World} {vs vo vn : Value} {C : Nat → Int} (h : DocS w vs vo vn C) (hb : Below w.heap.size w w') : DocS w' vs vo vn C := ⟨h.s.later hb, h.o.later hb, h.n.later hb⟩
theorem DocS.form {w : World} {vs vo vn : Value} {C : Nat → Int} (h : DocS w vs vo vn C) : (∃ a c, vs = .slice a 16 c) ∧ (∃ a c, vo = .slice a 8 c) ∧ ∃ a c, vn = .slice a 8 c := by
  obtain ⟨⟨a, c, e, _⟩, ⟨a1, c1, e1, _⟩, ⟨a2, c2, e2, _⟩⟩ := h
  rw [lsC_len] at e e1 e2
  exact ⟨⟨_, _, e⟩, ⟨_, _, e1⟩, _, _, e2⟩

end Go.Proofs.YthgbknfdbobmiaaDoor
