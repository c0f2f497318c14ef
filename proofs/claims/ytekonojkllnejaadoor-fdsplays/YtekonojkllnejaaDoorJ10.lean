/- This text proves what the document's own Open answers: the numbers with one more file, the number, and what is wrong; nothing is turned but the document's own lists; the conditions are that the document's lists lie there, and that it calls those numbers free that are. -/
import Derived.Test.YtekonojkllnejaaDoorJ9
import Derived.Test.YtekonojkllnejaaDoorSp
import Derived.Deep.DeepCutAuto
namespace Go.Proofs.YtekonojkllnejaaDoor
open Go.RowKit Go.Deep

/-- A literal of one number in memory. -/
structure Lit (w5 W : World) (a : Nat) (x : Int) : Prop where
  cell : W.cell? ⟨a, 0, none⟩ = some (.int .i64 x)
  lt : a < W.heap.size
  above : w5.heap.size ≤ a
theorem lit_new {w5 W : World} (h : w5.heap.size ≤ W.heap.size) (x : Int) : Lit w5 (W.alloc (.cells #[.int .i64 x] 3)) W.heap.size x := ⟨cell_new _ _ _ _, by simp, h⟩
theorem Lit.later {w5 W W' : World} {a : Nat} {x : Int} (h : Lit w5 W a x) (hb : Below W.heap.size W W') : Lit w5 W' a x :=
  ⟨by rw [hb.cell (p := ⟨a, 0, none⟩) h.lt]; exact h.cell, Nat.lt_of_lt_of_le h.lt hb.size, h.above⟩
theorem Lit.grown {w5 W W' : World} {a : Nat} {x : Int} {row : Option Nat} (h : Lit w5 W a x) (hg : W.grownBy W' row) (hr : ¬ some a = row) : Lit w5 W' a x :=
  ⟨(World.cell?_of_block (a := ⟨a, 0, none⟩) (hg.block a h.lt hr)).trans h.cell, Nat.lt_of_lt_of_le h.lt hg.size, h.above⟩
theorem Lit.news {w5 W : World} {a : Nat} {x : Int} (h : Lit w5 W a x) : ∀ j u, ([.int .i64 x] : List Value)[j]? = some u → W.cell? ((⟨a, 0, none⟩ : Addr).add j) = some u := by
  intro j u hj
  have hj0 : j = 0 := by
    have := (List.getElem?_eq_some_iff.1 hj).1
    simpa using this
  subst hj0
  have hu : (Value.int .i64 x) = u := by simpa using hj
  rw [addr_at, ← hu]
  exact h.cell
theorem ones_one (x : Int) : ∀ u ∈ ([.int .i64 x] : List Value), u.oneCell' = true := fun u hu => by rw [List.mem_singleton.1 hu]; rfl
theorem Tch.mono {T T' : Nat → Prop} {w W : World} (h : Tch T w W) (hT : ∀ b, T b → T' b) : Tch T' w W := ⟨h.os, h.tape, h.output, h.size, fun b hb hn => h.block b hb fun hb' => hn (hT b hb')⟩
theorem tch_alloc {T : Nat → Prop} {w W : World} (h : Tch T w W) (o : Obj) : Tch T w (W.alloc o) := h.trans (T := T) (Tch.of (below_alloc W o)) (fun _ hx => .inl hx)
theorem tch_later {T : Nat → Prop} {w W W' : World} (h : Tch T w W) (hb : Below W.heap.size W W') : Tch T w W' := h.trans (T := T) (Tch.of hb) (fun _ hx => .inl hx)
theorem tch_grown {T : Nat → Prop} {w W W' : World} {row : Option Nat} (h : Tch T w W) (hg : W.grownBy W' row) (hr : ∀ b, row = some b → T b ∨ w.heap.size ≤ b) : Tch T w W' :=
  ⟨hg.os.trans h.os, hg.tape.trans h.tape, hg.output.trans h.output, Nat.le_trans h.size hg.size, fun b hb hT => by
    rw [hg.block b (Nat.lt_of_lt_of_le hb h.size) (fun e => by
      rcases hr b e.symm with h1 | h1
      · exact hT h1
      · omega)]
    exact h.block b hb hT⟩
theorem own_below {w w' : World} {base e n : Nat} {v : Value} {xs : List Value} (h : w.ownsRow base e 1 v n xs) (hb : Below w.heap.size w w') : w'.ownsRow base e 1 v n xs :=
  own_still h fun b e => hb.block b (own_lt h e).2
theorem own_room {w : World} {base e g n cap : Nat} {xs : List Value} (h : w.ownsRow base e 1 (.slice (some ⟨g, 0, none⟩) (n + 1) cap) (n + 1) xs) : (0 : Int) ≤ (n : Int) ∧ (n : Int) ≤ (cap : Int) := by
  rcases h.2 with ⟨h0, _⟩ | ⟨g', cap', cur, h0, _, _, h1, _⟩
  · cases h0
  · cases h0
    omega
/-- The first numbers of a row of the call's own. -/
theorem own_prefix {w : World} {base g n m cap : Nat} {xs ys : List Int} (hl : xs.length = n) (h : w.ownsRow base 3 1 (.slice (some ⟨g, 0, none⟩) (n + m) cap) (n + m) (cellsOf (xs ++ ys))) : w.ownsRow base 3 1 (.slice (some ⟨g, 0, none⟩) n cap) n (cellsOf xs) := by
  refine ⟨by rw [cellsOf_len]; omega, .inr ?_⟩
  rcases h.2 with ⟨h', _⟩ | ⟨g', cap', cur, h', hb, hg, hnc, hcm, hcs, htake⟩
  · simp at h'
  · simp only [Value.slice.injEq, Option.some.injEq, Addr.mk.injEq, and_true, true_and] at h'
    obtain ⟨rfl, rfl⟩ := h'
    refine ⟨g, cap, cur, rfl, hb, hg, by omega, hcm, hcs, ?_⟩
    have e : cur.toList.take (n * 1) = (cur.toList.take ((n + m) * 1)).take (n * 1) := by rw [List.take_take]; congr 1; omega
    rw [e, htake, show cellsOf (xs ++ ys) = cellsOf xs ++ cellsOf ys by simp [cellsOf], List.take_left' (by rw [cellsOf_len]; omega)]
theorem own_lt' {w : World} {base g n cap k : Nat} {xs : List Value} (h : w.ownsRow base 3 1 (.slice (some ⟨g, 0, none⟩) n cap) n xs) (hk : k ≤ g) : k ≤ g ∧ g < w.heap.size := ⟨hk, (own_lt h rfl).2⟩
theorem tch_set3 (w : World) (b : Nat) (x y z : Value) : Tch (fun c => c = b) w (((w.setCell ⟨b, 0, none⟩ x).setCell ⟨b, 1, none⟩ y).setCell ⟨b, 2, none⟩ z) := by
  have h1 : Tch (fun c => c = b) w (w.setCell ⟨b, 0, none⟩ x) := Tch.set w x rfl
  have h2 : Tch (fun c => c = b) (w.setCell ⟨b, 0, none⟩ x) ((w.setCell ⟨b, 0, none⟩ x).setCell ⟨b, 1, none⟩ y) := Tch.set _ y rfl
  have h3 : Tch (fun c => c = b) ((w.setCell ⟨b, 0, none⟩ x).setCell ⟨b, 1, none⟩ y) (((w.setCell ⟨b, 0, none⟩ x).setCell ⟨b, 1, none⟩ y).setCell ⟨b, 2, none⟩ z) := Tch.set _ z rfl
  exact (h1.trans h2 fun _ hx => .inl hx).trans h3 fun _ hx => .inl hx
/-- Set at the place behind the old end. -/
theorem set_end (w : World) (base : Nat) (v : Value) (xs : List Int) (n : Nat) (hx : w.ownsRow base 3 1 v (n + 1) (cellsOf (xs ++ [0]))) (hn : n < 100) :
    Calls Tryd.prog 18 #[v, .int .i64 (n : Int), .int .i64 0] w fun e w' => ∃ g cap, e = .returned (.slice (some ⟨g, 0, none⟩) (n + 1) cap) ∧ w'.ownsRow w.heap.size 3 1 (.slice (some ⟨g, 0, none⟩) (n + 1) cap) (n + 1) (cellsOf (xs ++ [0])) ∧ Below w.heap.size w w' := by
  have hl : (xs ++ [0]).length = n + 1 := by have := hx.1; rw [cellsOf_len] at this; omega
  have hl2 : xs.length = n := by rw [List.length_append] at hl; simpa using hl
  have := set_own w v (xs ++ [0]) (n + 1) n 0 (slice_own hx (by unfold maxLen; omega)) hl (by omega) (by omega)
  have e : (xs ++ [0]).set n 0 = xs ++ [0] := by rw [← hl2]; simp
  rw [e] at this
  exact this

/-- The document's lists behind Open. -/
def onO (F : Nat → Option Nat) (O S : List Int) (n : Int) : List Int := if onE F n = 0 then O.set (lst F) (S.length : Int) else O
def onS (F : Nat → Option Nat) (S : List Int) (n : Int) : List Int := if onE F n = 0 then S ++ [n] else S
def onA (F : Nat → Option Nat) (A : List Int) (n : Int) : List Int := if onE F n = 0 then A ++ [0] else A

set_option maxHeartbeats 8000000 in
set_option maxRecDepth 100000 in
theorem ropen_any (w : World) (base : Nat) (vo vs va : Value) (O S A : List Int) (F : Nat → Option Nat) (h : Doc w base vo vs va O S A) (hF : Frs F O) (hbase : base ≤ w.heap.size) (hlen : S.length < 100) (y : Int) :
    Calls Tryd.prog 14 #[.agg #[vo, vs, va], .int .i64 y] w fun e w' => ∃ vo' vs' va', e = .returned (.tuple #[.agg #[vo', vs', va'], .int .i64 (onN F y : Int), .int .i64 (onE F y : Int)]) ∧ Doc w' base vo' vs' va' (onO F O S y) (onS F S y) (onA F A y) ∧ Tch (Db vo vs va) w w' ∧ (∀ b, Db vo' vs' va' b → Db vo vs va b ∨ w.heap.size ≤ b) := by
  obtain ⟨ti, hti, hz0, hz1, hz2⟩ := info_parts Tryd.info3
  obtain ⟨g, cap, rfl, hg, hc⟩ := own_cells h.o (by decide)
  obtain ⟨aS, cs, rfl⟩ := row_form h.s
  obtain ⟨aa, ca, rfl⟩ := row_form h.a
  have HD : Hid (Doc w base (.slice (some ⟨g, 0, none⟩) 8 cap) (.slice aS S.length cs) (.slice aa S.length ca) O S A) := h
  obtain ⟨n, hn⟩ : ∃ n, S.length = n := ⟨_, rfl⟩
  have HN : Hid (S.length = n) := hn
  unfold onO onS onA
  rw [hn] at HD hlen ⊢
  obtain ⟨w1, hw1, hb1, k0, k1⟩ := boxes_new w (.slice (some ⟨g, 0, none⟩) 8 cap) (.slice aS n cs) (.slice aa n ca) (.slice none 0 0) (.slice none 0 0) (.slice none 0 0)
  have HW1 : Hid _ := hw1
  have HB1 : Hid (Below w.heap.size w w1) := hb1
  have HX : Hid (∀ w', Below w1.heap.size w1 w' → Box3 w' w.heap.size (.slice (some ⟨g, 0, none⟩) 8 cap) (.slice aS n cs) (.slice aa n ca) ∧ Box3 w' (w.heap.size + 1) (.slice none 0 0) (.slice none 0 0) (.slice none 0 0)) := fun w' hb => ⟨k0.later hb, k1.later hb⟩
  have HLe : Hid _ := fun (w' : World) (hb : Below w.heap.size w w') => least_any w' base (.slice (some ⟨g, 0, none⟩) 8 cap) (.slice aS n cs) (.slice aa n ca) O F (HD.out.later hb).o hF
  have HBa : Hid (base ≤ w.heap.size) := hbase
  by_cases hin : 0 ≤ y ∧ y ≤ 64
  · have HI : Hid _ := fun (w : World) => rin_yes y 0 64 w hin
    by_cases hl : lst F = 8
    · obtain ⟨e1, e2⟩ : onN F y = 0 ∧ onE F y = 4 := by
        unfold onN onE
        rw [if_pos hin, if_pos hin]
        unfold giN giE
        rw [hl]
        exact ⟨rfl, rfl⟩
      rw [e1, e2, if_neg (by decide), if_neg (by decide), if_neg (by decide)]
      rw [hl] at HLe
      clear h hg hc hw1 hb1 k0 k1 hbase hF hn hin hl e1 e2
      go_enter Tryd.func14, Tryd.ntmps14
      go_wp2_with fail
      rw [HW1.out]
      refine Calls.mono (HI.out w1) ?_
      rintro e w9 ⟨rfl, rfl⟩
      obtain ⟨hx0, hx1⟩ := HX.out w1 (Below.refl _ _)
      obtain ⟨x0, x1, x2, _, _, _⟩ := hx0.facts
      go_wp2_with fail
      refine Calls.mono (HLe.out w1 HB1.out) ?_
      rintro e w3 ⟨rfl, hb3⟩
      have hx0 := hx0.later hb3
      have hx1 := hx1.later hb3
      obtain ⟨x0, x1, x2, _, _, _⟩ := hx0.facts
      obtain ⟨y0, y1, y2, f0, f1, f2⟩ := hx1.facts
      have HB3 : Hid (Below w.heap.size w w3) := HB1.out.trans (hb3.mono HB1.out.size)
      clear hx0 hx1 hb3
      go_wp2_with fail
      refine bodyPost_ret (v := .tuple #[.agg #[.slice (some ⟨g, 0, none⟩) 8 cap, .slice aS n cs, .slice aa n ca], .int .i64 0, .int .i64 4]) ?_ rfl ?_
      · rw [results_cell3 rfl]
        go_simp
      · have hq := below_set3 (b := w.heap.size + 1) HB3.out (by omega) (.slice (some ⟨g, 0, none⟩) 8 cap) (.slice aS n cs) (.slice aa n ca)
        exact ⟨_, _, _, rfl, HD.out.later hq, Tch.of hq, fun b e => .inl e⟩
    · have hl8 : lst F < 8 := by have := lst_le F; omega
      obtain ⟨e1, e2⟩ : onN F y = lst F ∧ onE F y = 0 := by
        unfold onN onE
        rw [if_pos hin, if_pos hin]
        unfold giN giE
        rw [if_pos hl8, if_pos hl8]
        exact ⟨rfl, rfl⟩
      rw [e1, e2, if_pos rfl, if_pos rfl, if_pos rfl]
      have HSo : Hid _ := fun (w' : World) (hb : Below w.heap.size w w') => set_own w' _ O 8 (lst F) (n : Int) (slice_own (HD.out.later hb).o (by decide)) HD.out.lenO hl8 (by decide)
      generalize lst F = L at *
      have hL8 : ¬ (L : Int) = 8 := by omega
      clear h hg hc hw1 hb1 k0 k1 hbase hF hn hin hl e1 e2
      go_enter Tryd.func14, Tryd.ntmps14
      go_wp2_with fail
      rw [HW1.out]
      refine Calls.mono (HI.out w1) ?_
      rintro e w9 ⟨rfl, rfl⟩
      obtain ⟨hx0, hx1⟩ := HX.out w1 (Below.refl _ _)
      obtain ⟨x0, x1, x2, _, _, _⟩ := hx0.facts
      go_wp2_with fail
      refine Calls.mono (HLe.out w1 HB1.out) ?_
      rintro e w3 ⟨rfl, hb3⟩
      have hx0 := hx0.later hb3
      have hx1 := hx1.later hb3
      obtain ⟨x0, x1, x2, _, _, _⟩ := hx0.facts
      have HB3 : Hid (Below w.heap.size w w3) := HB1.out.trans (hb3.mono HB1.out.size)
      go_wp2_with fail
      refine Calls.mono (HSo.out w3 HB3.out) ?_
      rintro e w4 ⟨g1, cap1, rfl, ho1, hb4⟩
      have hx0 := hx0.later hb4
      have hx1 := hx1.later hb4
      obtain ⟨x0, x1, x2, f0, _, _⟩ := hx0.facts
      have HB4 : Hid (Below w.heap.size w w4) := HB3.out.trans (hb4.mono HB3.out.size)
      have hz34 := hb4.size
      have hz3 : w.heap.size + 1 < w3.heap.size := by have := hb3.size; have := (HX.out w1 (Below.refl _ _)).2.lt; omega
      have hg1 : w3.heap.size ≤ g1 ∧ g1 < w4.heap.size := own_lt ho1 rfl
      go_upto_region 7 with fail
      have hx0 := hx0.set0 (.slice (some ⟨g1, 0, none⟩) 8 cap1)
      have hx1 := hx1.off (p := ⟨w.heap.size, 0, none⟩) (by simp) (.slice (some ⟨g1, 0, none⟩) 8 cap1)
      have HB5 : Hid (Below w.heap.size w (w4.setCell ⟨w.heap.size, 0, none⟩ (.slice (some ⟨g1, 0, none⟩) 8 cap1))) := HB4.out.setCell (p := ⟨w.heap.size, 0, none⟩) (Nat.le_refl _) _
      have O5 : Hid ((w4.setCell ⟨w.heap.size, 0, none⟩ (.slice (some ⟨g1, 0, none⟩) 8 cap1)).ownsRow w.heap.size 3 1 (.slice (some ⟨g1, 0, none⟩) 8 cap1) 8 (cellsOf (O.set L (n : Int)))) := own_down (own_still ho1 fun b e => Below.heap_setCell _ _ _ _ (by have e2 : g1 = b := Option.some.inj e; show b ≠ w.heap.size; omega)) (by omega)
      have HX05 : Hid (Box3 (w4.setCell ⟨w.heap.size, 0, none⟩ (.slice (some ⟨g1, 0, none⟩) 8 cap1)) w.heap.size (.slice (some ⟨g1, 0, none⟩) 8 cap1) (.slice aS n cs) (.slice aa n ca)) := hx0
      have HX15 : Hid (Box3 (w4.setCell ⟨w.heap.size, 0, none⟩ (.slice (some ⟨g1, 0, none⟩) 8 cap1)) (w.heap.size + 1) (.slice none 0 0) (.slice none 0 0) (.slice none 0 0)) := hx1
      clear hx0 hx1 x0 x1 x2 f0 ho1 hb3 hb4
      generalize w4.setCell ⟨w.heap.size, 0, none⟩ (.slice (some ⟨g1, 0, none⟩) 8 cap1) = w5 at HB5 O5 HX05 HX15 ⊢
      have OS0 : Hid (w5.ownsRow base 3 1 (.slice aS n cs) n (cellsOf S)) := by
        have := (HD.out.later HB5.out).s
        rw [HN.out] at this
        exact this
      have HBs : Hid (base ≤ w5.heap.size) := Nat.le_trans HBa.out HB5.out.size
      have HVl : Hid (∀ b, (Value.slice aS n cs).ownBlock = some b → b < w.heap.size) := fun b e => (own_lt HD.out.s e).2
      have HVl5 : Hid (∀ b, (Value.slice aS n cs).ownBlock = some b → b < w5.heap.size) := fun b e => Nat.lt_of_lt_of_le (HVl.out b e) HB5.out.size
      have HSh : Hid (∀ W, Tch (fun b => (Value.slice aS n cs).ownBlock = some b) w5 W → W.cell? ⟨w.heap.size, 1, none⟩ = some (.slice aS n cs) ∧ W.frozen? ⟨w.heap.size, 1, none⟩ = false) := fun W hT => by
        obtain ⟨_, q1, _, _, q4, _⟩ := (HX05.out.same (hT.block _ HX05.out.lt (fun e => by have := HVl.out _ e; omega))).facts
        exact ⟨q1, q4⟩
      have HSe : Hid _ := fun (W : World) (v : Value) (hv : W.ownsRow base 3 1 v (n + 1) (cellsOf (S ++ [0]))) => set_end W base v S n hv hlen
      have HEnd : Hid (∀ W v3, Tch (fun b => (Value.slice aS n cs).ownBlock = some b) w5 W → W.ownsRow w5.heap.size 3 1 v3 (n + 1) (cellsOf (S ++ [y])) →
          Box3 (W.setCell ⟨w.heap.size, 1, none⟩ v3) w.heap.size (.slice (some ⟨g1, 0, none⟩) 8 cap1) v3 (.slice aa n ca) ∧ Box3 (W.setCell ⟨w.heap.size, 1, none⟩ v3) (w.heap.size + 1) (.slice none 0 0) (.slice none 0 0) (.slice none 0 0) ∧
          (W.setCell ⟨w.heap.size, 1, none⟩ v3).ownsRow w5.heap.size 3 1 v3 (n + 1) (cellsOf (S ++ [y])) ∧ Tch (fun b => (Value.slice aS n cs).ownBlock = some b ∨ b = w.heap.size) w5 (W.setCell ⟨w.heap.size, 1, none⟩ v3)) := by
        show ∀ W v3, _ → _ → _
        intro W v3 hT hO
        refine ⟨(HX05.out.same (hT.block _ HX05.out.lt (fun e => by have := HVl.out _ e; omega))).set1 v3, (HX15.out.same (hT.block _ HX15.out.lt (fun e => by have := HVl.out _ e; omega))).off (p := ⟨w.heap.size, 1, none⟩) (by simp) v3, own_still hO fun b e => Below.heap_setCell _ _ _ _ ?_, ?_⟩
        · have h1 := (own_lt hO e).1
          have h2 := HX05.out.lt
          show b ≠ w.heap.size
          omega
        · exact (hT.mono fun _ h => .inl h).trans (T := fun b => b = w.heap.size) (Tch.set W v3 rfl) fun x hx => .inl (.inr hx)
      go_cut [39] (fun v3 W => Box3 W w.heap.size (.slice (some ⟨g1, 0, none⟩) 8 cap1) v3 (.slice aa n ca) ∧ Box3 W (w.heap.size + 1) (.slice none 0 0) (.slice none 0 0) (.slice none 0 0) ∧
          W.ownsRow w5.heap.size 3 1 v3 (n + 1) (cellsOf (S ++ [y])) ∧ Tch (fun b => (Value.slice aS n cs).ownBlock = some b ∨ b = w.heap.size) w5 W)
      case first =>
        refine wp_region_last (S := fun W => W.cell? ⟨w.heap.size, 1, none⟩ = some (.slice aS n cs) ∧ W.frozen? ⟨w.heap.size, 1, none⟩ = false) 16 (by kernel_rfl) (by kernel_rfl) ?hs (fun hHeld => ?_)
        case hs => exact HSh.out _ (Tch.of (below_drew1 _ _))
        refine held_take (i := 0) (v := ?_) rfl rfl (by kernel_rfl) (by kernel_rfl) (by kernel_rfl) (fun _ _ _ h => h) (Or.inl ⟨by rfl, ?_⟩) hHeld ?_
        rotate_left
        · (intro w hSw; (try dsimp only at hSw); go_simp; try with_reducible rfl)
        simp only [Act.put, List.setIfInBounds_toArray, List.set_cons_zero, List.set_cons_succ]
        refine held_take (i := 1) (v := ?_) rfl rfl (by kernel_rfl) (by kernel_rfl) (by kernel_rfl) (fun _ _ _ h => h) (Or.inl ⟨by rfl, ?_⟩) hHeld ?_
        rotate_left
        · (intro w hSw; (try dsimp only at hSw); go_simp; try with_reducible rfl)
        simp only [Act.put, List.setIfInBounds_toArray, List.set_cons_zero, List.set_cons_succ]
        refine held_take (i := 4) (v := ?_) rfl rfl (by kernel_rfl) (by kernel_rfl) (by kernel_rfl) (fun _ _ _ h => h) (Or.inl ⟨by rfl, ?_⟩) hHeld ?_
        rotate_left
        · (intro w hSw; (try dsimp only at hSw); go_simp; try with_reducible rfl)
        simp only [Act.put, List.setIfInBounds_toArray, List.set_cons_zero, List.set_cons_succ]
        refine held_take (i := 5) (v := ?_) rfl rfl (by kernel_rfl) (by kernel_rfl) (by kernel_rfl) (fun _ _ _ h => h) (Or.inl ⟨by rfl, ?_⟩) hHeld ?_
        rotate_left
        · (intro w hSw; (try dsimp only at hSw); go_simp; try with_reducible rfl)
        simp only [Act.put, List.setIfInBounds_toArray, List.set_cons_zero, List.set_cons_succ]
        refine held_take (i := 6) (v := ?_) rfl rfl (by kernel_rfl) (by kernel_rfl) (by kernel_rfl) (fun _ _ _ h => h) (Or.inl ⟨by rfl, ?_⟩) hHeld ?_
        rotate_left
        · (intro w hSw; (try dsimp only at hSw); go_simp; try with_reducible rfl)
        simp only [Act.put, List.setIfInBounds_toArray, List.set_cons_zero, List.set_cons_succ]
        refine held_take (i := 8) (v := ?_) rfl rfl (by kernel_rfl) (by kernel_rfl) (by kernel_rfl) (fun _ _ _ h => h) (Or.inl ⟨by rfl, ?_⟩) hHeld ?_
        rotate_left
        · (intro w hSw; (try dsimp only at hSw); go_simp; try with_reducible rfl)
        simp only [Act.put, List.setIfInBounds_toArray, List.set_cons_zero, List.set_cons_succ]
        refine held_take (i := 9) (v := ?_) rfl rfl (by kernel_rfl) (by kernel_rfl) (by kernel_rfl) (fun _ _ _ h => h) (Or.inl ⟨by rfl, ?_⟩) hHeld ?_
        rotate_left
        · (intro w hSw; (try dsimp only at hSw); go_simp; try with_reducible rfl)
        simp only [Act.put, List.setIfInBounds_toArray, List.set_cons_zero, List.set_cons_succ]
        refine held_take (i := 10) (v := ?_) rfl rfl (by kernel_rfl) (by kernel_rfl) (by kernel_rfl) (fun _ _ _ h => h) (Or.inl ⟨by rfl, ?_⟩) hHeld ?_
        rotate_left
        · (intro w hSw; (try dsimp only at hSw); go_simp; try with_reducible rfl)
        simp only [Act.put, List.setIfInBounds_toArray, List.set_cons_zero, List.set_cons_succ]
        refine held_take (i := 12) (v := ?_) rfl rfl (by kernel_rfl) (by kernel_rfl) (by kernel_rfl) (fun _ _ _ h => h) (Or.inl ⟨by rfl, ?_⟩) hHeld ?_
        rotate_left
        · (intro w hSw; (try dsimp only at hSw); go_simp; try with_reducible rfl)
        simp only [Act.put, List.setIfInBounds_toArray, List.set_cons_zero, List.set_cons_succ]
        have HT : Hid (Tch (fun b => (Value.slice aS n cs).ownBlock = some b) w5 w5.drew) := Tch.of (below_drew1 _ _)
        have OS : Hid (World.ownsRow w5.drew base 3 1 (.slice aS n cs) n (cellsOf S)) := OS0.out
        generalize World.drew w5 = W0 at HT OS hHeld ⊢
        have HTz : Hid (w5.heap.size ≤ W0.heap.size) := HT.out.size
        refine wpAnyH_ready (rs := [2, 13]) (by kernel_rfl) (by simp) ?_
        refine AllReadyH.cons rfl (fun K hK => ?_) ?_
        · skip
          go_simp
          refine hK.out _ _ (HSh.out _ (tch_alloc HT.out _)) (fun hHeld => ?_)
          clear hK K
          have HT : Hid (Tch (fun b => (Value.slice aS n cs).ownBlock = some b) w5 (World.alloc W0 (.cells #[.int .i64 0] 3))) := tch_alloc HT.out _
          have L0 : Hid (Lit w5 (World.alloc W0 (.cells #[.int .i64 0] 3)) (World.heap W0).size 0) := lit_new HTz.out _
          have OS : Hid (World.ownsRow (World.alloc W0 (.cells #[.int .i64 0] 3)) base 3 1 (.slice aS n cs) n (cellsOf S)) := own_below OS.out (below_alloc _ _)
          have HTz : Hid (w5.heap.size ≤ (World.heap (World.alloc W0 (.cells #[.int .i64 0] 3))).size) := HT.out.size
          generalize (World.alloc W0 (.cells #[.int .i64 0] 3)) = W1 at HT L0 HTz hHeld OS ⊢
          obtain ⟨a0, ha0⟩ : ∃ x, (World.heap W0).size = x := ⟨_, rfl⟩
          rw [ha0] at L0 ⊢
          clear ha0
          refine wpAnyH_ready (rs := [3, 13]) (by kernel_rfl) (by simp) ?_
          refine held_next rfl rfl (fun K hK => ?_) ?_
          · skip
            refine step_append_own (by rfl) (.tmp 26) (.tmp 27) 36 (by rfl) base 3 ti (.int .i64 0) 1 8 Tryd.underlying36 hti hz0 hz1 hz2 rfl (by decide) (.slice aS n cs) n (cellsOf S) (by rfl) OS.out ⟨a0, 0, none⟩ 1 1 [.int .i64 0] (by rfl) rfl L0.out.news (ones_one _) (by unfold maxLen; omega) (by omega) (Nat.le_trans HBs.out HTz.out) ?_
            intro v1 W2 hown hgr
            have HT : Hid (Tch (fun b => (Value.slice aS n cs).ownBlock = some b) w5 W2) := tch_grown HT.out hgr (fun b e => .inl e)
            refine hK.out _ _ (HSh.out _ HT.out) (fun hHeld => ?_)
            clear hK K
            simp only [Act.put, List.setIfInBounds_toArray, List.set_cons_zero, List.set_cons_succ]
            have O1 : Hid (World.ownsRow W2 base 3 1 v1 (n + 1) (cellsOf (S ++ [0]))) := by rw [cellsOf_snoc] at hown; exact hown
            have HTz : Hid (w5.heap.size ≤ W2.heap.size) := HT.out.size
            clear hown hgr OS L0
            refine wpAnyH_ready (rs := [7, 13]) (by kernel_rfl) (by simp) ?_
            refine AllReadyH.cons rfl (fun K hK => ?_) ?_
            · skip
              go_simp
              go_at_call 18
              refine (HSe.out _ _ O1.out).mono ?_
              rintro e W3 ⟨g2, cap2, rfl, ho2, hb2⟩
              have HT : Hid (Tch (fun b => (Value.slice aS n cs).ownBlock = some b) w5 W3) := tch_later HT.out hb2
              go_simp
              refine hK.out _ _ (HSh.out _ HT.out) (fun hHeld => ?_)
              clear hK K
              have O2 : Hid (World.ownsRow W3 w5.heap.size 3 1 (.slice (some ⟨g2, 0, none⟩) (n + 1) cap2) (n + 1) (cellsOf (S ++ [0]))) := own_down ho2 HTz.out
              have hcap := own_room ho2
              have HTz : Hid (w5.heap.size ≤ W3.heap.size) := HT.out.size
              clear ho2 hb2 O1
              refine held_take (i := 11) (v := ?_) rfl rfl (by kernel_rfl) (by kernel_rfl) (by kernel_rfl) (fun _ _ _ h => h) (Or.inl ⟨by rfl, ?_⟩) hHeld ?_
              rotate_left
              · (intro w hSw; (try dsimp only at hSw); go_simp; try with_reducible rfl)
              simp only [Act.put, List.setIfInBounds_toArray, List.set_cons_zero, List.set_cons_succ]
              refine wpAnyH_ready (rs := [13]) (by kernel_rfl) (by simp) ?_
              refine AllReadyH.cons rfl (fun K hK => ?_) AllReadyH.nil
              go_simp
              refine hK.out _ _ (HSh.out _ (tch_alloc HT.out _)) (fun hHeld => ?_)
              clear hK K
              have HT : Hid (Tch (fun b => (Value.slice aS n cs).ownBlock = some b) w5 (World.alloc W3 (.cells #[.int .i64 y] 3))) := tch_alloc HT.out _
              have LN : Hid (Lit w5 (World.alloc W3 (.cells #[.int .i64 y] 3)) (World.heap W3).size y) := lit_new HTz.out _
              have O2 : Hid (World.ownsRow (World.alloc W3 (.cells #[.int .i64 y] 3)) w5.heap.size 3 1 (.slice (some ⟨g2, 0, none⟩) (n + 1) cap2) (n + 1) (cellsOf (S ++ [0]))) := own_below O2.out (below_alloc _ _)
              have HTz : Hid (w5.heap.size ≤ (World.heap (World.alloc W3 (.cells #[.int .i64 y] 3))).size) := HT.out.size
              generalize (World.alloc W3 (.cells #[.int .i64 y] 3)) = W4 at HT LN HTz hHeld O2 ⊢
              obtain ⟨aN, haN⟩ : ∃ x, (World.heap W3).size = x := ⟨_, rfl⟩
              rw [haN] at LN ⊢
              clear haN
              refine wpAnyH_ready (rs := [14]) (by kernel_rfl) (by simp) ?_
              refine held_next rfl rfl (fun K hK => ?_) AllReadyH.nil
              refine step_append_own (by rfl) (.tmp 36) (.tmp 38) 36 (by rfl) w5.heap.size 3 ti (.int .i64 0) 1 8 Tryd.underlying36 hti hz0 hz1 hz2 rfl (by decide) (.slice (some ⟨g2, 0, none⟩) n cap2) n (cellsOf S) (by rfl) (own_prefix HN.out O2.out) ⟨aN, 0, none⟩ 1 1 [.int .i64 y] (by rfl) rfl LN.out.news (ones_one _) (by unfold maxLen; omega) (by omega) HTz.out ?_
              intro v3 W5 hown hgr
              obtain ⟨g3, c3, rfl, _, _⟩ := own_where hown (Nat.succ_pos _)
              have HT : Hid (Tch (fun b => (Value.slice aS n cs).ownBlock = some b) w5 W5) := tch_grown HT.out hgr (fun b e => .inr (by have := (own_lt O2.out (b := g2) rfl).1; have e2 : g2 = b := Option.some.inj e; omega))
              refine hK.out _ _ (HSh.out _ HT.out) (fun hHeld => ?_)
              clear hK K
              simp only [Act.put, List.setIfInBounds_toArray, List.set_cons_zero, List.set_cons_succ]
              rw [cellsOf_snoc] at hown
              refine held_take (i := 15) (v := ?_) rfl rfl (by kernel_rfl) (by kernel_rfl) (by kernel_rfl) (fun _ _ _ h => h) (Or.inl ⟨by rfl, ?_⟩) hHeld ?_
              rotate_left
              · (intro w hSw; (try dsimp only at hSw); go_simp; try with_reducible rfl)
              simp only [Act.put, List.setIfInBounds_toArray, List.set_cons_zero, List.set_cons_succ]
              obtain ⟨q0, q1⟩ := hHeld
              refine wpAnyH_done (by kernel_rfl) ?_ _
              refine last_step rfl (fun K hK => ?_)
              go_simp
              refine hK _ _ ?_
              clear hK K
              go_wp2_with fail
              go_meet
              case rel => exact HEnd.out _ _ HT.out hown
            refine AllReadyH.cons rfl (fun K hK => ?_) AllReadyH.nil
            go_simp
            refine hK.out _ _ (HSh.out _ (tch_alloc HT.out _)) (fun hHeld => ?_)
            clear hK K
            have HT : Hid (Tch (fun b => (Value.slice aS n cs).ownBlock = some b) w5 (World.alloc W2 (.cells #[.int .i64 y] 3))) := tch_alloc HT.out _
            have LN : Hid (Lit w5 (World.alloc W2 (.cells #[.int .i64 y] 3)) (World.heap W2).size y) := lit_new HTz.out _
            have O1 : Hid (World.ownsRow (World.alloc W2 (.cells #[.int .i64 y] 3)) base 3 1 v1 (n + 1) (cellsOf (S ++ [0]))) := own_below O1.out (below_alloc _ _)
            have HTz : Hid (w5.heap.size ≤ (World.heap (World.alloc W2 (.cells #[.int .i64 y] 3))).size) := HT.out.size
            generalize (World.alloc W2 (.cells #[.int .i64 y] 3)) = W6 at HT LN HTz hHeld O1 ⊢
            obtain ⟨aN, haN⟩ : ∃ x, (World.heap W2).size = x := ⟨_, rfl⟩
            rw [haN] at LN ⊢
            clear haN
            refine wpAnyH_ready (rs := [7]) (by kernel_rfl) (by simp) ?_
            refine AllReadyH.cons rfl (fun K hK => ?_) AllReadyH.nil
            go_simp
            go_at_call 18
            refine (HSe.out _ _ O1.out).mono ?_
            rintro e W7 ⟨g2, cap2, rfl, ho2, hb2⟩
            have HT : Hid (Tch (fun b => (Value.slice aS n cs).ownBlock = some b) w5 W7) := tch_later HT.out hb2
            go_simp
            refine hK.out _ _ (HSh.out _ HT.out) (fun hHeld => ?_)
            clear hK K
            have O2 : Hid (World.ownsRow W7 w5.heap.size 3 1 (.slice (some ⟨g2, 0, none⟩) (n + 1) cap2) (n + 1) (cellsOf (S ++ [0]))) := own_down ho2 HTz.out
            have LN : Hid (Lit w5 W7 aN y) := LN.out.later hb2
            have hcap := own_room ho2
            have HTz : Hid (w5.heap.size ≤ W7.heap.size) := HT.out.size
            clear ho2 hb2 O1
            refine held_take (i := 11) (v := ?_) rfl rfl (by kernel_rfl) (by kernel_rfl) (by kernel_rfl) (fun _ _ _ h => h) (Or.inl ⟨by rfl, ?_⟩) hHeld ?_
            rotate_left
            · (intro w hSw; (try dsimp only at hSw); go_simp; try with_reducible rfl)
            simp only [Act.put, List.setIfInBounds_toArray, List.set_cons_zero, List.set_cons_succ]
            refine wpAnyH_ready (rs := [14]) (by kernel_rfl) (by simp) ?_
            refine held_next rfl rfl (fun K hK => ?_) AllReadyH.nil
            refine step_append_own (by rfl) (.tmp 36) (.tmp 38) 36 (by rfl) w5.heap.size 3 ti (.int .i64 0) 1 8 Tryd.underlying36 hti hz0 hz1 hz2 rfl (by decide) (.slice (some ⟨g2, 0, none⟩) n cap2) n (cellsOf S) (by rfl) (own_prefix HN.out O2.out) ⟨aN, 0, none⟩ 1 1 [.int .i64 y] (by rfl) rfl LN.out.news (ones_one _) (by unfold maxLen; omega) (by omega) HTz.out ?_
            intro v3 W8 hown hgr
            obtain ⟨g3, c3, rfl, _, _⟩ := own_where hown (Nat.succ_pos _)
            have HT : Hid (Tch (fun b => (Value.slice aS n cs).ownBlock = some b) w5 W8) := tch_grown HT.out hgr (fun b e => .inr (by have := (own_lt O2.out (b := g2) rfl).1; have e2 : g2 = b := Option.some.inj e; omega))
            refine hK.out _ _ (HSh.out _ HT.out) (fun hHeld => ?_)
            clear hK K
            simp only [Act.put, List.setIfInBounds_toArray, List.set_cons_zero, List.set_cons_succ]
            rw [cellsOf_snoc] at hown
            refine held_take (i := 15) (v := ?_) rfl rfl (by kernel_rfl) (by kernel_rfl) (by kernel_rfl) (fun _ _ _ h => h) (Or.inl ⟨by rfl, ?_⟩) hHeld ?_
            rotate_left
            · (intro w hSw; (try dsimp only at hSw); go_simp; try with_reducible rfl)
            simp only [Act.put, List.setIfInBounds_toArray, List.set_cons_zero, List.set_cons_succ]
            obtain ⟨q0, q1⟩ := hHeld
            refine wpAnyH_done (by kernel_rfl) ?_ _
            refine last_step rfl (fun K hK => ?_)
            go_simp
            refine hK _ _ ?_
            clear hK K
            go_wp2_with fail
            go_meet
            case rel => exact HEnd.out _ _ HT.out hown
          refine AllReadyH.cons rfl (fun K hK => ?_) AllReadyH.nil
          go_simp
          refine hK.out _ _ (HSh.out _ (tch_alloc HT.out _)) (fun hHeld => ?_)
          clear hK K
          have HT : Hid (Tch (fun b => (Value.slice aS n cs).ownBlock = some b) w5 (World.alloc W1 (.cells #[.int .i64 y] 3))) := tch_alloc HT.out _
          have LN : Hid (Lit w5 (World.alloc W1 (.cells #[.int .i64 y] 3)) (World.heap W1).size y) := lit_new HTz.out _
          have OS : Hid (World.ownsRow (World.alloc W1 (.cells #[.int .i64 y] 3)) base 3 1 (.slice aS n cs) n (cellsOf S)) := own_below OS.out (below_alloc _ _)
          have L0 : Hid (Lit w5 (World.alloc W1 (.cells #[.int .i64 y] 3)) a0 0) := L0.out.later (below_alloc _ _)
          have HTz : Hid (w5.heap.size ≤ (World.heap (World.alloc W1 (.cells #[.int .i64 y] 3))).size) := HT.out.size
          generalize (World.alloc W1 (.cells #[.int .i64 y] 3)) = W9 at HT LN HTz hHeld OS L0 ⊢
          obtain ⟨aN, haN⟩ : ∃ x, (World.heap W1).size = x := ⟨_, rfl⟩
          rw [haN] at LN ⊢
          clear haN
          refine wpAnyH_ready (rs := [3]) (by kernel_rfl) (by simp) ?_
          refine held_next rfl rfl (fun K hK => ?_) AllReadyH.nil
          refine step_append_own (by rfl) (.tmp 26) (.tmp 27) 36 (by rfl) base 3 ti (.int .i64 0) 1 8 Tryd.underlying36 hti hz0 hz1 hz2 rfl (by decide) (.slice aS n cs) n (cellsOf S) (by rfl) OS.out ⟨a0, 0, none⟩ 1 1 [.int .i64 0] (by rfl) rfl L0.out.news (ones_one _) (by unfold maxLen; omega) (by omega) (Nat.le_trans HBs.out HTz.out) ?_
          intro v1 W10 hown hgr
          have HT : Hid (Tch (fun b => (Value.slice aS n cs).ownBlock = some b) w5 W10) := tch_grown HT.out hgr (fun b e => .inl e)
          refine hK.out _ _ (HSh.out _ HT.out) (fun hHeld => ?_)
          clear hK K
          simp only [Act.put, List.setIfInBounds_toArray, List.set_cons_zero, List.set_cons_succ]
          have O1 : Hid (World.ownsRow W10 base 3 1 v1 (n + 1) (cellsOf (S ++ [0]))) := by rw [cellsOf_snoc] at hown; exact hown
          have LN : Hid (Lit w5 W10 aN y) := LN.out.grown hgr (fun e => absurd (HVl5.out _ e.symm) (Nat.not_lt.2 LN.out.above))
          have HTz : Hid (w5.heap.size ≤ W10.heap.size) := HT.out.size
          clear hown hgr OS L0
          refine wpAnyH_ready (rs := [7]) (by kernel_rfl) (by simp) ?_
          refine AllReadyH.cons rfl (fun K hK => ?_) AllReadyH.nil
          go_simp
          go_at_call 18
          refine (HSe.out _ _ O1.out).mono ?_
          rintro e W11 ⟨g2, cap2, rfl, ho2, hb2⟩
          have HT : Hid (Tch (fun b => (Value.slice aS n cs).ownBlock = some b) w5 W11) := tch_later HT.out hb2
          go_simp
          refine hK.out _ _ (HSh.out _ HT.out) (fun hHeld => ?_)
          clear hK K
          have O2 : Hid (World.ownsRow W11 w5.heap.size 3 1 (.slice (some ⟨g2, 0, none⟩) (n + 1) cap2) (n + 1) (cellsOf (S ++ [0]))) := own_down ho2 HTz.out
          have LN : Hid (Lit w5 W11 aN y) := LN.out.later hb2
          have hcap := own_room ho2
          have HTz : Hid (w5.heap.size ≤ W11.heap.size) := HT.out.size
          clear ho2 hb2 O1
          refine held_take (i := 11) (v := ?_) rfl rfl (by kernel_rfl) (by kernel_rfl) (by kernel_rfl) (fun _ _ _ h => h) (Or.inl ⟨by rfl, ?_⟩) hHeld ?_
          rotate_left
          · (intro w hSw; (try dsimp only at hSw); go_simp; try with_reducible rfl)
          simp only [Act.put, List.setIfInBounds_toArray, List.set_cons_zero, List.set_cons_succ]
          refine wpAnyH_ready (rs := [14]) (by kernel_rfl) (by simp) ?_
          refine held_next rfl rfl (fun K hK => ?_) AllReadyH.nil
          refine step_append_own (by rfl) (.tmp 36) (.tmp 38) 36 (by rfl) w5.heap.size 3 ti (.int .i64 0) 1 8 Tryd.underlying36 hti hz0 hz1 hz2 rfl (by decide) (.slice (some ⟨g2, 0, none⟩) n cap2) n (cellsOf S) (by rfl) (own_prefix HN.out O2.out) ⟨aN, 0, none⟩ 1 1 [.int .i64 y] (by rfl) rfl LN.out.news (ones_one _) (by unfold maxLen; omega) (by omega) HTz.out ?_
          intro v3 W12 hown hgr
          obtain ⟨g3, c3, rfl, _, _⟩ := own_where hown (Nat.succ_pos _)
          have HT : Hid (Tch (fun b => (Value.slice aS n cs).ownBlock = some b) w5 W12) := tch_grown HT.out hgr (fun b e => .inr (by have := (own_lt O2.out (b := g2) rfl).1; have e2 : g2 = b := Option.some.inj e; omega))
          refine hK.out _ _ (HSh.out _ HT.out) (fun hHeld => ?_)
          clear hK K
          simp only [Act.put, List.setIfInBounds_toArray, List.set_cons_zero, List.set_cons_succ]
          rw [cellsOf_snoc] at hown
          refine held_take (i := 15) (v := ?_) rfl rfl (by kernel_rfl) (by kernel_rfl) (by kernel_rfl) (fun _ _ _ h => h) (Or.inl ⟨by rfl, ?_⟩) hHeld ?_
          rotate_left
          · (intro w hSw; (try dsimp only at hSw); go_simp; try with_reducible rfl)
          simp only [Act.put, List.setIfInBounds_toArray, List.set_cons_zero, List.set_cons_succ]
          obtain ⟨q0, q1⟩ := hHeld
          refine wpAnyH_done (by kernel_rfl) ?_ _
          refine last_step rfl (fun K hK => ?_)
          go_simp
          refine hK _ _ ?_
          clear hK K
          go_wp2_with fail
          go_meet
          case rel => exact HEnd.out _ _ HT.out hown
        refine AllReadyH.cons rfl (fun K hK => ?_) AllReadyH.nil
        go_simp
        refine hK.out _ _ (HSh.out _ (tch_alloc HT.out _)) (fun hHeld => ?_)
        clear hK K
        have HT : Hid (Tch (fun b => (Value.slice aS n cs).ownBlock = some b) w5 (World.alloc W0 (.cells #[.int .i64 y] 3))) := tch_alloc HT.out _
        have LN : Hid (Lit w5 (World.alloc W0 (.cells #[.int .i64 y] 3)) (World.heap W0).size y) := lit_new HTz.out _
        have OS : Hid (World.ownsRow (World.alloc W0 (.cells #[.int .i64 y] 3)) base 3 1 (.slice aS n cs) n (cellsOf S)) := own_below OS.out (below_alloc _ _)
        have HTz : Hid (w5.heap.size ≤ (World.heap (World.alloc W0 (.cells #[.int .i64 y] 3))).size) := HT.out.size
        generalize (World.alloc W0 (.cells #[.int .i64 y] 3)) = W13 at HT LN HTz hHeld OS ⊢
        obtain ⟨aN, haN⟩ : ∃ x, (World.heap W0).size = x := ⟨_, rfl⟩
        rw [haN] at LN ⊢
        clear haN
        refine wpAnyH_ready (rs := [2]) (by kernel_rfl) (by simp) ?_
        refine AllReadyH.cons rfl (fun K hK => ?_) AllReadyH.nil
        go_simp
        refine hK.out _ _ (HSh.out _ (tch_alloc HT.out _)) (fun hHeld => ?_)
        clear hK K
        have HT : Hid (Tch (fun b => (Value.slice aS n cs).ownBlock = some b) w5 (World.alloc W13 (.cells #[.int .i64 0] 3))) := tch_alloc HT.out _
        have L0 : Hid (Lit w5 (World.alloc W13 (.cells #[.int .i64 0] 3)) (World.heap W13).size 0) := lit_new HTz.out _
        have OS : Hid (World.ownsRow (World.alloc W13 (.cells #[.int .i64 0] 3)) base 3 1 (.slice aS n cs) n (cellsOf S)) := own_below OS.out (below_alloc _ _)
        have LN : Hid (Lit w5 (World.alloc W13 (.cells #[.int .i64 0] 3)) aN y) := LN.out.later (below_alloc _ _)
        have HTz : Hid (w5.heap.size ≤ (World.heap (World.alloc W13 (.cells #[.int .i64 0] 3))).size) := HT.out.size
        generalize (World.alloc W13 (.cells #[.int .i64 0] 3)) = W14 at HT L0 HTz hHeld OS LN ⊢
        obtain ⟨a0, ha0⟩ : ∃ x, (World.heap W13).size = x := ⟨_, rfl⟩
        rw [ha0] at L0 ⊢
        clear ha0
        refine wpAnyH_ready (rs := [3]) (by kernel_rfl) (by simp) ?_
        refine held_next rfl rfl (fun K hK => ?_) AllReadyH.nil
        refine step_append_own (by rfl) (.tmp 26) (.tmp 27) 36 (by rfl) base 3 ti (.int .i64 0) 1 8 Tryd.underlying36 hti hz0 hz1 hz2 rfl (by decide) (.slice aS n cs) n (cellsOf S) (by rfl) OS.out ⟨a0, 0, none⟩ 1 1 [.int .i64 0] (by rfl) rfl L0.out.news (ones_one _) (by unfold maxLen; omega) (by omega) (Nat.le_trans HBs.out HTz.out) ?_
        intro v1 W15 hown hgr
        have HT : Hid (Tch (fun b => (Value.slice aS n cs).ownBlock = some b) w5 W15) := tch_grown HT.out hgr (fun b e => .inl e)
        refine hK.out _ _ (HSh.out _ HT.out) (fun hHeld => ?_)
        clear hK K
        simp only [Act.put, List.setIfInBounds_toArray, List.set_cons_zero, List.set_cons_succ]
        have O1 : Hid (World.ownsRow W15 base 3 1 v1 (n + 1) (cellsOf (S ++ [0]))) := by rw [cellsOf_snoc] at hown; exact hown
        have LN : Hid (Lit w5 W15 aN y) := LN.out.grown hgr (fun e => absurd (HVl5.out _ e.symm) (Nat.not_lt.2 LN.out.above))
        have HTz : Hid (w5.heap.size ≤ W15.heap.size) := HT.out.size
        clear hown hgr OS L0
        refine wpAnyH_ready (rs := [7]) (by kernel_rfl) (by simp) ?_
        refine AllReadyH.cons rfl (fun K hK => ?_) AllReadyH.nil
        go_simp
        go_at_call 18
        refine (HSe.out _ _ O1.out).mono ?_
        rintro e W16 ⟨g2, cap2, rfl, ho2, hb2⟩
        have HT : Hid (Tch (fun b => (Value.slice aS n cs).ownBlock = some b) w5 W16) := tch_later HT.out hb2
        go_simp
        refine hK.out _ _ (HSh.out _ HT.out) (fun hHeld => ?_)
        clear hK K
        have O2 : Hid (World.ownsRow W16 w5.heap.size 3 1 (.slice (some ⟨g2, 0, none⟩) (n + 1) cap2) (n + 1) (cellsOf (S ++ [0]))) := own_down ho2 HTz.out
        have LN : Hid (Lit w5 W16 aN y) := LN.out.later hb2
        have hcap := own_room ho2
        have HTz : Hid (w5.heap.size ≤ W16.heap.size) := HT.out.size
        clear ho2 hb2 O1
        refine held_take (i := 11) (v := ?_) rfl rfl (by kernel_rfl) (by kernel_rfl) (by kernel_rfl) (fun _ _ _ h => h) (Or.inl ⟨by rfl, ?_⟩) hHeld ?_
        rotate_left
        · (intro w hSw; (try dsimp only at hSw); go_simp; try with_reducible rfl)
        simp only [Act.put, List.setIfInBounds_toArray, List.set_cons_zero, List.set_cons_succ]
        refine wpAnyH_ready (rs := [14]) (by kernel_rfl) (by simp) ?_
        refine held_next rfl rfl (fun K hK => ?_) AllReadyH.nil
        refine step_append_own (by rfl) (.tmp 36) (.tmp 38) 36 (by rfl) w5.heap.size 3 ti (.int .i64 0) 1 8 Tryd.underlying36 hti hz0 hz1 hz2 rfl (by decide) (.slice (some ⟨g2, 0, none⟩) n cap2) n (cellsOf S) (by rfl) (own_prefix HN.out O2.out) ⟨aN, 0, none⟩ 1 1 [.int .i64 y] (by rfl) rfl LN.out.news (ones_one _) (by unfold maxLen; omega) (by omega) HTz.out ?_
        intro v3 W17 hown hgr
        obtain ⟨g3, c3, rfl, _, _⟩ := own_where hown (Nat.succ_pos _)
        have HT : Hid (Tch (fun b => (Value.slice aS n cs).ownBlock = some b) w5 W17) := tch_grown HT.out hgr (fun b e => .inr (by have := (own_lt O2.out (b := g2) rfl).1; have e2 : g2 = b := Option.some.inj e; omega))
        refine hK.out _ _ (HSh.out _ HT.out) (fun hHeld => ?_)
        clear hK K
        simp only [Act.put, List.setIfInBounds_toArray, List.set_cons_zero, List.set_cons_succ]
        rw [cellsOf_snoc] at hown
        refine held_take (i := 15) (v := ?_) rfl rfl (by kernel_rfl) (by kernel_rfl) (by kernel_rfl) (fun _ _ _ h => h) (Or.inl ⟨by rfl, ?_⟩) hHeld ?_
        rotate_left
        · (intro w hSw; (try dsimp only at hSw); go_simp; try with_reducible rfl)
        simp only [Act.put, List.setIfInBounds_toArray, List.set_cons_zero, List.set_cons_succ]
        obtain ⟨q0, q1⟩ := hHeld
        refine wpAnyH_done (by kernel_rfl) ?_ _
        refine last_step rfl (fun K hK => ?_)
        go_simp
        refine hK _ _ ?_
        clear hK K
        go_wp2_with fail
        go_meet
        case rel => exact HEnd.out _ _ HT.out hown
      case rest =>
      rename World => w6
      obtain ⟨hx0, hx1, hO3, hT6⟩ := hcut
      obtain ⟨g3, c3, rfl, hg3, hg3'⟩ := own_where hO3 (Nat.succ_pos _)
      have hz5 := HB5.out.size
      have hz56 := hT6.size
      have hzx := HX15.out.lt
      have HX06 : Hid (Box3 w6 w.heap.size (.slice (some ⟨g1, 0, none⟩) 8 cap1) (.slice (some ⟨g3, 0, none⟩) (n + 1) c3) (.slice aa n ca)) := hx0
      have HX16 : Hid (Box3 w6 (w.heap.size + 1) (.slice none 0 0) (.slice none 0 0) (.slice none 0 0)) := hx1
      have HT6 : Hid (Tch (fun b => (Value.slice aS n cs).ownBlock = some b ∨ b = w.heap.size) w5 w6) := hT6
      have hg15 : w3.heap.size ≤ g1 ∧ g1 < w5.heap.size := own_lt' O5.out hg1.1
      have O6 : Hid (w6.ownsRow w.heap.size 3 1 (.slice (some ⟨g1, 0, none⟩) 8 cap1) 8 (cellsOf (O.set L (n : Int)))) := own_still O5.out fun b e => HT6.out.block b (own_lt O5.out e).2 (by
        have e2 : g1 = b := Option.some.inj e
        rintro (h | h)
        · have := HVl.out b h; omega
        · omega)
      have HNA : Hid (A.length = n) := HD.out.lenA.trans HN.out
      have OS0 : Hid (w6.ownsRow base 3 1 (.slice aa n ca) n (cellsOf A)) := by
        have h1 := HD.out.a
        rw [HN.out] at h1
        refine own_still (own_below h1 HB5.out) fun b e => HT6.out.block b (Nat.lt_of_lt_of_le (own_lt h1 e).2 hz5) ?_
        rintro (h | h)
        · exact HD.out.sa b h e
        · have := (own_lt h1 e).2; omega
      have O3 : Hid (w6.ownsRow w5.heap.size 3 1 (.slice (some ⟨g3, 0, none⟩) (n + 1) c3) (n + 1) (cellsOf (S ++ [y]))) := hO3
      have HBs : Hid (base ≤ w6.heap.size) := Nat.le_trans HBs.out hz56
      have HVa : Hid (∀ b, (Value.slice aa n ca).ownBlock = some b → b < w.heap.size) := fun b e => (own_lt HD.out.a e).2
      have HVl5 : Hid (∀ b, (Value.slice aa n ca).ownBlock = some b → b < w6.heap.size) := fun b e => by have := HVa.out b e; omega
      have HSh : Hid (∀ W, Tch (fun b => (Value.slice aa n ca).ownBlock = some b) w6 W → W.cell? ⟨w.heap.size, 2, none⟩ = some (.slice aa n ca) ∧ W.frozen? ⟨w.heap.size, 2, none⟩ = false) := fun W hT => by
        obtain ⟨_, _, q2, _, _, q5⟩ := (HX06.out.same (hT.block _ HX06.out.lt (fun e => by have := HVa.out _ e; omega))).facts
        exact ⟨q2, q5⟩
      have HSe : Hid _ := fun (W : World) (v : Value) (hv : W.ownsRow base 3 1 v (n + 1) (cellsOf (A ++ [0]))) => set_end W base v A n hv hlen
      have HEnd : Hid (∀ W v4, Tch (fun b => (Value.slice aa n ca).ownBlock = some b) w6 W → W.ownsRow w6.heap.size 3 1 v4 (n + 1) (cellsOf (A ++ [0])) →
          Box3 (W.setCell ⟨w.heap.size, 2, none⟩ v4) w.heap.size (.slice (some ⟨g1, 0, none⟩) 8 cap1) (.slice (some ⟨g3, 0, none⟩) (n + 1) c3) v4 ∧ Box3 (W.setCell ⟨w.heap.size, 2, none⟩ v4) (w.heap.size + 1) (.slice none 0 0) (.slice none 0 0) (.slice none 0 0) ∧
          (W.setCell ⟨w.heap.size, 2, none⟩ v4).ownsRow w6.heap.size 3 1 v4 (n + 1) (cellsOf (A ++ [0])) ∧ Tch (fun b => (Value.slice aa n ca).ownBlock = some b ∨ b = w.heap.size) w6 (W.setCell ⟨w.heap.size, 2, none⟩ v4)) := by
        show ∀ W v4, _ → _ → _
        intro W v4 hT hO
        refine ⟨(HX06.out.same (hT.block _ HX06.out.lt (fun e => by have := HVa.out _ e; omega))).set2 v4, (HX16.out.same (hT.block _ HX16.out.lt (fun e => by have := HVa.out _ e; omega))).off (p := ⟨w.heap.size, 2, none⟩) (by simp) v4, own_still hO fun b e => Below.heap_setCell _ _ _ _ ?_, ?_⟩
        · have h1 := (own_lt hO e).1
          have h2 := HX06.out.lt
          show b ≠ w.heap.size
          omega
        · exact (hT.mono fun _ h => .inl h).trans (T := fun b => b = w.heap.size) (Tch.set W v4 rfl) fun x hx => .inl (.inr hx)
      clear hx0 hx1 hO3 hT6
      go_upto_region 8 with fail
      go_cut [54] (fun v4 W => Box3 W w.heap.size (.slice (some ⟨g1, 0, none⟩) 8 cap1) (.slice (some ⟨g3, 0, none⟩) (n + 1) c3) v4 ∧ Box3 W (w.heap.size + 1) (.slice none 0 0) (.slice none 0 0) (.slice none 0 0) ∧
          W.ownsRow w6.heap.size 3 1 v4 (n + 1) (cellsOf (A ++ [0])) ∧ Tch (fun b => (Value.slice aa n ca).ownBlock = some b ∨ b = w.heap.size) w6 W)
      case first =>
        refine wp_region_last (S := fun W => W.cell? ⟨w.heap.size, 2, none⟩ = some (.slice aa n ca) ∧ W.frozen? ⟨w.heap.size, 2, none⟩ = false) 15 (by kernel_rfl) (by kernel_rfl) ?hs (fun hHeld => ?_)
        case hs => exact HSh.out _ (Tch.of (below_drew1 _ _))
        refine held_take (i := 0) (v := ?_) rfl rfl (by kernel_rfl) (by kernel_rfl) (by kernel_rfl) (fun _ _ _ h => h) (Or.inl ⟨by rfl, ?_⟩) hHeld ?_
        rotate_left
        · (intro w hSw; (try dsimp only at hSw); go_simp; try with_reducible rfl)
        simp only [Act.put, List.setIfInBounds_toArray, List.set_cons_zero, List.set_cons_succ]
        refine held_take (i := 1) (v := ?_) rfl rfl (by kernel_rfl) (by kernel_rfl) (by kernel_rfl) (fun _ _ _ h => h) (Or.inl ⟨by rfl, ?_⟩) hHeld ?_
        rotate_left
        · (intro w hSw; (try dsimp only at hSw); go_simp; try with_reducible rfl)
        simp only [Act.put, List.setIfInBounds_toArray, List.set_cons_zero, List.set_cons_succ]
        refine held_take (i := 4) (v := ?_) rfl rfl (by kernel_rfl) (by kernel_rfl) (by kernel_rfl) (fun _ _ _ h => h) (Or.inl ⟨by rfl, ?_⟩) hHeld ?_
        rotate_left
        · (intro w hSw; (try dsimp only at hSw); go_simp; try with_reducible rfl)
        simp only [Act.put, List.setIfInBounds_toArray, List.set_cons_zero, List.set_cons_succ]
        refine held_take (i := 5) (v := ?_) rfl rfl (by kernel_rfl) (by kernel_rfl) (by kernel_rfl) (fun _ _ _ h => h) (Or.inl ⟨by rfl, ?_⟩) hHeld ?_
        rotate_left
        · (intro w hSw; (try dsimp only at hSw); go_simp; try with_reducible rfl)
        simp only [Act.put, List.setIfInBounds_toArray, List.set_cons_zero, List.set_cons_succ]
        refine held_take (i := 6) (v := ?_) rfl rfl (by kernel_rfl) (by kernel_rfl) (by kernel_rfl) (fun _ _ _ h => h) (Or.inl ⟨by rfl, ?_⟩) hHeld ?_
        rotate_left
        · (intro w hSw; (try dsimp only at hSw); go_simp; try with_reducible rfl)
        simp only [Act.put, List.setIfInBounds_toArray, List.set_cons_zero, List.set_cons_succ]
        refine held_take (i := 8) (v := ?_) rfl rfl (by kernel_rfl) (by kernel_rfl) (by kernel_rfl) (fun _ _ _ h => h) (Or.inl ⟨by rfl, ?_⟩) hHeld ?_
        rotate_left
        · (intro w hSw; (try dsimp only at hSw); go_simp; try with_reducible rfl)
        simp only [Act.put, List.setIfInBounds_toArray, List.set_cons_zero, List.set_cons_succ]
        refine held_take (i := 9) (v := ?_) rfl rfl (by kernel_rfl) (by kernel_rfl) (by kernel_rfl) (fun _ _ _ h => h) (Or.inl ⟨by rfl, ?_⟩) hHeld ?_
        rotate_left
        · (intro w hSw; (try dsimp only at hSw); go_simp; try with_reducible rfl)
        simp only [Act.put, List.setIfInBounds_toArray, List.set_cons_zero, List.set_cons_succ]
        refine held_take (i := 10) (v := ?_) rfl rfl (by kernel_rfl) (by kernel_rfl) (by kernel_rfl) (fun _ _ _ h => h) (Or.inl ⟨by rfl, ?_⟩) hHeld ?_
        rotate_left
        · (intro w hSw; (try dsimp only at hSw); go_simp; try with_reducible rfl)
        simp only [Act.put, List.setIfInBounds_toArray, List.set_cons_zero, List.set_cons_succ]
        have HT : Hid (Tch (fun b => (Value.slice aa n ca).ownBlock = some b) w6 w6.drew) := Tch.of (below_drew1 _ _)
        have OS : Hid (World.ownsRow w6.drew base 3 1 (.slice aa n ca) n (cellsOf A)) := OS0.out
        generalize World.drew w6 = W0 at HT OS hHeld ⊢
        have HTz : Hid (w6.heap.size ≤ W0.heap.size) := HT.out.size
        refine wpAnyH_ready (rs := [2, 12]) (by kernel_rfl) (by simp) ?_
        refine AllReadyH.cons rfl (fun K hK => ?_) ?_
        · skip
          go_simp
          refine hK.out _ _ (HSh.out _ (tch_alloc HT.out _)) (fun hHeld => ?_)
          clear hK K
          have HT : Hid (Tch (fun b => (Value.slice aa n ca).ownBlock = some b) w6 (World.alloc W0 (.cells #[.int .i64 0] 3))) := tch_alloc HT.out _
          have L0 : Hid (Lit w6 (World.alloc W0 (.cells #[.int .i64 0] 3)) (World.heap W0).size 0) := lit_new HTz.out _
          have OS : Hid (World.ownsRow (World.alloc W0 (.cells #[.int .i64 0] 3)) base 3 1 (.slice aa n ca) n (cellsOf A)) := own_below OS.out (below_alloc _ _)
          have HTz : Hid (w6.heap.size ≤ (World.heap (World.alloc W0 (.cells #[.int .i64 0] 3))).size) := HT.out.size
          generalize (World.alloc W0 (.cells #[.int .i64 0] 3)) = W1 at HT L0 HTz hHeld OS ⊢
          obtain ⟨a0, ha0⟩ : ∃ x, (World.heap W0).size = x := ⟨_, rfl⟩
          rw [ha0] at L0 ⊢
          clear ha0
          refine wpAnyH_ready (rs := [3, 12]) (by kernel_rfl) (by simp) ?_
          refine held_next rfl rfl (fun K hK => ?_) ?_
          · skip
            refine step_append_own (by rfl) (.tmp 42) (.tmp 43) 36 (by rfl) base 3 ti (.int .i64 0) 1 8 Tryd.underlying36 hti hz0 hz1 hz2 rfl (by decide) (.slice aa n ca) n (cellsOf A) (by rfl) OS.out ⟨a0, 0, none⟩ 1 1 [.int .i64 0] (by rfl) rfl L0.out.news (ones_one _) (by unfold maxLen; omega) (by omega) (Nat.le_trans HBs.out HTz.out) ?_
            intro v1 W2 hown hgr
            have HT : Hid (Tch (fun b => (Value.slice aa n ca).ownBlock = some b) w6 W2) := tch_grown HT.out hgr (fun b e => .inl e)
            refine hK.out _ _ (HSh.out _ HT.out) (fun hHeld => ?_)
            clear hK K
            simp only [Act.put, List.setIfInBounds_toArray, List.set_cons_zero, List.set_cons_succ]
            have O1 : Hid (World.ownsRow W2 base 3 1 v1 (n + 1) (cellsOf (A ++ [0]))) := by rw [cellsOf_snoc] at hown; exact hown
            have HTz : Hid (w6.heap.size ≤ W2.heap.size) := HT.out.size
            clear hown hgr OS L0
            refine wpAnyH_ready (rs := [7, 12]) (by kernel_rfl) (by simp) ?_
            refine AllReadyH.cons rfl (fun K hK => ?_) ?_
            · skip
              go_simp
              go_at_call 18
              refine (HSe.out _ _ O1.out).mono ?_
              rintro e W3 ⟨g2, cap2, rfl, ho2, hb2⟩
              have HT : Hid (Tch (fun b => (Value.slice aa n ca).ownBlock = some b) w6 W3) := tch_later HT.out hb2
              go_simp
              refine hK.out _ _ (HSh.out _ HT.out) (fun hHeld => ?_)
              clear hK K
              have O2 : Hid (World.ownsRow W3 w6.heap.size 3 1 (.slice (some ⟨g2, 0, none⟩) (n + 1) cap2) (n + 1) (cellsOf (A ++ [0]))) := own_down ho2 HTz.out
              have hcap := own_room ho2
              have HTz : Hid (w6.heap.size ≤ W3.heap.size) := HT.out.size
              clear ho2 hb2 O1
              refine held_take (i := 11) (v := ?_) rfl rfl (by kernel_rfl) (by kernel_rfl) (by kernel_rfl) (fun _ _ _ h => h) (Or.inl ⟨by rfl, ?_⟩) hHeld ?_
              rotate_left
              · (intro w hSw; (try dsimp only at hSw); go_simp; try with_reducible rfl)
              simp only [Act.put, List.setIfInBounds_toArray, List.set_cons_zero, List.set_cons_succ]
              refine wpAnyH_ready (rs := [12]) (by kernel_rfl) (by simp) ?_
              refine AllReadyH.cons rfl (fun K hK => ?_) AllReadyH.nil
              go_simp
              refine hK.out _ _ (HSh.out _ (tch_alloc HT.out _)) (fun hHeld => ?_)
              clear hK K
              have HT : Hid (Tch (fun b => (Value.slice aa n ca).ownBlock = some b) w6 (World.alloc W3 (.cells #[.int .i64 0] 3))) := tch_alloc HT.out _
              have LN : Hid (Lit w6 (World.alloc W3 (.cells #[.int .i64 0] 3)) (World.heap W3).size 0) := lit_new HTz.out _
              have O2 : Hid (World.ownsRow (World.alloc W3 (.cells #[.int .i64 0] 3)) w6.heap.size 3 1 (.slice (some ⟨g2, 0, none⟩) (n + 1) cap2) (n + 1) (cellsOf (A ++ [0]))) := own_below O2.out (below_alloc _ _)
              have HTz : Hid (w6.heap.size ≤ (World.heap (World.alloc W3 (.cells #[.int .i64 0] 3))).size) := HT.out.size
              generalize (World.alloc W3 (.cells #[.int .i64 0] 3)) = W4 at HT LN HTz hHeld O2 ⊢
              obtain ⟨aN, haN⟩ : ∃ x, (World.heap W3).size = x := ⟨_, rfl⟩
              rw [haN] at LN ⊢
              clear haN
              refine wpAnyH_ready (rs := [13]) (by kernel_rfl) (by simp) ?_
              refine held_next rfl rfl (fun K hK => ?_) AllReadyH.nil
              refine step_append_own (by rfl) (.tmp 52) (.tmp 53) 36 (by rfl) w6.heap.size 3 ti (.int .i64 0) 1 8 Tryd.underlying36 hti hz0 hz1 hz2 rfl (by decide) (.slice (some ⟨g2, 0, none⟩) n cap2) n (cellsOf A) (by rfl) (own_prefix HNA.out O2.out) ⟨aN, 0, none⟩ 1 1 [.int .i64 0] (by rfl) rfl LN.out.news (ones_one _) (by unfold maxLen; omega) (by omega) HTz.out ?_
              intro v3 W5 hown hgr
              obtain ⟨g3, c3, rfl, _, _⟩ := own_where hown (Nat.succ_pos _)
              have HT : Hid (Tch (fun b => (Value.slice aa n ca).ownBlock = some b) w6 W5) := tch_grown HT.out hgr (fun b e => .inr (by have := (own_lt O2.out (b := g2) rfl).1; have e2 : g2 = b := Option.some.inj e; omega))
              refine hK.out _ _ (HSh.out _ HT.out) (fun hHeld => ?_)
              clear hK K
              simp only [Act.put, List.setIfInBounds_toArray, List.set_cons_zero, List.set_cons_succ]
              rw [cellsOf_snoc] at hown
              refine held_take (i := 14) (v := ?_) rfl rfl (by kernel_rfl) (by kernel_rfl) (by kernel_rfl) (fun _ _ _ h => h) (Or.inl ⟨by rfl, ?_⟩) hHeld ?_
              rotate_left
              · (intro w hSw; (try dsimp only at hSw); go_simp; try with_reducible rfl)
              simp only [Act.put, List.setIfInBounds_toArray, List.set_cons_zero, List.set_cons_succ]
              obtain ⟨q0, q1⟩ := hHeld
              refine wpAnyH_done (by kernel_rfl) ?_ _
              refine last_step rfl (fun K hK => ?_)
              go_simp
              refine hK _ _ ?_
              clear hK K
              go_wp2_with fail
              go_meet
              case rel => exact HEnd.out _ _ HT.out hown
            refine AllReadyH.cons rfl (fun K hK => ?_) AllReadyH.nil
            go_simp
            refine hK.out _ _ (HSh.out _ (tch_alloc HT.out _)) (fun hHeld => ?_)
            clear hK K
            have HT : Hid (Tch (fun b => (Value.slice aa n ca).ownBlock = some b) w6 (World.alloc W2 (.cells #[.int .i64 0] 3))) := tch_alloc HT.out _
            have LN : Hid (Lit w6 (World.alloc W2 (.cells #[.int .i64 0] 3)) (World.heap W2).size 0) := lit_new HTz.out _
            have O1 : Hid (World.ownsRow (World.alloc W2 (.cells #[.int .i64 0] 3)) base 3 1 v1 (n + 1) (cellsOf (A ++ [0]))) := own_below O1.out (below_alloc _ _)
            have HTz : Hid (w6.heap.size ≤ (World.heap (World.alloc W2 (.cells #[.int .i64 0] 3))).size) := HT.out.size
            generalize (World.alloc W2 (.cells #[.int .i64 0] 3)) = W6 at HT LN HTz hHeld O1 ⊢
            obtain ⟨aN, haN⟩ : ∃ x, (World.heap W2).size = x := ⟨_, rfl⟩
            rw [haN] at LN ⊢
            clear haN
            refine wpAnyH_ready (rs := [7]) (by kernel_rfl) (by simp) ?_
            refine AllReadyH.cons rfl (fun K hK => ?_) AllReadyH.nil
            go_simp
            go_at_call 18
            refine (HSe.out _ _ O1.out).mono ?_
            rintro e W7 ⟨g2, cap2, rfl, ho2, hb2⟩
            have HT : Hid (Tch (fun b => (Value.slice aa n ca).ownBlock = some b) w6 W7) := tch_later HT.out hb2
            go_simp
            refine hK.out _ _ (HSh.out _ HT.out) (fun hHeld => ?_)
            clear hK K
            have O2 : Hid (World.ownsRow W7 w6.heap.size 3 1 (.slice (some ⟨g2, 0, none⟩) (n + 1) cap2) (n + 1) (cellsOf (A ++ [0]))) := own_down ho2 HTz.out
            have LN : Hid (Lit w6 W7 aN 0) := LN.out.later hb2
            have hcap := own_room ho2
            have HTz : Hid (w6.heap.size ≤ W7.heap.size) := HT.out.size
            clear ho2 hb2 O1
            refine held_take (i := 11) (v := ?_) rfl rfl (by kernel_rfl) (by kernel_rfl) (by kernel_rfl) (fun _ _ _ h => h) (Or.inl ⟨by rfl, ?_⟩) hHeld ?_
            rotate_left
            · (intro w hSw; (try dsimp only at hSw); go_simp; try with_reducible rfl)
            simp only [Act.put, List.setIfInBounds_toArray, List.set_cons_zero, List.set_cons_succ]
            refine wpAnyH_ready (rs := [13]) (by kernel_rfl) (by simp) ?_
            refine held_next rfl rfl (fun K hK => ?_) AllReadyH.nil
            refine step_append_own (by rfl) (.tmp 52) (.tmp 53) 36 (by rfl) w6.heap.size 3 ti (.int .i64 0) 1 8 Tryd.underlying36 hti hz0 hz1 hz2 rfl (by decide) (.slice (some ⟨g2, 0, none⟩) n cap2) n (cellsOf A) (by rfl) (own_prefix HNA.out O2.out) ⟨aN, 0, none⟩ 1 1 [.int .i64 0] (by rfl) rfl LN.out.news (ones_one _) (by unfold maxLen; omega) (by omega) HTz.out ?_
            intro v3 W8 hown hgr
            obtain ⟨g3, c3, rfl, _, _⟩ := own_where hown (Nat.succ_pos _)
            have HT : Hid (Tch (fun b => (Value.slice aa n ca).ownBlock = some b) w6 W8) := tch_grown HT.out hgr (fun b e => .inr (by have := (own_lt O2.out (b := g2) rfl).1; have e2 : g2 = b := Option.some.inj e; omega))
            refine hK.out _ _ (HSh.out _ HT.out) (fun hHeld => ?_)
            clear hK K
            simp only [Act.put, List.setIfInBounds_toArray, List.set_cons_zero, List.set_cons_succ]
            rw [cellsOf_snoc] at hown
            refine held_take (i := 14) (v := ?_) rfl rfl (by kernel_rfl) (by kernel_rfl) (by kernel_rfl) (fun _ _ _ h => h) (Or.inl ⟨by rfl, ?_⟩) hHeld ?_
            rotate_left
            · (intro w hSw; (try dsimp only at hSw); go_simp; try with_reducible rfl)
            simp only [Act.put, List.setIfInBounds_toArray, List.set_cons_zero, List.set_cons_succ]
            obtain ⟨q0, q1⟩ := hHeld
            refine wpAnyH_done (by kernel_rfl) ?_ _
            refine last_step rfl (fun K hK => ?_)
            go_simp
            refine hK _ _ ?_
            clear hK K
            go_wp2_with fail
            go_meet
            case rel => exact HEnd.out _ _ HT.out hown
          refine AllReadyH.cons rfl (fun K hK => ?_) AllReadyH.nil
          go_simp
          refine hK.out _ _ (HSh.out _ (tch_alloc HT.out _)) (fun hHeld => ?_)
          clear hK K
          have HT : Hid (Tch (fun b => (Value.slice aa n ca).ownBlock = some b) w6 (World.alloc W1 (.cells #[.int .i64 0] 3))) := tch_alloc HT.out _
          have LN : Hid (Lit w6 (World.alloc W1 (.cells #[.int .i64 0] 3)) (World.heap W1).size 0) := lit_new HTz.out _
          have OS : Hid (World.ownsRow (World.alloc W1 (.cells #[.int .i64 0] 3)) base 3 1 (.slice aa n ca) n (cellsOf A)) := own_below OS.out (below_alloc _ _)
          have L0 : Hid (Lit w6 (World.alloc W1 (.cells #[.int .i64 0] 3)) a0 0) := L0.out.later (below_alloc _ _)
          have HTz : Hid (w6.heap.size ≤ (World.heap (World.alloc W1 (.cells #[.int .i64 0] 3))).size) := HT.out.size
          generalize (World.alloc W1 (.cells #[.int .i64 0] 3)) = W9 at HT LN HTz hHeld OS L0 ⊢
          obtain ⟨aN, haN⟩ : ∃ x, (World.heap W1).size = x := ⟨_, rfl⟩
          rw [haN] at LN ⊢
          clear haN
          refine wpAnyH_ready (rs := [3]) (by kernel_rfl) (by simp) ?_
          refine held_next rfl rfl (fun K hK => ?_) AllReadyH.nil
          refine step_append_own (by rfl) (.tmp 42) (.tmp 43) 36 (by rfl) base 3 ti (.int .i64 0) 1 8 Tryd.underlying36 hti hz0 hz1 hz2 rfl (by decide) (.slice aa n ca) n (cellsOf A) (by rfl) OS.out ⟨a0, 0, none⟩ 1 1 [.int .i64 0] (by rfl) rfl L0.out.news (ones_one _) (by unfold maxLen; omega) (by omega) (Nat.le_trans HBs.out HTz.out) ?_
          intro v1 W10 hown hgr
          have HT : Hid (Tch (fun b => (Value.slice aa n ca).ownBlock = some b) w6 W10) := tch_grown HT.out hgr (fun b e => .inl e)
          refine hK.out _ _ (HSh.out _ HT.out) (fun hHeld => ?_)
          clear hK K
          simp only [Act.put, List.setIfInBounds_toArray, List.set_cons_zero, List.set_cons_succ]
          have O1 : Hid (World.ownsRow W10 base 3 1 v1 (n + 1) (cellsOf (A ++ [0]))) := by rw [cellsOf_snoc] at hown; exact hown
          have LN : Hid (Lit w6 W10 aN 0) := LN.out.grown hgr (fun e => absurd (HVl5.out _ e.symm) (Nat.not_lt.2 LN.out.above))
          have HTz : Hid (w6.heap.size ≤ W10.heap.size) := HT.out.size
          clear hown hgr OS L0
          refine wpAnyH_ready (rs := [7]) (by kernel_rfl) (by simp) ?_
          refine AllReadyH.cons rfl (fun K hK => ?_) AllReadyH.nil
          go_simp
          go_at_call 18
          refine (HSe.out _ _ O1.out).mono ?_
          rintro e W11 ⟨g2, cap2, rfl, ho2, hb2⟩
          have HT : Hid (Tch (fun b => (Value.slice aa n ca).ownBlock = some b) w6 W11) := tch_later HT.out hb2
          go_simp
          refine hK.out _ _ (HSh.out _ HT.out) (fun hHeld => ?_)
          clear hK K
          have O2 : Hid (World.ownsRow W11 w6.heap.size 3 1 (.slice (some ⟨g2, 0, none⟩) (n + 1) cap2) (n + 1) (cellsOf (A ++ [0]))) := own_down ho2 HTz.out
          have LN : Hid (Lit w6 W11 aN 0) := LN.out.later hb2
          have hcap := own_room ho2
          have HTz : Hid (w6.heap.size ≤ W11.heap.size) := HT.out.size
          clear ho2 hb2 O1
          refine held_take (i := 11) (v := ?_) rfl rfl (by kernel_rfl) (by kernel_rfl) (by kernel_rfl) (fun _ _ _ h => h) (Or.inl ⟨by rfl, ?_⟩) hHeld ?_
          rotate_left
          · (intro w hSw; (try dsimp only at hSw); go_simp; try with_reducible rfl)
          simp only [Act.put, List.setIfInBounds_toArray, List.set_cons_zero, List.set_cons_succ]
          refine wpAnyH_ready (rs := [13]) (by kernel_rfl) (by simp) ?_
          refine held_next rfl rfl (fun K hK => ?_) AllReadyH.nil
          refine step_append_own (by rfl) (.tmp 52) (.tmp 53) 36 (by rfl) w6.heap.size 3 ti (.int .i64 0) 1 8 Tryd.underlying36 hti hz0 hz1 hz2 rfl (by decide) (.slice (some ⟨g2, 0, none⟩) n cap2) n (cellsOf A) (by rfl) (own_prefix HNA.out O2.out) ⟨aN, 0, none⟩ 1 1 [.int .i64 0] (by rfl) rfl LN.out.news (ones_one _) (by unfold maxLen; omega) (by omega) HTz.out ?_
          intro v3 W12 hown hgr
          obtain ⟨g3, c3, rfl, _, _⟩ := own_where hown (Nat.succ_pos _)
          have HT : Hid (Tch (fun b => (Value.slice aa n ca).ownBlock = some b) w6 W12) := tch_grown HT.out hgr (fun b e => .inr (by have := (own_lt O2.out (b := g2) rfl).1; have e2 : g2 = b := Option.some.inj e; omega))
          refine hK.out _ _ (HSh.out _ HT.out) (fun hHeld => ?_)
          clear hK K
          simp only [Act.put, List.setIfInBounds_toArray, List.set_cons_zero, List.set_cons_succ]
          rw [cellsOf_snoc] at hown
          refine held_take (i := 14) (v := ?_) rfl rfl (by kernel_rfl) (by kernel_rfl) (by kernel_rfl) (fun _ _ _ h => h) (Or.inl ⟨by rfl, ?_⟩) hHeld ?_
          rotate_left
          · (intro w hSw; (try dsimp only at hSw); go_simp; try with_reducible rfl)
          simp only [Act.put, List.setIfInBounds_toArray, List.set_cons_zero, List.set_cons_succ]
          obtain ⟨q0, q1⟩ := hHeld
          refine wpAnyH_done (by kernel_rfl) ?_ _
          refine last_step rfl (fun K hK => ?_)
          go_simp
          refine hK _ _ ?_
          clear hK K
          go_wp2_with fail
          go_meet
          case rel => exact HEnd.out _ _ HT.out hown
        refine AllReadyH.cons rfl (fun K hK => ?_) AllReadyH.nil
        go_simp
        refine hK.out _ _ (HSh.out _ (tch_alloc HT.out _)) (fun hHeld => ?_)
        clear hK K
        have HT : Hid (Tch (fun b => (Value.slice aa n ca).ownBlock = some b) w6 (World.alloc W0 (.cells #[.int .i64 0] 3))) := tch_alloc HT.out _
        have LN : Hid (Lit w6 (World.alloc W0 (.cells #[.int .i64 0] 3)) (World.heap W0).size 0) := lit_new HTz.out _
        have OS : Hid (World.ownsRow (World.alloc W0 (.cells #[.int .i64 0] 3)) base 3 1 (.slice aa n ca) n (cellsOf A)) := own_below OS.out (below_alloc _ _)
        have HTz : Hid (w6.heap.size ≤ (World.heap (World.alloc W0 (.cells #[.int .i64 0] 3))).size) := HT.out.size
        generalize (World.alloc W0 (.cells #[.int .i64 0] 3)) = W13 at HT LN HTz hHeld OS ⊢
        obtain ⟨aN, haN⟩ : ∃ x, (World.heap W0).size = x := ⟨_, rfl⟩
        rw [haN] at LN ⊢
        clear haN
        refine wpAnyH_ready (rs := [2]) (by kernel_rfl) (by simp) ?_
        refine AllReadyH.cons rfl (fun K hK => ?_) AllReadyH.nil
        go_simp
        refine hK.out _ _ (HSh.out _ (tch_alloc HT.out _)) (fun hHeld => ?_)
        clear hK K
        have HT : Hid (Tch (fun b => (Value.slice aa n ca).ownBlock = some b) w6 (World.alloc W13 (.cells #[.int .i64 0] 3))) := tch_alloc HT.out _
        have L0 : Hid (Lit w6 (World.alloc W13 (.cells #[.int .i64 0] 3)) (World.heap W13).size 0) := lit_new HTz.out _
        have OS : Hid (World.ownsRow (World.alloc W13 (.cells #[.int .i64 0] 3)) base 3 1 (.slice aa n ca) n (cellsOf A)) := own_below OS.out (below_alloc _ _)
        have LN : Hid (Lit w6 (World.alloc W13 (.cells #[.int .i64 0] 3)) aN 0) := LN.out.later (below_alloc _ _)
        have HTz : Hid (w6.heap.size ≤ (World.heap (World.alloc W13 (.cells #[.int .i64 0] 3))).size) := HT.out.size
        generalize (World.alloc W13 (.cells #[.int .i64 0] 3)) = W14 at HT L0 HTz hHeld OS LN ⊢
        obtain ⟨a0, ha0⟩ : ∃ x, (World.heap W13).size = x := ⟨_, rfl⟩
        rw [ha0] at L0 ⊢
        clear ha0
        refine wpAnyH_ready (rs := [3]) (by kernel_rfl) (by simp) ?_
        refine held_next rfl rfl (fun K hK => ?_) AllReadyH.nil
        refine step_append_own (by rfl) (.tmp 42) (.tmp 43) 36 (by rfl) base 3 ti (.int .i64 0) 1 8 Tryd.underlying36 hti hz0 hz1 hz2 rfl (by decide) (.slice aa n ca) n (cellsOf A) (by rfl) OS.out ⟨a0, 0, none⟩ 1 1 [.int .i64 0] (by rfl) rfl L0.out.news (ones_one _) (by unfold maxLen; omega) (by omega) (Nat.le_trans HBs.out HTz.out) ?_
        intro v1 W15 hown hgr
        have HT : Hid (Tch (fun b => (Value.slice aa n ca).ownBlock = some b) w6 W15) := tch_grown HT.out hgr (fun b e => .inl e)
        refine hK.out _ _ (HSh.out _ HT.out) (fun hHeld => ?_)
        clear hK K
        simp only [Act.put, List.setIfInBounds_toArray, List.set_cons_zero, List.set_cons_succ]
        have O1 : Hid (World.ownsRow W15 base 3 1 v1 (n + 1) (cellsOf (A ++ [0]))) := by rw [cellsOf_snoc] at hown; exact hown
        have LN : Hid (Lit w6 W15 aN 0) := LN.out.grown hgr (fun e => absurd (HVl5.out _ e.symm) (Nat.not_lt.2 LN.out.above))
        have HTz : Hid (w6.heap.size ≤ W15.heap.size) := HT.out.size
        clear hown hgr OS L0
        refine wpAnyH_ready (rs := [7]) (by kernel_rfl) (by simp) ?_
        refine AllReadyH.cons rfl (fun K hK => ?_) AllReadyH.nil
        go_simp
        go_at_call 18
        refine (HSe.out _ _ O1.out).mono ?_
        rintro e W16 ⟨g2, cap2, rfl, ho2, hb2⟩
        have HT : Hid (Tch (fun b => (Value.slice aa n ca).ownBlock = some b) w6 W16) := tch_later HT.out hb2
        go_simp
        refine hK.out _ _ (HSh.out _ HT.out) (fun hHeld => ?_)
        clear hK K
        have O2 : Hid (World.ownsRow W16 w6.heap.size 3 1 (.slice (some ⟨g2, 0, none⟩) (n + 1) cap2) (n + 1) (cellsOf (A ++ [0]))) := own_down ho2 HTz.out
        have LN : Hid (Lit w6 W16 aN 0) := LN.out.later hb2
        have hcap := own_room ho2
        have HTz : Hid (w6.heap.size ≤ W16.heap.size) := HT.out.size
        clear ho2 hb2 O1
        refine held_take (i := 11) (v := ?_) rfl rfl (by kernel_rfl) (by kernel_rfl) (by kernel_rfl) (fun _ _ _ h => h) (Or.inl ⟨by rfl, ?_⟩) hHeld ?_
        rotate_left
        · (intro w hSw; (try dsimp only at hSw); go_simp; try with_reducible rfl)
        simp only [Act.put, List.setIfInBounds_toArray, List.set_cons_zero, List.set_cons_succ]
        refine wpAnyH_ready (rs := [13]) (by kernel_rfl) (by simp) ?_
        refine held_next rfl rfl (fun K hK => ?_) AllReadyH.nil
        refine step_append_own (by rfl) (.tmp 52) (.tmp 53) 36 (by rfl) w6.heap.size 3 ti (.int .i64 0) 1 8 Tryd.underlying36 hti hz0 hz1 hz2 rfl (by decide) (.slice (some ⟨g2, 0, none⟩) n cap2) n (cellsOf A) (by rfl) (own_prefix HNA.out O2.out) ⟨aN, 0, none⟩ 1 1 [.int .i64 0] (by rfl) rfl LN.out.news (ones_one _) (by unfold maxLen; omega) (by omega) HTz.out ?_
        intro v3 W17 hown hgr
        obtain ⟨g3, c3, rfl, _, _⟩ := own_where hown (Nat.succ_pos _)
        have HT : Hid (Tch (fun b => (Value.slice aa n ca).ownBlock = some b) w6 W17) := tch_grown HT.out hgr (fun b e => .inr (by have := (own_lt O2.out (b := g2) rfl).1; have e2 : g2 = b := Option.some.inj e; omega))
        refine hK.out _ _ (HSh.out _ HT.out) (fun hHeld => ?_)
        clear hK K
        simp only [Act.put, List.setIfInBounds_toArray, List.set_cons_zero, List.set_cons_succ]
        rw [cellsOf_snoc] at hown
        refine held_take (i := 14) (v := ?_) rfl rfl (by kernel_rfl) (by kernel_rfl) (by kernel_rfl) (fun _ _ _ h => h) (Or.inl ⟨by rfl, ?_⟩) hHeld ?_
        rotate_left
        · (intro w hSw; (try dsimp only at hSw); go_simp; try with_reducible rfl)
        simp only [Act.put, List.setIfInBounds_toArray, List.set_cons_zero, List.set_cons_succ]
        obtain ⟨q0, q1⟩ := hHeld
        refine wpAnyH_done (by kernel_rfl) ?_ _
        refine last_step rfl (fun K hK => ?_)
        go_simp
        refine hK _ _ ?_
        clear hK K
        go_wp2_with fail
        go_meet
        case rel => exact HEnd.out _ _ HT.out hown
      case rest =>
      rename World => w7
      obtain ⟨hx0, hx1, hO4, hT7⟩ := hcut
      obtain ⟨g4, c4, rfl, hg4, hg4'⟩ := own_where hO4 (Nat.succ_pos _)
      have HT7 : Hid (Tch (fun b => (Value.slice aa n ca).ownBlock = some b ∨ b = w.heap.size) w6 w7) := hT7
      have hz67 := hT7.size
      have O4 : Hid (w7.ownsRow w6.heap.size 3 1 (.slice (some ⟨g4, 0, none⟩) (n + 1) c4) (n + 1) (cellsOf (A ++ [0]))) := hO4
      have O7 : Hid (w7.ownsRow w.heap.size 3 1 (.slice (some ⟨g1, 0, none⟩) 8 cap1) 8 (cellsOf (O.set L (n : Int)))) := own_still O6.out fun b e => HT7.out.block b (own_lt O6.out e).2 (by
        have e2 : g1 = b := Option.some.inj e
        rintro (h | h)
        · have := HVa.out b h; omega
        · omega)
      have O37 : Hid (w7.ownsRow w5.heap.size 3 1 (.slice (some ⟨g3, 0, none⟩) (n + 1) c3) (n + 1) (cellsOf (S ++ [y]))) := own_still O3.out fun b e => HT7.out.block b (own_lt O3.out e).2 (by
        have e2 : g3 = b := Option.some.inj e
        rintro (h | h)
        · have := HVa.out b h; omega
        · omega)
      obtain ⟨x0, x1, x2, _, _, _⟩ := hx0.facts
      obtain ⟨y0, y1, y2, f0, f1, f2⟩ := hx1.facts
      clear hx0 hx1 hO4 hT7
      go_wp2_with fail
      refine bodyPost_ret (v := .tuple #[.agg #[.slice (some ⟨g1, 0, none⟩) 8 cap1, .slice (some ⟨g3, 0, none⟩) (n + 1) c3, .slice (some ⟨g4, 0, none⟩) (n + 1) c4], .int .i64 (L : Int), .int .i64 0]) ?_ rfl ?_
      · rw [results_cell3 rfl]
        go_simp
      · have hT8 : Tch (fun b => b = w.heap.size + 1) w7 (((w7.setCell ⟨w.heap.size + 1, 0, none⟩ (.slice (some ⟨g1, 0, none⟩) 8 cap1)).setCell ⟨w.heap.size + 1, 1, none⟩ (.slice (some ⟨g3, 0, none⟩) (n + 1) c3)).setCell ⟨w.heap.size + 1, 2, none⟩ (.slice (some ⟨g4, 0, none⟩) (n + 1) c4)) :=
          tch_set3 w7 _ _ _ _
        generalize (((w7.setCell ⟨w.heap.size + 1, 0, none⟩ (.slice (some ⟨g1, 0, none⟩) 8 cap1)).setCell ⟨w.heap.size + 1, 1, none⟩ (.slice (some ⟨g3, 0, none⟩) (n + 1) c3)).setCell ⟨w.heap.size + 1, 2, none⟩ (.slice (some ⟨g4, 0, none⟩) (n + 1) c4)) = w8 at hT8 ⊢
        have hsz := HN.out
        refine ⟨_, _, _, rfl, ⟨?_, ?_, ?_, ?_, ?_, ?_⟩, ?_, ?_⟩
        · refine own_down (own_still O7.out fun b e => hT8.block b (own_lt O7.out e).2 (by have e2 : g1 = b := Option.some.inj e; show ¬ b = w.heap.size + 1; omega)) HBa.out
        · rw [List.length_append, HN.out]
          refine own_down (own_still O37.out fun b e => hT8.block b (own_lt O37.out e).2 (by have e2 : g3 = b := Option.some.inj e; show ¬ b = w.heap.size + 1; omega)) (Nat.le_trans HBa.out hz5)
        · rw [List.length_append, HN.out]
          refine own_down (own_still O4.out fun b e => hT8.block b (own_lt O4.out e).2 (by have e2 : g4 = b := Option.some.inj e; show ¬ b = w.heap.size + 1; omega)) (by have := HBa.out; omega)
        · intro b e
          have e2 : g1 = b := Option.some.inj e
          exact ⟨fun e3 => by have e4 : g3 = b := Option.some.inj e3; omega, fun e3 => by have e4 : g4 = b := Option.some.inj e3; omega⟩
        · intro b e e3
          have e2 : g3 = b := Option.some.inj e
          have e4 : g4 = b := Option.some.inj e3
          omega
        · rw [List.length_append, HN.out]
          show n + 1 ≤ 100
          omega
        · refine (((Tch.of HB5.out).trans HT6.out ?_).trans HT7.out ?_).trans hT8 ?_
          · rintro x (h | h)
            · exact .inl (.inr (.inl h))
            · exact .inr (by omega)
          · rintro x (h | h)
            · exact .inl (.inr (.inr h))
            · exact .inr (by omega)
          · intro x h
            exact .inr (by rw [h]; omega)
        · rintro b (e | e | e)
          · have e2 : g1 = b := Option.some.inj e
            exact .inr (by omega)
          · have e2 : g3 = b := Option.some.inj e
            exact .inr (by omega)
          · have e2 : g4 = b := Option.some.inj e
            exact .inr (by omega)
  · have HI : Hid _ := fun (w : World) => rin_no y 0 64 w hin
    obtain ⟨e1, e2⟩ : onN F y = 0 ∧ onE F y = 1 := ⟨if_neg hin, if_neg hin⟩
    rw [e1, e2, if_neg (by decide), if_neg (by decide), if_neg (by decide)]
    clear h hg hc hw1 hb1 k0 k1 hbase hF hn hin e1 e2
    go_enter Tryd.func14, Tryd.ntmps14
    go_wp2_with fail
    rw [HW1.out]
    refine Calls.mono (HI.out w1) ?_
    rintro e w9 ⟨rfl, rfl⟩
    obtain ⟨hx0, hx1⟩ := HX.out w1 (Below.refl _ _)
    obtain ⟨x0, x1, x2, _, _, _⟩ := hx0.facts
    obtain ⟨y0, y1, y2, f0, f1, f2⟩ := hx1.facts
    clear hx0 hx1
    go_wp2_with fail
    refine bodyPost_ret (v := .tuple #[.agg #[.slice (some ⟨g, 0, none⟩) 8 cap, .slice aS n cs, .slice aa n ca], .int .i64 0, .int .i64 1]) ?_ rfl ?_
    · rw [results_cell3 rfl]
      go_simp
    · have hq := below_set3 (b := w.heap.size + 1) HB1.out (by omega) (.slice (some ⟨g, 0, none⟩) 8 cap) (.slice aS n cs) (.slice aa n ca)
      exact ⟨_, _, _, rfl, HD.out.later hq, Tch.of hq, fun b e => .inl e⟩

end Go.Proofs.YtekonojkllnejaaDoor
