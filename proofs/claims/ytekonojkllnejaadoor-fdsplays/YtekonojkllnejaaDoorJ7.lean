/- This text proves what the document's own functions in, Set, least and Wrong answer, over lists of numbers of the call's own, and says what it means that the document's numbers lie in memory; old memory is as it was; the conditions are that the lists lie there. -/
import Derived.Test.YtekonojkllnejaaDoorJ5
import Derived.Test.YtekonojkllnejaaDoorAp
namespace Go.Proofs.YtekonojkllnejaaDoor
open Go.RowKit Go.Deep

theorem own_still {w w' : World} {base e n : Nat} {v : Value} {xs : List Value} (h : w.ownsRow base e 1 v n xs) (hb : ∀ b, v.ownBlock = some b → w'.heap[b]? = w.heap[b]?) : w'.ownsRow base e 1 v n xs := by
  refine ⟨h.1, ?_⟩
  rcases h.2 with h0 | ⟨b, cap, cur, h1, h2, h3, h4⟩
  · exact .inl h0
  · exact .inr ⟨b, cap, cur, h1, h2, (hb b (by rw [h1]; rfl)).trans h3, h4⟩
theorem own_down {w : World} {base base' e n : Nat} {v : Value} {xs : List Value} (h : w.ownsRow base e 1 v n xs) (hb : base' ≤ base) : w.ownsRow base' e 1 v n xs := by
  refine ⟨h.1, ?_⟩
  rcases h.2 with h0 | ⟨b, cap, cur, h1, h2, h3⟩
  · exact .inl h0
  · exact .inr ⟨b, cap, cur, h1, Nat.le_trans hb h2, h3⟩
theorem own_lt {w : World} {base e n b : Nat} {v : Value} {xs : List Value} (h : w.ownsRow base e 1 v n xs) (hb : v.ownBlock = some b) : base ≤ b ∧ b < w.heap.size := h.lt b hb

set_option maxHeartbeats 1000000 in
theorem rin_any (x lo hi : Int) (w : World) :
    Calls Tryd.prog 24 #[.int .i64 x, .int .i64 lo, .int .i64 hi] w fun e w' => e = .returned (.bool (decide (lo ≤ x ∧ x ≤ hi))) ∧ w = w' := by
  by_cases h1 : lo ≤ x
  · by_cases h2 : x ≤ hi
    · have e : decide (lo ≤ x ∧ x ≤ hi) = true := by simp [h1, h2]
      rw [e]
      go_enter Tryd.func24, Tryd.ntmps24
      go_wp2
      go_ret
      exact ⟨rfl, rfl⟩
    · have e : decide (lo ≤ x ∧ x ≤ hi) = false := by simp [h2]
      rw [e]
      go_enter Tryd.func24, Tryd.ntmps24
      go_wp2
      go_ret
      exact ⟨rfl, rfl⟩
  · have e : decide (lo ≤ x ∧ x ≤ hi) = false := by simp [h1]
    rw [e]
    go_enter Tryd.func24, Tryd.ntmps24
    go_wp2
    go_ret
    exact ⟨rfl, rfl⟩
theorem rin_yes (x lo hi : Int) (w : World) (h : lo ≤ x ∧ x ≤ hi) :
    Calls Tryd.prog 24 #[.int .i64 x, .int .i64 lo, .int .i64 hi] w fun e w' => e = .returned (.bool true) ∧ w = w' := by
  have := rin_any x lo hi w
  rwa [decide_eq_true h] at this
theorem rin_no (x lo hi : Int) (w : World) (h : ¬ (lo ≤ x ∧ x ≤ hi)) :
    Calls Tryd.prog 24 #[.int .i64 x, .int .i64 lo, .int .i64 hi] w fun e w' => e = .returned (.bool false) ∧ w = w' := by
  have := rin_any x lo hi w
  rwa [decide_eq_false h] at this

set_option maxHeartbeats 2000000 in
theorem set_own (w : World) (v : Value) (xs : List Int) (n k : Nat) (x : Int) (hx : SliceIs w v xs) (hxn : xs.length = n) (hk : k < n) (hn : n ≤ 256) :
    Calls Tryd.prog 18 #[v, .int .i64 (k : Int), .int .i64 x] w fun e w' => ∃ g cap, e = .returned (.slice (some ⟨g, 0, none⟩) n cap) ∧ w'.ownsRow w.heap.size 3 1 (.slice (some ⟨g, 0, none⟩) n cap) n (cellsOf (xs.set k x)) ∧ Below w.heap.size w w' := by
  have HX : Hid (SliceIs w v xs) := hx
  have HN : Hid (n = xs.length) := hxn.symm
  clear hx hxn
  go_enter Tryd.func18, Tryd.ntmps18
  go_wp2_with (at_builtin; refine wpList_append_ints rfl (.tmp 8) (.tmp 9) rfl w.heap.size (.slice none 0 0) 0 [] rfl (World.ownsRow_nil _ _ _ _) v xs rfl HX.out ?q1 ?q2 ?q3)
  case q1 => rw [← HN.out]; omega
  case q2 => exact Nat.le_refl _
  case q3 =>
    intro v1 w1 hown hb
    rw [← HN.out] at hown
    obtain ⟨g, cap, rfl, hg1, hg2⟩ := own_where hown (by omega)
    have HB : Hid (Below w.heap.size w w1) := hb
    have HG : Hid (g < w1.heap.size ∧ w.heap.size ≤ g) := ⟨hg2, hg1⟩
    have hc1 : w1.cell? ⟨g, k, none⟩ = some (.int .i64 (nth xs k)) := by rw [hown.cellAt k (by omega), cellsOf_get (by rw [← HN.out]; exact hk)]
    have hf1 : w1.frozen? ⟨g, k, none⟩ = false := hown.frozenAt k
    have HO2 : Hid ((w1.setCell ⟨g, k, none⟩ (.int .i64 x)).ownsRow w.heap.size 3 1 (.slice (some ⟨g, 0, none⟩) n cap) n (cellsOf (xs.set k x))) := by
      have := hown.stored k (.int .i64 x)
      rw [cellsOf_set] at this
      exact this.1
    have hki : (k : Int) < (n : Int) := by omega
    clear hown hb hg1 hg2
    go_wp2
    go_ret
    exact ⟨g, cap, rfl, HO2.out, HB.out.setCell HG.out.2 _⟩

/-- The document's numbers, as lists, in memory: three lists of the call's own. -/
structure Doc (w : World) (base : Nat) (vo vs va : Value) (O S A : List Int) : Prop where
  o : w.ownsRow base 3 1 vo 8 (cellsOf O)
  s : w.ownsRow base 3 1 vs S.length (cellsOf S)
  a : w.ownsRow base 3 1 va S.length (cellsOf A)
  os : ∀ b, vo.ownBlock = some b → vs.ownBlock ≠ some b ∧ va.ownBlock ≠ some b
  sa : ∀ b, vs.ownBlock = some b → va.ownBlock ≠ some b
  len : S.length ≤ 100

/-- Their blocks. -/
def Db (vo vs va : Value) (b : Nat) : Prop := vo.ownBlock = some b ∨ vs.ownBlock = some b ∨ va.ownBlock = some b
theorem Doc.fp {w : World} {base : Nat} {vo vs va : Value} {O S A : List Int} (h : Doc w base vo vs va O S A) {b : Nat} (hb : Db vo vs va b) : base ≤ b ∧ b < w.heap.size := by
  rcases hb with e | e | e
  · exact own_lt h.o e
  · exact own_lt h.s e
  · exact own_lt h.a e
theorem Doc.frame {w w' : World} {base : Nat} {vo vs va : Value} {O S A : List Int} (h : Doc w base vo vs va O S A) (hs : ∀ b, Db vo vs va b → w'.heap[b]? = w.heap[b]?) : Doc w' base vo vs va O S A :=
  ⟨own_still h.o fun b e => hs b (.inl e), own_still h.s fun b e => hs b (.inr (.inl e)), own_still h.a fun b e => hs b (.inr (.inr e)), h.os, h.sa, h.len⟩
theorem Doc.later {w w' : World} {base : Nat} {vo vs va : Value} {O S A : List Int} (h : Doc w base vo vs va O S A) (hb : Below w.heap.size w w') : Doc w' base vo vs va O S A :=
  h.frame fun b hF => hb.block b (h.fp hF).2
theorem Doc.lenO {w : World} {base : Nat} {vo vs va : Value} {O S A : List Int} (h : Doc w base vo vs va O S A) : O.length = 8 := by have := h.o.1; rw [cellsOf_len] at this; omega
theorem Doc.lenA {w : World} {base : Nat} {vo vs va : Value} {O S A : List Int} (h : Doc w base vo vs va O S A) : A.length = S.length := by have := h.a.1; rw [cellsOf_len] at this; omega

/-- A list's slice and its cells. -/
theorem own_cells {w : World} {base n : Nat} {v : Value} {xs : List Int} (h : w.ownsRow base 3 1 v n (cellsOf xs)) (hn : 0 < n) : ∃ g cap, v = .slice (some ⟨g, 0, none⟩) n cap ∧ g < w.heap.size ∧ ∀ i, i < n → w.cell? ⟨g, i, none⟩ = some (.int .i64 (nth xs i)) := by
  obtain ⟨g, cap, rfl, _, hg⟩ := own_where h hn
  have hl : xs.length = n := by have := h.1; rw [cellsOf_len] at this; omega
  exact ⟨g, cap, rfl, hg, fun i hi => by rw [h.cellAt i (by omega), cellsOf_get (by omega)]⟩

/-- The numbers that the document calls free are. -/
def Frs (F : Nat → Option Nat) (O : List Int) : Prop := ∀ i, i < 8 → (nth O i < 0 ↔ F i = none)

set_option maxHeartbeats 4000000 in
set_option maxRecDepth 100000 in
theorem least_any (w : World) (base : Nat) (vo vs va : Value) (O : List Int) (F : Nat → Option Nat) (h : w.ownsRow base 3 1 vo 8 (cellsOf O)) (hF : Frs F O) :
    Calls Tryd.prog 25 #[.agg #[vo, vs, va]] w fun e w' => e = .returned (.int .i64 (lst F : Int)) ∧ Below w.heap.size w w' := by
  obtain ⟨g, cap, rfl, hg, hc⟩ := own_cells h (by decide)
  have HC : Hid (∀ i, i < 8 → (w.alloc (.cells #[.slice (some ⟨g, 0, none⟩) 8 cap, vs, va] 38)).cell? ⟨g, i, none⟩ = some (.int .i64 (nth O i))) := fun i hi => by
    rw [(below_alloc w _).cell (p := ⟨g, i, none⟩) hg]; exact hc i hi
  have HF : Hid (Frs F O) := hF
  have HB : Hid (Below w.heap.size w (w.alloc (.cells #[.slice (some ⟨g, 0, none⟩) 8 cap, vs, va] 38))) := below_alloc _ _
  have b0 : (w.alloc (.cells #[.slice (some ⟨g, 0, none⟩) 8 cap, vs, va] 38)).cell? ⟨w.heap.size, 0, none⟩ = some (.slice (some ⟨g, 0, none⟩) 8 cap) := cell_new _ _ _ _
  clear h hg hc hF
  go_enter Tryd.func25, Tryd.ntmps25
  go_wp2
  generalize w.alloc (.cells #[.slice (some ⟨g, 0, none⟩) 8 cap, vs, va] 38) = w1 at HC HB b0 ⊢
  go_loop [3] (fun i => ∃ k : Nat, k ≤ 8 ∧ i = .int .i64 (k : Int) ∧ ∀ j, j < k → F j ≠ none) (fun i => 8 - (intOf i).toNat)
  case atStart => exact ⟨0, by omega, rfl, fun j hj => absurd hj (by omega)⟩
  case round =>
    obtain ⟨k, hk, rfl, hj⟩ := hrel
    have HJ : Hid (∀ j, j < k → F j ≠ none) := hj
    clear hj
    by_cases hlt : k < 8
    · have hck := HC.out k hlt
      by_cases hn : nth O k < 0
      · have HE : Hid (lst F = k) := lst_one hk HJ.out (fun _ => (HF.out k hlt).1 hn)
        generalize nth O k = x at *
        go_wp2
        go_ret
        exact ⟨by rw [HE.out]; rfl, HB.out⟩
      · have HN : Hid (F k ≠ none) := fun e => hn ((HF.out k hlt).2 e)
        generalize nth O k = x at *
        go_wp2
        refine ⟨⟨k + 1, by omega, by go_num, fun j hj => ?_⟩, ?_⟩
        · by_cases e : j = k
          · rw [e]; exact HN.out
          · exact HJ.out j (by omega)
        · simp only [intOf]
          omega
    · obtain rfl : k = 8 := by omega
      have HE : Hid (lst F = 8) := lst_one hk HJ.out (fun h => absurd h (by decide))
      go_wp2
      go_ret
      exact ⟨by rw [HE.out]; rfl, HB.out⟩

set_option maxHeartbeats 4000000 in
set_option maxRecDepth 100000 in
theorem wrong_any (w : World) (base : Nat) (vo vs va : Value) (O : List Int) (F : Nat → Option Nat) (h : w.ownsRow base 3 1 vo 8 (cellsOf O)) (hF : Frs F O) (fd : Int) :
    Calls Tryd.prog 17 #[.agg #[vo, vs, va], .int .i64 fd] w fun e w' => e = .returned (.int .i64 (opE F fd : Int)) ∧ Below w.heap.size w w' := by
  obtain ⟨g, cap, rfl, hg, hc⟩ := own_cells h (by decide)
  have HC : Hid (∀ i, i < 8 → (w.alloc (.cells #[.slice (some ⟨g, 0, none⟩) 8 cap, vs, va] 38)).cell? ⟨g, i, none⟩ = some (.int .i64 (nth O i))) := fun i hi => by
    rw [(below_alloc w _).cell (p := ⟨g, i, none⟩) hg]; exact hc i hi
  have HB : Hid (Below w.heap.size w (w.alloc (.cells #[.slice (some ⟨g, 0, none⟩) 8 cap, vs, va] 38))) := below_alloc _ _
  have b0 : (w.alloc (.cells #[.slice (some ⟨g, 0, none⟩) 8 cap, vs, va] 38)).cell? ⟨w.heap.size, 0, none⟩ = some (.slice (some ⟨g, 0, none⟩) 8 cap) := cell_new _ _ _ _
  clear h hg hc
  by_cases hn : 0 ≤ fd ∧ fd ≤ 7
  · obtain ⟨k, rfl⟩ : ∃ k : Nat, fd = (k : Int) := ⟨fd.toNat, by omega⟩
    have hk : k < 8 := by omega
    have HI : Hid _ := fun (w : World) => rin_yes (k : Int) 0 7 w hn
    by_cases hx : nth O k < 0
    · have HE : Hid (opE F (k : Int) = 5) := by
        show opE F (k : Int) = 5
        unfold opE
        rw [if_pos (by omega), Int.toNat_natCast, if_pos ((hF k hk).1 hx)]
      clear hF hn
      go_enter Tryd.func17, Tryd.ntmps17
      go_wp2_with fail
      generalize w.alloc (.cells #[.slice (some ⟨g, 0, none⟩) 8 cap, vs, va] 38) = w1 at HC HB b0 ⊢
      have hck := HC.out k hk
      generalize nth O k = x at *
      go_wp2_with (go_at_call 24; refine (HI.out _).mono ?_; rintro e w9 ⟨rfl, rfl⟩)
      go_ret
      exact ⟨by rw [HE.out]; rfl, HB.out⟩
    · have HE : Hid (opE F (k : Int) = 0) := by
        show opE F (k : Int) = 0
        unfold opE
        rw [if_pos (by omega), Int.toNat_natCast, if_neg (fun e => hx ((hF k hk).2 e))]
      clear hF hn
      go_enter Tryd.func17, Tryd.ntmps17
      go_wp2_with fail
      generalize w.alloc (.cells #[.slice (some ⟨g, 0, none⟩) 8 cap, vs, va] 38) = w1 at HC HB b0 ⊢
      have hck := HC.out k hk
      generalize nth O k = x at *
      go_wp2_with (go_at_call 24; refine (HI.out _).mono ?_; rintro e w9 ⟨rfl, rfl⟩)
      go_ret
      exact ⟨by rw [HE.out]; rfl, HB.out⟩
  · have HI : Hid _ := fun (w : World) => rin_no fd 0 7 w hn
    have HE : Hid (opE F fd = 1) := if_neg (by omega)
    clear hF hn
    go_enter Tryd.func17, Tryd.ntmps17
    go_wp2_with (go_at_call 24; refine (HI.out _).mono ?_; rintro e w9 ⟨rfl, rfl⟩)
    go_ret
    exact ⟨by rw [HE.out]; rfl, HB.out⟩

end Go.Proofs.YtekonojkllnejaaDoor
