/- This text says what it means that the document's file lies in memory as two lists of the call's own that stay while other blocks are turned, and proves plain facts on these lists; it speaks of no call; no condition. -/
import Derived.Test.YtepnbkonhaongaaDoorF9r
import Derived.Test.YtepnbkonhaongaaDoorSt
namespace Go.Proofs.YtepnbkonhaongaaDoor
open Go.RowKit Go.Deep Go.Maps

def byC (c : Nat → Int) : List Int := (List.range 64).map c
def bkH (h : Nat → Bool) : List Int := (List.range 16).map fun k => if h k = true then 1 else 0
theorem byC_len (c : Nat → Int) : (byC c).length = 64 := by simp [byC]
theorem bkH_len (h : Nat → Bool) : (bkH h).length = 16 := by simp [bkH]
theorem byC_nth {c : Nat → Int} {i : Nat} (hi : i < 64) : nth (byC c) i = c i := by
  rw [nth_lt (by rw [byC_len]; exact hi)]
  simp [byC]
theorem bkH_nth {h : Nat → Bool} {i : Nat} (hi : i < 16) : nth (bkH h) i = if h i = true then 1 else 0 := by
  rw [nth_lt (by rw [bkH_len]; exact hi)]
  simp [bkH]
theorem byC_same {c c' : Nat → Int} (h : ∀ i, i < 64 → c i = c' i) : byC c = byC c' := List.map_congr_left fun i hi => h i (List.mem_range.1 hi)
theorem bkH_same {h h' : Nat → Bool} (e : ∀ i, i < 16 → h i = h' i) : bkH h = bkH h' := List.map_congr_left fun i hi => by rw [e i (List.mem_range.1 hi)]
theorem byC_set (c : Nat → Int) (p : Nat) (x : Int) : (byC c).set p x = byC fun q => if q = p then x else c q := by
  refine List.ext_getElem (by simp [byC]) fun i h1 h2 => ?_
  rw [List.getElem_set]
  by_cases e : p = i
  · subst e; simp [byC]
  · have e' : ¬ i = p := fun h => e h.symm
    rw [if_neg e]; simp [byC, e']
theorem bkH_set (h : Nat → Bool) (k : Nat) (b : Bool) : (bkH h).set k (if b = true then 1 else 0) = bkH fun j => if j = k then b else h j := by
  refine List.ext_getElem (by simp [bkH]) fun i h1 h2 => ?_
  rw [List.getElem_set]
  by_cases e : k = i
  · subst e; simp [bkH]
  · have e' : ¬ i = k := fun h => e h.symm
    rw [if_neg e]; simp [bkH, e']

/-- A slice with room that stays while some blocks are turned. -/
def KeepsC (S : Nat → Prop) (w : World) (v : Value) (xs : List Int) : Prop := ∃ a c, v = .slice a xs.length c ∧ xs.length ≤ c ∧ Keeps S w v xs
theorem KeepsC.keeps {S : Nat → Prop} {w : World} {v : Value} {xs : List Int} (h : KeepsC S w v xs) : Keeps S w v xs := by
  obtain ⟨a, c, _, _, h⟩ := h
  exact h
theorem KeepsC.is {S : Nat → Prop} {w : World} {v : Value} {xs : List Int} (h : KeepsC S w v xs) : SliceIs w v xs := h.keeps.is
theorem KeepsC.stay {S : Nat → Prop} {w w' : World} {v : Value} {xs : List Int} (h : KeepsC S w v xs) (hs : Stay S w w') : KeepsC S w' v xs := by
  obtain ⟨a, c, h1, h2, h3⟩ := h
  exact ⟨a, c, h1, h2, h3.stay hs⟩
theorem stay_sub {S T : Nat → Prop} {w w' : World} (h : Stay S w w') (hS : ∀ x, S x → T x) : Stay T w w' := ⟨h.os, h.tape, h.output, h.size, fun b hb hn => h.block b hb fun k => hn (hS b k)⟩
/-- New blocks may be turned, too. -/
theorem KeepsC.wide {S T : Nat → Prop} {w w' : World} {v : Value} {xs : List Int} (h : KeepsC S w v xs) (hs : Stay S w w') (hT : ∀ x, T x → S x ∨ w.heap.size ≤ x) : KeepsC T w' v xs := by
  obtain ⟨a, c, h1, h2, h3⟩ := h
  refine ⟨a, c, h1, h2, fun w2 k => h3 w2 ⟨k.os.trans hs.os, k.tape.trans hs.tape, k.output.trans hs.output, Nat.le_trans hs.size k.size, fun b hb hn => ?_⟩⟩
  rw [k.block b (Nat.lt_of_lt_of_le hb hs.size) (fun hTb => by rcases hT b hTb with e | e; exact hn e; omega)]
  exact hs.block b hb hn
theorem KeepsC.less {S T : Nat → Prop} {w : World} {v : Value} {xs : List Int} (h : KeepsC T w v xs) (hS : ∀ x, S x → T x) : KeepsC S w v xs := by
  obtain ⟨a, c, h1, h2, h3⟩ := h
  exact ⟨a, c, h1, h2, fun w2 k => h3 w2 (stay_sub k hS)⟩
theorem KeepsC.own {S : Nat → Prop} {w : World} {base n : Nat} {v : Value} {xs : List Int} (h : w.ownsRow base 3 1 v n (cellsOf xs)) (h0 : 0 < n) (hS : ∀ x, S x → x < base) : KeepsC S w v xs := by
  have hl : xs.length = n := by have := h.1; rw [cellsOf_len] at this; omega
  rcases h.2 with ⟨_, h1⟩ | ⟨k, cap, cur, h1, h2, h3, h4, h5, h6⟩
  · omega
  · refine ⟨_, cap, by rw [h1, hl], by rw [hl]; exact h4, fun w' hs => slice_own (w := w') (base := base) (n := n) ⟨h.1, .inr ⟨k, cap, cur, h1, h2, ?_, h4, h5, h6⟩⟩ (by omega)⟩
    rw [hs.block k (Array.getElem?_eq_some_iff.1 h3).1 (fun e => by have := hS k e; omega)]
    exact h3
theorem KeepsC.parts {S : Nat → Prop} {w : World} {v : Value} {xs : List Int} (h : KeepsC S w v xs) (h0 : 0 < xs.length) : ∃ g o c, v = .slice (some ⟨g, o, none⟩) xs.length c ∧ xs.length ≤ c ∧ ∀ w', Stay S w w' → ∀ i, i < xs.length → w'.cell? ⟨g, o + i, none⟩ = some (.int .i64 (nth xs i)) := by
  obtain ⟨a, c, rfl, hc, hk⟩ := h
  obtain ⟨a', c', hv, _, hx⟩ := hk.is
  obtain rfl : a = a' := (Value.slice.inj hv).1
  obtain ⟨b, o, rfl, _, _⟩ := hx (fun e => by rw [e] at h0; simp at h0)
  refine ⟨b, o, c, rfl, hc, fun w' hs i hi => ?_⟩
  obtain ⟨a2, c2, hv2, _, hx2⟩ := hk w' hs
  have e2 := (Value.slice.inj hv2).1
  subst e2
  obtain ⟨b2, o2, e3, _, hcell⟩ := hx2 (fun e => by rw [e] at h0; simp at h0)
  cases e3
  exact hcell i hi

/-- The document's file: its lists. -/
structure DocS (S : Nat → Prop) (w : World) (vb vk : Value) (f : Fil) : Prop where
  by' : KeepsC S w vb (byC f.c)
  bk : KeepsC S w vk (bkH f.h)
theorem DocS.stay {S : Nat → Prop} {w w' : World} {vb vk : Value} {f : Fil} (h : DocS S w vb vk f) (hs : Stay S w w') : DocS S w' vb vk f := ⟨h.by'.stay hs, h.bk.stay hs⟩
theorem DocS.later {S : Nat → Prop} {w w' : World} {vb vk : Value} {f : Fil} (h : DocS S w vb vk f) (hb : Below w.heap.size w w') : DocS S w' vb vk f := h.stay (Stay.of hb)
theorem DocS.wide {S T : Nat → Prop} {w w' : World} {vb vk : Value} {f : Fil} (h : DocS S w vb vk f) (hs : Stay S w w') (hT : ∀ x, T x → S x ∨ w.heap.size ≤ x) : DocS T w' vb vk f := ⟨h.by'.wide hs hT, h.bk.wide hs hT⟩
theorem DocS.less {S T : Nat → Prop} {w : World} {vb vk : Value} {f : Fil} (h : DocS T w vb vk f) (hS : ∀ x, S x → T x) : DocS S w vb vk f := ⟨h.by'.less hS, h.bk.less hS⟩
theorem DocS.alike {S : Nat → Prop} {w : World} {vb vk : Value} {f g : Fil} (h : DocS S w vb vk f) (hc : ∀ i, i < 64 → f.c i = g.c i) (hh : ∀ i, i < 16 → f.h i = g.h i) : DocS S w vb vk g :=
  ⟨by rw [← byC_same hc]; exact h.by', by rw [← bkH_same hh]; exact h.bk⟩
theorem DocS.form {S : Nat → Prop} {w : World} {vb vk : Value} {f : Fil} (h : DocS S w vb vk f) : ∃ a c a' c', vb = .slice a 64 c ∧ 64 ≤ c ∧ vk = .slice a' 16 c' ∧ 16 ≤ c' := by
  obtain ⟨a, c, h1, h2, _⟩ := h.by'
  obtain ⟨a', c', h3, h4, _⟩ := h.bk
  rw [byC_len] at h1 h2
  rw [bkH_len] at h3 h4
  exact ⟨a, c, a', c', h1, h2, h3, h4⟩

/-- Set, of a list that stays. -/
theorem set_keeps {S : Nat → Prop} (w : World) (v : Value) (xs : List Int) (n k : Nat) (x : Int) (hx : SliceIs w v xs) (hxn : xs.length = n) (hk : k < n) (hn : n ≤ 256) (hS : ∀ x, S x → x < w.heap.size) :
    Calls Tryd.prog 23 #[v, .int .i64 (k : Int), .int .i64 x] w fun e w' => ∃ v', e = .returned v' ∧ KeepsC S w' v' (xs.set k x) ∧ Below w.heap.size w w' := by
  refine (set_own w v xs n k x hx hxn hk hn).mono ?_
  rintro e w' ⟨g, cap, rfl, ho, hb⟩
  exact ⟨_, rfl, KeepsC.own ho (by omega) hS, hb⟩

end Go.Proofs.YtepnbkonhaongaaDoor
