/- This text proves plain facts on a walk through a tree of directories: which blocks stay as they were, and what append onto a slice of texts of the walk's own leaves; the conditions are that the slices lie there. -/
import Derived.Test.YtdlmkienogimgaaGreatDoorT7
import Derived.ArgAppend
namespace Go.Proofs.YtdlmkienogimgaaGreatDoor
open Go.RowKit Go.Deep Go.Shelf Go.Maps

/-- All blocks but some are as they were. -/
structure Kept (F : Nat → Prop) (w w' : World) : Prop where
  os : w'.os = w.os
  tape : w'.tape = w.tape
  output : w'.output = w.output
  size : w.heap.size ≤ w'.heap.size
  block : ∀ b, b < w.heap.size → ¬ F b → w'.heap[b]? = w.heap[b]?

theorem Kept.refl (F : Nat → Prop) (w : World) : Kept F w w := ⟨rfl, rfl, rfl, Nat.le_refl _, fun _ _ _ => rfl⟩
theorem Kept.of_below {F : Nat → Prop} {w w' : World} (h : Below w.heap.size w w') : Kept F w w' := ⟨h.os, h.tape, h.output, h.size, fun b hb _ => h.block b hb⟩
theorem Kept.trans {F G H : Nat → Prop} {a b c : World} (h : Kept F a b) (k : Kept G b c) (hF : ∀ x, x < a.heap.size → F x → H x) (hG : ∀ x, x < a.heap.size → G x → H x) : Kept H a c :=
  ⟨k.os.trans h.os, k.tape.trans h.tape, k.output.trans h.output, Nat.le_trans h.size k.size, fun x hx hn =>
    (k.block x (Nat.lt_of_lt_of_le hx h.size) (fun g => hn (hG x hx g))).trans (h.block x hx (fun f => hn (hF x hx f)))⟩
theorem Kept.below {F : Nat → Prop} {w w' : World} {B : Nat} (h : Kept F w w') (hB : B ≤ w.heap.size) (hF : ∀ b, b < B → ¬ F b) : Below B w w' :=
  ⟨h.os, h.tape, h.output, h.size, fun b hb => h.block b (Nat.lt_of_lt_of_le hb hB) (hF b hb)⟩

theorem own_kept {w w' : World} {base n : Nat} {v : Value} {xs : List Value} (h : w.ownsRow base 9 1 v n xs) (e : ∀ a, v.ownBlock = some a → w'.heap[a]? = w.heap[a]?) : w'.ownsRow base 9 1 v n xs := by
  refine ⟨h.1, ?_⟩
  rcases h.2 with h0 | ⟨g, cap, cur, rfl, h2, h3, h4⟩
  · exact .inl h0
  · exact .inr ⟨g, cap, cur, rfl, h2, (e g rfl).trans h3, h4⟩

/-- The first texts of a row of the call's own. -/
theorem own_first {w : World} {base g n cap : Nat} {ls : List (List UInt8)} {z : List UInt8} (hl : ls.length = n) (h : w.ownsRow base 9 1 (.slice (some ⟨g, 0, none⟩) (n + 1) cap) (n + 1) (cellsS (ls ++ [z]))) : w.ownsRow base 9 1 (.slice (some ⟨g, 0, none⟩) n cap) n (cellsS ls) := by
  refine ⟨by rw [cellsS_len]; omega, .inr ?_⟩
  rcases h.2 with ⟨h', _⟩ | ⟨g', cap', cur, h', hb, hg, hnc, hcm, hcs, htake⟩
  · simp at h'
  · simp only [Value.slice.injEq, Option.some.injEq, Addr.mk.injEq, and_true, true_and] at h'
    obtain ⟨rfl, rfl⟩ := h'
    refine ⟨g, cap, cur, rfl, hb, hg, by omega, hcm, hcs, ?_⟩
    have e : cur.toList.take (n * 1) = (cur.toList.take ((n + 1) * 1)).take (n * 1) := by rw [List.take_take]; congr 1; omega
    rw [e, htake, show cellsS (ls ++ [z]) = cellsS ls ++ cellsS [z] by simp [cellsS], List.take_left' (by rw [cellsS_len]; omega)]

/-- Where the new slice lies: in the old one's block, of which the old one stays the front, or in a new one. -/
def Lies (w w' : World) (base n : Nat) (v v' : Value) (ls : List (List UInt8)) (z : List UInt8) : Prop :=
  (v'.ownBlock = v.ownBlock ∧ ∀ w'' : World, w''.ownsRow base 9 1 v' (n + 1) (cellsS (ls ++ [z])) → w''.ownsRow base 9 1 v n (cellsS ls)) ∨ ∀ b, v'.ownBlock = some b → w.heap.size ≤ b ∧ b < w'.heap.size

theorem Tryz.info9s : (Tryz.prog.info? 9).map (fun i => (i.zero, i.size, i.bytes)) = some (some (.string ⟨#[]⟩), 1, 16) := by kernel_rfl

theorem wpList_append_str {ops : Array Oper} {rest : List Oper} {o : Oper} {a : Act} {w : World} {Q : Exit → Act → World → Prop} (hgd : o.guard = none) (s x : Operand)
    (ho : o.op = .call { callee := .builtin .append, args := #[s, x], argTypes := #[26, 26] })
    (base : Nat) (v : Value) (n : Nat) (ls : List (List UInt8)) (hs : a.eval s = v) (hown : w.ownsRow base 9 1 v n (cellsS ls)) (y : Value) (z : List UInt8) (hx : a.eval x = y) (hy : StrsIs w y [z])
    (h63 : n ≤ 1000000) (hbase : base ≤ w.heap.size)
    (h : ∀ v' w', w'.ownsRow base 9 1 v' (n + 1) (cellsS (ls ++ [z])) → w'.ownsRow base 9 1 v n (cellsS ls) → Kept (fun b => v.ownBlock = some b) w w' → Lies w w' base n v v' ls z → wpList Tryz.prog ops Q rest (a.put o.dst v') w') : wpList Tryz.prog ops Q (o :: rest) a w := by
  obtain ⟨ti, hti, hz0, hz1, hz2⟩ := info_parts Tryz.info9s
  have hxl : ls.length = n := by have := hown.1; rw [cellsS_len] at this; omega
  obtain ⟨ad, c, rfl, _, hl, hi⟩ := hy
  obtain ⟨b, off, rfl, hbl, hc⟩ := hi (by simp)
  have hnews : ∀ j u, (cellsS [z])[j]? = some u → w.cell? ((⟨b, off, none⟩ : Addr).add j) = some u := by
    intro j u hj
    have hlj : j < [z].length := by have := (List.getElem?_eq_some_iff.1 hj).1; rwa [cellsS_len] at this
    rw [cellsS_get hlj] at hj
    rw [addr_off, hc j hlj]
    exact hj
  have happ : cellsS ls ++ cellsS [z] = cellsS (ls ++ [z]) := by simp [cellsS]
  have hm : n + 1 ≤ maxLen := by unfold maxLen; omega
  have hkg : ∀ {w' : World} {row : Option Nat}, w.grownBy w' row → (∀ b, row = some b → v.ownBlock = some b) → Kept (fun b => v.ownBlock = some b) w w' := fun hg hr =>
    ⟨hg.os, hg.tape, hg.output, hg.size, fun k hk hn => hg.block k hk fun e => hn (hr k e.symm)⟩
  rcases hown.2 with ⟨rfl, rfl⟩ | ⟨g, cap, cur, rfl, hb, hg, hnc, hcm, hcs, htake⟩
  · obtain rfl : ls = [] := List.length_eq_zero_iff.1 hxl
    refine wpList_append_grows w hgd s x 26 ho 9 ti (.string ⟨#[]⟩) 1 16 Tryz.underlying26 hti hz0 hz1 hz2 rfl (by decide) none 0 0 [] hs (fun _ => ⟨rfl, rfl⟩) rfl (fun _ e => by cases e) ⟨b, off, none⟩ 1 c (cellsS [z]) hx rfl hnews (cellsS_one _) (by omega) hm (by omega) ?_
    intro v' w' h1 h2
    have h1' : w'.ownsRow w.heap.size 9 1 v' (0 + 1) (cellsS ([] ++ [z])) := h1
    refine h v' w' (own_low h1' hbase) (World.ownsRow_nil _ _ _ _) (hkg h2 (fun k e => by cases e)) (.inr fun b hb => h1'.lt b hb)
  · have hgl : g < w.heap.size := (hown.lt g rfl).2
    by_cases hr : n + 1 ≤ cap
    · refine wpList_append_fits w hgd s x 26 ho base 9 ti 1 Tryz.underlying26 hti hz1 g n cap (cellsS ls) hs hown ⟨b, off, none⟩ 1 c (cellsS [z]) hx rfl hnews (cellsS_one _) hr ?_
      intro w' h1 h2
      rw [happ] at h1
      exact h _ w' h1 (own_first hxl h1) (hkg h2 (fun k e => e)) (.inl ⟨rfl, fun w'' h3 => own_first hxl h3⟩)
    · have hcells : ∀ j u, (cellsS ls)[j]? = some u → w.cell? ((⟨g, 0, none⟩ : Addr).add j) = some u := hown.cells (g := g) rfl
      refine wpList_append_grows w hgd s x 26 ho 9 ti (.string ⟨#[]⟩) 1 16 Tryz.underlying26 hti hz0 hz1 hz2 rfl (by decide) (some ⟨g, 0, none⟩) n cap (cellsS ls) hs (fun e => by cases e) hown.1 (fun q e j u hj => by cases e; exact hcells j u hj) ⟨b, off, none⟩ 1 c (cellsS [z]) hx rfl hnews (cellsS_one _) (by omega) hm (by omega) ?_
      intro v' w' h1 h2
      rw [happ] at h1
      refine h v' w' (own_low h1 hbase) (own_kept hown fun a ha => ?_) (hkg h2 (fun k e => by cases e)) (.inr fun b hb => h1.lt b hb)
      cases ha
      exact h2.block g hgl (by simp)

end Go.Proofs.YtdlmkienogimgaaGreatDoor
