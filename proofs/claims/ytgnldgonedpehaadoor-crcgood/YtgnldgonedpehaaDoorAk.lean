/- This text proves nothing of the program: append of one number onto a slice of the call's own, which itself stays as it was; no condition. -/
import Derived.Test.YtgnldgonedpehaaDoorAp
import Derived.ArgAppend
namespace Go.Proofs.YtgnldgonedpehaaDoor
open Go.RowKit Go.Deep

/-- The first numbers of a row of the call's own. -/
theorem own_prefix {w : World} {base g n m cap : Nat} {xs ys : List Int} (hl : xs.length = n) (h : w.ownsRow base 3 1 (.slice (some ⟨g, 0, none⟩) (n + m) cap) (n + m) (cellsOf (xs ++ ys))) : w.ownsRow base 3 1 (.slice (some ⟨g, 0, none⟩) n cap) n (cellsOf xs) := by
  refine ⟨by rw [cellsOf_len]; omega, .inr ?_⟩
  rcases h.2 with ⟨h', _⟩ | ⟨g', cap', cur, h', hb, hg, hnc, hcm, hcs, htake⟩
  · simp at h'
  · simp only [Value.slice.injEq, Option.some.injEq, Addr.mk.injEq, and_true, true_and] at h'
    obtain ⟨rfl, rfl⟩ := h'
    refine ⟨g, cap, cur, rfl, hb, hg, by omega, hcm, hcs, ?_⟩
    have e : cur.toList.take (n * 1) = (cur.toList.take ((n + m) * 1)).take (n * 1) := by rw [List.take_take]; congr 1; omega
    rw [e, htake, show cellsOf (xs ++ ys) = cellsOf xs ++ cellsOf ys by simp [cellsOf], List.take_left' (by rw [cellsOf_len]; omega)]

theorem wpList_append_keep {ops : Array Oper} {rest : List Oper} {o : Oper} {a : Act} {w : World} {Q : Exit → Act → World → Prop} (hgd : o.guard = none) (s x : Operand)
    (ho : o.op = .call { callee := .builtin .append, args := #[s, x], argTypes := #[22, 22] })
    (base : Nat) (v : Value) (n : Nat) (xs : List Int) (hs : a.eval s = v) (hown : w.ownsRow base 3 1 v n (cellsOf xs)) (y : Value) (z : Int) (hx : a.eval x = y) (hy : SliceIs w y [z])
    (h63 : n ≤ 1000000) (hbase : base ≤ w.heap.size)
    (h : ∀ v' w', w'.ownsRow base 3 1 v' (n + 1) (cellsOf (xs ++ [z])) → w'.ownsRow base 3 1 v n (cellsOf xs) → Below base w w' → wpList Tryd.prog ops Q rest (a.put o.dst v') w') : wpList Tryd.prog ops Q (o :: rest) a w := by
  obtain ⟨ti, hti, hz0, hz1, hz2⟩ := info_parts Tryd.info3
  have hxl : xs.length = n := by have := hown.1; rw [cellsOf_len] at this; omega
  obtain ⟨ad, c, rfl, hl, hi⟩ := hy
  obtain ⟨b, off, rfl, hbl, hc⟩ := hi (by simp)
  have hnews : ∀ j u, (cellsOf [z])[j]? = some u → w.cell? ((⟨b, off, none⟩ : Addr).add j) = some u := cells_read hc
  have happ : cellsOf xs ++ cellsOf [z] = cellsOf (xs ++ [z]) := by simp [cellsOf]
  have hm : n + 1 ≤ maxLen := by unfold maxLen; omega
  rcases hown.2 with ⟨rfl, rfl⟩ | ⟨g, cap, cur, rfl, hb, hg, hnc, hcm, hcs, htake⟩
  · obtain rfl : xs = [] := List.length_eq_zero_iff.1 hxl
    refine wpList_append_grows w hgd s x 22 ho 3 ti (.int .i64 0) 1 8 Tryd.underlying22 hti hz0 hz1 hz2 rfl (by decide) none 0 0 [] hs (fun _ => ⟨rfl, rfl⟩) rfl (fun _ e => by cases e) ⟨b, off, none⟩ 1 c (cellsOf [z]) hx rfl hnews (cellsOf_one _) (by omega) hm (by omega) ?_
    intro v' w' h1 h2
    refine h v' w' ?_ (World.ownsRow_nil _ _ _ _) ((Below.refl _ _).grown h2 hbase (fun k e => by cases e))
    have h1' : w'.ownsRow w.heap.size 3 1 v' (0 + 1) (cellsOf ([] ++ [z])) := h1
    refine ⟨h1'.1, ?_⟩
    rcases h1'.2 with h3 | ⟨g, cap, cur, h3, h4, h5⟩
    · exact .inl h3
    · exact .inr ⟨g, cap, cur, h3, Nat.le_trans hbase h4, h5⟩
  · have hgl : g < w.heap.size := (hown.lt g rfl).2
    by_cases hr : n + 1 ≤ cap
    · refine wpList_append_fits w hgd s x 22 ho base 3 ti 1 Tryd.underlying22 hti hz1 g n cap (cellsOf xs) hs hown ⟨b, off, none⟩ 1 c (cellsOf [z]) hx rfl hnews (cellsOf_one _) hr ?_
      intro w' h1 h2
      rw [happ] at h1
      exact h _ w' h1 (own_prefix hxl h1) ((Below.refl _ _).grown h2 hbase (fun k e => by cases e; exact hb))
    · have hcells : ∀ j u, (cellsOf xs)[j]? = some u → w.cell? ((⟨g, 0, none⟩ : Addr).add j) = some u := hown.cells (g := g) rfl
      refine wpList_append_grows w hgd s x 22 ho 3 ti (.int .i64 0) 1 8 Tryd.underlying22 hti hz0 hz1 hz2 rfl (by decide) (some ⟨g, 0, none⟩) n cap (cellsOf xs) hs (fun e => by cases e) hown.1 (fun q e j u hj => by cases e; exact hcells j u hj) ⟨b, off, none⟩ 1 c (cellsOf [z]) hx rfl hnews (cellsOf_one _) (by omega) hm (by omega) ?_
      intro v' w' h1 h2
      rw [happ] at h1
      refine h v' w' ⟨h1.1, ?_⟩ ?_ ((Below.refl _ _).grown h2 hbase (fun k e => by cases e))
      · rcases h1.2 with h3 | ⟨g', cap', cur', h3, h4, h5⟩
        · exact .inl h3
        · exact .inr ⟨g', cap', cur', h3, Nat.le_trans hbase h4, h5⟩
      · exact ⟨hown.1, .inr ⟨g, cap, cur, rfl, hb, (h2.block g hgl (by simp)).trans hg, hnc, hcm, hcs, htake⟩⟩

end Go.Proofs.YtgnldgonedpehaaDoor
