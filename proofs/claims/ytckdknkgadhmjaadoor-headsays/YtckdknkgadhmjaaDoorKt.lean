/- This text proves nothing of the program: append of one number onto a list of the call's own, and where the new slice lies; no condition. -/
import Derived.Test.YtckdknkgadhmjaaDoorLo
import Derived.Deep.AppendLies
namespace Go.Proofs.YtckdknkgadhmjaaDoor
open Go.RowKit Go.Deep

theorem own_form {w : World} {base e n : Nat} {v : Value} {vs : List Value} (h : w.ownsRow base e 1 v n vs) : ∃ a c, v = .slice a n c := by
  rcases h.2 with ⟨h0, h1⟩ | ⟨g, cap, cur, h1, _⟩
  · subst h1; exact ⟨none, 0, h0⟩
  · exact ⟨_, _, h1⟩

def slen : Value → Nat
  | .slice _ n _ => n
  | _ => 0

theorem wpList_append_lie {ops : Array Oper} {rest : List Oper} {o : Oper} {a : Act} {w : World} {Q : Exit → Act → World → Prop} (hgd : o.guard = none) (s x : Operand)
    (ho : o.op = .call { callee := .builtin .append, args := #[s, x], argTypes := #[22, 22] })
    (base : Nat) (v : Value) (n : Nat) (xs : List Int) (hs : a.eval s = v) (hown : w.ownsRow base 3 1 v n (cellsOf xs)) (y : Value) (z : Int) (hx : a.eval x = y) (hy : SliceIs w y [z])
    (h63 : n ≤ 1000000) (hbase : base ≤ w.heap.size)
    (h : ∀ g cap w', w'.ownsRow base 3 1 (.slice (some ⟨g, 0, none⟩) (n + 1) cap) (n + 1) (cellsOf (xs ++ [z])) → w.grownBy w' v.ownBlock → (v.ownBlock = some g ∨ g = w.heap.size) → g < w'.heap.size → wpList Tryd.prog ops Q rest (a.put o.dst (.slice (some ⟨g, 0, none⟩) (n + 1) cap)) w') : wpList Tryd.prog ops Q (o :: rest) a w := by
  obtain ⟨ti, hti, hz0, hz1, hz2⟩ := info_parts Tryd.info3
  obtain ⟨ad, c, rfl, hl, hi⟩ := hy
  obtain ⟨b, off, rfl, hbl, hc⟩ := hi (by simp)
  have hnews : ∀ j u, (cellsOf [z])[j]? = some u → w.cell? ((⟨b, off, none⟩ : Addr).add j) = some u := cells_read hc
  refine wpList_append_lies w hgd s x 22 ho base 3 ti (.int .i64 0) 1 8 Tryd.underlying22 hti hz0 hz1 hz2 rfl (by decide) v n (cellsOf xs) hs hown ⟨b, off, none⟩ 1 c (cellsOf [z]) hx rfl hnews (cellsOf_one _) (by decide) (by unfold maxLen; omega) (by omega) hbase _ rfl ?_
  intro g cap w' h1 h2 h3 h4
  have e : cellsOf xs ++ cellsOf [z] = cellsOf (xs ++ [z]) := by simp [cellsOf]
  rw [e] at h1
  exact h g cap w' h1 h2 h3 h4

end Go.Proofs.YtckdknkgadhmjaaDoor
