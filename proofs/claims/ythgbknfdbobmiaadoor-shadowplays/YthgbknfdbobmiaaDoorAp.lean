/- This text proves nothing of the program: append of a slice of numbers, nil or not, onto a slice of the call's own; no condition. -/
import Derived.Test.YthgbknfdbobmiaaDoorLo
import Derived.Laws.AppendOwnNone
namespace Go.Proofs.YthgbknfdbobmiaaDoor
open Go.RowKit Go.Deep

theorem run_append_nil {P : Program} {w : World} (base : Nat) (t ty e : TypeId) (i : TypeInfo) (size c : Nat) (ht : P.underlying t = some (.slice e)) (hi : P.info? e = some i)
    (v : Value) (n : Nat) (xs : List Value) (hown : w.ownsRow base e size v n xs) : (Builtin.append_ #[t, t] ty #[v, .slice none 0 c]).run P w = .ok v w := by
  rcases hown.2 with ⟨rfl, rfl⟩ | ⟨g, cap, cur, rfl, _, _, hnc, _⟩
  · simp [Builtin.append_, run_underlying ht, sizeOf, typeInfo, hi, Builtin.lenOf, Builtin.firstCells]
  · simp [Builtin.append_, run_underlying ht, sizeOf, typeInfo, hi, Builtin.lenOf, Builtin.firstCells, hnc, storeCells]

/-- append of any slice of numbers onto a slice of the call's own. -/
theorem wpList_append_ints {ops : Array Oper} {rest : List Oper} {o : Oper} {a : Act} {w : World} {Q : Exit → Act → World → Prop} (hgd : o.guard = none) (s x : Operand)
    (ho : o.op = .call { callee := .builtin .append, args := #[s, x], argTypes := #[25, 25] })
    (base : Nat) (v : Value) (n : Nat) (xs : List Int) (hs : a.eval s = v) (hown : w.ownsRow base 3 1 v n (cellsOf xs)) (y : Value) (ys : List Int) (hx : a.eval x = y) (hy : SliceIs w y ys)
    (h63 : n + ys.length ≤ 1000000) (hbase : base ≤ w.heap.size)
    (h : ∀ v' w', w'.ownsRow base 3 1 v' (n + ys.length) (cellsOf (xs ++ ys)) → Below base w w' → wpList Tryd.prog ops Q rest (a.put o.dst v') w') : wpList Tryd.prog ops Q (o :: rest) a w := by
  obtain ⟨ti, hti, hz0, hz1, hz2⟩ := info_parts Tryd.info3
  obtain ⟨ad, cap, rfl, hl, hi⟩ := hy
  cases ad with
  | none =>
    have h0 : ys = [] := by
      refine Classical.byContradiction fun hne => ?_
      obtain ⟨b, off, h1, _⟩ := hi hne
      cases h1
    subst h0
    refine wpList_plain hgd fun K hK => ?_
    have hrun := run_append_nil (P := Tryd.prog) (w := w) base 25 o.type 3 ti 1 cap Tryd.underlying25 hti v n _ hown
    unfold Oper.wp
    simp [execOp, ho, resolve, invoke, builtin, hs, hx, hrun, Result.andThen]
    refine hK _ _ (h v w ?_ (Below.refl _ _))
    simpa [cellsOf] using hown
  | some ad =>
    have hc : ∀ j u, (cellsOf ys)[j]? = some u → w.cell? (ad.add j) = some u := by
      intro j u hj
      have hlj : j < ys.length := by have := (List.getElem?_eq_some_iff.1 hj).1; rwa [cellsOf_len] at this
      obtain ⟨b, off, h1, _, h2⟩ := hi (fun e => by rw [e] at hlj; simp at hlj)
      cases h1
      exact cells_read h2 j u hj
    refine wpList_append_own w hgd s x 25 ho base 3 ti (.int .i64 0) 1 8 Tryd.underlying25 hti hz0 hz1 hz2 rfl (by decide) v n (cellsOf xs) hs hown ad ys.length cap (cellsOf ys) hx (by rw [cellsOf_len, Nat.mul_one]) hc (cellsOf_one ys) (by unfold maxLen; omega) (by omega) hbase ?_
    intro v' w' h1 h2 _
    refine h v' w' ?_ ((Below.refl _ _).grown h2 hbase (fun k e => (hown.lt k e).1))
    have e : cellsOf xs ++ cellsOf ys = cellsOf (xs ++ ys) := by simp [cellsOf]
    rw [← e]
    exact h1

end Go.Proofs.YthgbknfdbobmiaaDoor
