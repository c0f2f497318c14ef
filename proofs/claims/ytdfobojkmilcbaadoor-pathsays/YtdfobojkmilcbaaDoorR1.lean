/- This text proves what the document's own platterholdref2.Name and platterholdref2.Parts answer: whether a text is a name, its names, and what is wrong; old memory is as it was; the only condition is that a text is no longer than texts can be. -/
import Derived.Test.YtdfobojkmilcbaaDoorR0
import Derived.Test.YtdfobojkmilcbaaDoorQ7
import Derived.Laws.AppendOwnNone
namespace Go.Proofs.YtdfobojkmilcbaaDoor
open Go.RowKit Go.Deep Go.Shelf

set_option maxHeartbeats 2000000 in
theorem rname_any (w : World) (s : ByteArray) (hs : s.size ≤ maxLen) : Calls Tryd.prog 11 #[.string s] w fun e w' => e = .returned (.bool (isN s.data.toList)) ∧ w = w' := by
  unfold maxLen at hs
  obtain ⟨b, hb⟩ : ∃ b, isN s.data.toList = b := ⟨_, rfl⟩
  have HB : Hid (isN s.data.toList = b) := hb
  rw [hb]
  clear hb
  go_enter Tryd.func11, Tryd.ntmps11
  go_wp2
  go_loop [3] (fun i => ∃ k : Nat, k ≤ s.size ∧ i = .int .i64 k ∧ ∀ (j : Nat) (hj : j < s.size), j < k → isL s[j] = true) (fun i => s.size - (intOf i).toNat)
  case atStart => exact ⟨0, Nat.zero_le _, rfl, fun j _ hj => absurd hj (Nat.not_lt_zero _)⟩
  case round =>
    obtain ⟨k, hk, rfl, hall⟩ := hrel
    have HA : Hid (∀ (j : Nat) (hj : j < s.size), j < k → isL s[j] = true) := hall
    clear hall
    by_cases hlt : k < s.size
    · by_cases h3 : 97 ≤ s[k].toNat
      · by_cases h4 : s[k].toNat ≤ 122
        · go_wp2
          go_round
          case rel =>
            refine ⟨k + 1, by omega, by go_num, fun j hj hj2 => ?_⟩
            by_cases e : j = k
            · subst e; simp [isL, h3, h4]
            · exact HA.out j hj (by omega)
          case measure => simp [intOf]; omega
        · go_wp2
          go_ret
          refine ⟨?_, rfl⟩
          rw [← HB.out, isN_bad hlt (by simp [isL]; omega)]; rfl
      · go_wp2
        go_ret
        refine ⟨?_, rfl⟩
        rw [← HB.out, isN_bad hlt (by simp [isL]; omega)]; rfl
    · have hkn : k = s.size := by omega
      subst hkn
      by_cases h1 : s.size < 1
      · go_wp2
        go_ret
        refine ⟨?_, rfl⟩
        rw [← HB.out, isN_short h1]; rfl
      · by_cases h2 : 4 < s.size
        · go_wp2
          go_ret
          refine ⟨?_, rfl⟩
          rw [← HB.out, isN_long h2]
          exact congrArg (fun b => Ending.returned (Value.bool b)) (by simp; omega)
        · go_wp2
          go_ret
          refine ⟨?_, rfl⟩
          rw [← HB.out, isN_good h1 h2 fun j hj => HA.out j hj hj]
          exact congrArg (fun b => Ending.returned (Value.bool b)) (by simp; omega)

theorem run_append_nil {P : Program} {w : World} (base : Nat) (t ty e : TypeId) (i : TypeInfo) (size c : Nat) (ht : P.underlying t = some (.slice e)) (hi : P.info? e = some i)
    (v : Value) (n : Nat) (xs : List Value) (hown : w.ownsRow base e size v n xs) : (Builtin.append_ #[t, t] ty #[v, .slice none 0 c]).run P w = .ok v w := by
  rcases hown.2 with ⟨rfl, rfl⟩ | ⟨g, cap, cur, rfl, _, _, hnc, _⟩
  · simp [Builtin.append_, run_underlying ht, sizeOf, typeInfo, hi, Builtin.lenOf, Builtin.firstCells]
  · simp [Builtin.append_, run_underlying ht, sizeOf, typeInfo, hi, Builtin.lenOf, Builtin.firstCells, hnc, storeCells]

theorem strs_read {w : World} {b o : Nat} {xs : List (List UInt8)} (hc : ∀ i, i < xs.length → w.cell? ⟨b, o + i, none⟩ = some (.string (bs (sth xs i)))) : ∀ j u, (cellsS xs)[j]? = some u → w.cell? ((⟨b, o, none⟩ : Addr).add j) = some u := by
  intro j u hj
  have hl : j < xs.length := by have := (List.getElem?_eq_some_iff.1 hj).1; rwa [cellsS_len] at this
  rw [cellsS_get hl] at hj
  rw [addr_off, hc j hl]
  exact hj

/-- append of any slice of texts onto a slice of the call's own. -/
theorem wpList_append_strs {ops : Array Oper} {rest : List Oper} {o : Oper} {a : Act} {w : World} {Q : Exit → Act → World → Prop} (hgd : o.guard = none) (s x : Operand)
    (ho : o.op = .call { callee := .builtin .append, args := #[s, x], argTypes := #[22, 22] })
    (base : Nat) (v : Value) (n : Nat) (xs : List (List UInt8)) (hs : a.eval s = v) (hown : w.ownsRow base 9 1 v n (cellsS xs)) (y : Value) (ys : List (List UInt8)) (hx : a.eval x = y) (hy : StrsIs w y ys)
    (h63 : n + ys.length ≤ 1000000) (hbase : base ≤ w.heap.size)
    (h : ∀ v' w', w'.ownsRow base 9 1 v' (n + ys.length) (cellsS (xs ++ ys)) → Below base w w' → wpList Tryd.prog ops Q rest (a.put o.dst v') w') : wpList Tryd.prog ops Q (o :: rest) a w := by
  obtain ⟨ti, hti, hz0, hz1, hz2⟩ := info_parts Tryd.info9
  obtain ⟨ad, cap, rfl, _, hl, hi⟩ := hy
  by_cases h0 : ys = []
  · subst h0
    cases ad with
    | none =>
      refine wpList_plain hgd fun K hK => ?_
      have hrun := run_append_nil (P := Tryd.prog) (w := w) base 22 o.type 9 ti 1 cap Tryd.underlying22 hti v n _ hown
      unfold Oper.wp
      simp [execOp, ho, resolve, invoke, builtin, hs, hx, hrun, Result.andThen]
      refine hK _ _ (h v w ?_ (Below.refl _ _))
      simpa [cellsS] using hown
    | some ad =>
      refine wpList_append_own w hgd s x 22 ho base 9 ti (.string ByteArray.empty) 1 16 Tryd.underlying22 hti hz0 hz1 hz2 rfl (by decide) v n (cellsS xs) hs hown ad 0 cap [] hx rfl (fun j u hj => by cases hj) (fun u hu => by cases hu) (by unfold maxLen; simp at h63; omega) (by simp at h63; omega) hbase ?_
      intro v' w' h1 h2 _
      refine h v' w' ?_ ((Below.refl _ _).grown h2 hbase (fun k e => (hown.lt k e).1))
      simpa using h1
  · obtain ⟨b, off, rfl, _, hc⟩ := hi h0
    refine wpList_append_own w hgd s x 22 ho base 9 ti (.string ByteArray.empty) 1 16 Tryd.underlying22 hti hz0 hz1 hz2 rfl (by decide) v n (cellsS xs) hs hown ⟨b, off, none⟩ ys.length cap (cellsS ys) hx (by rw [cellsS_len, Nat.mul_one]) (strs_read hc) (cellsS_one ys) (by unfold maxLen; omega) (by omega) hbase ?_
    intro v' w' h1 h2 _
    refine h v' w' ?_ ((Below.refl _ _).grown h2 hbase (fun k e => (hown.lt k e).1))
    have e : cellsS xs ++ cellsS ys = cellsS (xs ++ ys) := by simp [cellsS]
    rw [← e]
    exact h1

/-- One text that the call lays. -/
theorem strs_one (w : World) (x : List UInt8) : StrsIs (w.alloc (.cells #[.string (bs x)] 9)) (.slice (some ⟨w.heap.size, 0, none⟩) 1 1) [x] := by
  refine ⟨_, 1, rfl, Nat.le_refl _, by unfold maxLen; simp, fun _ => ⟨w.heap.size, 0, rfl, by simp, fun i hi => ?_⟩⟩
  have : i = 0 := by simpa using hi
  subst this
  rw [Nat.zero_add, cell_new]
  rfl

end Go.Proofs.YtdfobojkmilcbaaDoor
