/- This text proves what extent.grow answers: the set with places more at its end, in memory of the caller's own; the only condition is that the set is the caller's own, and rises up to the places. -/
import Derived.Test.YtihefpnagdacpaaDoorX4
import Derived.OneCell
namespace Go.Proofs.YtihefpnagdacpaaDoor
open Go.RowKit Go.Deep

theorem rown_form {w : World} {base e z n : Nat} {v : Value} {vs : List Value} (h : w.ownsRow base e z v n vs) : ∃ a c, v = .slice a n c := by
  rcases h.2 with ⟨h0, h1⟩ | ⟨g, cap, cur, h1, _⟩
  · subst h1; exact ⟨none, 0, h0⟩
  · exact ⟨_, _, h1⟩
theorem rown_where {w : World} {base e z n : Nat} {v : Value} {vs : List Value} (h : w.ownsRow base e z v n vs) (hn : 0 < n) : ∃ g cap, v = .slice (some ⟨g, 0, none⟩) n cap ∧ base ≤ g ∧ g < w.heap.size := by
  rcases h.2 with ⟨_, h0⟩ | ⟨g, cap, cur, h1, h2, h3, _⟩
  · omega
  · exact ⟨g, cap, h1, h2, (Array.getElem?_eq_some_iff.1 h3).1⟩

theorem rdc_set : ∀ (a : List Rn) (x : Rn) (y : Int), (rdc (a ++ [x])).set (a.length * 2 + 1) (.int .i64 y) = rdc (a ++ [(x.1, y)])
  | [], x, y => rfl
  | z :: a, x, y => by
    have := rdc_set a x y
    simp only [List.cons_append, rdc, List.length_cons, show (a.length + 1) * 2 + 1 = a.length * 2 + 1 + 1 + 1 by omega, List.set_cons_succ]
    rw [this]
theorem rAt_last (a : List Rn) (x : Rn) : rAt (a ++ [x]) a.length = x := by unfold rAt; simp

set_option maxHeartbeats 4000000 in
theorem grow_any (w : World) (base : Nat) (v : Value) (s : List Rn) (f e : Int) (ho : w.ownsRow base 24 2 v s.length (rdc s)) (hbase : base ≤ w.heap.size) (hs : ∀ x ∈ s, isR x) (hlow : eF (-1) s ≤ f) (h0 : 0 ≤ f) (hfe : f < e) (he : e ≤ 1000) (hn : s.length ≤ 10000) :
    Calls Tryd.prog 27 #[v, .int .i64 f, .int .i64 e] w fun x w' => ∃ v', x = .returned v' ∧ w'.ownsRow base 24 2 v' (gro s f e).length (rdc (gro s f e)) ∧ Below base w w' := by
  obtain ⟨ti, hti, hz0, hz1, hz2⟩ := info_parts Tryd.info24
  rcases snoc_cases s with rfl | ⟨a, x, rfl⟩
  · obtain ⟨ad, c, rfl⟩ := rown_form ho
    have HO : Hid (w.ownsRow base 24 2 (.slice ad 0 c) 0 []) := ho
    have hlow' : (-1 : Int) < f := by omega
    have HG : Hid (gro [] f e = [(f, e - f)]) := gro_new hlow'
    have HLT : Hid (∀ k, (Value.slice ad 0 c).ownBlock = some k → base ≤ k) := fun k e => (HO.out.lt k e).1
    clear ho hs hlow
    go_enter Tryd.func27, Tryd.ntmps27
    go_wp2_with (at_builtin; refine wpList_append_own _ rfl (.tmp 34) (.tmp 40) 22 rfl base 24 ti (.agg #[.int .i64 0, .int .i64 0]) 2 16 Tryd.underlying22 hti hz0 hz1 hz2 rfl (by decide) (.slice ad 0 c) 0 [] rfl (HO.out.alloc _) ⟨w.heap.size, 0, none⟩ 1 1 [.int .i64 f, .int .i64 (e - f)] rfl rfl (news_twoI w _ _ 24) (ones_two _ _) ?q1 ?q2 ?q3 ?q4)
    case q1 => decide
    case q2 => decide
    case q3 => simp; omega
    case q4 =>
      intro v1 w1 hown hgr _
      have HO1 : Hid (w1.ownsRow base 24 2 v1 1 [.int .i64 f, .int .i64 (e - f)]) := hown
      have HB1 : Hid (Below base w w1) := (((Below.refl base w).alloc hbase _).grown hgr (by simp; omega) HLT.out)
      clear hown hgr
      go_wp2
      go_ret
      exact ⟨_, rfl, by rw [HG.out]; exact HO1.out, HB1.out⟩
  · rw [show (a ++ [x]).length = a.length + 1 by simp] at ho hn
    have hx : isR x := hs x (by simp)
    have HE : Hid _ := fun w => endOf_any x w hx
    obtain ⟨g, cap, rfl, hg1, hg2⟩ := rown_where ho (by omega)
    rw [eF_snoc] at hlow
    have k0 : w.cell? ⟨g, a.length * 2, none⟩ = some (.int .i64 x.1) := by
      have := (rdc_even (a ++ [x]) a.length (by simp)).1
      rw [rAt_last] at this
      rw [ho.cellAt (a.length * 2) (by omega)]; exact this
    have k1 : w.cell? ⟨g, a.length * 2 + 1, none⟩ = some (.int .i64 x.2) := by
      have := (rdc_even (a ++ [x]) a.length (by simp)).2
      rw [rAt_last] at this
      rw [ho.cellAt (a.length * 2 + 1) (by omega)]; exact this
    have HO : Hid (w.ownsRow base 24 2 (.slice (some ⟨g, 0, none⟩) (a.length + 1) cap) (a.length + 1) (rdc (a ++ [x]))) := ho
    have HG1 : Hid (g < w.heap.size ∧ base ≤ g) := ⟨hg2, hg1⟩
    have HLT : Hid (∀ k, (Value.slice (some ⟨g, 0, none⟩) (a.length + 1) cap).ownBlock = some k → base ≤ k) := fun k e => (HO.out.lt k e).1
    unfold isR at hx
    clear ho hs
    by_cases heq : x.1 + x.2 = f
    · have HG : Hid (gro (a ++ [x]) f e = a ++ [(x.1, x.2 + (e - f))]) := gro_grow heq h0
      have HST : Hid (∀ w1, Below w.heap.size w w1 → (w1.setCell ⟨g, a.length * 2 + 1, none⟩ (.int .i64 (x.2 + (e - f)))).ownsRow base 24 2 (.slice (some ⟨g, 0, none⟩) (a.length + 1) cap) (a.length + 1) (rdc (a ++ [(x.1, x.2 + (e - f))]))) := fun w1 hb => by
        have := ((xown_later HO.out hb).stored (a.length * 2 + 1) (.int .i64 (x.2 + (e - f)))).1
        rw [rdc_set] at this
        exact this
      have HC : Hid (∀ w1, Below w.heap.size w w1 → w1.cell? ⟨g, a.length * 2, none⟩ = some (.int .i64 x.1) ∧ w1.cell? ⟨g, a.length * 2 + 1, none⟩ = some (.int .i64 x.2) ∧ w1.frozen? ⟨g, a.length * 2 + 1, none⟩ = false) := fun w1 hb => by
        exact ⟨by rw [hb.cell (p := ⟨g, a.length * 2, none⟩) hg2]; exact k0, by rw [hb.cell (p := ⟨g, a.length * 2 + 1, none⟩) hg2]; exact k1, (xown_later HO.out hb).frozenAt _⟩
      have hfb : (x.1 + x.2 == f) = true := by simp [heq]
      have HL : Hid ((a ++ [(x.1, x.2 + (e - f))]).length = a.length + 1) := by show List.length _ = _; simp
      clear heq
      generalize a.length = m at k0 k1 hn HST HC HO HLT HL ⊢
      generalize x.1 = F at k0 hx hlow hfb HE HST HC HG HL ⊢
      generalize x.2 = T at k1 hx hlow hfb HE HST HC HG HL ⊢
      obtain ⟨x1, x2, x3, x4⟩ := hx
      go_enter Tryd.func27, Tryd.ntmps27
      go_wp2_with (go_at_call 17; refine (HE.out _).mono ?_; rintro e w1 ⟨rfl, hb1⟩; obtain ⟨j0, j1, j2⟩ := HC.out w1 hb1)
      go_ret
      exact ⟨_, rfl, by rw [HG.out, HL.out]; exact HST.out w1 hb1, ((Below.refl base w).trans (hb1.mono hbase)).setCell (p := ⟨g, m * 2 + 1, none⟩) HG1.out.2 _⟩
    · have hlt : x.1 + x.2 < f := by omega
      have HG : Hid (gro (a ++ [x]) f e = (a ++ [x]) ++ [(f, e - f)]) := gro_new (by rw [eF_snoc]; exact hlt)
      have HC : Hid (∀ w1, Below w.heap.size w w1 → w1.ownsRow base 24 2 (.slice (some ⟨g, 0, none⟩) (a.length + 1) cap) (a.length + 1) (rdc (a ++ [x]))) := fun w1 hb => xown_later HO.out hb
      have hfb : (x.1 + x.2 == f) = false := by simp [heq]
      have HL : Hid (((a ++ [x]) ++ [(f, e - f)]).length = a.length + 1 + 1) := by show List.length _ = _; simp
      have HR : Hid (rdc (a ++ [x]) ++ [.int .i64 f, .int .i64 (e - f)] = rdc ((a ++ [x]) ++ [(f, e - f)])) := rdc_snoc (f, e - f) (a ++ [x])
      clear heq
      generalize a ++ [x] = L at HO HG HC HR HL ⊢
      generalize a.length = m at k0 k1 hn HC HO HLT HL ⊢
      generalize x.1 = F at k0 hx hlow hfb HE hlt ⊢
      generalize x.2 = T at k1 hx hlow hfb HE hlt ⊢
      obtain ⟨x1, x2, x3, x4⟩ := hx
      go_enter Tryd.func27, Tryd.ntmps27
      go_wp2_with (first | (go_at_call 17; refine (HE.out _).mono ?_; rintro e w1 ⟨rfl, hb1⟩) | (at_builtin; refine wpList_append_own _ rfl (.tmp 34) (.tmp 40) 22 rfl base 24 ti (.agg #[.int .i64 0, .int .i64 0]) 2 16 Tryd.underlying22 hti hz0 hz1 hz2 rfl (by decide) (.slice (some ⟨g, 0, none⟩) (m + 1) cap) (m + 1) (rdc L) rfl ((HC.out w1 hb1).alloc _) ⟨w1.heap.size, 0, none⟩ 1 1 [.int .i64 f, .int .i64 (e - f)] rfl rfl (news_twoI w1 _ _ 24) (ones_two _ _) ?q1 ?q2 ?q3 ?q4))
      case q1 => unfold maxLen; omega
      case q2 => omega
      case q3 => have := hb1.size; simp; omega
      case q4 =>
        intro v1 w2 hown hgr _
        have HO1 : Hid (w2.ownsRow base 24 2 v1 (m + 1 + 1) (rdc (L ++ [(f, e - f)]))) := by rw [HR.out] at hown; exact hown
        have HB1 : Hid (Below base w w2) := (((hb1.mono hbase).alloc (by have := hb1.size; omega) _).grown hgr (by have := hb1.size; simp; omega) HLT.out)
        clear hown hgr hb1
        go_wp2
        go_ret
        exact ⟨_, rfl, by rw [HG.out, HL.out]; exact HO1.out, HB1.out⟩

end Go.Proofs.YtihefpnagdacpaaDoor
