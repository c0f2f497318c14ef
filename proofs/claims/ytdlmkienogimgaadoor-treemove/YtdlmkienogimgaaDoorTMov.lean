/- This text proves that platterholdlaw2.TreeMove returns true: what is moved there and back was not moved, and there are as many names; old memory is as it was; the conditions are that the steps' texts lie there, that a text is no longer than texts can be, and that the library's variable internal/bytealg.MaxLen holds some number. -/
import Derived.Test.YtdlmkienogimgaaDoorT22
namespace Go.Proofs.YtdlmkienogimgaaDoor
open Go.RowKit Go.Deep Go.Shelf Go.Maps

theorem StrsIs.turned {w w' : World} {v : Value} {ls : List (List UInt8)} {base : Nat} (h : StrsIs w v ls) (hT : Turned base w w') : StrsIs w' v ls := by
  obtain ⟨a, c, h1, h2, h3, h4⟩ := h
  refine ⟨a, c, h1, h2, h3, fun hne => ?_⟩
  obtain ⟨b, o, ha, hlt, hc⟩ := h4 hne
  exact ⟨b, o, ha, Nat.lt_of_lt_of_le hlt hT.below.size, fun i hi => hT.cell (hc i hi)⟩

theorem mvE_zero {L : List Ent} {M : Nat → Option Nat} (hG : Good L M) {a b : List UInt8} (h : mvE L M a b = 0) :
    ∃ q k q2 k2 i d d2, pE a = 0 ∧ pN a = q ++ [k] ∧ pE b = 0 ∧ pN b = q2 ++ [k2] ∧ isN k = true ∧ Mov L M q q2 k k2 i d d2 ∧ mvL L M a b = movL L (q ++ [k]) (q2 ++ [k2]) := by
  have h0 := h
  unfold mvE at h
  split at h
  · rename_i h1; exact absurd h h1
  · rename_i h1
    split at h
    · cases h
    · rename_i h2
      split at h
      · rename_i h3; exact absurd h h3
      · rename_i h3
        obtain ⟨q, k, d, m, g1, g2, g3, g4, g5, _⟩ := spE_zero hG (by simpa using h1)
        obtain ⟨q2, k2, d2, m2, r1, r2, r3, r4, r5, _, r6, _⟩ := frE_zero hG (by simpa using h3)
        have hgd : ((atF L M (pN b).dropLast).2.getD 0) = d2 := by rw [r2, List.dropLast_concat, atF_good hG r4]; rfl
        rw [hgd] at h
        obtain ⟨i, hi⟩ := Option.ne_none_iff_exists'.1 h2
        rw [g2] at hi h
        rw [hi, Option.getD_some] at h
        split at h
        · cases h
        · rename_i h4
          split at h
          · cases h
          · rename_i h5
            refine ⟨q, k, q2, k2, i, d, d2, g1, g2, r1, r2, g3, ⟨hG, hi, ⟨g4, by rw [g5]; rfl⟩, ⟨r4, by rw [r5]; rfl⟩, r6, r3, fun hp => h4 ((met_iff hG hi r4 (by rw [r5]; rfl)).2 hp), fun u j hj => ?_⟩, ?_⟩
            · refine dpt_deep hG ?_ u j hj
              rw [r2, List.length_append, List.length_singleton] at h5
              omega
            · unfold mvL
              rw [if_pos h0, g2, r2]
theorem mvE_ok {L : List Ent} {M : Nat → Option Nat} {a b : List UInt8} {q q2 : List (List UInt8)} {k k2 : List UInt8} {i d d2 : Nat} (ha : pE a = 0) (hna : pN a = q ++ [k]) (hb : pE b = 0) (hnb : pN b = q2 ++ [k2]) (h : Mov L M q q2 k k2 i d d2) : mvE L M a b = 0 := by
  have hG := h.good
  obtain ⟨m, hm⟩ := Option.isSome_iff_exists.1 h.from'.2
  obtain ⟨m2, hm2⟩ := Option.isSome_iff_exists.1 h.goal.2
  obtain ⟨h1, _⟩ := spE_good ha hna (atF_good hG h.from'.1) hm
  obtain ⟨h2, _⟩ := spE_good hb hnb (atF_good hG h.goal.1) hm2
  have h3 : frE L M b = 0 := by unfold frE; rw [if_neg (by simp [h2]), hnb, h.free]; rfl
  have hgd : ((atF L M (pN b).dropLast).2.getD 0) = d2 := by rw [hnb, List.dropLast_concat, atF_good hG h.goal.1]; rfl
  have h4 : met i d2 (wk 8 L (q ++ [k])) = false := by
    cases e : met i d2 (wk 8 L (q ++ [k])) with
    | false => rfl
    | true => exact absurd ((met_iff hG h.here h.goal.1 h.goal.2).1 e) h.out
  have hl2 : q2.length + 1 ≤ 8 := by have := h.deep [] i (by rw [List.append_nil]; exact look_mem h.here); simpa using this
  unfold mvE
  rw [if_neg (by simp [h1]), hna, h.here, if_neg (by simp), if_neg (by simp [h3]), hgd, Option.getD_some, h4, if_neg (by simp), if_neg]
  rw [hnb, List.length_append, List.length_singleton]
  have hd : dpt (wk 8 L (q ++ [k])) ≤ 8 - (q2.length + 1) := dpt_le.2 fun x hx => by
    have := h.deep x.1 x.2 (wk_mem 8 _ x hx).2
    omega
  omega

/-- There and back. -/
theorem mov_back {L : List Ent} {M : Nat → Option Nat} {q q2 : List (List UInt8)} {k k2 : List UInt8} {i d d2 : Nat} (h : Mov L M q q2 k k2 i d d2) (hk : isN k = true) :
    Mov (movL L (q ++ [k]) (q2 ++ [k2])) M q2 q k2 k i d2 d ∧ movL (movL L (q ++ [k]) (q2 ++ [k2])) (q2 ++ [k2]) (q ++ [k]) = L := by
  have hg2 : mv (q ++ [k]) (q2 ++ [k2]) q2 = q2 := mv_off h.out
  have hg1 : mv (q ++ [k]) (q2 ++ [k2]) q = q := mv_off fun ⟨u, hu⟩ => by have := congrArg List.length hu; simp at this
  refine ⟨⟨h.good', h.uni.look.2 (mem_movL.2 ⟨_, i, look_mem h.here, by rw [mv_self]⟩), ⟨h.uni.look.2 (mem_movL.2 ⟨_, d2, look_mem h.goal.1, by rw [hg2]⟩), h.goal.2⟩, ⟨h.uni.look.2 (mem_movL.2 ⟨_, d, look_mem h.from'.1, by rw [hg1]⟩), h.from'.2⟩, ?_, hk, h.none_below (look_mem h.from'.1), fun u j hj => ?_⟩, ?_⟩
  · have := h.look (look_mem h.from'.1) k
    rw [hg1] at this
    rw [this, if_neg, if_pos ⟨rfl, rfl⟩]
    rintro ⟨rfl, rfl⟩
    have := h.here
    rw [h.free] at this
    cases this
  · obtain ⟨y, j', hy, e⟩ := mem_movL.1 hj
    simp only [Prod.mk.injEq] at e
    obtain ⟨e, rfl⟩ := e
    have hl := (h.good.nam _ _ hy).1
    by_cases hp : (q ++ [k]) <+: y
    · obtain ⟨v, rfl⟩ := hp
      rw [mv_under] at e
      rw [List.append_cancel_left e]
      simp at hl
      omega
    · rw [mv_off hp] at e
      exact absurd ⟨u, e⟩ (h.none_below hy)
  · unfold movL
    rw [List.map_map]
    conv => rhs; rw [← List.map_id L]
    refine List.map_congr_left fun x hx => ?_
    have : mv (q2 ++ [k2]) (q ++ [k]) (mv (q ++ [k]) (q2 ++ [k2]) x.1) = x.1 := by
      by_cases hp : (q ++ [k]) <+: x.1
      · obtain ⟨u, hu⟩ := hp
        rw [← hu, mv_under, mv_under]
      · rw [mv_off hp, mv_off (h.none_below (j := x.2) hx)]
    show (mv (q2 ++ [k2]) (q ++ [k]) (mv (q ++ [k]) (q2 ++ [k2]) x.1), x.2) = x
    rw [this]

theorem move_back {L : List Ent} {M : Nat → Option Nat} (hG : Good L M) {a b : List UInt8} (h : mvE L M a b = 0) :
    Good (mvL L M a b) M ∧ mvE (mvL L M a b) M b a = 0 ∧ mvL (mvL L M a b) M b a = L ∧ (mvL L M a b).length = L.length := by
  obtain ⟨q, k, q2, k2, i, d, d2, h1, h2, h3, h4, h5, h6, h7⟩ := mvE_zero hG h
  obtain ⟨g1, g2⟩ := mov_back h6 h5
  rw [h7]
  have g3 := mvE_ok h3 h4 h1 h2 g1
  refine ⟨h6.good', g3, ?_, by unfold movL; rw [List.length_map]⟩
  unfold mvL
  rw [if_pos g3, h4, h2, g2]

theorem strs_form {w : World} {v : Value} {ls : List (List UInt8)} (h : StrsIs w v ls) : ∃ a c, v = .slice a ls.length c := by
  obtain ⟨a, c, rfl, _⟩ := h
  exact ⟨a, c, rfl⟩

set_option maxHeartbeats 8000000 in
set_option maxRecDepth 100000 in
theorem treeMove_any (w : World) (v : Value) (ls : List (List (List UInt8))) (hv : TxtsIs w v ls) (a b : ByteArray) (ha : a.size ≤ maxLen) (hb : b.size ≤ maxLen) (hm : Mx w) :
    Calls Tryd.prog 4 #[v, .string a, .string b] w fun e w' => e = .returned (.bool true) ∧ Below w.heap.size w w' := by
  have H1 : Hid _ := fun (_ : Nat) => fact_any w hm
  have H2 : Hid _ := fun (w1 : World) (hb : Below w.heap.size w w1) => grown_any w1 v ls (hv.later hb) (hm.later hb)
  have HM : Hid (∀ (w1 w2 : World), Below w.heap.size w w1 → Turned w1.heap.size w1 w2 → Mx w2) := fun w1 w2 h1 h2 => (hm.later h1).turned h2
  clear hv
  go_enter Tryd.func4, Tryd.ntmps4
  go_wp2_with fail
  refine Calls.mono (H1.out 0) ?_
  rintro e w1 ⟨rfl, hb1⟩
  go_wp2_with fail
  refine Calls.mono (H2.out w1 hb1) ?_
  rintro e w2 ⟨t, L, M, rfl, hT2, k2⟩
  have hm2 := HM.out w1 w2 hb1 k2
  have hz1 := hb1.size
  unfold ptr
  go_wp2_with fail
  refine Calls.mono (treeWalk_any w2 w1.heap.size t L M hT2) ?_
  rintro e w3 ⟨v3, rfl, hv3, hb3⟩
  have hs3 := strs_own hv3
  have hT3 := hT2.later hb3
  have k3 : Turned w1.heap.size w1 w3 := k2.trans (Turned.of_below hb3 k2.below.size)
  have hm3 := HM.out w1 w3 hb1 k3
  clear hv3
  go_wp2_with fail
  refine Calls.mono (move_any w3 w1.heap.size t L M hT3 a b ha hb hm3 k3.below.size) ?_
  rintro e w4 ⟨rfl, hT4, k4⟩
  have k4' := k3.trans k4
  have hs4 := hs3.turned k4
  by_cases he : mvE L M a.data.toList b.data.toList = 0
  · obtain ⟨hG', e2, e3, e4⟩ := move_back hT3.good he
    have hn : (txs (mvL L M a.data.toList b.data.toList) M).length = (txs L M).length := by
      have h1 := txs_len hG'
      have h2 := txs_len hT3.good
      omega
    rw [he, errV_zero]
    generalize mvL L M a.data.toList b.data.toList = L' at *
    clear he
    go_wp2_with fail
    refine Calls.mono (treeWalk_any w4 w1.heap.size t L' M hT4) ?_
    rintro e w5 ⟨v5, rfl, hv5, hb5⟩
    have hs5 := strs_own hv5
    have hs35 := hs4.later (Nat.le_refl _) hb5
    have hT5 := hT4.later hb5
    have k5 : Turned w1.heap.size w1 w5 := k4'.trans (Turned.of_below hb5 k4'.below.size)
    have hm5 := HM.out w1 w5 hb1 k5
    obtain ⟨a5, c5, rfl⟩ := strs_form hs5
    obtain ⟨a3, c3, rfl⟩ := strs_form hs35
    rw [hn]
    have HS : Hid (StrsIs w5 (.slice a3 (txs L M).length c3) (txs L M)) := hs35
    have HMv : Hid _ := fun (_ : Nat) => move_any w5 w1.heap.size t L' M hT5 b a hb ha hm5 k5.below.size
    rw [e2, e3, errV_zero] at HMv
    clear hv5 hs5 hs35 hs4 hs3
    obtain ⟨n, hnn⟩ : ∃ n, (txs L M).length = n := ⟨_, rfl⟩
    rw [hnn] at HS ⊢
    unfold ptr at HMv
    go_wp2_with fail
    refine Calls.mono (HMv.out 0) ?_
    rintro e w6 ⟨rfl, hT6, k6⟩
    have hs6 := HS.out.turned k6
    go_wp2_with fail
    refine Calls.mono (treeWalk_any w6 w1.heap.size t L M hT6) ?_
    rintro e w7 ⟨v7, rfl, hv7, hb7⟩
    have hs7 := strs_own hv7
    have hs67 := hs6.later (Nat.le_refl _) hb7
    clear hv7
    go_wp2_with fail
    refine Calls.mono (texts_any w7 v7 _ _ _ hs7 hs67) ?_
    rw [eqS_self]
    rintro e w8 ⟨rfl, hb8⟩
    go_wp2_with fail
    go_ret
    have k6' := k5.trans k6
    have z := k6'.below.size
    exact ⟨rfl, hb1.trans (((k6'.below.trans (hb7.mono z)).trans (hb8.mono (Nat.le_trans z hb7.size))).mono hz1)⟩
  · rw [errV_pos he]
    unfold mvL at hT4
    rw [if_neg he] at hT4
    clear he
    go_wp2_with fail
    refine Calls.mono (treeWalk_any w4 w1.heap.size t L M hT4) ?_
    rintro e w5 ⟨v5, rfl, hv5, hb5⟩
    have hs5 := strs_own hv5
    have hs45 := hs4.later (Nat.le_refl _) hb5
    clear hv5
    go_wp2_with fail
    refine Calls.mono (texts_any w5 v5 v3 _ _ hs5 hs45) ?_
    rw [eqS_self]
    rintro e w6 ⟨rfl, hb6⟩
    go_wp2_with fail
    go_ret
    have z := k4'.below.size
    exact ⟨rfl, hb1.trans (((k4'.below.trans (hb5.mono z)).trans (hb6.mono (Nat.le_trans z hb5.size))).mono hz1)⟩

end Go.Proofs.YtdlmkienogimgaaDoor
