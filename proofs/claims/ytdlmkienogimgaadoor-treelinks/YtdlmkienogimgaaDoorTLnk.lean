/- This text proves that platterholdlaw2.TreeLinks returns true: one more name of a file is one more for each of its names, and one less is one less; old memory is as it was; the conditions are that the steps' texts lie there, that a text is no longer than texts can be, and that the library's variable internal/bytealg.MaxLen holds some number. -/
import Derived.Test.YtdlmkienogimgaaDoorT22
namespace Go.Proofs.YtdlmkienogimgaaDoor
open Go.RowKit Go.Deep Go.Shelf Go.Maps

theorem puE_zero {L : List Ent} {M : Nat → Option Nat} (hG : Good L M) {l : List UInt8} (h : puE L M l = 0) :
    ∃ q k d m, pE l = 0 ∧ pN l = q ++ [k] ∧ isN k = true ∧ look L q = some d ∧ M d = some m ∧ look L (q ++ [k]) = none ∧ q.length + 1 ≤ 8 ∧ L.length ≤ 24 := by
  unfold puE at h
  split at h
  · rename_i h1; exact absurd h h1
  · rename_i h1
    obtain ⟨q, k, d, m, g1, g2, g3, g4, g5, _, g6, g7⟩ := frE_zero hG (by simpa using h1)
    split at h
    · cases h
    · exact ⟨q, k, d, m, g1, g2, g3, g4, g5, g6, g7, by omega⟩
theorem cut_put {L : List Ent} {p : List (List UInt8)} {i : Nat} (hp : look L p = none) : cutL (L ++ [(p, i)]) p = L := by
  unfold cutL
  rw [List.filter_append, List.filter_eq_self.2 fun x hx => ?_]
  · simp
  · have : x.1 ≠ p := fun e => look_none.1 hp x.2 (by rw [← e]; exact hx)
    simpa using this
/-- A name that was put is dropped. -/
theorem drop_put {L : List Ent} {M : Nat → Option Nat} {l : List UInt8} {q : List (List UInt8)} {k : List UInt8} {d m i : Nat} (hG : Good L M) (hG' : Good (L ++ [(q ++ [k], i)]) M) (he : pE l = 0) (hn : pN l = q ++ [k]) (hq : look L q = some d) (hd : M d = some m) (hf : look L (q ++ [k]) = none) :
    drE (L ++ [(q ++ [k], i)]) M l = 0 ∧ drL (L ++ [(q ++ [k], i)]) M l = L := by
  have hl : ∀ x, look (L ++ [(q ++ [k], i)]) x = if x = q ++ [k] then some i else look L x := fun x => put_look hG.uni hf
  have hq' : look (L ++ [(q ++ [k], i)]) q = some d := by rw [hl, if_neg (fun e => by have := congrArg List.length e; simp at this)]; exact hq
  obtain ⟨h0, _⟩ := spE_good he hn (atF_good hG' hq') hd
  have hk : kids (L ++ [(q ++ [k], i)]) (q ++ [k]) = [] := by
    rw [List.eq_nil_iff_forall_not_mem]
    intro c hc
    obtain ⟨j, hj⟩ := mem_kids.1 hc
    rcases List.mem_append.1 hj with hj | hj
    · obtain ⟨d', hd', _⟩ := hG.up _ _ _ hj
      exact look_none.1 hf d' hd'
    · rw [List.mem_singleton] at hj
      simp at hj
  have hE : drE (L ++ [(q ++ [k], i)]) M l = 0 := by
    unfold drE
    rw [if_neg (by simp [h0]), hn, hl, if_pos rfl, if_neg (by simp), if_pos hk]
  refine ⟨hE, ?_⟩
  unfold drL
  rw [if_pos hE, hn, cut_put hf]

theorem link_facts {L : List Ent} {M : Nat → Option Nat} (hG : Good L M) {a b : List UInt8} {j : Nat} (h0 : atS L M a = (0, some j)) (hE : lkE L M a b = 0) (hG' : Good (lkL L M a b) M) :
    atS (lkL L M a b) M a = (0, some j) ∧ atS (lkL L M a b) M b = (0, some j) ∧ nmN (lkL L M a b) M a = nmN L M a + 1 ∧ nmN (lkL L M a b) M b = nmN L M a + 1 ∧ (txs (lkL L M a b) M).length = (txs L M).length + 1 ∧ drE (lkL L M a b) M b = 0 ∧ drL (lkL L M a b) M b = L := by
  have hth : thing L M a = j := by unfold thing; rw [h0]; rfl
  have hE0 := hE
  unfold lkE at hE
  rw [h0, if_neg (by simp), hth] at hE
  split at hE
  · cases hE
  · rename_i hnd
    have hMj : M j = none := by simpa using hnd
    obtain ⟨q, k, d, m, g1, g2, g3, g4, g5, g6, g7, g8⟩ := puE_zero hG hE
    have hL : lkL L M a b = L ++ [(q ++ [k], j)] := by unfold lkL; rw [if_pos hE0, hth, g2]
    rw [hL] at hG' ⊢
    obtain ⟨pa, hla⟩ : pE a = 0 ∧ look L (pN a) = some j := by
      rcases atS_cases hG a with ⟨j', e1, e2, e3⟩ | ⟨e, e0, e1⟩
      · rw [h0] at e1; cases e1; exact ⟨e2, e3⟩
      · rw [h0] at e1; cases e1
    have hl : ∀ x, look (L ++ [(q ++ [k], j)]) x = if x = q ++ [k] then some j else look L x := fun x => put_look hG.uni g6
    have ha' : atS (L ++ [(q ++ [k], j)]) M a = (0, some j) := atS_good hG' pa (by
      rw [hl]
      split
      · rfl
      · exact hla)
    have hb' : atS (L ++ [(q ++ [k], j)]) M b = (0, some j) := atS_good hG' g1 (by rw [g2, hl, if_pos rfl])
    have hn0 : nmN L M a = (wka L).countP fun x => decide (x.2 = j) := by unfold nmN; rw [h0, hth, if_pos ⟨rfl, hMj⟩]
    have hcnt : ((wka (L ++ [(q ++ [k], j)])).countP fun x => decide (x.2 = j)) = ((wka L).countP fun x => decide (x.2 = j)) + 1 := by
      rw [(wka_perm hG').countP_eq, (wka_perm hG).countP_eq]
      obtain ⟨r, t, rfl, _⟩ := hG.root
      rw [List.cons_append, List.tail_cons, List.tail_cons, List.countP_append]
      simp
    have hth1 : thing (L ++ [(q ++ [k], j)]) M a = j := by unfold thing; rw [ha']; rfl
    have hth2 : thing (L ++ [(q ++ [k], j)]) M b = j := by unfold thing; rw [hb']; rfl
    refine ⟨ha', hb', ?_, ?_, ?_, drop_put hG hG' g1 g2 g4 g5 g6⟩
    · unfold nmN; rw [ha', hth1, if_pos ⟨rfl, hMj⟩, hcnt, h0, hth, if_pos ⟨rfl, hMj⟩]
    · rw [hn0]; unfold nmN; rw [hb', hth2, if_pos ⟨rfl, hMj⟩, hcnt]
    · have h1 := txs_len hG
      have h2 := txs_len hG'
      rw [List.length_append, List.length_singleton] at h2
      omega

theorem nmN_le {L : List Ent} {M : Nat → Option Nat} (hG : Good L M) (a : List UInt8) : nmN L M a ≤ 25 := by
  unfold nmN
  split
  · have h1 := List.countP_le_length (p := fun x : Ent => decide (x.2 = thing L M a)) (l := wka L)
    have h2 := wka_len hG
    have h3 := hG.few
    omega
  · omega
theorem nmN_none {L : List Ent} {M : Nat → Option Nat} {a : List UInt8} (h : (atS L M a).1 ≠ 0) : nmN L M a = 0 := by
  unfold nmN; rw [if_neg fun h' => h h'.1]
theorem strs_form {w : World} {v : Value} {ls : List (List UInt8)} (h : StrsIs w v ls) : ∃ a c, v = .slice a ls.length c := by
  obtain ⟨a, c, rfl, _⟩ := h
  exact ⟨a, c, rfl⟩

set_option maxHeartbeats 8000000 in
set_option maxRecDepth 100000 in
theorem treeLinks_any (w : World) (v : Value) (ls : List (List (List UInt8))) (hv : TxtsIs w v ls) (a b : ByteArray) (ha : a.size ≤ maxLen) (hb : b.size ≤ maxLen) (hm : Mx w) :
    Calls Tryd.prog 3 #[v, .string a, .string b] w fun e w' => e = .returned (.bool true) ∧ Below w.heap.size w w' := by
  have H1 : Hid _ := fun (_ : Nat) => fact_any w hm
  have H2 : Hid _ := fun (w1 : World) (hb : Below w.heap.size w w1) => grown_any w1 v ls (hv.later hb) (hm.later hb)
  have HM : Hid (∀ (w1 w2 : World), Below w.heap.size w w1 → Turned w1.heap.size w1 w2 → Mx w2) := fun w1 w2 h1 h2 => (hm.later h1).turned h2
  clear hv
  go_enter Tryd.func3, Tryd.ntmps3
  go_wp2_with fail
  refine Calls.mono (H1.out 0) ?_
  rintro e w1 ⟨rfl, hb1⟩
  go_wp2_with fail
  refine Calls.mono (H2.out w1 hb1) ?_
  rintro e w2 ⟨t, L, M, rfl, hT2, k2⟩
  have hm2 := HM.out w1 w2 hb1 k2
  have hz1 := hb1.size
  unfold ptr
  go_wp2_with fail
  refine Calls.mono (names_any w2 w1.heap.size t L M hT2 a ha hm2) ?_
  rintro e w3 ⟨rfl, hb3⟩
  have hT3 := hT2.later hb3
  have k3 : Turned w1.heap.size w1 w3 := k2.trans (Turned.of_below hb3 k2.below.size)
  have hm3 := HM.out w1 w3 hb1 k3
  rcases atS_cases hT3.good a.data.toList with ⟨j, hat, _, _⟩ | ⟨e, he0, hat⟩
  · rw [hat, errV_zero]
    have hnl := nmN_le hT3.good a.data.toList
    go_wp2_with fail
    refine Calls.mono (treeWalk_any w3 w1.heap.size t L M hT3) ?_
    rintro e w4 ⟨v4, rfl, hv4, hb4⟩
    obtain ⟨a4, c4, rfl⟩ := strs_form (strs_own hv4)
    have hT4 := hT3.later hb4
    have k4 : Turned w1.heap.size w1 w4 := k3.trans (Turned.of_below hb4 k3.below.size)
    have hm4 := HM.out w1 w4 hb1 k4
    have hln : (txs L M).length ≤ 25 := by have := txs_len hT3.good; have := hT3.good.few; omega
    clear hv4
    have HL : Hid _ := fun (_ : Nat) => link_any w4 w1.heap.size t L M hT4 a b ha hb hm4 k4.below.size
    unfold ptr at HL
    obtain ⟨N, hN⟩ : ∃ N, (txs L M).length = N := ⟨_, rfl⟩
    obtain ⟨n, hn⟩ : ∃ n, nmN L M a.data.toList = n := ⟨_, rfl⟩
    rw [hN] at hln ⊢
    rw [hn] at hnl ⊢
    go_wp2_with fail
    refine Calls.mono (HL.out 0) ?_
    rintro e w5 ⟨rfl, hT5, k5⟩
    have k5' := k4.trans k5
    by_cases hE : lkE L M a.data.toList b.data.toList = 0
    · obtain ⟨q1, q2, q3, q4, q5, q6, q7⟩ := link_facts hT4.good hat hE hT5.good
      rw [hE, errV_zero]
      rw [hn] at q3 q4
      rw [hN] at q5
      generalize lkL L M a.data.toList b.data.toList = L' at *
      clear hE HL
      go_wp2_with fail
      refine Calls.mono (names_any w5 w1.heap.size t L' M hT5 a ha (HM.out w1 w5 hb1 k5')) ?_
      rintro e w6 ⟨rfl, hb6⟩
      rw [q1, q3, errV_zero, show ((n + 1 : Nat) : Int) = (n : Int) + 1 from rfl]
      have hT6 := hT5.later hb6
      have k6 : Turned w1.heap.size w1 w6 := k5'.trans (Turned.of_below hb6 k5'.below.size)
      go_wp2_with fail
      refine Calls.mono (names_any w6 w1.heap.size t L' M hT6 b hb (HM.out w1 w6 hb1 k6)) ?_
      rintro e w7 ⟨rfl, hb7⟩
      rw [q2, q4, errV_zero, show ((n + 1 : Nat) : Int) = (n : Int) + 1 from rfl]
      have hT7 := hT6.later hb7
      have k7 : Turned w1.heap.size w1 w7 := k6.trans (Turned.of_below hb7 k6.below.size)
      go_wp2_with fail
      refine Calls.mono (treeWalk_any w7 w1.heap.size t L' M hT7) ?_
      rintro e w8 ⟨v8, rfl, hv8, hb8⟩
      obtain ⟨a8, c8, rfl⟩ := strs_form (strs_own hv8)
      rw [q5]
      have hT8 := hT7.later hb8
      have k8 : Turned w1.heap.size w1 w8 := k7.trans (Turned.of_below hb8 k7.below.size)
      clear hv8
      have HD : Hid _ := fun (_ : Nat) => drop_any w8 w1.heap.size t L' M hT8 b hb (HM.out w1 w8 hb1 k8) k8.below.size
      rw [q6, q7, errV_zero] at HD
      unfold ptr at HD
      go_wp2_with fail
      refine Calls.mono (HD.out 0) ?_
      rintro e w9 ⟨rfl, hT9, k9⟩
      have k9' := k8.trans k9
      go_wp2_with fail
      refine Calls.mono (names_any w9 w1.heap.size t L M hT9 a ha (HM.out w1 w9 hb1 k9')) ?_
      rintro e w10 ⟨rfl, hb10⟩
      rw [hat, hn, errV_zero]
      have hT10 := hT9.later hb10
      have k10 : Turned w1.heap.size w1 w10 := k9'.trans (Turned.of_below hb10 k9'.below.size)
      go_wp2_with fail
      refine Calls.mono (treeWalk_any w10 w1.heap.size t L M hT10) ?_
      rintro e w11 ⟨v11, rfl, hv11, hb11⟩
      obtain ⟨a11, c11, rfl⟩ := strs_form (strs_own hv11)
      rw [hN]
      clear hv11
      go_wp2_with fail
      go_ret
      have z := k10.below.size
      exact ⟨rfl, hb1.trans ((k10.below.trans (hb11.mono z)).mono hz1)⟩
    · rw [errV_pos hE]
      unfold lkL at hT5
      rw [if_neg hE] at hT5
      clear hE
      go_wp2_with fail
      refine Calls.mono (treeWalk_any w5 w1.heap.size t L M hT5) ?_
      rintro e w6 ⟨v6, rfl, hv6, hb6⟩
      obtain ⟨a6, c6, rfl⟩ := strs_form (strs_own hv6)
      rw [hN]
      clear hv6
      go_wp2_with fail
      go_ret
      have z := k5'.below.size
      exact ⟨rfl, hb1.trans ((k5'.below.trans (hb6.mono z)).mono hz1)⟩
  · rw [nmN_none (by rw [hat]; exact he0), hat, errV_pos he0]
    clear hat he0
    go_wp2_with fail
    go_ret
    exact ⟨rfl, hb1.trans (k3.below.mono hz1)⟩

end Go.Proofs.YtdlmkienogimgaaDoor
