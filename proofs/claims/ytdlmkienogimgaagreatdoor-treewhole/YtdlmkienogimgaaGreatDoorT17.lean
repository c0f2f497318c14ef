/- This text proves what Link and Drop do: a file has one more name, or a name is there no more, or what is wrong is told; nothing is turned but one directory's map; the conditions are that the tree lies there. -/
import Derived.Test.YtdlmkienogimgaaGreatDoorT16
namespace Go.Proofs.YtdlmkienogimgaaGreatDoor
open Go.RowKit Go.Deep Go.Shelf Go.Maps

def thing (L : List Ent) (M : Nat → Option Nat) (a : List UInt8) : Nat := (atS L M a).2.getD 0
def lkE (L : List Ent) (M : Nat → Option Nat) (a b : List UInt8) : Nat := if (atS L M a).1 ≠ 0 then (atS L M a).1 else if (M (thing L M a)).isSome then 3 else puE L M b
def lkL (L : List Ent) (M : Nat → Option Nat) (a b : List UInt8) : List Ent := if lkE L M a b = 0 then L ++ [(pN b, thing L M a)] else L

theorem atS_cases {L : List Ent} {M : Nat → Option Nat} (hG : Good L M) (l : List UInt8) : (∃ j, atS L M l = (0, some j) ∧ pE l = 0 ∧ look L (pN l) = some j) ∨ (∃ e, e ≠ 0 ∧ atS L M l = (e, none)) := by
  unfold atS
  by_cases h : pE l = 0
  · rw [if_pos h]
    rcases atF_cases hG (pN l) with ⟨j, h1, h2⟩ | ⟨e, h0, h1, h2⟩
    · exact .inl ⟨j, h1, h, h2⟩
    · exact .inr ⟨e, by rcases h0 with rfl | rfl <;> decide, h1⟩
  · rw [if_neg h]
    exact .inr ⟨_, h, rfl⟩

set_option maxHeartbeats 4000000 in
set_option maxRecDepth 100000 in
theorem link_any (w : World) (base t : Nat) (L : List Ent) (M : Nat → Option Nat) (h : TreeAt w base t L M) (a b : ByteArray) (ha : a.size ≤ maxLen) (hb : b.size ≤ maxLen) (hm : Mx w) (hbw : base ≤ w.heap.size) :
    Calls Tryz.prog 29 #[ptr t, .string a, .string b] w fun e w' => e = .returned (errV (lkE L M a.data.toList b.data.toList)) ∧ TreeAt w' base t (lkL L M a.data.toList b.data.toList) M ∧ Turned base w w' := by
  have HA : Hid _ := fun (_ : Nat) => at_any w base t L M h a ha hm
  have HT : Hid (TreeAt w base t L M) := h
  have HB : Hid (base ≤ w.heap.size) := hbw
  rcases atS_cases h.good a.data.toList with ⟨j, h1, h2, h3⟩ | ⟨e, h0, h1⟩
  · rw [h1] at HA
    simp only [valO, errV_zero] at HA
    have hth : thing L M a.data.toList = j := by unfold thing; rw [h1]; rfl
    obtain ⟨hnj, hbj⟩ := h.node _ _ (look_mem h3)
    have HD : Hid _ := fun (w' : World) (hb : Below w.heap.size w w') => isDir_any w' j (M j) ((hb.block _ hnj.lt).trans hnj)
    cases hM : M j with
    | some m =>
      have hE : lkE L M a.data.toList b.data.toList = 3 := by unfold lkE; rw [h1, if_neg (by simp), hth, hM]; rfl
      unfold lkL
      rw [if_neg (by rw [hE]; decide), hE, errV_pos (by decide)]
      rw [hM] at HD
      unfold ptr at HA HD ⊢
      clear hE hM hnj hth h1 h2 h3 h hbj
      go_enter Tryz.func29, Tryz.ntmps29
      go_wp2_with (first
        | (go_at_call 39; refine (HA.out 0).mono ?_; rintro e w1 ⟨rfl, hb1⟩)
        | (go_at_call 33; refine (HD.out _ hb1).mono ?_; rintro e w' ⟨rfl, rfl⟩))
      go_ret
      exact ⟨rfl, HT.out.later hb1, Turned.of_below hb1 HB.out⟩
    | none =>
      have hE : lkE L M a.data.toList b.data.toList = puE L M b.data.toList := by unfold lkE; rw [h1, if_neg (by simp), hth, hM]; rfl
      have hL : lkL L M a.data.toList b.data.toList = puL L M b.data.toList j := by unfold lkL puL; rw [hE, hth]
      rw [hE, hL]
      rw [hM] at HD
      have HP : Hid _ := fun (w' : World) (hb1 : Below w.heap.size w w') => put_any w' base t j L M (h.later hb1) b hb (hm.later hb1) (by have := hb1.size; omega) (.inl hM) ⟨(hb1.block _ hnj.lt).trans hnj, hbj⟩ (fun mi hmi => by rw [hM] at hmi; cases hmi)
      unfold ptr at HA HD HP ⊢
      clear hE hL hM hnj hth h1 h2 h3 h hbj
      go_enter Tryz.func29, Tryz.ntmps29
      go_wp2_with (first
        | (go_at_call 39; refine (HA.out 0).mono ?_; rintro e w1 ⟨rfl, hb1⟩)
        | (go_at_call 33; refine (HD.out _ hb1).mono ?_; rintro e w' ⟨rfl, rfl⟩)
        | (go_at_call 41; refine (HP.out _ hb1).mono ?_; rintro e w2 ⟨rfl, k1, k2⟩))
      go_ret
      exact ⟨rfl, k1, (Turned.of_below hb1 HB.out).trans k2⟩
  · have hE : lkE L M a.data.toList b.data.toList = e := by unfold lkE; rw [h1, if_pos h0]
    unfold lkL
    rw [if_neg (by rw [hE]; exact h0), hE, errV_pos h0]
    rw [h1] at HA
    simp only [valO] at HA
    rw [errV_pos h0] at HA
    unfold ptr at HA ⊢
    clear hE h1 h0 h
    go_enter Tryz.func29, Tryz.ntmps29
    go_wp2_with (first
      | (go_at_call 39; refine (HA.out 0).mono ?_; rintro e w1 ⟨rfl, hb1⟩))
    go_ret
    exact ⟨rfl, HT.out.later hb1, Turned.of_below hb1 HB.out⟩

def drE (L : List Ent) (M : Nat → Option Nat) (s : List UInt8) : Nat := if spE L M s ≠ 0 then spE L M s else if look L (pN s) = none then 5 else if kids L (pN s) = [] then 0 else 7
def drL (L : List Ent) (M : Nat → Option Nat) (s : List UInt8) : List Ent := if drE L M s = 0 then cutL L (pN s) else L

/-- How many names a node's map has. -/
theorem node_len (w : World) (base t : Nat) (L : List Ent) (M : Nat → Option Nat) (h : TreeAt w base t L M) (p : List (List UInt8)) (i : Nat) (hi : (p, i) ∈ L) :
    ∃ m, w.cell? ⟨i, 0, none⟩ = some (.map m) ∧ ∀ ty, (Builtin.len_ #[75] ty #[.map m]).run Tryz.prog w = .ok (.int .i64 ((kids L p).length : Nat)) w := by
  obtain ⟨hn, _⟩ := h.node p i hi
  refine ⟨M i, hn.cell, fun ty => ?_⟩
  cases hM : M i with
  | none => rw [kids_file h.good hi hM]; exact nil_len w ty
  | some m =>
    rw [kids_len]
    exact (h.maps p i m hi hM).1.len (kd_nodup h.good.uni p) (fun k => kd_some h.good.uni p k) ty

set_option maxHeartbeats 4000000 in
set_option maxRecDepth 100000 in
theorem drop_any (w : World) (base t : Nat) (L : List Ent) (M : Nat → Option Nat) (h : TreeAt w base t L M) (s : ByteArray) (hs : s.size ≤ maxLen) (hm : Mx w) (hbw : base ≤ w.heap.size) :
    Calls Tryz.prog 13 #[ptr t, .string s] w fun e w' => e = .returned (errV (drE L M s.data.toList)) ∧ TreeAt w' base t (drL L M s.data.toList) M ∧ Turned base w w' := by
  have HS : Hid _ := fun (_ : Nat) => spotOf_any w base t L M h s hs hm
  have HT : Hid (TreeAt w base t L M) := h
  have HB : Hid (base ≤ w.heap.size) := hbw
  by_cases he : spE L M s.data.toList = 0
  · obtain ⟨q, k, d, m, hp, hqk, hk, hl, hM, hV⟩ := spE_zero h.good he
    obtain ⟨hmap, hbm⟩ := h.maps _ _ _ (look_mem hl) hM
    obtain ⟨hnode, _⟩ := h.node _ _ (look_mem hl)
    rw [hM] at hnode
    have hkl := isN_len hk
    have HW : Hid _ := fun (w' : World) (n : Int) (hb : Below w.heap.size w w') => what_any w' d m k n _ ((hb.block _ hnode.lt).trans hnode) (hmap.block (hb.block _ hmap.lt)) (by omega)
    rw [he, hV, errV_zero] at HS
    cases hf : look L (q ++ [k]) with
    | none =>
      have hE : drE L M s.data.toList = 5 := by unfold drE; rw [if_neg (by simp [he]), hqk, if_pos hf]
      unfold drL
      rw [if_neg (by rw [hE]; decide), hE, errV_pos (by decide)]
      rw [hf] at HW
      simp only [valO] at HW
      generalize hN : ((q.length : Int) + 1) = n at *
      unfold ptr at HS HW ⊢
      clear hV hE hl hM hmap hnode hqk hp he hN hk hkl hf hbm h
      go_enter Tryz.func13, Tryz.ntmps13
      go_wp2_with (first
        | (go_at_call 42; refine (HS.out 0).mono ?_; rintro e w1 ⟨rfl, hb⟩)
        | (go_at_call 43; refine (HW.out _ _ (hb.trans ((below_alloc w1 _).mono hb.size))).mono ?_; rintro e w2 ⟨rfl, hb2⟩))
      go_ret
      have hbb := hb.trans (((below_alloc w1 _).trans (hb2.mono (by simp))).mono hb.size)
      exact ⟨rfl, HT.out.later hbb, Turned.of_below hbb HB.out⟩
    | some j =>
      rw [hf] at HW
      simp only [valO] at HW
      have HN : Hid _ := fun (w' : World) (hb : Below w.heap.size w w') => node_len w' base t L M (h.later hb) _ j (look_mem hf)
      by_cases hkd : kids L (q ++ [k]) = []
      · have hE : drE L M s.data.toList = 0 := by unfold drE; rw [if_neg (by simp [he]), hqk, if_neg (by rw [hf]; simp), if_pos hkd]
        unfold drL
        rw [if_pos hE, hE, hqk, errV_zero]
        rw [hkd] at HN
        have HC : Hid (∀ (w2 : World) (x : Int), Below w.heap.size w w2 → Calls Tryz.prog 44 #[.agg #[ptr d, .string (bs k), .int .i64 x]] w2 fun e w' => e = .returned (.tuple #[]) ∧ TreeAt w' base t (cutL L (q ++ [k])) M ∧ Turned base w w') := by
          show ∀ (w2 : World) (x : Int), Below w.heap.size w w2 → _
          intro w2 x hb
          refine (clear_any w2 base d m k x _ ((hb.block _ hnode.lt).trans hnode) (hmap.block (hb.block _ hmap.lt)) (by omega) hbm (by have := hb.size; omega)).mono ?_
          rintro e w' ⟨rfl, g1, g2, g3⟩
          exact ⟨rfl, tree_cut (h.later hb) hl hM hkd g1 g3, (Turned.of_below hb HB.out).trans g2⟩
        generalize hN : ((q.length : Int) + 1) = n at *
        unfold ptr at HS HW HC ⊢
        clear hV hE hl hM hmap hnode hqk hp he hN hk hkl hf hbm h hkd
        go_enter Tryz.func13, Tryz.ntmps13
        go_wp2_with (first
          | (go_at_call 42; refine (HS.out 0).mono ?_; rintro e w1 ⟨rfl, hb⟩)
          | (go_at_call 43; refine (HW.out _ _ (hb.trans ((below_alloc w1 _).mono hb.size))).mono ?_; rintro e w2 ⟨rfl, hb2⟩; have hbb := hb.trans (((below_alloc w1 _).trans (hb2.mono (by simp))).mono hb.size); obtain ⟨d0, d1, d2, _⟩ := (box3_here hb2).facts; obtain ⟨mm, e1, e2⟩ := HN.out w2 hbb)
          | (go_at_call 44; refine (HC.out _ _ hbb).mono ?_; rintro e w3 ⟨rfl, k1, k2⟩))
        go_ret
        exact ⟨rfl, k1, k2⟩
      · have hE : drE L M s.data.toList = 7 := by unfold drE; rw [if_neg (by simp [he]), hqk, if_neg (by rw [hf]; simp), if_neg hkd]
        unfold drL
        rw [if_neg (by rw [hE]; decide), hE, errV_pos (by decide)]
        obtain ⟨c, hc⟩ : ∃ c, (kids L (q ++ [k])).length = c := ⟨_, rfl⟩
        have hc0 : 0 < c := by rw [← hc]; exact List.length_pos_iff.2 hkd
        rw [hc] at HN
        generalize hN : ((q.length : Int) + 1) = n at *
        unfold ptr at HS HW ⊢
        clear hV hE hl hM hmap hnode hqk hp he hN hk hkl hf hbm h hkd hc
        go_enter Tryz.func13, Tryz.ntmps13
        go_wp2_with (first
          | (go_at_call 42; refine (HS.out 0).mono ?_; rintro e w1 ⟨rfl, hb⟩)
          | (go_at_call 43; refine (HW.out _ _ (hb.trans ((below_alloc w1 _).mono hb.size))).mono ?_; rintro e w2 ⟨rfl, hb2⟩; have hbb := hb.trans (((below_alloc w1 _).trans (hb2.mono (by simp))).mono hb.size); obtain ⟨mm, e1, e2⟩ := HN.out w2 hbb))
        go_ret
        exact ⟨rfl, HT.out.later hbb, Turned.of_below hbb HB.out⟩
  · have hE : drE L M s.data.toList = spE L M s.data.toList := if_pos he
    unfold drL
    rw [if_neg (by rw [hE]; exact he), hE, errV_pos he]
    rw [errV_pos he, spV_no he] at HS
    unfold noSpot at HS
    generalize spE L M s.data.toList = E at *
    unfold ptr at HS ⊢
    clear he hE h
    go_enter Tryz.func13, Tryz.ntmps13
    go_wp2_with (go_at_call 42; refine (HS.out 0).mono ?_; rintro e w1 ⟨rfl, hb⟩)
    go_ret
    have hbb : ∀ o, Below w.heap.size w (w1.alloc o) := fun o => hb.trans ((below_alloc w1 o).mono hb.size)
    exact ⟨rfl, HT.out.later (hbb _), Turned.of_below (hbb _) HB.out⟩

end Go.Proofs.YtdlmkienogimgaaGreatDoor
