/- This text proves what put does: a thing has one more name at a path's spot, or what is wrong is told; nothing is turned but the map of the spot's directory; the conditions are that the tree and the thing lie there. -/
import Derived.Test.YtdlmkienogimgaaGreatDoorT14
namespace Go.Proofs.YtdlmkienogimgaaGreatDoor
open Go.RowKit Go.Deep Go.Shelf Go.Maps

theorem Mx.turned {base : Nat} {w w' : World} (h : Mx w) (hT : Turned base w w') : Mx w' := by
  obtain ⟨m, h1, h2⟩ := h
  have hb : w'.heap[1]? = w.heap[1]? := hT.rows _ h2 fun es c e => by
    simp [World.cell?, e] at h1
  exact ⟨m, by rw [World.cell?_of_block (w := w) (a := ⟨1, 0, none⟩) hb]; exact h1, Nat.lt_of_lt_of_le h2 hT.below.size⟩

def puE (L : List Ent) (M : Nat → Option Nat) (l : List UInt8) : Nat := if frE L M l ≠ 0 then frE L M l else if 25 ≤ L.length then 4 else 0
def puL (L : List Ent) (M : Nat → Option Nat) (l : List UInt8) (i : Nat) : List Ent := if puE L M l = 0 then L ++ [(pN l, i)] else L

theorem frE_zero {L : List Ent} {M : Nat → Option Nat} (hG : Good L M) {l : List UInt8} (h : frE L M l = 0) :
    ∃ q k d m, pE l = 0 ∧ pN l = q ++ [k] ∧ isN k = true ∧ look L q = some d ∧ M d = some m ∧ frV L M l = .agg #[ptr d, .string (bs k), .int .i64 ((q.length : Int) + 1)] ∧ look L (q ++ [k]) = none ∧ q.length + 1 ≤ 8 := by
  have h0 := h
  unfold frE at h
  split at h
  · rename_i h1; exact absurd h h1
  · rename_i h1
    obtain ⟨q, k, d, m, g1, g2, g3, g4, g5, g6⟩ := spE_zero hG (by simpa using h1)
    split at h
    · cases h
    · rename_i h2
      refine ⟨q, k, d, m, g1, g2, g3, g4, g5, by unfold frV; rw [if_pos h0, g6], ?_, ?_⟩
      · rw [← g2]; simpa using h2
      · have := (pE_ok g1).2.2.2
        rw [g2, List.length_append, List.length_singleton] at this
        exact this

set_option maxRecDepth 100000 in
theorem Tryz.enter71 : ∀ args w, (callFunc 71 args).run Tryz.prog w = .ok (.enter 71 args) w := fun _ _ => by rfl

theorem yes_any (w : World) (v : Value) : Calls Tryz.prog 71 #[v] w fun e w' => e = .returned (.bool true) ∧ w = w' := by
  go_enter Tryz.func71, Tryz.ntmps71
  go_wp2
  go_ret
  exact ⟨rfl, rfl⟩

theorem countAll_any (w : World) (base t : Nat) (L : List Ent) (M : Nat → Option Nat) (h : TreeAt w base t L M) :
    Calls Tryz.prog 54 #[ptr t, .func (.func 71) #[] #[]] w fun e w' => e = .returned (.int .i64 ((L.length - 1 : Nat) : Int)) ∧ Below w.heap.size w w' := by
  have := count_any w base t L M h 71 #[] Tryz.enter71 (fun _ => true) (fun w' _ _ j _ => yes_any w' (ptr j))
  have e : (wka L).countP (fun _ => true) = L.length - 1 := by
    have := wka_len h.good
    rw [List.countP_true]; omega
  rw [e] at this
  exact this

set_option maxHeartbeats 4000000 in
set_option maxRecDepth 100000 in
theorem put_any (w : World) (base t i : Nat) (L : List Ent) (M : Nat → Option Nat) (h : TreeAt w base t L M) (s : ByteArray) (hs : s.size ≤ maxLen) (hm : Mx w) (hbw : base ≤ w.heap.size)
    (hi : M i = none ∨ ∀ x, (x, i) ∉ L) (hnode : NodeAt w i (M i) ∧ base ≤ i) (hmap : ∀ mi, M i = some mi → MapIs w mi (fun _ => none) ∧ base ≤ mi ∧ ∀ x j, (x, j) ∈ L → M j ≠ some mi) :
    Calls Tryz.prog 41 #[ptr t, .string s, ptr i] w fun e w' => e = .returned (errV (puE L M s.data.toList)) ∧ TreeAt w' base t (puL L M s.data.toList i) M ∧ Turned base w w' := by
  have HT : Hid (TreeAt w base t L M) := h
  have HP : Hid _ := fun (_ : Nat) => freeSpotOf_any w base t L M h s hs hm
  have HB : Hid (base ≤ w.heap.size) := hbw
  clear hs hm
  by_cases he : frE L M s.data.toList = 0
  · obtain ⟨q, k, d, m, hp, hqk, hk, hl, hM, hV, hfree, h8⟩ := frE_zero h.good he
    rw [he, hV, errV_zero] at HP
    have HC : Hid _ := fun (w' : World) (hb : Below w.heap.size w w') => countAll_any w' base t L M (h.later hb)
    have hlen := h.good.few
    by_cases h25 : 25 ≤ L.length
    · have hE : puE L M s.data.toList = 4 := by unfold puE; rw [if_neg (by simp [he]), if_pos h25]
      unfold puL
      rw [if_neg (by rw [hE]; decide), hE, errV_pos (by decide)]
      obtain ⟨n, hn⟩ : ∃ n, L.length - 1 = n := ⟨_, rfl⟩
      rw [hn] at HC
      have hn24 : 24 ≤ n := by omega
      generalize hN : ((q.length : Int) + 1) = x at *
      unfold ptr at HP HC ⊢
      clear hV hE hl hM hqk hp he hN hk h8 hfree hi hnode hmap h hbw hlen h25 hn
      go_enter Tryz.func41, Tryz.ntmps41
      go_wp2_with (first
        | (go_at_call 70; refine (HP.out 0).mono ?_; rintro e w1 ⟨rfl, hb⟩)
        | (go_at_call 54; refine (HC.out _ (hb.trans ((below_alloc w1 _).mono hb.size))).mono ?_; rintro e w2 ⟨rfl, hb2⟩))
      go_ret
      have hbb := hb.trans (((below_alloc w1 _).trans (hb2.mono (by simp))).mono hb.size)
      exact ⟨rfl, HT.out.later hbb, Turned.of_below hbb HB.out⟩
    · have hE : puE L M s.data.toList = 0 := by unfold puE; rw [if_neg (by simp [he]), if_neg h25]
      unfold puL
      rw [if_pos hE, hE, errV_zero, hqk]
      obtain ⟨n, hn⟩ : ∃ n, L.length - 1 = n := ⟨_, rfl⟩
      rw [hn] at HC
      have hn24 : n < 24 := by omega
      have HS : Hid (∀ (w2 : World) (x : Int), Below w.heap.size w w2 → Calls Tryz.prog 72 #[.agg #[ptr d, .string (bs k), .int .i64 x], ptr i] w2 fun e w' => e = .returned (.tuple #[]) ∧ TreeAt w' base t (L ++ [(q ++ [k], i)]) M ∧ Turned base w w') := by
        show ∀ (w2 : World) (x : Int), Below w.heap.size w w2 → _
        intro w2 x hb
        have h2 := h.later hb
        obtain ⟨hmp, hbm⟩ := h2.maps _ _ _ (look_mem hl) hM
        obtain ⟨hnd, _⟩ := h2.node _ _ (look_mem hl)
        rw [hM] at hnd
        have hkl := isN_len hk
        have hz := hb.size
        refine (set_any w2 base d m i k x _ hnd hmp (by omega) (kd L q) (kd_nodup h.good.uni q) (fun c => kd_some h.good.uni q c) (by have := kd_len L q; omega) hbm (by omega)).mono ?_
        rintro e w' ⟨rfl, g1, g2, g3⟩
        have hni : NodeAt w2 i (M i) := (hb.block _ hnode.1.lt).trans hnode.1
        refine ⟨rfl, tree_put h2 hl hM hfree hk h8 (by omega) hi ⟨(g3 i hni.lt (box_map hni hmp)).trans hni, hnode.2⟩ (fun mi hmi => ?_) g1 g3, (Turned.of_below hb HB.out).trans g2⟩
        obtain ⟨k1, k2, k3⟩ := hmap mi hmi
        have hml : mi < w2.heap.size := Nat.lt_of_lt_of_le k1.lt hb.size
        exact ⟨(k1.block (hb.block _ k1.lt)).block (g3 mi hml (fun e => k3 q d (look_mem hl) (by rw [hM, e]))), k2, k3⟩
      generalize hN : ((q.length : Int) + 1) = x at *
      unfold ptr at HP HC HS ⊢
      clear hV hE hl hM hqk hp he hN hk h8 hfree hi hnode hmap h hbw hlen h25 hn
      go_enter Tryz.func41, Tryz.ntmps41
      go_wp2_with (first
        | (go_at_call 70; refine (HP.out 0).mono ?_; rintro e w1 ⟨rfl, hb⟩)
        | (go_at_call 54; refine (HC.out _ (hb.trans ((below_alloc w1 _).mono hb.size))).mono ?_; rintro e w2 ⟨rfl, hb2⟩; have hbb := hb.trans (((below_alloc w1 _).trans (hb2.mono (by simp))).mono hb.size); obtain ⟨d0, d1, d2, _⟩ := (box3_here hb2).facts)
        | (go_at_call 72; refine (HS.out _ _ hbb).mono ?_; rintro e w3 ⟨rfl, hT3, hT4⟩))
      go_ret
      exact ⟨rfl, hT3, hT4⟩
  · have hE : puE L M s.data.toList = frE L M s.data.toList := if_pos he
    unfold puL
    rw [if_neg (by rw [hE]; exact he), hE, errV_pos he]
    rw [errV_pos he, show frV L M s.data.toList = noSpot from if_neg he] at HP
    unfold noSpot at HP
    generalize frE L M s.data.toList = E at *
    unfold ptr at HP ⊢
    clear he hE hi hnode hmap h hbw
    go_enter Tryz.func41, Tryz.ntmps41
    go_wp2_with (go_at_call 70; refine (HP.out 0).mono ?_; rintro e w1 ⟨rfl, hb⟩)
    go_ret
    have hbb : ∀ o, Below w.heap.size w (w1.alloc o) := fun o => hb.trans ((below_alloc w1 o).mono hb.size)
    exact ⟨rfl, HT.out.later (hbb _), Turned.of_below (hbb _) HB.out⟩

end Go.Proofs.YtdlmkienogimgaaGreatDoor
