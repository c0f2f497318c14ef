/- This text proves what Move does: a name is there no more, and what it named has another one, or what is wrong is told; nothing is turned but two directories' maps; the conditions are that the tree lies there. -/
import Derived.Test.YtdlmkienogimgaaGreatDoorT17
import Derived.Deep.RegionHeld3
namespace Go.Proofs.YtdlmkienogimgaaGreatDoor
open Go.RowKit Go.Deep Go.Shelf Go.Maps

def mvE (L : List Ent) (M : Nat → Option Nat) (a b : List UInt8) : Nat :=
  if spE L M a ≠ 0 then spE L M a else if look L (pN a) = none then 5 else if frE L M b ≠ 0 then frE L M b
  else if met ((look L (pN a)).getD 0) ((atF L M (pN b).dropLast).2.getD 0) (wk 8 L (pN a)) then 7 else if 8 < (pN b).length + dpt (wk 8 L (pN a)) then 4 else 0
def mvL (L : List Ent) (M : Nat → Option Nat) (a b : List UInt8) : List Ent := if mvE L M a b = 0 then movL L (pN a) (pN b) else L

theorem met_iff {L : List Ent} {M : Nat → Option Nat} (hG : Good L M) {p q2 : List (List UInt8)} {i d2 : Nat} (hp : look L p = some i) (hq : look L q2 = some d2) (hd : (M d2).isSome = true) : met i d2 (wk 8 L p) = true ↔ p <+: q2 := by
  unfold met
  rw [Bool.or_eq_true, decide_eq_true_eq, List.any_eq_true]
  constructor
  · rintro (rfl | ⟨x, hx, he⟩)
    · rw [hG.one p q2 i (look_mem hp) (look_mem hq) hd]
      exact List.prefix_rfl
    · have := (wk_mem 8 p x hx).2
      have e : x.2 = d2 := by simpa using he
      rw [e] at this
      exact ⟨x.1, hG.one _ q2 d2 this (look_mem hq) hd⟩
  · rintro ⟨u, rfl⟩
    by_cases hu : u = []
    · left
      rw [hu, List.append_nil, hp] at hq
      exact Option.some.inj hq
    · right
      refine ⟨(u, d2), wk_all hG 8 p u d2 hu ?_ (look_mem hq), by simp⟩
      have := (hG.nam _ _ (look_mem hq)).1
      rw [List.length_append] at this
      omega
theorem dpt_le {xs : List Ent} {n : Nat} : dpt xs ≤ n ↔ ∀ x ∈ xs, x.1.length ≤ n := by
  induction xs using rev_ind with
  | h0 => simp [dpt]
  | h1 l a ih =>
    rw [dpt_snoc, Nat.max_le, ih]
    constructor
    · rintro ⟨h1, h2⟩ x hx
      rcases List.mem_append.1 hx with hx | hx
      · exact h1 x hx
      · rw [List.mem_singleton.1 hx]; exact h2
    · exact fun h => ⟨fun x hx => h x (List.mem_append_left _ hx), h a (by simp)⟩
theorem dpt_small {L : List Ent} {M : Nat → Option Nat} (hG : Good L M) (p : List (List UInt8)) : dpt (wk 8 L p) ≤ 8 := dpt_le.2 fun x hx => by
  have := (hG.nam _ _ (wk_mem 8 p x hx).2).1
  rw [List.length_append] at this
  omega
theorem dpt_deep {L : List Ent} {M : Nat → Option Nat} (hG : Good L M) {p : List (List UInt8)} {n : Nat} (h : n + dpt (wk 8 L p) ≤ 8) (u : List (List UInt8)) (j : Nat) (hj : (p ++ u, j) ∈ L) : n + u.length ≤ 8 := by
  by_cases hu : u = []
  · rw [hu, List.length_nil]; omega
  · have hl := (hG.nam _ _ hj).1
    rw [List.length_append] at hl
    have := (dpt_le (n := dpt (wk 8 L p))).1 (Nat.le_refl _) (u, j) (wk_all hG 8 p u j hu (by omega) hj)
    have h2 : u.length ≤ dpt (wk 8 L p) := this
    omega

theorem mov_set (w5 w6 : World) (base t : Nat) (L : List Ent) (M : Nat → Option Nat) (h : TreeAt w5 base t L M) {q q2 : List (List UInt8)} {k k2 : List UInt8} {i d d2 m m2 : Nat} (hm : Mov L M q q2 k k2 i d d2) (hd : M d = some m) (hd2 : M d2 = some m2) (n : Int) (hbw : base ≤ w5.heap.size)
    (g1 : MapIs w6 m (upd (fun c => look L (q ++ [c])) k none)) (g2 : Turned base w5 w6) (g3 : ∀ b, b < w5.heap.size → b ≠ m → w6.heap[b]? = w5.heap[b]?) :
    Calls Tryz.prog 72 #[.agg #[ptr d2, .string (bs k2), .int .i64 n], ptr i] w6 fun e w' => e = .returned (.tuple #[]) ∧ TreeAt w' base t (movL L (q ++ [k]) (q2 ++ [k2])) M ∧ Turned base w5 w' := by
  obtain ⟨hmap, hbm⟩ := h.maps _ _ _ (look_mem hm.from'.1) hd
  obtain ⟨hmap2, hbm2⟩ := h.maps _ _ _ (look_mem hm.goal.1) hd2
  obtain ⟨hnd, _⟩ := h.node _ _ (look_mem hm.goal.1)
  rw [hd2] at hnd
  have hnd6 : NodeAt w6 d2 (some m2) := (g3 _ hnd.lt (box_map hnd hmap)).trans hnd
  have hqq : m2 = m → q2 = q := fun e => by
    have e1 := h.apart q d q2 d2 m (look_mem hm.from'.1) (look_mem hm.goal.1) hd (by rw [hd2, e])
    exact h.good.one q2 q d2 (look_mem hm.goal.1) (by rw [← e1]; exact look_mem hm.from'.1) hm.goal.2
  have hqm : q2 = q → m2 = m := fun e => by
    have := h.good.uni.same (look_mem hm.goal.1) (by rw [e]; exact look_mem hm.from'.1)
    rw [this, hd] at hd2
    exact (Option.some.inj hd2).symm
  have hmap6 : MapIs w6 m2 (fun c => if q2 = q ∧ c = k then none else look L (q2 ++ [c])) := by
    by_cases e : m2 = m
    · have e' := hqq e
      subst e'
      rw [e]
      refine g1.congr fun c => ?_
      unfold upd
      by_cases hc : c = k
      · rw [if_pos hc, if_pos ⟨rfl, hc⟩]
      · rw [if_neg hc, if_neg fun h => hc h.2]
    · exact (hmap2.block (g3 m2 hmap2.lt e)).congr fun c => by rw [if_neg fun h => e (hqm h.1)]
  have hkn := isN_len hm.name
  refine (set_any w6 base d2 m2 i k2 n _ hnd6 hmap6 (by omega) ((kd L q2).filter fun c => decide ¬ (q2 = q ∧ c = k)) ((kd_nodup h.good.uni q2).filter _) (fun c => ?_) ?_ hbm2 (Nat.le_trans hbw g2.below.size)).mono ?_
  · rw [List.mem_filter, kd_some h.good.uni, decide_eq_true_eq]
    by_cases hc : q2 = q ∧ c = k
    · rw [if_pos hc]; simp [hc]
    · rw [if_neg hc]; simp [hc]
  · have h1 := List.length_filter_le (fun c => decide ¬ (q2 = q ∧ c = k)) (kd L q2)
    have h2 := kd_len L q2
    have h3 := h.good.few
    omega
  · rintro e w' ⟨rfl, r1, r2, r3⟩
    have f2 : MapIs w' m2 (movF L q q2 k k2 i q2) := r1.congr fun c => by
      unfold upd movF
      by_cases hc : c = k2
      · rw [if_pos hc, if_pos ⟨rfl, hc⟩]
      · rw [if_neg hc, if_neg fun h => hc h.2]
    refine ⟨rfl, tree_move h hm hd hd2 ?_ f2 (fun b hb h1 h2 => (r3 b (Nat.lt_of_lt_of_le hb g2.below.size) h2).trans (g3 b hb h1)), g2.trans r2⟩
    by_cases e : m2 = m
    · have e' := hqq e
      subst e'
      rw [← e]; exact f2
    · refine (g1.block (r3 m g1.lt (fun e' => e e'.symm))).congr fun c => ?_
      unfold upd movF
      rw [if_neg (fun h : q = q2 ∧ c = k2 => e (hqm h.1.symm))]
      by_cases hc : c = k
      · rw [if_pos hc, if_pos ⟨rfl, hc⟩]
      · rw [if_neg hc, if_neg fun h => hc h.2]

theorem Box3.turned {w w' : World} {base b : Nat} {x y z : Value} (h : Box3 w b x y z) (hT : Turned base w w') : Box3 w' b x y z :=
  (hT.rows b (box3_lt h) (fun es c e => by rw [show w.heap[b]? = _ from h] at e; cases e)).trans h

theorem wrap_sm {x : Int} (h0 : 0 ≤ x) (h1 : x ≤ 1000) : IntKind.i64.wrap x = x := by rw [IntKind.wrap_i64]; omega
theorem undrewB {B : Nat} {w w' : World} (h : Below B w.drew w') : Below B w w' := ⟨h.os, h.tape, h.output, h.size, h.block⟩

set_option maxHeartbeats 8000000 in
set_option maxRecDepth 100000 in
theorem move_any (w : World) (base t : Nat) (L : List Ent) (M : Nat → Option Nat) (h : TreeAt w base t L M) (a b : ByteArray) (ha : a.size ≤ maxLen) (hb : b.size ≤ maxLen) (hm : Mx w) (hbw : base ≤ w.heap.size) :
    Calls Tryz.prog 52 #[ptr t, .string a, .string b] w fun e w' => e = .returned (errV (mvE L M a.data.toList b.data.toList)) ∧ TreeAt w' base t (mvL L M a.data.toList b.data.toList) M ∧ Turned base w w' := by
  have HS : Hid _ := fun (_ : Nat) => spotOf_any w base t L M h a ha hm
  have HF : Hid _ := fun (w' : World) (hb1 : Below w.heap.size w w') => freeSpotOf_any w' base t L M (h.later hb1) b hb (hm.later hb1)
  have HT : Hid (TreeAt w base t L M) := h
  have HB : Hid (base ≤ w.heap.size) := hbw
  by_cases he : spE L M a.data.toList = 0
  · obtain ⟨q, k, d, m, hp, hqk, hk, hl, hM, hV⟩ := spE_zero h.good he
    obtain ⟨hmap, hbm⟩ := h.maps _ _ _ (look_mem hl) hM
    obtain ⟨hnode, _⟩ := h.node _ _ (look_mem hl)
    rw [hM] at hnode
    have hkl := isN_len hk
    have HW : Hid _ := fun (w' : World) (n : Int) (hb : Below w.heap.size w w') => what_any w' d m k n _ ((hb.block _ hnode.lt).trans hnode) (hmap.block (hb.block _ hmap.lt)) (by omega)
    rw [he, hV, errV_zero] at HS
    cases hf : look L (q ++ [k]) with
    | none =>
      have hE : mvE L M a.data.toList b.data.toList = 5 := by unfold mvE; rw [if_neg (by simp [he]), hqk, if_pos hf]
      unfold mvL
      rw [if_neg (by rw [hE]; decide), hE, errV_pos (by decide)]
      rw [hf] at HW
      simp only [valO] at HW
      generalize hN : ((q.length : Int) + 1) = n at *
      unfold ptr at HS HW ⊢
      clear hV hE hl hM hmap hnode hqk hp he hN hk hkl hf hbm h HF
      go_enter Tryz.func52, Tryz.ntmps52
      go_wp2_with (first
        | (go_at_call 42; refine (HS.out 0).mono ?_; rintro e w1 ⟨rfl, hb⟩)
        | (go_at_call 43; refine (HW.out _ _ (hb.trans ((below_alloc w1 _).mono hb.size))).mono ?_; rintro e w2 ⟨rfl, hb2⟩))
      go_ret
      have hbb := hb.trans (((below_alloc w1 _).trans (hb2.mono (by simp))).mono hb.size)
      exact ⟨rfl, HT.out.later hbb, Turned.of_below hbb HB.out⟩
    | some i =>
      rw [hf] at HW
      simp only [valO] at HW
      by_cases hfr : frE L M b.data.toList = 0
      · obtain ⟨q2, k2, d2, m2, hp2, hqk2, hkn2, hl2, hM2, hV2, hfree, h8⟩ := frE_zero h.good hfr
        rw [hfr, hV2, errV_zero] at HF
        have hpi := look_mem hf
        have HH : Hid _ := fun (w' : World) (hb : Below w.heap.size w w') => holds_any w' base t L M (h.later hb) _ _ i d2 hpi (look_mem hl2)
        have hgd : ((atF L M (pN b.data.toList).dropLast).2.getD 0) = d2 := by
          rw [hqk2, List.dropLast_concat]
          rcases atF_cases h.good q2 with ⟨j, hj, hj2⟩ | ⟨e, _, hj, hj2⟩
          · rw [hj]; rw [hl2] at hj2; exact (Option.some.inj hj2).symm
          · rw [hl2] at hj2; cases hj2
        have hli : (look L (q ++ [k])).getD 0 = i := by rw [hf]; rfl
        cases hmet : met i d2 (wk 8 L (q ++ [k])) with
        | true =>
          have hE : mvE L M a.data.toList b.data.toList = 7 := by unfold mvE; rw [if_neg (by simp [he]), hqk, if_neg (by rw [hf]; simp), if_neg (by simp [hfr]), hgd, hli, hmet]; rfl
          unfold mvL
          rw [if_neg (by rw [hE]; decide), hE, errV_pos (by decide)]
          rw [hmet] at HH
          generalize hN : ((q.length : Int) + 1) = n at *
          generalize hN2 : ((q2.length : Int) + 1) = n2 at *
          unfold ptr at HS HW HF HH ⊢
          clear hV hE hl hM hmap hnode hqk hp he hN hk hkl hf hbm h hfr hV2 hp2 hqk2 hkn2 hl2 hM2 hfree h8 hgd hli hmet hpi hN2
          go_enter Tryz.func52, Tryz.ntmps52
          go_wp2_with (first
            | (go_at_call 42; refine (HS.out 0).mono ?_; rintro e w1 ⟨rfl, hb⟩)
            | (go_at_call 43; refine (HW.out _ _ (hb.trans ((below_alloc w1 _).mono hb.size))).mono ?_; rintro e w2 ⟨rfl, hb2⟩; have hbb := hb.trans (((below_alloc w1 _).trans (hb2.mono (by simp))).mono hb.size); have HX : Hid _ := fun (_ : Nat) => box3_here hb2)
            | (go_at_call 70; refine (HF.out _ hbb).mono ?_; rintro e w3 ⟨rfl, hb3⟩; have hb4 : ∀ o, Below w.heap.size w (w3.alloc o) := fun o => hbb.trans ((hb3.trans ((below_alloc w3 o).mono hb3.size)).mono hbb.size))
            | (go_at_call 74; refine (HH.out _ (hb4 _)).mono ?_; rintro e w4 ⟨rfl, hb5⟩; have HY : Hid _ := fun (_ : Nat) => box3_here hb5; have HB4 : Hid (Below w.heap.size w w4) := (hb4 _).trans (hb5.mono (hb4 _).size); have HX4 : Hid _ := fun (_ : Nat) => (((HX.out 0).later hb3).alloc _).later hb5; obtain ⟨y0, y1, y2, _⟩ := (HY.out 0).facts))
          go_ret
          exact ⟨rfl, HT.out.later HB4.out, Turned.of_below HB4.out HB.out⟩
        | false =>
          rw [hmet] at HH
          have hnp : ¬ (q ++ [k]) <+: q2 := fun hpre => by
            have := (met_iff h.good hf hl2 (by rw [hM2]; rfl)).2 hpre
            rw [hmet] at this; cases this
          have hds := dpt_small h.good (q ++ [k])
          have HD : Hid _ := fun (w' : World) (hb : Below w.heap.size w w') => deepest_any w' base t L M (h.later hb) _ i hpi
          by_cases hdp : 8 < (pN b.data.toList).length + dpt (wk 8 L (q ++ [k]))
          · have hE : mvE L M a.data.toList b.data.toList = 4 := by unfold mvE; rw [if_neg (by simp [he]), hqk, if_neg (by rw [hf]; simp), if_neg (by simp [hfr]), hgd, hli, hmet, if_neg (by simp), if_pos hdp]
            unfold mvL
            rw [if_neg (by rw [hE]; decide), hE, errV_pos (by decide)]
            rw [hqk2, List.length_append, List.length_singleton] at hdp
            generalize dpt (wk 8 L (q ++ [k])) = dp at *
            generalize hN : ((q.length : Int) + 1) = n at *
            generalize hN2 : ((q2.length : Int) + 1) = n2 at *
            have hn1 : 0 ≤ n2 ∧ n2 ≤ 8 ∧ 8 < n2 + (dp : Int) := by omega
            have hwr : IntKind.i64.wrap (n2 + (dp : Int)) = n2 + (dp : Int) := wrap_sm (by omega) (by omega)
            unfold ptr at HS HW HF HH HD ⊢
            clear hV hE hl hM hmap hnode hqk hp he hN hk hkl hf hbm h hfr hV2 hp2 hqk2 hkn2 hl2 hM2 hfree h8 hgd hli hmet hpi hN2 hdp hnp
            go_enter Tryz.func52, Tryz.ntmps52
            go_wp2_with (first
              | (go_at_call 42; refine (HS.out 0).mono ?_; rintro e w1 ⟨rfl, hb⟩)
              | (go_at_call 43; refine (HW.out _ _ (hb.trans ((below_alloc w1 _).mono hb.size))).mono ?_; rintro e w2 ⟨rfl, hb2⟩; have hbb := hb.trans (((below_alloc w1 _).trans (hb2.mono (by simp))).mono hb.size); have HX : Hid _ := fun (_ : Nat) => box3_here hb2)
              | (go_at_call 70; refine (HF.out _ hbb).mono ?_; rintro e w3 ⟨rfl, hb3⟩; have hb4 : ∀ o, Below w.heap.size w (w3.alloc o) := fun o => hbb.trans ((hb3.trans ((below_alloc w3 o).mono hb3.size)).mono hbb.size))
              | (go_at_call 74; refine (HH.out _ (hb4 _)).mono ?_; rintro e w4 ⟨rfl, hb5⟩; have HY : Hid _ := fun (_ : Nat) => box3_here hb5; have HB4 : Hid (Below w.heap.size w w4) := (hb4 _).trans (hb5.mono (hb4 _).size); have HX4 : Hid _ := fun (_ : Nat) => (((HX.out 0).later hb3).alloc _).later hb5; obtain ⟨y0, y1, y2, _⟩ := (HY.out 0).facts))
            have HK : Hid (∀ w5, Below w4.heap.size w4 w5 → w5.cell? ⟨w3.heap.size, 2, none⟩ = some (.int .i64 n2)) := fun w5 hb => ((HY.out 0).later hb).facts.2.2.1
            go_region_held3 (fun w' => w'.cell? ⟨w3.heap.size, 2, none⟩ = some (.int .i64 n2))
              (first | go_keep | exact HK.out _ HB5.out)
              (first | (go_at_call 75; refine (HD.out _ (HB4.out.trans (below_draw _ _))).mono ?_; rintro e w5 ⟨rfl, hb6⟩; have HB5 : Hid (Below w4.heap.size w4 w5) := undrewB hb6))
            have HB6 : Hid (Below w.heap.size w w5) := HB4.out.trans (HB5.out.mono HB4.out.size)
            go_wp2_with fail
            go_ret
            exact ⟨rfl, HT.out.later HB6.out, Turned.of_below HB6.out HB.out⟩
          · have hE : mvE L M a.data.toList b.data.toList = 0 := by unfold mvE; rw [if_neg (by simp [he]), hqk, if_neg (by rw [hf]; simp), if_neg (by simp [hfr]), hgd, hli, hmet, if_neg (by simp), if_neg hdp]
            unfold mvL
            rw [if_pos hE, hE, errV_zero, hqk, hqk2]
            rw [hqk2, List.length_append, List.length_singleton] at hdp
            have hmov : Mov L M q q2 k k2 i d d2 := ⟨h.good, hf, ⟨hl, by rw [hM]; rfl⟩, ⟨hl2, by rw [hM2]; rfl⟩, hfree, hkn2, hnp, fun u j hj => dpt_deep h.good (by omega) u j hj⟩
            have HCL : Hid (∀ (w5 : World) (x : Int), Below w.heap.size w w5 → Calls Tryz.prog 44 #[.agg #[ptr d, .string (bs k), .int .i64 x]] w5 fun e w' => e = .returned (.tuple #[]) ∧ MapIs w' m (upd (fun c => look L (q ++ [c])) k none) ∧ Turned base w5 w' ∧ ∀ b, b < w5.heap.size → b ≠ m → w'.heap[b]? = w5.heap[b]?) := fun w5 x hb =>
              clear_any w5 base d m k x _ ((hb.block _ hnode.lt).trans hnode) (hmap.block (hb.block _ hmap.lt)) (by omega) hbm (by have := hb.size; omega)
            have HST : Hid (∀ (w5 w6 : World) (x : Int), Below w.heap.size w w5 → MapIs w6 m (upd (fun c => look L (q ++ [c])) k none) → Turned base w5 w6 → (∀ b, b < w5.heap.size → b ≠ m → w6.heap[b]? = w5.heap[b]?) → Calls Tryz.prog 72 #[.agg #[ptr d2, .string (bs k2), .int .i64 x], ptr i] w6 fun e w' => e = .returned (.tuple #[]) ∧ TreeAt w' base t (movL L (q ++ [k]) (q2 ++ [k2])) M ∧ Turned base w5 w') := fun w5 w6 x hb g1 g2 g3 =>
              mov_set w5 w6 base t L M (h.later hb) hmov hM hM2 x (by have := hb.size; omega) g1 g2 g3
            generalize dpt (wk 8 L (q ++ [k])) = dp at *
            generalize hN : ((q.length : Int) + 1) = n at *
            generalize hN2 : ((q2.length : Int) + 1) = n2 at *
            have hn1 : 0 ≤ n2 ∧ n2 ≤ 8 ∧ n2 + (dp : Int) ≤ 8 := by omega
            have hwr : IntKind.i64.wrap (n2 + (dp : Int)) = n2 + (dp : Int) := wrap_sm (by omega) (by omega)
            unfold ptr at HS HW HF HH HD HCL HST ⊢
            clear hV hE hl hM hmap hnode hqk hp he hN hk hkl hf hbm h hfr hV2 hp2 hqk2 hkn2 hl2 hM2 hfree h8 hgd hli hmet hpi hN2 hdp hnp hmov
            go_enter Tryz.func52, Tryz.ntmps52
            go_wp2_with (first
              | (go_at_call 42; refine (HS.out 0).mono ?_; rintro e w1 ⟨rfl, hb⟩)
              | (go_at_call 43; refine (HW.out _ _ (hb.trans ((below_alloc w1 _).mono hb.size))).mono ?_; rintro e w2 ⟨rfl, hb2⟩; have hbb := hb.trans (((below_alloc w1 _).trans (hb2.mono (by simp))).mono hb.size); have HX : Hid _ := fun (_ : Nat) => box3_here hb2)
              | (go_at_call 70; refine (HF.out _ hbb).mono ?_; rintro e w3 ⟨rfl, hb3⟩; have hb4 : ∀ o, Below w.heap.size w (w3.alloc o) := fun o => hbb.trans ((hb3.trans ((below_alloc w3 o).mono hb3.size)).mono hbb.size))
              | (go_at_call 74; refine (HH.out _ (hb4 _)).mono ?_; rintro e w4 ⟨rfl, hb5⟩; have HY : Hid _ := fun (_ : Nat) => box3_here hb5; have HB4 : Hid (Below w.heap.size w w4) := (hb4 _).trans (hb5.mono (hb4 _).size); have HX4 : Hid _ := fun (_ : Nat) => (((HX.out 0).later hb3).alloc _).later hb5; obtain ⟨y0, y1, y2, _⟩ := (HY.out 0).facts))
            have HK : Hid (∀ w5, Below w4.heap.size w4 w5 → w5.cell? ⟨w3.heap.size, 2, none⟩ = some (.int .i64 n2)) := fun w5 hb => ((HY.out 0).later hb).facts.2.2.1
            go_region_held3 (fun w' => w'.cell? ⟨w3.heap.size, 2, none⟩ = some (.int .i64 n2))
              (first | go_keep | exact HK.out _ HB5.out)
              (first | (go_at_call 75; refine (HD.out _ (HB4.out.trans (below_draw _ _))).mono ?_; rintro e w5 ⟨rfl, hb6⟩; have HB5 : Hid (Below w4.heap.size w4 w5) := undrewB hb6))
            have HB6 : Hid (Below w.heap.size w w5) := HB4.out.trans (HB5.out.mono HB4.out.size)
            obtain ⟨z0, z1, z2, _⟩ := ((HX4.out 0).later HB5.out).facts
            go_wp2_with (first
              | (go_at_call 44; refine (HCL.out _ _ HB6.out).mono ?_; rintro e w6 ⟨rfl, c1, c2, c3⟩; obtain ⟨x0, x1, x2, _⟩ := (((HY.out 0).later HB5.out).turned c2).facts)
              | (go_at_call 72; refine (HST.out _ _ _ HB6.out c1 c2 c3).mono ?_; rintro e w7 ⟨rfl, r1, r2⟩))
            go_ret
            exact ⟨rfl, r1, (Turned.of_below HB6.out HB.out).trans r2⟩
      · have hE : mvE L M a.data.toList b.data.toList = frE L M b.data.toList := by unfold mvE; rw [if_neg (by simp [he]), hqk, if_neg (by rw [hf]; simp), if_pos hfr]
        unfold mvL
        rw [if_neg (by rw [hE]; exact hfr), hE, errV_pos hfr]
        rw [errV_pos hfr, show frV L M b.data.toList = noSpot from if_neg hfr] at HF
        unfold noSpot at HF
        generalize frE L M b.data.toList = E at *
        generalize hN : ((q.length : Int) + 1) = n at *
        unfold ptr at HS HW HF ⊢
        clear hV hE hl hM hmap hnode hqk hp he hN hk hkl hf hbm h hfr
        go_enter Tryz.func52, Tryz.ntmps52
        go_wp2_with (first
          | (go_at_call 42; refine (HS.out 0).mono ?_; rintro e w1 ⟨rfl, hb⟩)
          | (go_at_call 43; refine (HW.out _ _ (hb.trans ((below_alloc w1 _).mono hb.size))).mono ?_; rintro e w2 ⟨rfl, hb2⟩; have hbb := hb.trans (((below_alloc w1 _).trans (hb2.mono (by simp))).mono hb.size))
          | (go_at_call 70; refine (HF.out _ hbb).mono ?_; rintro e w3 ⟨rfl, hb3⟩))
        go_ret
        have hb4 : ∀ o, Below w.heap.size w (w3.alloc o) := fun o => hbb.trans ((hb3.trans ((below_alloc w3 o).mono hb3.size)).mono hbb.size)
        exact ⟨rfl, HT.out.later (hb4 _), Turned.of_below (hb4 _) HB.out⟩
  · have hE : mvE L M a.data.toList b.data.toList = spE L M a.data.toList := if_pos he
    unfold mvL
    rw [if_neg (by rw [hE]; exact he), hE, errV_pos he]
    rw [errV_pos he, spV_no he] at HS
    unfold noSpot at HS
    generalize spE L M a.data.toList = E at *
    unfold ptr at HS ⊢
    clear he hE h HF
    go_enter Tryz.func52, Tryz.ntmps52
    go_wp2_with (go_at_call 42; refine (HS.out 0).mono ?_; rintro e w1 ⟨rfl, hb⟩)
    go_ret
    have hbb : ∀ o, Below w.heap.size w (w1.alloc o) := fun o => hb.trans ((below_alloc w1 o).mono hb.size)
    exact ⟨rfl, HT.out.later (hbb _), Turned.of_below (hbb _) HB.out⟩

end Go.Proofs.YtdlmkienogimgaaGreatDoor
