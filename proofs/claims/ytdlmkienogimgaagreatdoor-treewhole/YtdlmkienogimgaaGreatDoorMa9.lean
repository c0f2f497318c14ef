/- This text joins 9 parts of a proof. (1) This text proves what Move does: a name is there no more, and what it named has another one, or what is wrong is told; nothing is turned but two directories' maps; the conditions are that the tree lies there. (2) This text proves what the law's did does with a tree: one step, or nothing; old memory but the tree's maps is as it was; the conditions are that the tree and the step's texts lie there. (3) This text proves what New and the law's grown answer: a tree, its root alone, and a tree in which some steps were done; old memory is as it was; the conditions are that the steps' texts lie there. (4) This text proves what Names answers: how many names a file has, 0 of a directory, or what is wrong; old memory is as it was; the conditions are those of at. (5) This text proves what platterholdsame.Texts answers: whether two lists of texts are the same; old memory is as it was; the conditions are that slices lie there. (6) This text proves that the law's closed fact is true; old memory is as it was; the only condition is that the library's variable internal/bytealg.MaxLen holds some number. (7) This text proves what the great door's laws on trees want besides: a name that was put is dropped, a path of a directory with something in it begins a path, and what lies there still lies there once maps were turned. (8) This text proves what List answers: the names in a directory, rising, or what is wrong; old memory is as it was; the conditions are those of at. (9) This text proves what platterholdref2.Shown answers: names with / ahead; nothing is written; the condition is that a slice lies there and is short. -/
import Derived.Test.YtdlmkienogimgaaGreatDoorMa8
import Derived.Deep.RegionHeld3
import Derived.Test.YtdlmkienogimgaaGreatDoorQ6
namespace Go.Proofs.YtdlmkienogimgaaGreatDoor
open Go.RowKit Go.Deep Go.Shelf Go.Maps

def mvE (L : List Ent) (M : Nat → Option Nat) (a b : List UInt8) : Nat :=
  if spE L M a ≠ 0 then spE L M a else if look L (pN a) = none then 5 else if frE L M b ≠ 0 then frE L M b
  else if met ((look L (pN a)).getD 0) ((atF L M (pN b).dropLast).2.getD 0) (wk 8 L (pN a)) then 7 else if 8 < (pN b).length + dpt (wk 8 L (pN a)) then 4 else 0
def mvL (L : List Ent) (M : Nat → Option Nat) (a b : List UInt8) : List Ent := if mvE L M a b = 0 then movL L (pN a) (pN b) else L

theorem met_iff {L : List Ent} {M : Nat → Option Nat} (hG : Good L M) {p q2 : List (List UInt8)} {i d2 : Nat} (hp : look L p = some i) (hq : look L q2 = some d2) (hd : (M d2).isSome = true) : met i d2 (wk 8 L p) = true ↔ p <+: q2 := by
  unfold met
  rw [Bool.or_eq_true, decide_eq_true_eq, List.any_eq_true]
  constructor
  · rintro (rfl | ⟨x, hx, he⟩)
    · rw [hG.one p q2 i (look_mem hp) (look_mem hq) hd]
      exact List.prefix_rfl
    · have := (wk_mem 8 p x hx).2
      have e : x.2 = d2 := by simpa using he
      rw [e] at this
      exact ⟨x.1, hG.one _ q2 d2 this (look_mem hq) hd⟩
  · rintro ⟨u, rfl⟩
    by_cases hu : u = []
    · left
      rw [hu, List.append_nil, hp] at hq
      exact Option.some.inj hq
    · right
      refine ⟨(u, d2), wk_all hG 8 p u d2 hu ?_ (look_mem hq), by simp⟩
      have := (hG.nam _ _ (look_mem hq)).1
      rw [List.length_append] at this
      omega
theorem dpt_le {xs : List Ent} {n : Nat} : dpt xs ≤ n ↔ ∀ x ∈ xs, x.1.length ≤ n := by
  induction xs using rev_ind with
  | h0 => simp [dpt]
  | h1 l a ih =>
    rw [dpt_snoc, Nat.max_le, ih]
    constructor
    · rintro ⟨h1, h2⟩ x hx
      rcases List.mem_append.1 hx with hx | hx
      · exact h1 x hx
      · rw [List.mem_singleton.1 hx]; exact h2
    · exact fun h => ⟨fun x hx => h x (List.mem_append_left _ hx), h a (by simp)⟩
theorem dpt_small {L : List Ent} {M : Nat → Option Nat} (hG : Good L M) (p : List (List UInt8)) : dpt (wk 8 L p) ≤ 8 := dpt_le.2 fun x hx => by
  have := (hG.nam _ _ (wk_mem 8 p x hx).2).1
  rw [List.length_append] at this
  omega
theorem dpt_deep {L : List Ent} {M : Nat → Option Nat} (hG : Good L M) {p : List (List UInt8)} {n : Nat} (h : n + dpt (wk 8 L p) ≤ 8) (u : List (List UInt8)) (j : Nat) (hj : (p ++ u, j) ∈ L) : n + u.length ≤ 8 := by
  by_cases hu : u = []
  · rw [hu, List.length_nil]; omega
  · have hl := (hG.nam _ _ hj).1
    rw [List.length_append] at hl
    have := (dpt_le (n := dpt (wk 8 L p))).1 (Nat.le_refl _) (u, j) (wk_all hG 8 p u j hu (by omega) hj)
    have h2 : u.length ≤ dpt (wk 8 L p) := this
    omega

theorem mov_set (w5 w6 : World) (base t : Nat) (L : List Ent) (M : Nat → Option Nat) (h : TreeAt w5 base t L M) {q q2 : List (List UInt8)} {k k2 : List UInt8} {i d d2 m m2 : Nat} (hm : Mov L M q q2 k k2 i d d2) (hd : M d = some m) (hd2 : M d2 = some m2) (n : Int) (hbw : base ≤ w5.heap.size)
    (g1 : MapIs w6 m (upd (fun c => look L (q ++ [c])) k none)) (g2 : Turned base w5 w6) (g3 : ∀ b, b < w5.heap.size → b ≠ m → w6.heap[b]? = w5.heap[b]?) :
    Calls Tryz.prog 72 #[.agg #[ptr d2, .string (bs k2), .int .i64 n], ptr i] w6 fun e w' => e = .returned (.tuple #[]) ∧ TreeAt w' base t (movL L (q ++ [k]) (q2 ++ [k2])) M ∧ Turned base w5 w' := by
  obtain ⟨hmap, hbm⟩ := h.maps _ _ _ (look_mem hm.from'.1) hd
  obtain ⟨hmap2, hbm2⟩ := h.maps _ _ _ (look_mem hm.goal.1) hd2
  obtain ⟨hnd, _⟩ := h.node _ _ (look_mem hm.goal.1)
  rw [hd2] at hnd
  have hnd6 : NodeAt w6 d2 (some m2) := (g3 _ hnd.lt (box_map hnd hmap)).trans hnd
  have hqq : m2 = m → q2 = q := fun e => by
    have e1 := h.apart q d q2 d2 m (look_mem hm.from'.1) (look_mem hm.goal.1) hd (by rw [hd2, e])
    exact h.good.one q2 q d2 (look_mem hm.goal.1) (by rw [← e1]; exact look_mem hm.from'.1) hm.goal.2
  have hqm : q2 = q → m2 = m := fun e => by
    have := h.good.uni.same (look_mem hm.goal.1) (by rw [e]; exact look_mem hm.from'.1)
    rw [this, hd] at hd2
    exact (Option.some.inj hd2).symm
  have hmap6 : MapIs w6 m2 (fun c => if q2 = q ∧ c = k then none else look L (q2 ++ [c])) := by
    by_cases e : m2 = m
    · have e' := hqq e
      subst e'
      rw [e]
      refine g1.congr fun c => ?_
      unfold upd
      by_cases hc : c = k
      · rw [if_pos hc, if_pos ⟨rfl, hc⟩]
      · rw [if_neg hc, if_neg fun h => hc h.2]
    · exact (hmap2.block (g3 m2 hmap2.lt e)).congr fun c => by rw [if_neg fun h => e (hqm h.1)]
  have hkn := isN_len hm.name
  refine (set_any w6 base d2 m2 i k2 n _ hnd6 hmap6 (by omega) ((kd L q2).filter fun c => decide ¬ (q2 = q ∧ c = k)) ((kd_nodup h.good.uni q2).filter _) (fun c => ?_) ?_ hbm2 (Nat.le_trans hbw g2.below.size)).mono ?_
  · rw [List.mem_filter, kd_some h.good.uni, decide_eq_true_eq]
    by_cases hc : q2 = q ∧ c = k
    · rw [if_pos hc]; simp [hc]
    · rw [if_neg hc]; simp [hc]
  · have h1 := List.length_filter_le (fun c => decide ¬ (q2 = q ∧ c = k)) (kd L q2)
    have h2 := kd_len L q2
    have h3 := h.good.few
    omega
  · rintro e w' ⟨rfl, r1, r2, r3⟩
    have f2 : MapIs w' m2 (movF L q q2 k k2 i q2) := r1.congr fun c => by
      unfold upd movF
      by_cases hc : c = k2
      · rw [if_pos hc, if_pos ⟨rfl, hc⟩]
      · rw [if_neg hc, if_neg fun h => hc h.2]
    refine ⟨rfl, tree_move h hm hd hd2 ?_ f2 (fun b hb h1 h2 => (r3 b (Nat.lt_of_lt_of_le hb g2.below.size) h2).trans (g3 b hb h1)), g2.trans r2⟩
    by_cases e : m2 = m
    · have e' := hqq e
      subst e'
      rw [← e]; exact f2
    · refine (g1.block (r3 m g1.lt (fun e' => e e'.symm))).congr fun c => ?_
      unfold upd movF
      rw [if_neg (fun h : q = q2 ∧ c = k2 => e (hqm h.1.symm))]
      by_cases hc : c = k
      · rw [if_pos hc, if_pos ⟨rfl, hc⟩]
      · rw [if_neg hc, if_neg fun h => hc h.2]

theorem Box3.turned {w w' : World} {base b : Nat} {x y z : Value} (h : Box3 w b x y z) (hT : Turned base w w') : Box3 w' b x y z :=
  (hT.rows b (box3_lt h) (fun es c e => by rw [show w.heap[b]? = _ from h] at e; cases e)).trans h

theorem wrap_sm {x : Int} (h0 : 0 ≤ x) (h1 : x ≤ 1000) : IntKind.i64.wrap x = x := by rw [IntKind.wrap_i64]; omega
theorem undrewB {B : Nat} {w w' : World} (h : Below B w.drew w') : Below B w w' := ⟨h.os, h.tape, h.output, h.size, h.block⟩

set_option maxHeartbeats 8000000 in
set_option maxRecDepth 100000 in
theorem move_any (w : World) (base t : Nat) (L : List Ent) (M : Nat → Option Nat) (h : TreeAt w base t L M) (a b : ByteArray) (ha : a.size ≤ maxLen) (hb : b.size ≤ maxLen) (hm : Mx w) (hbw : base ≤ w.heap.size) :
    Calls Tryz.prog 52 #[ptr t, .string a, .string b] w fun e w' => e = .returned (errV (mvE L M a.data.toList b.data.toList)) ∧ TreeAt w' base t (mvL L M a.data.toList b.data.toList) M ∧ Turned base w w' := by
  have HS : Hid _ := fun (_ : Nat) => spotOf_any w base t L M h a ha hm
  have HF : Hid _ := fun (w' : World) (hb1 : Below w.heap.size w w') => freeSpotOf_any w' base t L M (h.later hb1) b hb (hm.later hb1)
  have HT : Hid (TreeAt w base t L M) := h
  have HB : Hid (base ≤ w.heap.size) := hbw
  by_cases he : spE L M a.data.toList = 0
  · obtain ⟨q, k, d, m, hp, hqk, hk, hl, hM, hV⟩ := spE_zero h.good he
    obtain ⟨hmap, hbm⟩ := h.maps _ _ _ (look_mem hl) hM
    obtain ⟨hnode, _⟩ := h.node _ _ (look_mem hl)
    rw [hM] at hnode
    have hkl := isN_len hk
    have HW : Hid _ := fun (w' : World) (n : Int) (hb : Below w.heap.size w w') => what_any w' d m k n _ ((hb.block _ hnode.lt).trans hnode) (hmap.block (hb.block _ hmap.lt)) (by omega)
    rw [he, hV, errV_zero] at HS
    cases hf : look L (q ++ [k]) with
    | none =>
      have hE : mvE L M a.data.toList b.data.toList = 5 := by unfold mvE; rw [if_neg (by simp [he]), hqk, if_pos hf]
      unfold mvL
      rw [if_neg (by rw [hE]; decide), hE, errV_pos (by decide)]
      rw [hf] at HW
      simp only [valO] at HW
      generalize hN : ((q.length : Int) + 1) = n at *
      unfold ptr at HS HW ⊢
      clear hV hE hl hM hmap hnode hqk hp he hN hk hkl hf hbm h HF
      go_enter Tryz.func52, Tryz.ntmps52
      go_wp2_with (first
        | (go_at_call 42; refine (HS.out 0).mono ?_; rintro e w1 ⟨rfl, hb⟩)
        | (go_at_call 43; refine (HW.out _ _ (hb.trans ((below_alloc w1 _).mono hb.size))).mono ?_; rintro e w2 ⟨rfl, hb2⟩))
      go_ret
      have hbb := hb.trans (((below_alloc w1 _).trans (hb2.mono (by simp))).mono hb.size)
      exact ⟨rfl, HT.out.later hbb, Turned.of_below hbb HB.out⟩
    | some i =>
      rw [hf] at HW
      simp only [valO] at HW
      by_cases hfr : frE L M b.data.toList = 0
      · obtain ⟨q2, k2, d2, m2, hp2, hqk2, hkn2, hl2, hM2, hV2, hfree, h8⟩ := frE_zero h.good hfr
        rw [hfr, hV2, errV_zero] at HF
        have hpi := look_mem hf
        have HH : Hid _ := fun (w' : World) (hb : Below w.heap.size w w') => holds_any w' base t L M (h.later hb) _ _ i d2 hpi (look_mem hl2)
        have hgd : ((atF L M (pN b.data.toList).dropLast).2.getD 0) = d2 := by
          rw [hqk2, List.dropLast_concat]
          rcases atF_cases h.good q2 with ⟨j, hj, hj2⟩ | ⟨e, _, hj, hj2⟩
          · rw [hj]; rw [hl2] at hj2; exact (Option.some.inj hj2).symm
          · rw [hl2] at hj2; cases hj2
        have hli : (look L (q ++ [k])).getD 0 = i := by rw [hf]; rfl
        cases hmet : met i d2 (wk 8 L (q ++ [k])) with
        | true =>
          have hE : mvE L M a.data.toList b.data.toList = 7 := by unfold mvE; rw [if_neg (by simp [he]), hqk, if_neg (by rw [hf]; simp), if_neg (by simp [hfr]), hgd, hli, hmet]; rfl
          unfold mvL
          rw [if_neg (by rw [hE]; decide), hE, errV_pos (by decide)]
          rw [hmet] at HH
          generalize hN : ((q.length : Int) + 1) = n at *
          generalize hN2 : ((q2.length : Int) + 1) = n2 at *
          unfold ptr at HS HW HF HH ⊢
          clear hV hE hl hM hmap hnode hqk hp he hN hk hkl hf hbm h hfr hV2 hp2 hqk2 hkn2 hl2 hM2 hfree h8 hgd hli hmet hpi hN2
          go_enter Tryz.func52, Tryz.ntmps52
          go_wp2_with (first
            | (go_at_call 42; refine (HS.out 0).mono ?_; rintro e w1 ⟨rfl, hb⟩)
            | (go_at_call 43; refine (HW.out _ _ (hb.trans ((below_alloc w1 _).mono hb.size))).mono ?_; rintro e w2 ⟨rfl, hb2⟩; have hbb := hb.trans (((below_alloc w1 _).trans (hb2.mono (by simp))).mono hb.size); have HX : Hid _ := fun (_ : Nat) => box3_here hb2)
            | (go_at_call 70; refine (HF.out _ hbb).mono ?_; rintro e w3 ⟨rfl, hb3⟩; have hb4 : ∀ o, Below w.heap.size w (w3.alloc o) := fun o => hbb.trans ((hb3.trans ((below_alloc w3 o).mono hb3.size)).mono hbb.size))
            | (go_at_call 74; refine (HH.out _ (hb4 _)).mono ?_; rintro e w4 ⟨rfl, hb5⟩; have HY : Hid _ := fun (_ : Nat) => box3_here hb5; have HB4 : Hid (Below w.heap.size w w4) := (hb4 _).trans (hb5.mono (hb4 _).size); have HX4 : Hid _ := fun (_ : Nat) => (((HX.out 0).later hb3).alloc _).later hb5; obtain ⟨y0, y1, y2, _⟩ := (HY.out 0).facts))
          go_ret
          exact ⟨rfl, HT.out.later HB4.out, Turned.of_below HB4.out HB.out⟩
        | false =>
          rw [hmet] at HH
          have hnp : ¬ (q ++ [k]) <+: q2 := fun hpre => by
            have := (met_iff h.good hf hl2 (by rw [hM2]; rfl)).2 hpre
            rw [hmet] at this; cases this
          have hds := dpt_small h.good (q ++ [k])
          have HD : Hid _ := fun (w' : World) (hb : Below w.heap.size w w') => deepest_any w' base t L M (h.later hb) _ i hpi
          by_cases hdp : 8 < (pN b.data.toList).length + dpt (wk 8 L (q ++ [k]))
          · have hE : mvE L M a.data.toList b.data.toList = 4 := by unfold mvE; rw [if_neg (by simp [he]), hqk, if_neg (by rw [hf]; simp), if_neg (by simp [hfr]), hgd, hli, hmet, if_neg (by simp), if_pos hdp]
            unfold mvL
            rw [if_neg (by rw [hE]; decide), hE, errV_pos (by decide)]
            rw [hqk2, List.length_append, List.length_singleton] at hdp
            generalize dpt (wk 8 L (q ++ [k])) = dp at *
            generalize hN : ((q.length : Int) + 1) = n at *
            generalize hN2 : ((q2.length : Int) + 1) = n2 at *
            have hn1 : 0 ≤ n2 ∧ n2 ≤ 8 ∧ 8 < n2 + (dp : Int) := by omega
            have hwr : IntKind.i64.wrap (n2 + (dp : Int)) = n2 + (dp : Int) := wrap_sm (by omega) (by omega)
            unfold ptr at HS HW HF HH HD ⊢
            clear hV hE hl hM hmap hnode hqk hp he hN hk hkl hf hbm h hfr hV2 hp2 hqk2 hkn2 hl2 hM2 hfree h8 hgd hli hmet hpi hN2 hdp hnp
            go_enter Tryz.func52, Tryz.ntmps52
            go_wp2_with (first
              | (go_at_call 42; refine (HS.out 0).mono ?_; rintro e w1 ⟨rfl, hb⟩)
              | (go_at_call 43; refine (HW.out _ _ (hb.trans ((below_alloc w1 _).mono hb.size))).mono ?_; rintro e w2 ⟨rfl, hb2⟩; have hbb := hb.trans (((below_alloc w1 _).trans (hb2.mono (by simp))).mono hb.size); have HX : Hid _ := fun (_ : Nat) => box3_here hb2)
              | (go_at_call 70; refine (HF.out _ hbb).mono ?_; rintro e w3 ⟨rfl, hb3⟩; have hb4 : ∀ o, Below w.heap.size w (w3.alloc o) := fun o => hbb.trans ((hb3.trans ((below_alloc w3 o).mono hb3.size)).mono hbb.size))
              | (go_at_call 74; refine (HH.out _ (hb4 _)).mono ?_; rintro e w4 ⟨rfl, hb5⟩; have HY : Hid _ := fun (_ : Nat) => box3_here hb5; have HB4 : Hid (Below w.heap.size w w4) := (hb4 _).trans (hb5.mono (hb4 _).size); have HX4 : Hid _ := fun (_ : Nat) => (((HX.out 0).later hb3).alloc _).later hb5; obtain ⟨y0, y1, y2, _⟩ := (HY.out 0).facts))
            have HK : Hid (∀ w5, Below w4.heap.size w4 w5 → w5.cell? ⟨w3.heap.size, 2, none⟩ = some (.int .i64 n2)) := fun w5 hb => ((HY.out 0).later hb).facts.2.2.1
            go_region_held3 (fun w' => w'.cell? ⟨w3.heap.size, 2, none⟩ = some (.int .i64 n2))
              (first | go_keep | exact HK.out _ HB5.out)
              (first | (go_at_call 75; refine (HD.out _ (HB4.out.trans (below_draw _ _))).mono ?_; rintro e w5 ⟨rfl, hb6⟩; have HB5 : Hid (Below w4.heap.size w4 w5) := undrewB hb6))
            have HB6 : Hid (Below w.heap.size w w5) := HB4.out.trans (HB5.out.mono HB4.out.size)
            go_wp2_with fail
            go_ret
            exact ⟨rfl, HT.out.later HB6.out, Turned.of_below HB6.out HB.out⟩
          · have hE : mvE L M a.data.toList b.data.toList = 0 := by unfold mvE; rw [if_neg (by simp [he]), hqk, if_neg (by rw [hf]; simp), if_neg (by simp [hfr]), hgd, hli, hmet, if_neg (by simp), if_neg hdp]
            unfold mvL
            rw [if_pos hE, hE, errV_zero, hqk, hqk2]
            rw [hqk2, List.length_append, List.length_singleton] at hdp
            have hmov : Mov L M q q2 k k2 i d d2 := ⟨h.good, hf, ⟨hl, by rw [hM]; rfl⟩, ⟨hl2, by rw [hM2]; rfl⟩, hfree, hkn2, hnp, fun u j hj => dpt_deep h.good (by omega) u j hj⟩
            have HCL : Hid (∀ (w5 : World) (x : Int), Below w.heap.size w w5 → Calls Tryz.prog 44 #[.agg #[ptr d, .string (bs k), .int .i64 x]] w5 fun e w' => e = .returned (.tuple #[]) ∧ MapIs w' m (upd (fun c => look L (q ++ [c])) k none) ∧ Turned base w5 w' ∧ ∀ b, b < w5.heap.size → b ≠ m → w'.heap[b]? = w5.heap[b]?) := fun w5 x hb =>
              clear_any w5 base d m k x _ ((hb.block _ hnode.lt).trans hnode) (hmap.block (hb.block _ hmap.lt)) (by omega) hbm (by have := hb.size; omega)
            have HST : Hid (∀ (w5 w6 : World) (x : Int), Below w.heap.size w w5 → MapIs w6 m (upd (fun c => look L (q ++ [c])) k none) → Turned base w5 w6 → (∀ b, b < w5.heap.size → b ≠ m → w6.heap[b]? = w5.heap[b]?) → Calls Tryz.prog 72 #[.agg #[ptr d2, .string (bs k2), .int .i64 x], ptr i] w6 fun e w' => e = .returned (.tuple #[]) ∧ TreeAt w' base t (movL L (q ++ [k]) (q2 ++ [k2])) M ∧ Turned base w5 w') := fun w5 w6 x hb g1 g2 g3 =>
              mov_set w5 w6 base t L M (h.later hb) hmov hM hM2 x (by have := hb.size; omega) g1 g2 g3
            generalize dpt (wk 8 L (q ++ [k])) = dp at *
            generalize hN : ((q.length : Int) + 1) = n at *
            generalize hN2 : ((q2.length : Int) + 1) = n2 at *
            have hn1 : 0 ≤ n2 ∧ n2 ≤ 8 ∧ n2 + (dp : Int) ≤ 8 := by omega
            have hwr : IntKind.i64.wrap (n2 + (dp : Int)) = n2 + (dp : Int) := wrap_sm (by omega) (by omega)
            unfold ptr at HS HW HF HH HD HCL HST ⊢
            clear hV hE hl hM hmap hnode hqk hp he hN hk hkl hf hbm h hfr hV2 hp2 hqk2 hkn2 hl2 hM2 hfree h8 hgd hli hmet hpi hN2 hdp hnp hmov
            go_enter Tryz.func52, Tryz.ntmps52
            go_wp2_with (first
              | (go_at_call 42; refine (HS.out 0).mono ?_; rintro e w1 ⟨rfl, hb⟩)
              | (go_at_call 43; refine (HW.out _ _ (hb.trans ((below_alloc w1 _).mono hb.size))).mono ?_; rintro e w2 ⟨rfl, hb2⟩; have hbb := hb.trans (((below_alloc w1 _).trans (hb2.mono (by simp))).mono hb.size); have HX : Hid _ := fun (_ : Nat) => box3_here hb2)
              | (go_at_call 70; refine (HF.out _ hbb).mono ?_; rintro e w3 ⟨rfl, hb3⟩; have hb4 : ∀ o, Below w.heap.size w (w3.alloc o) := fun o => hbb.trans ((hb3.trans ((below_alloc w3 o).mono hb3.size)).mono hbb.size))
              | (go_at_call 74; refine (HH.out _ (hb4 _)).mono ?_; rintro e w4 ⟨rfl, hb5⟩; have HY : Hid _ := fun (_ : Nat) => box3_here hb5; have HB4 : Hid (Below w.heap.size w w4) := (hb4 _).trans (hb5.mono (hb4 _).size); have HX4 : Hid _ := fun (_ : Nat) => (((HX.out 0).later hb3).alloc _).later hb5; obtain ⟨y0, y1, y2, _⟩ := (HY.out 0).facts))
            have HK : Hid (∀ w5, Below w4.heap.size w4 w5 → w5.cell? ⟨w3.heap.size, 2, none⟩ = some (.int .i64 n2)) := fun w5 hb => ((HY.out 0).later hb).facts.2.2.1
            go_region_held3 (fun w' => w'.cell? ⟨w3.heap.size, 2, none⟩ = some (.int .i64 n2))
              (first | go_keep | exact HK.out _ HB5.out)
              (first | (go_at_call 75; refine (HD.out _ (HB4.out.trans (below_draw _ _))).mono ?_; rintro e w5 ⟨rfl, hb6⟩; have HB5 : Hid (Below w4.heap.size w4 w5) := undrewB hb6))
            have HB6 : Hid (Below w.heap.size w w5) := HB4.out.trans (HB5.out.mono HB4.out.size)
            obtain ⟨z0, z1, z2, _⟩ := ((HX4.out 0).later HB5.out).facts
            go_wp2_with (first
              | (go_at_call 44; refine (HCL.out _ _ HB6.out).mono ?_; rintro e w6 ⟨rfl, c1, c2, c3⟩; obtain ⟨x0, x1, x2, _⟩ := (((HY.out 0).later HB5.out).turned c2).facts)
              | (go_at_call 72; refine (HST.out _ _ _ HB6.out c1 c2 c3).mono ?_; rintro e w7 ⟨rfl, r1, r2⟩))
            go_ret
            exact ⟨rfl, r1, (Turned.of_below HB6.out HB.out).trans r2⟩
      · have hE : mvE L M a.data.toList b.data.toList = frE L M b.data.toList := by unfold mvE; rw [if_neg (by simp [he]), hqk, if_neg (by rw [hf]; simp), if_pos hfr]
        unfold mvL
        rw [if_neg (by rw [hE]; exact hfr), hE, errV_pos hfr]
        rw [errV_pos hfr, show frV L M b.data.toList = noSpot from if_neg hfr] at HF
        unfold noSpot at HF
        generalize frE L M b.data.toList = E at *
        generalize hN : ((q.length : Int) + 1) = n at *
        unfold ptr at HS HW HF ⊢
        clear hV hE hl hM hmap hnode hqk hp he hN hk hkl hf hbm h hfr
        go_enter Tryz.func52, Tryz.ntmps52
        go_wp2_with (first
          | (go_at_call 42; refine (HS.out 0).mono ?_; rintro e w1 ⟨rfl, hb⟩)
          | (go_at_call 43; refine (HW.out _ _ (hb.trans ((below_alloc w1 _).mono hb.size))).mono ?_; rintro e w2 ⟨rfl, hb2⟩; have hbb := hb.trans (((below_alloc w1 _).trans (hb2.mono (by simp))).mono hb.size))
          | (go_at_call 70; refine (HF.out _ hbb).mono ?_; rintro e w3 ⟨rfl, hb3⟩))
        go_ret
        have hb4 : ∀ o, Below w.heap.size w (w3.alloc o) := fun o => hbb.trans ((hb3.trans ((below_alloc w3 o).mono hb3.size)).mono hbb.size)
        exact ⟨rfl, HT.out.later (hb4 _), Turned.of_below (hb4 _) HB.out⟩
  · have hE : mvE L M a.data.toList b.data.toList = spE L M a.data.toList := if_pos he
    unfold mvL
    rw [if_neg (by rw [hE]; exact he), hE, errV_pos he]
    rw [errV_pos he, spV_no he] at HS
    unfold noSpot at HS
    generalize spE L M a.data.toList = E at *
    unfold ptr at HS ⊢
    clear he hE h HF
    go_enter Tryz.func52, Tryz.ntmps52
    go_wp2_with (go_at_call 42; refine (HS.out 0).mono ?_; rintro e w1 ⟨rfl, hb⟩)
    go_ret
    have hbb : ∀ o, Below w.heap.size w (w1.alloc o) := fun o => hb.trans ((below_alloc w1 o).mono hb.size)
    exact ⟨rfl, HT.out.later (hbb _), Turned.of_below (hbb _) HB.out⟩

end Go.Proofs.YtdlmkienogimgaaGreatDoor

namespace Go.Proofs.YtdlmkienogimgaaGreatDoor
open Go.RowKit Go.Deep Go.Shelf Go.Maps

/-- One step. -/
def Stp (L : List Ent) (M : Nat → Option Nat) (l : List (List UInt8)) (e : Nat) (L' : List Ent) (M' : Nat → Option Nat) : Prop :=
  if l.length = 2 ∧ sth l 0 = [100] then MkS true L M (sth l 1) e L' M'
  else if l.length = 2 ∧ sth l 0 = [102] then MkS false L M (sth l 1) e L' M'
  else if l.length = 2 ∧ sth l 0 = [120] then e = drE L M (sth l 1) ∧ L' = drL L M (sth l 1) ∧ M' = M
  else if l.length = 3 ∧ sth l 0 = [108] then e = lkE L M (sth l 1) (sth l 2) ∧ L' = lkL L M (sth l 1) (sth l 2) ∧ M' = M
  else if l.length = 3 ∧ sth l 0 = [109] then e = mvE L M (sth l 1) (sth l 2) ∧ L' = mvL L M (sth l 1) (sth l 2) ∧ M' = M
  else e = 0 ∧ L' = L ∧ M' = M

theorem Turned.cell {base : Nat} {w w' : World} (hT : Turned base w w') {a : Addr} {v : Value} (h : w.cell? a = some v) : w'.cell? a = some v := by
  rw [World.cell?_of_block (w := w) (hT.rows a.block (World.block_lt_of_cell? _ _ h) fun es c e => by simp [World.cell?, e] at h)]
  exact h
theorem undrewT {base : Nat} {w w' : World} (h : Turned base w.drew w') : Turned base w w' := ⟨undrewB h.below, h.rows⟩
theorem bs_list (x : List UInt8) : (bs x).toList = x := by rw [ByteArray.toList_eq, data_bs]
theorem bs_size {x : List UInt8} {n : Nat} (h : x.length ≤ n) : (bs x).size ≤ n := by rw [Lib.size_eq, data_bs]; exact h

set_option maxHeartbeats 4000000 in
set_option maxRecDepth 100000 in
theorem did_any (w : World) (base t : Nat) (L : List Ent) (M : Nat → Option Nat) (h : TreeAt w base t L M) (u : Value) (l : List (List UInt8)) (hu : StrsIs w u l) (hl : ∀ x ∈ l, x.length ≤ maxLen) (hm : Mx w) (hbw : base ≤ w.heap.size) :
    Calls Tryz.prog 23 #[ptr t, u] w fun e w' => ∃ n L' M', e = .returned (errV n) ∧ Stp L M l n L' M' ∧ TreeAt w' base t L' M' ∧ Turned base w w' := by
  obtain ⟨a, c, b, o, rfl, _, hlm, ha, hc⟩ := hu.where
  have HT : Hid (TreeAt w base t L M) := h
  unfold maxLen at hlm
  by_cases h2 : l.length = 2
  · obtain ⟨haa, _⟩ := ha (by omega)
    subst haa
    have h0 := hc 0 (by omega)
    have h1 := hc 1 (by omega)
    rw [Nat.add_zero] at h0
    have hs1 : (bs (sth l 1)).size ≤ maxLen := bs_size (hl _ (sth_mem (by omega)))
    have ed := bs_list (sth l 0)
    by_cases e1 : sth l 0 = [100]
    · have HD : Hid _ := fun (_ : Nat) => dir_any w base t L M h (bs (sth l 1)) hs1 hm hbw
      rw [data_bs] at HD
      have HS : Hid (∀ n L' M', MkS true L M (sth l 1) n L' M' → Stp L M l n L' M') := fun n L' M' h => by unfold Stp; rw [if_pos ⟨h2, e1⟩]; exact h
      have q1 : ((bs (sth l 0)).toList == [100]) = true := by rw [ed, e1]; rfl
      rw [h2]
      generalize bs (sth l 0) = x at *
      generalize bs (sth l 1) = y at *
      unfold ptr at HD ⊢
      clear hu hl ha hc h2 ed e1 h
      go_enter Tryz.func23, Tryz.ntmps23
      go_wp2_with (go_at_call 14; refine (HD.out 0).mono ?_; rintro e w1 ⟨n, L', M', rfl, k1, k2, k3⟩)
      go_ret
      exact ⟨n, L', M', rfl, HS.out _ _ _ k1, k2, k3⟩
    · by_cases e2 : sth l 0 = [102]
      · have HD : Hid _ := fun (_ : Nat) => file_any w base t L M h (bs (sth l 1)) hs1 hm hbw
        rw [data_bs] at HD
        have HS : Hid (∀ n L' M', MkS false L M (sth l 1) n L' M' → Stp L M l n L' M') := fun n L' M' h => by unfold Stp; rw [if_neg (fun h => e1 h.2), if_pos ⟨h2, e2⟩]; exact h
        have q1 : ((bs (sth l 0)).toList == [100]) = false := by rw [ed, e2]; rfl
        have q2 : ((bs (sth l 0)).toList == [102]) = true := by rw [ed, e2]; rfl
        rw [h2]
        generalize bs (sth l 0) = x at *
        generalize bs (sth l 1) = y at *
        unfold ptr at HD ⊢
        clear hu hl ha hc h2 ed e1 e2 h
        go_enter Tryz.func23, Tryz.ntmps23
        go_wp2_with (go_at_call 12; refine (HD.out 0).mono ?_; rintro e w1 ⟨n, L', M', rfl, k1, k2, k3⟩)
        go_ret
        exact ⟨n, L', M', rfl, HS.out _ _ _ k1, k2, k3⟩
      · by_cases e3 : sth l 0 = [120]
        · have HD : Hid _ := fun (_ : Nat) => drop_any w base t L M h (bs (sth l 1)) hs1 hm hbw
          rw [data_bs] at HD
          have HS : Hid (Stp L M l (drE L M (sth l 1)) (drL L M (sth l 1)) M) := by
            show Stp L M l (drE L M (sth l 1)) (drL L M (sth l 1)) M
            unfold Stp; rw [if_neg (fun h => e1 h.2), if_neg (fun h => e2 h.2), if_pos ⟨h2, e3⟩]; exact ⟨rfl, rfl, rfl⟩
          have q1 : ((bs (sth l 0)).toList == [100]) = false := by rw [ed, e3]; rfl
          have q2 : ((bs (sth l 0)).toList == [102]) = false := by rw [ed, e3]; rfl
          have q3 : ((bs (sth l 0)).toList == [120]) = true := by rw [ed, e3]; rfl
          rw [h2]
          generalize bs (sth l 0) = x at *
          generalize bs (sth l 1) = y at *
          unfold ptr at HD ⊢
          clear hu hl ha hc h2 ed e1 e2 e3 h
          go_enter Tryz.func23, Tryz.ntmps23
          go_wp2_with (go_at_call 13; refine (HD.out 0).mono ?_; rintro e w1 ⟨rfl, k2, k3⟩)
          go_ret
          exact ⟨_, _, _, rfl, HS.out, k2, k3⟩
        · have HS : Hid (Stp L M l 0 L M) := by
            show Stp L M l 0 L M
            unfold Stp; rw [if_neg (fun h => e1 h.2), if_neg (fun h => e2 h.2), if_neg (fun h => e3 h.2), if_neg (fun h => by omega), if_neg (fun h => by omega)]; exact ⟨rfl, rfl, rfl⟩
          have q1 : ((bs (sth l 0)).toList == [100]) = false := by rw [ed]; simp [e1]
          have q2 : ((bs (sth l 0)).toList == [102]) = false := by rw [ed]; simp [e2]
          have q3 : ((bs (sth l 0)).toList == [120]) = false := by rw [ed]; simp [e3]
          rw [h2]
          generalize bs (sth l 0) = x at *
          unfold ptr
          clear hu hl ha hc h2 ed e1 e2 e3 h
          go_enter Tryz.func23, Tryz.ntmps23
          go_wp2
          go_ret
          exact ⟨0, L, M, rfl, HS.out, HT.out, Turned.refl _ _⟩
  · by_cases h3 : l.length = 3
    · obtain ⟨haa, _⟩ := ha (by omega)
      subst haa
      have h0 := hc 0 (by omega)
      have h1 := hc 1 (by omega)
      have h22 := hc 2 (by omega)
      rw [Nat.add_zero] at h0
      have hs1 : (bs (sth l 1)).size ≤ maxLen := bs_size (hl _ (sth_mem (by omega)))
      have hs2 : (bs (sth l 2)).size ≤ maxLen := bs_size (hl _ (sth_mem (by omega)))
      have ed := bs_list (sth l 0)
      by_cases e1 : sth l 0 = [108]
      · have HD : Hid _ := fun (w1 : World) (hb : Below w.heap.size w w1) => link_any w1 base t L M (h.later hb) (bs (sth l 1)) (bs (sth l 2)) hs1 hs2 (hm.later hb) (by have := hb.size; omega)
        rw [data_bs, data_bs] at HD
        have HS : Hid (Stp L M l (lkE L M (sth l 1) (sth l 2)) (lkL L M (sth l 1) (sth l 2)) M) := by
          show Stp L M l (lkE L M (sth l 1) (sth l 2)) (lkL L M (sth l 1) (sth l 2)) M
          unfold Stp; rw [if_neg (fun h => h2 h.1), if_neg (fun h => h2 h.1), if_neg (fun h => h2 h.1), if_pos ⟨h3, e1⟩]; exact ⟨rfl, rfl, rfl⟩
        have q1 : ((bs (sth l 0)).toList == [108]) = true := by rw [ed, e1]; rfl
        rw [h3]
        generalize bs (sth l 0) = x at *
        generalize bs (sth l 1) = y at *
        generalize bs (sth l 2) = z at *
        unfold ptr at HD ⊢
        clear hu hl ha hc h2 h3 ed e1 h
        go_enter Tryz.func23, Tryz.ntmps23
        go_wp2_with fail
        have HK : Hid (∀ w1, Turned base w w1 → w1.cell? ⟨b, o + 1, none⟩ = some (.string y) ∧ w1.cell? ⟨b, o + 2, none⟩ = some (.string z)) := fun w1 hT => ⟨hT.cell h1, hT.cell h22⟩
        go_region_held3 (fun w' => w'.cell? ⟨b, o + 1, none⟩ = some (.string y) ∧ w'.cell? ⟨b, o + 2, none⟩ = some (.string z))
          (first | go_keep | (go_split_ands; exact HK.out _ HB1.out))
          (first | (go_at_call 29; refine (HD.out _ (below_draw _ _)).mono ?_; rintro e w1 ⟨rfl, k2, k3⟩; have HB1 : Hid (Turned base w w1) := undrewT k3))
        go_wp2_with fail
        go_ret
        exact ⟨_, _, _, rfl, HS.out, k2, HB1.out⟩
      · by_cases e2 : sth l 0 = [109]
        · have HD : Hid _ := fun (w1 : World) (hb : Below w.heap.size w w1) => move_any w1 base t L M (h.later hb) (bs (sth l 1)) (bs (sth l 2)) hs1 hs2 (hm.later hb) (by have := hb.size; omega)
          rw [data_bs, data_bs] at HD
          have HS : Hid (Stp L M l (mvE L M (sth l 1) (sth l 2)) (mvL L M (sth l 1) (sth l 2)) M) := by
            show Stp L M l (mvE L M (sth l 1) (sth l 2)) (mvL L M (sth l 1) (sth l 2)) M
            unfold Stp; rw [if_neg (fun h => h2 h.1), if_neg (fun h => h2 h.1), if_neg (fun h => h2 h.1), if_neg (fun h => e1 h.2), if_pos ⟨h3, e2⟩]; exact ⟨rfl, rfl, rfl⟩
          have q1 : ((bs (sth l 0)).toList == [108]) = false := by rw [ed, e2]; rfl
          have q2 : ((bs (sth l 0)).toList == [109]) = true := by rw [ed, e2]; rfl
          rw [h3]
          generalize bs (sth l 0) = x at *
          generalize bs (sth l 1) = y at *
          generalize bs (sth l 2) = z at *
          unfold ptr at HD ⊢
          clear hu hl ha hc h2 h3 ed e1 e2 h
          go_enter Tryz.func23, Tryz.ntmps23
          go_wp2_with fail
          have HK : Hid (∀ w1, Turned base w w1 → w1.cell? ⟨b, o + 1, none⟩ = some (.string y) ∧ w1.cell? ⟨b, o + 2, none⟩ = some (.string z)) := fun w1 hT => ⟨hT.cell h1, hT.cell h22⟩
          go_region_held3 (fun w' => w'.cell? ⟨b, o + 1, none⟩ = some (.string y) ∧ w'.cell? ⟨b, o + 2, none⟩ = some (.string z))
            (first | go_keep | (go_split_ands; exact HK.out _ HB1.out))
            (first | (go_at_call 52; refine (HD.out _ (below_draw _ _)).mono ?_; rintro e w1 ⟨rfl, k2, k3⟩; have HB1 : Hid (Turned base w w1) := undrewT k3))
          go_wp2_with fail
          go_ret
          exact ⟨_, _, _, rfl, HS.out, k2, HB1.out⟩
        · have HS : Hid (Stp L M l 0 L M) := by
            show Stp L M l 0 L M
            unfold Stp; rw [if_neg (fun h => h2 h.1), if_neg (fun h => h2 h.1), if_neg (fun h => h2 h.1), if_neg (fun h => e1 h.2), if_neg (fun h => e2 h.2)]; exact ⟨rfl, rfl, rfl⟩
          have q1 : ((bs (sth l 0)).toList == [108]) = false := by rw [ed]; simp [e1]
          have q2 : ((bs (sth l 0)).toList == [109]) = false := by rw [ed]; simp [e2]
          rw [h3]
          generalize bs (sth l 0) = x at *
          unfold ptr
          clear hu hl ha hc h2 h3 ed e1 e2 h
          go_enter Tryz.func23, Tryz.ntmps23
          go_wp2
          go_ret
          exact ⟨0, L, M, rfl, HS.out, HT.out, Turned.refl _ _⟩
    · have HS : Hid (Stp L M l 0 L M) := by
        show Stp L M l 0 L M
        unfold Stp; rw [if_neg (fun h => h2 h.1), if_neg (fun h => h2 h.1), if_neg (fun h => h2 h.1), if_neg (fun h => h3 h.1), if_neg (fun h => h3 h.1)]; exact ⟨rfl, rfl, rfl⟩
      have q1 : ((l.length : Int) == 2) = false := by simp; omega
      have q2 : ((l.length : Int) == 3) = false := by simp; omega
      unfold ptr
      clear hu hl ha hc h2 h3 h
      generalize l.length = n at *
      go_enter Tryz.func23, Tryz.ntmps23
      go_wp2
      go_ret
      exact ⟨0, L, M, rfl, HS.out, HT.out, Turned.refl _ _⟩

end Go.Proofs.YtdlmkienogimgaaGreatDoor

namespace Go.Proofs.YtdlmkienogimgaaGreatDoor
open Go.RowKit Go.Deep Go.Shelf Go.Maps

theorem root_good (r : Nat) (M : Nat → Option Nat) (h : (M r).isSome = true) : Good [([], r)] M := by
  refine ⟨by simp [Uni], ⟨r, [], rfl, h⟩, fun p i hi => ?_, fun p k i hi => ?_, fun p q i hp hq _ => ?_, by simp⟩
  · rw [List.mem_singleton] at hi
    cases hi
    simp
  · rw [List.mem_singleton] at hi
    simp at hi
  · rw [List.mem_singleton] at hp hq
    cases hp
    cases hq
    rfl
theorem root_look0 {r : Nat} {k : List UInt8} : look [(([] : List (List UInt8)), r)] ([] ++ [k]) = none := by simp [look]

set_option maxRecDepth 100000 in
theorem new_any (w : World) (base : Nat) (hbw : base ≤ w.heap.size) : Calls Tryz.prog 17 #[] w fun e w' => ∃ t r M, e = .returned (ptr t) ∧ (M r).isSome = true ∧ TreeAt w' base t [([], r)] M ∧ Below w.heap.size w w' := by
  go_enter Tryz.func17, Tryz.ntmps17
  go_wp2_with (first | (go_at_call 45; refine (newDir_any _).mono ?_; unfold ptr; rintro e w1 ⟨rfl, rfl⟩))
  go_ret
  have b1 : Below w.heap.size w ((w.alloc (.map #[] 0)).alloc (.cells #[.map (some w.heap.size)] 77)) := (below_alloc w _).trans ((below_alloc _ _).mono (by simp))
  have hn := boxed_two w (.map #[] 0) 77 (.map (some w.heap.size))
  have hm := (MapIs.made w).block (w' := ((w.alloc (.map #[] 0)).alloc (.cells #[.map (some w.heap.size)] 77)).alloc (.cells #[ptr (w.heap.size + 1)] 61)) (((below_alloc _ _).block _ (by simp; omega)).trans ((below_alloc (w.alloc (.map #[] 0)) _).block _ (by simp)))
  have ht : Boxed (((w.alloc (.map #[] 0)).alloc (.cells #[.map (some w.heap.size)] 77)).alloc (.cells #[ptr (w.heap.size + 1)] 61)) (w.heap.size + 2) 61 (ptr (w.heap.size + 1)) := by
    have := Boxed.new ((w.alloc (.map #[] 0)).alloc (.cells #[.map (some w.heap.size)] 77)) 61 (ptr (w.heap.size + 1))
    simpa using this
  have hmem : ∀ (p : List (List UInt8)) (i : Nat), (p, i) ∈ [(([] : List (List UInt8)), w.heap.size + 1)] → p = [] ∧ i = w.heap.size + 1 := fun p i hi => by
    rw [List.mem_singleton] at hi
    cases hi
    exact ⟨rfl, rfl⟩
  refine ⟨w.heap.size + 2, w.heap.size + 1, fun _ => some w.heap.size, by simp [ptr], rfl, ⟨root_good _ _ rfl, by omega, fun r hr => ?_, fun p i hi => ?_, fun p i m hi hmi => ?_, fun p i q j m hi hj _ _ => ?_⟩, b1.trans ((below_alloc _ _).mono (by simp; omega))⟩
  · obtain ⟨_, rfl⟩ := hmem _ _ hr
    exact ht
  · obtain ⟨_, rfl⟩ := hmem _ _ hi
    exact ⟨hn.alloc _, by omega⟩
  · obtain ⟨rfl, rfl⟩ := hmem _ _ hi
    cases hmi
    exact ⟨hm.congr fun k => root_look0.symm, hbw⟩
  · rw [(hmem _ _ hi).2, (hmem _ _ hj).2]

/-- The texts of a step at a place. -/
def tat (ls : List (List (List UInt8))) (i : Nat) : List (List UInt8) := ls.getD i []
/-- The value is a slice of slices of texts. -/
def TxtsIs (w : World) (v : Value) (ls : List (List (List UInt8))) : Prop :=
  ∃ a c, v = .slice a ls.length c ∧ ls.length ≤ maxLen ∧ (ls ≠ [] → ∃ b o, a = some ⟨b, o, none⟩ ∧ b < w.heap.size ∧ ∀ i, i < ls.length → ∃ u, w.cell? ⟨b, o + i, none⟩ = some u ∧ StrsIs w u (tat ls i) ∧ ∀ x ∈ tat ls i, x.length ≤ maxLen)
theorem TxtsIs.later {w w' : World} {v : Value} {ls : List (List (List UInt8))} (h : TxtsIs w v ls) (hb : Below w.heap.size w w') : TxtsIs w' v ls := by
  obtain ⟨a, c, h1, h2, h3⟩ := h
  refine ⟨a, c, h1, h2, fun hne => ?_⟩
  obtain ⟨b, o, ha, hlt, hc⟩ := h3 hne
  refine ⟨b, o, ha, Nat.lt_of_lt_of_le hlt hb.size, fun i hi => ?_⟩
  obtain ⟨u, k1, k2, k3⟩ := hc i hi
  exact ⟨u, by rw [hb.cell (p := ⟨b, o + i, none⟩) hlt]; exact k1, k2.later (Nat.le_refl _) hb, k3⟩
theorem TxtsIs.where {w : World} {v : Value} {ls : List (List (List UInt8))} (h : TxtsIs w v ls) :
    ∃ a c b o, v = .slice a ls.length c ∧ ls.length ≤ maxLen ∧ (0 < ls.length → a = some ⟨b, o, none⟩ ∧ b < w.heap.size) ∧ ∀ i, i < ls.length → ∃ u, w.cell? ⟨b, o + i, none⟩ = some u ∧ StrsIs w u (tat ls i) ∧ ∀ x ∈ tat ls i, x.length ≤ maxLen := by
  obtain ⟨a, c, rfl, hm, hi⟩ := h
  by_cases hx : ls = []
  · subst hx
    exact ⟨a, c, 0, 0, rfl, hm, fun h => absurd h (by simp), fun i h => absurd h (by simp)⟩
  · obtain ⟨b, o, ha, hb, hc⟩ := hi hx
    exact ⟨a, c, b, o, rfl, hm, fun _ => ⟨ha, hb⟩, hc⟩

set_option maxHeartbeats 4000000 in
set_option maxRecDepth 100000 in
theorem grown_any (w : World) (v : Value) (ls : List (List (List UInt8))) (hv : TxtsIs w v ls) (hm : Mx w) :
    Calls Tryz.prog 7 #[v] w fun e w' => ∃ t L M, e = .returned (ptr t) ∧ TreeAt w' w.heap.size t L M ∧ Turned w.heap.size w w' := by
  obtain ⟨a, c, b, o, rfl, hlm, ha, hc⟩ := hv.where
  have HC : Hid (∀ i, i < ls.length → ∃ u, w.cell? ⟨b, o + i, none⟩ = some u ∧ StrsIs w u (tat ls i) ∧ ∀ x ∈ tat ls i, x.length ≤ maxLen) := hc
  have HA : Hid (0 < ls.length → a = some ⟨b, o, none⟩ ∧ b < w.heap.size) := ha
  have HM : Hid (Mx w) := hm
  unfold maxLen at hlm
  clear ha hc hv hm
  go_enter Tryz.func7, Tryz.ntmps7
  go_wp2_with (go_at_call 17; refine (new_any w w.heap.size (Nat.le_refl _)).mono ?_; rintro e w1 ⟨t, r, M0, rfl, _, hT1, hb1⟩)
  have HT1 : Hid (TreeAt w1 w.heap.size t [([], r)] M0) := hT1
  have HB1 : Hid (Turned w.heap.size w w1) := Turned.of_below hb1 (Nat.le_refl _)
  clear hT1 hb1
  unfold ptr
  go_loopw [4] (fun s wr => ∃ (k : Nat) (L : List Ent) (M : Nat → Option Nat), k ≤ 40 ∧ k ≤ ls.length ∧ s = .int .i64 k ∧ Hid (TreeAt wr w.heap.size t L M) ∧ Hid (Turned w.heap.size w wr)) (fun s _ => 40 - (intOf s).toNat)
  case atStart => exact ⟨0, _, _, by omega, by omega, rfl, HT1, HB1⟩
  case round =>
    obtain ⟨k, L, M, hk, hkl, rfl, HT, HB⟩ := hrel
    by_cases hlt : k < ls.length
    · by_cases h40 : k < 40
      · obtain ⟨haa, hbl⟩ := HA.out (by omega)
        subst haa
        obtain ⟨u, hu, hs, hsm⟩ := HC.out k hlt
        have hcu : wr.cell? ⟨b, o + k, none⟩ = some u := HB.out.cell hu
        have HD : Hid _ := fun (_ : Nat) => did_any wr w.heap.size t L M HT.out u (tat ls k) (hs.later (Nat.le_refl _) HB.out.below) hsm (HM.out.turned HB.out) HB.out.below.size
        unfold ptr at HD
        clear hu hs hsm
        go_wp2_with (go_at_call 23; refine (HD.out 0).mono ?_; rintro e w2 ⟨n, L', M', rfl, k1, k2, k3⟩)
        have HT2 : Hid (TreeAt w2 w.heap.size t L' M') := k2
        have HB2 : Hid (Turned w.heap.size w w2) := HB.out.trans k3
        clear k1 k2 k3 HT HB HD
        go_roundw
        case rel => exact ⟨k + 1, L', M', by omega, by omega, by go_num, HT2, HB2⟩
        case measure => simp [intOf]; omega
      · go_wp2_with fail
        go_ret
        exact ⟨t, L, M, rfl, HT.out, HB.out⟩
    · go_wp2_with fail
      go_ret
      exact ⟨t, L, M, rfl, HT.out, HB.out⟩

end Go.Proofs.YtdlmkienogimgaaGreatDoor

namespace Go.Proofs.YtdlmkienogimgaaGreatDoor
open Go.RowKit Go.Deep Go.Shelf Go.Maps

def nmN (L : List Ent) (M : Nat → Option Nat) (s : List UInt8) : Nat := if (atS L M s).1 = 0 ∧ M (thing L M s) = none then (wka L).countP fun x => decide (x.2 = thing L M s) else 0

set_option maxRecDepth 100000 in
theorem Tryz.enter55 : ∀ args w, (callFunc 55 args).run Tryz.prog w = .ok (.enter 55 args) w := fun _ _ => by rfl

theorem isOne_any (w : World) (B j o : Nat) (mj mo : Option Nat) (hB : Boxed w B 59 (ptr o)) (hj : NodeAt w j mj) (ho : NodeAt w o mo) :
    Calls Tryz.prog 55 #[ptr j, .pointer (some ⟨B, 0, none⟩)] w fun e w' => e = .returned (.bool (decide (j = o))) ∧ w = w' := by
  have hc := hB.cell
  have he := eql_node w j o mj mo hj ho
  unfold ptr at hc ⊢
  clear hB hj ho
  generalize decide (j = o) = c at *
  go_enter Tryz.func55, Tryz.ntmps55
  go_wp2
  go_ret
  exact ⟨rfl, rfl⟩

set_option maxHeartbeats 4000000 in
set_option maxRecDepth 100000 in
theorem names_any (w : World) (base t : Nat) (L : List Ent) (M : Nat → Option Nat) (h : TreeAt w base t L M) (s : ByteArray) (hs : s.size ≤ maxLen) (hm : Mx w) :
    Calls Tryz.prog 26 #[ptr t, .string s] w fun e w' => e = .returned (.tuple #[.int .i64 (nmN L M s.data.toList), errV (atS L M s.data.toList).1]) ∧ Below w.heap.size w w' := by
  have HA : Hid _ := fun (_ : Nat) => at_any w base t L M h s hs hm
  rcases atS_cases h.good s.data.toList with ⟨j, h1, h2, h3⟩ | ⟨e, h0, h1⟩
  · rw [h1] at HA ⊢
    simp only [valO, errV_zero] at HA ⊢
    have hth : thing L M s.data.toList = j := by unfold thing; rw [h1]; rfl
    obtain ⟨hnj, _⟩ := h.node _ _ (look_mem h3)
    have HD : Hid _ := fun (w' : World) (hb : Below w.heap.size w w') => isDir_any w' j (M j) ((hb.block _ hnj.lt).trans hnj)
    cases hM : M j with
    | some m =>
      have hE : nmN L M s.data.toList = 0 := by unfold nmN; rw [hth, hM, if_neg (by simp)]
      rw [hE]
      rw [hM] at HD
      unfold ptr at HA HD ⊢
      clear hE hM hnj hth h1 h2 h3 h
      go_enter Tryz.func26, Tryz.ntmps26
      go_wp2_with (first
        | (go_at_call 39; refine (HA.out 0).mono ?_; rintro e w1 ⟨rfl, hb1⟩)
        | (go_at_call 33; refine (HD.out _ (hb1.trans ((below_alloc w1 _).mono hb1.size))).mono ?_; rintro e w' ⟨rfl, rfl⟩))
      go_ret2
      exact ⟨rfl, hb1.trans ((below_alloc w1 _).mono hb1.size)⟩
    | none =>
      have hE : nmN L M s.data.toList = (wka L).countP fun x => decide (x.2 = j) := by unfold nmN; rw [hth, h1, if_pos ⟨rfl, hM⟩]
      rw [hE]
      rw [hM] at HD
      have HC : Hid (∀ (w1 : World), Below w.heap.size w w1 → Calls Tryz.prog 54 #[ptr t, .func (.func 55) #[] #[.pointer (some ⟨w1.heap.size, 0, none⟩)]] (w1.alloc (.cells #[ptr j] 59)) fun e w' => e = .returned (.int .i64 ((wka L).countP fun x => decide (x.2 = j) : Nat)) ∧ Below (w1.alloc (.cells #[ptr j] 59)).heap.size (w1.alloc (.cells #[ptr j] 59)) w') := by
        show ∀ (w1 : World), Below w.heap.size w w1 → _
        intro w1 hb1
        have hb2 : Below w.heap.size w (w1.alloc (.cells #[ptr j] 59)) := hb1.trans ((below_alloc w1 _).mono hb1.size)
        refine count_any _ base t L M (h.later hb2) 55 #[.pointer (some ⟨w1.heap.size, 0, none⟩)] Tryz.enter55 (fun x => decide (x = j)) fun w' ho p x hx => ?_
        obtain ⟨hnx, _⟩ := (h.later hb2).node _ _ hx
        obtain ⟨hnj2, _⟩ := (h.later hb2).node _ _ (look_mem h3)
        exact isOne_any w' w1.heap.size x j _ _ ((ho _ (by simp)).trans (Boxed.new w1 _ _)) ((ho _ hnx.lt).trans hnx) ((ho _ hnj2.lt).trans hnj2)
      generalize ((wka L).countP fun x => decide (x.2 = j)) = c at *
      unfold ptr at HA HD HC ⊢
      clear hE hM hnj hth h1 h2 h3 h
      go_enter Tryz.func26, Tryz.ntmps26
      go_wp2_with (first
        | (go_at_call 39; refine (HA.out 0).mono ?_; rintro e w1 ⟨rfl, hb1⟩)
        | (go_at_call 33; refine (HD.out _ (hb1.trans ((below_alloc w1 _).mono hb1.size))).mono ?_; rintro e w' ⟨rfl, rfl⟩)
        | (go_at_call 54; refine (HC.out _ hb1).mono ?_; rintro e w2 ⟨rfl, hb2⟩))
      go_ret2
      exact ⟨rfl, hb1.trans (((below_alloc w1 _).trans (hb2.mono (by simp))).mono hb1.size)⟩
  · have hE : nmN L M s.data.toList = 0 := by unfold nmN; rw [h1, if_neg (fun h => h0 h.1)]
    rw [h1] at HA ⊢
    simp only [valO] at HA
    rw [errV_pos h0] at HA
    rw [hE, errV_pos h0]
    unfold ptr at HA ⊢
    clear hE h1 h0 h
    go_enter Tryz.func26, Tryz.ntmps26
    go_wp2_with (first
      | (go_at_call 39; refine (HA.out 0).mono ?_; rintro e w1 ⟨rfl, hb1⟩))
    go_ret2
    exact ⟨rfl, hb1.trans ((below_alloc w1 _).mono hb1.size)⟩

end Go.Proofs.YtdlmkienogimgaaGreatDoor

namespace Go.Proofs.YtdlmkienogimgaaGreatDoor
open Go.RowKit Go.Deep Go.Shelf

def eqS (xs ys : List (List UInt8)) : Bool := decide (xs = ys)
theorem eqS_self (xs : List (List UInt8)) : eqS xs xs = true := by unfold eqS; simp
theorem eqS_len {xs ys : List (List UInt8)} (h : xs.length ≠ ys.length) : eqS xs ys = false := by
  unfold eqS; simp; intro e; exact h (by rw [e])
theorem eqS_at {xs ys : List (List UInt8)} {k : Nat} (h : sth xs k ≠ sth ys k) : eqS xs ys = false := by
  unfold eqS; simp; intro e; exact h (by rw [e])
theorem eqS_all {xs ys : List (List UInt8)} (hl : xs.length = ys.length) (h : ∀ i, i < xs.length → sth xs i = sth ys i) : eqS xs ys = true := by
  unfold eqS
  rw [decide_eq_true_iff]
  refine List.ext_getElem hl fun i h1 h2 => ?_
  rw [← sth_lt h1, ← sth_lt h2]
  exact h i h1

theorem below_drewN (w : World) (B q : Nat) : Below B w (w.drewN q) := ⟨rfl, rfl, rfl, Nat.le_refl _, fun _ _ => rfl⟩

set_option maxHeartbeats 1000000 in
theorem texts_len (w : World) (a a' : Option Addr) (n n' c c' : Nat) (h : n ≠ n') :
    Calls Tryz.prog 15 #[.slice a n c, .slice a' n' c'] w fun e w' => e = .returned (.bool false) ∧ w = w' := by
  have h' : ((n : Int) == (n' : Int)) = false := by simp; omega
  go_enter Tryz.func15, Tryz.ntmps15
  go_wp2
  go_ret
  exact ⟨rfl, rfl⟩

set_option maxHeartbeats 2000000 in
theorem texts_same (w : World) (a a' : Option Addr) (n c c' : Nat) (b o b' o' : Nat) (xs ys : List (List UInt8)) (hx : xs.length = n) (hy : ys.length = n) (hn : n ≤ maxLen)
    (ha : 0 < n → a = some ⟨b, o, none⟩) (ha' : 0 < n → a' = some ⟨b', o', none⟩)
    (hc : ∀ i, i < n → w.cell? ⟨b, o + i, none⟩ = some (.string (bs (sth xs i)))) (hc' : ∀ i, i < n → w.cell? ⟨b', o' + i, none⟩ = some (.string (bs (sth ys i)))) :
    Calls Tryz.prog 15 #[.slice a n c, .slice a' n c'] w fun e w' => e = .returned (.bool (eqS xs ys)) ∧ ∃ q, w' = w.drewN q := by
  unfold maxLen at hn
  have HX : Hid (xs.length = n) := hx
  have HY : Hid (ys.length = n) := hy
  have HC : Hid (∀ i, i < n → w.cell? ⟨b, o + i, none⟩ = some (.string (bs (sth xs i)))) := hc
  have HC' : Hid (∀ i, i < n → w.cell? ⟨b', o' + i, none⟩ = some (.string (bs (sth ys i)))) := hc'
  clear hx hy hc hc'
  go_enter Tryz.func15, Tryz.ntmps15
  go_wp2
  go_loopw [5] (fun i wr => ∃ k : Nat, k ≤ n ∧ i = .int .i64 k ∧ (∀ j, j < k → sth xs j = sth ys j) ∧ ∃ q, wr = w.drewN q) (fun i _ => n - (intOf i).toNat)
  case atStart => exact ⟨0, Nat.zero_le _, rfl, fun j hj => absurd hj (Nat.not_lt_zero _), 0, rfl⟩
  case round =>
    obtain ⟨k, hk, rfl, hall, q, rfl⟩ := hrel
    have HA : Hid (∀ j, j < k → sth xs j = sth ys j) := hall
    clear hall
    by_cases hlt : k < n
    · have e1 := ha (by omega)
      have e2 := ha' (by omega)
      subst e1 e2
      have h1 := HC.out k hlt
      have h2 := HC'.out k hlt
      clear ha ha'
      have HE : Hid ((sth xs k = sth ys k) = (bs (sth xs k) = bs (sth ys k))) := by simp only [Hid]; exact propext ⟨fun e => by rw [e], bs_inj⟩
      have HT : Hid (∀ x : List UInt8, (bs x).toList = x) := fun x => by rw [ByteArray.toList_eq, data_bs]
      by_cases he : sth xs k = sth ys k
      · have hb : ((bs (sth xs k)).toList == (bs (sth ys k)).toList) = true := by rw [HT.out, HT.out, he]; simp
        have HE : Hid (sth xs k = sth ys k) := he
        clear he
        go_wp2
        go_quiet (fail)
        go_wp2
        go_roundw
        case rel =>
          refine ⟨k + 1, by omega, by go_num, fun j hj => ?_, ?_⟩
          · by_cases e : j = k
            · subst e; exact HE.out
            · exact HA.out j (by omega)
          · exact ⟨q + nq, rfl⟩
        case measure => simp [intOf]; omega
      · have hb : ((bs (sth xs k)).toList == (bs (sth ys k)).toList) = false := by rw [HT.out, HT.out]; simp [he]
        have HE : Hid (¬ sth xs k = sth ys k) := he
        clear he
        go_wp2
        go_quiet (fail)
        go_wp2
        go_ret
        exact ⟨by rw [eqS_at HE.out]; rfl, q + nq, by rw [World.drewN_drewN]⟩
    · have hkn : k = n := by omega
      subst hkn
      go_wp2
      go_ret
      exact ⟨by rw [eqS_all (by rw [HX.out, HY.out]) (by rw [HX.out]; exact HA.out)]; rfl, q, rfl⟩

theorem texts_any (w : World) (v v' : Value) (xs ys : List (List UInt8)) (hx : StrsIs w v xs) (hy : StrsIs w v' ys) :
    Calls Tryz.prog 15 #[v, v'] w fun e w' => e = .returned (.bool (eqS xs ys)) ∧ Below w.heap.size w w' := by
  obtain ⟨a, c, b, o, rfl, _, hl, ha, hc⟩ := hx.where
  obtain ⟨a', c', b', o', rfl, _, _, ha', hc'⟩ := hy.where
  by_cases h : xs.length = ys.length
  · rw [← h] at ha' hc' ⊢
    refine (texts_same w a a' xs.length c c' b o b' o' xs ys rfl h.symm hl (fun h => (ha h).1) (fun h => (ha' h).1) hc hc').mono ?_
    rintro e w' ⟨rfl, q, rfl⟩
    exact ⟨rfl, below_drewN _ _ _⟩
  · rw [eqS_len h]
    refine (texts_len w a a' xs.length ys.length c c' h).mono ?_
    rintro e w' ⟨rfl, rfl⟩
    exact ⟨rfl, Below.refl _ _⟩

end Go.Proofs.YtdlmkienogimgaaGreatDoor

namespace Go.Proofs.YtdlmkienogimgaaGreatDoor
open Go.RowKit Go.Deep Go.Shelf Go.Maps

theorem pE_a : pE [47, 97] = 0 := by decide +kernel
theorem pN_a : pN [47, 97] = [] ++ [[97]] := by decide +kernel
theorem pE_ax : pE [47, 97, 47, 120] = 0 := by decide +kernel
theorem pN_ax : pN [47, 97, 47, 120] = [[97]] ++ [[120]] := by decide +kernel
theorem pE_y : pE [47, 121] = 0 := by decide +kernel
theorem pN_y : pN [47, 121] = [] ++ [[121]] := by decide +kernel

theorem puE_ok {L : List Ent} {M : Nat → Option Nat} {l : List UInt8} {q : List (List UInt8)} {k : List UInt8} {d m : Nat} (h : pE l = 0) (hn : pN l = q ++ [k]) (ha : atF L M q = (0, some d)) (hd : M d = some m) (hf : look L (q ++ [k]) = none) (hl : L.length ≤ 24) : puE L M l = 0 := by
  obtain ⟨h0, _⟩ := spE_good h hn ha hd
  have hfr : frE L M l = 0 := by unfold frE; rw [if_neg (by simp [h0]), hn, hf]; rfl
  unfold puE
  rw [if_neg (by simp [hfr]), if_neg (by omega)]
theorem atF_nil {L : List Ent} {M : Nat → Option Nat} {r : Nat} (h : look L [] = some r) : atF L M [] = (0, some r) := by
  unfold atF rootOf; rw [h]; rfl
theorem atF_good {L : List Ent} {M : Nat → Option Nat} (hG : Good L M) {ns : List (List UInt8)} {j : Nat} (h : look L ns = some j) : atF L M ns = (0, some j) := by
  rcases atF_cases hG ns with ⟨j', h1, h2⟩ | ⟨e, _, h1, h2⟩
  · rw [h] at h2
    cases h2
    exact h1
  · rw [h] at h2; cases h2
theorem atS_good {L : List Ent} {M : Nat → Option Nat} (hG : Good L M) {l : List UInt8} {j : Nat} (he : pE l = 0) (h : look L (pN l) = some j) : atS L M l = (0, some j) := by
  unfold atS
  rw [if_pos he, atF_good hG h]

theorem fact_one {r n : Nat} {M M' : Nat → Option Nat} {L' : List Ent} (hr : (M r).isSome = true) (h : MkS true [([], r)] M [47, 97] n L' M') : n = 0 ∧ ∃ i, L' = [([], r), ([[97]], i)] ∧ (M' i).isSome = true ∧ (M' r).isSome = true ∧ i ≠ r := by
  obtain ⟨h1, i, h2, h3, h4, h5⟩ := h
  obtain ⟨m, hm⟩ := Option.isSome_iff_exists.1 hr
  have h0 : puE [([], r)] M [47, 97] = 0 := puE_ok pE_a pN_a (atF_nil (by simp [look])) hm (by simp [look]) (by simp)
  have hne : i ≠ r := fun e => h2 [] (by simp [e])
  rw [h0] at h1
  rw [h0, if_pos rfl, pN_a] at h5
  exact ⟨h1, i, h5, h3, by rw [h4 r (Ne.symm hne)]; exact hr, hne⟩
theorem fact_two {r i n : Nat} {M M' : Nat → Option Nat} {L' : List Ent} (hG : Good [([], r), ([[97]], i)] M) (hi : (M i).isSome = true) (h : MkS false [([], r), ([[97]], i)] M [47, 97, 47, 120] n L' M') :
    n = 0 ∧ ∃ j, L' = [([], r), ([[97]], i), ([[97], [120]], j)] ∧ M' j = none ∧ (M' r = M r) ∧ (M' i = M i) ∧ j ≠ i := by
  obtain ⟨h1, j, h2, h3, h4, h5⟩ := h
  obtain ⟨m, hm⟩ := Option.isSome_iff_exists.1 hi
  have h0 : puE [([], r), ([[97]], i)] M [47, 97, 47, 120] = 0 := puE_ok pE_ax pN_ax (atF_good hG (by simp [look])) hm (by simp [look]) (by simp)
  have n1 : j ≠ r := fun e => h2 [] (by simp [e])
  have n2 : j ≠ i := fun e => h2 [[97]] (by simp [e])
  rw [h0] at h1
  rw [h0, if_pos rfl, pN_ax] at h5
  exact ⟨h1, j, h5, by simpa using h3, h4 r (Ne.symm n1), h4 i (Ne.symm n2), n2⟩
theorem fact_three {r i j : Nat} {M : Nat → Option Nat} (hG : Good [([], r), ([[97]], i), ([[97], [120]], j)] M) (hj : M j = none) :
    lkE [([], r), ([[97]], i), ([[97], [120]], j)] M [47, 97, 47, 120] [47, 121] = 0 ∧ lkL [([], r), ([[97]], i), ([[97], [120]], j)] M [47, 97, 47, 120] [47, 121] = [([], r), ([[97]], i), ([[97], [120]], j), ([[121]], j)] := by
  have h1 := atS_good hG (l := [47, 97, 47, 120]) (j := j) pE_ax (by rw [pN_ax]; simp [look])
  have hth : thing [([], r), ([[97]], i), ([[97], [120]], j)] M [47, 97, 47, 120] = j := by unfold thing; rw [h1]; rfl
  obtain ⟨r', hr', hrm⟩ := hG.start
  obtain ⟨m, hm⟩ := Option.isSome_iff_exists.1 hrm
  have hr2 : r' = r := hG.uni.same hr' (by simp)
  subst hr2
  have h0 : puE [([], r'), ([[97]], i), ([[97], [120]], j)] M [47, 121] = 0 := puE_ok pE_y pN_y (atF_nil (by simp [look])) hm (by simp [look]) (by simp)
  have hE : lkE [([], r'), ([[97]], i), ([[97], [120]], j)] M [47, 97, 47, 120] [47, 121] = 0 := by
    unfold lkE
    rw [h1, if_neg (by simp), hth, hj, if_neg (by simp), h0]
  refine ⟨hE, ?_⟩
  unfold lkL
  rw [if_pos hE, hth, pN_y]; rfl
theorem fact_four {r i j : Nat} {M : Nat → Option Nat} (hG : Good [([], r), ([[97]], i), ([[97], [120]], j), ([[121]], j)] M) (hi : (M i).isSome = true) (hj : M j = none) (hne : j ≠ i) :
    (atS [([], r), ([[97]], i), ([[97], [120]], j), ([[121]], j)] M [47, 121]).1 = 0 ∧ nmN [([], r), ([[97]], i), ([[97], [120]], j), ([[121]], j)] M [47, 121] = 2 ∧ txs [([], r), ([[97]], i), ([[97], [120]], j), ([[121]], j)] M = [[47, 97, 47], [47, 97, 47, 120], [47, 121]] := by
  have h1 := atS_good hG (l := [47, 121]) (j := j) pE_y (by rw [pN_y]; simp [look])
  have hth : thing [([], r), ([[97]], i), ([[97], [120]], j), ([[121]], j)] M [47, 121] = j := by unfold thing; rw [h1]; rfl
  have hp := wka_perm hG
  refine ⟨by rw [h1], ?_, ?_⟩
  · unfold nmN
    rw [h1, hth, if_pos ⟨rfl, hj⟩, hp.countP_eq]
    simp [Ne.symm hne]
  · refine rise_one (R := fun a b : List UInt8 => a < b) (fun a => List.lt_irrefl _) (fun a b c => List.lt_trans) (txs_rise hG) (by decide) fun x => ?_
    unfold txs
    rw [(hp.map _).mem_iff]
    simp [tx, hi, hj, shw, Lib.join]

theorem strs_lit3 (w : World) (x y z : List UInt8) : StrsIs (w.alloc (.cells #[.string (bs x), .string (bs y), .string (bs z)] 9)) (.slice (some ⟨w.heap.size, 0, none⟩) 3 3) [x, y, z] :=
  ⟨_, 3, rfl, Nat.le_refl _, by simp [maxLen], fun _ => ⟨w.heap.size, 0, rfl, by simp, fun i hi => by
    have hi3 : i < 3 := by simpa using hi
    rw [Nat.zero_add]
    refine (cell_new w _ _ _).trans ?_
    match i, hi3 with
    | 0, _ => rfl
    | 1, _ => rfl
    | 2, _ => rfl⟩⟩

set_option maxHeartbeats 8000000 in
set_option maxRecDepth 100000 in
theorem fact_any (w : World) (hm : Mx w) : Calls Tryz.prog 6 #[] w fun e w' => e = .returned (.bool true) ∧ Below w.heap.size w w' := by
  have H1 : Hid _ := fun (w1 : World) (t r : Nat) (M : Nat → Option Nat) (h : TreeAt w1 w.heap.size t [([], r)] M) (hb : Turned w.heap.size w w1) => dir_any w1 w.heap.size t _ M h ⟨#[47, 97]⟩ (by decide) (hm.turned hb) hb.below.size
  have H2 : Hid _ := fun (w1 : World) (t : Nat) (L : List Ent) (M : Nat → Option Nat) (h : TreeAt w1 w.heap.size t L M) (hb : Turned w.heap.size w w1) => file_any w1 w.heap.size t L M h ⟨#[47, 97, 47, 120]⟩ (by decide) (hm.turned hb) hb.below.size
  have H3 : Hid _ := fun (w1 : World) (t : Nat) (L : List Ent) (M : Nat → Option Nat) (h : TreeAt w1 w.heap.size t L M) (hb : Turned w.heap.size w w1) => link_any w1 w.heap.size t L M h ⟨#[47, 97, 47, 120]⟩ ⟨#[47, 121]⟩ (by decide) (by decide) (hm.turned hb) hb.below.size
  have H4 : Hid _ := fun (w1 : World) (t : Nat) (L : List Ent) (M : Nat → Option Nat) (h : TreeAt w1 w.heap.size t L M) (hb : Turned w.heap.size w w1) => names_any w1 w.heap.size t L M h ⟨#[47, 121]⟩ (by decide) (hm.turned hb)
  unfold ptr at H1 H2 H3 H4
  go_enter Tryz.func6, Tryz.ntmps6
  go_wp2_with (first
    | (go_at_call 17; refine (new_any w w.heap.size (Nat.le_refl _)).mono ?_; unfold ptr; rintro e w1 ⟨t, r, M0, rfl, hr, hT1, hb1⟩; have hB1 : Turned w.heap.size w w1 := Turned.of_below hb1 (Nat.le_refl _))
    | (go_at_call 14; refine (H1.out _ _ _ _ hT1 hB1).mono ?_; rintro e w2 ⟨n1, L1, M1, rfl, g1, hT2, k2⟩; obtain ⟨rfl, i, rfl, hi, hri, hir⟩ := fact_one hr g1; rw [errV_zero]; have hB2 := hB1.trans k2)
    | (go_at_call 12; refine (H2.out _ _ _ _ hT2 hB2).mono ?_; rintro e w3 ⟨n2, L2, M2, rfl, g2, hT3, k3⟩; obtain ⟨rfl, j, rfl, hj, hjr, hji, hne⟩ := fact_two hT2.good hi g2; rw [errV_zero]; have hB3 := hB2.trans k3)
    | (go_at_call 29; refine (H3.out _ _ _ _ hT3 hB3).mono ?_; rintro e w4 ⟨rfl, hT4, k4⟩; obtain ⟨e1, e2⟩ := fact_three hT3.good hj; rw [e2] at hT4; rw [e1, errV_zero]; have hB4 := hB3.trans k4)
    | (go_at_call 26; refine (H4.out _ _ _ _ hT4 hB4).mono ?_; rintro e w5 ⟨rfl, k5⟩; obtain ⟨f1, f2, f3⟩ := fact_four hT4.good (by rw [hji]; exact hi) hj hne; rw [f1, f2, errV_zero]; have hT5 := hT4.later k5; have hB5 : Turned w.heap.size w w5 := hB4.trans (Turned.of_below k5 hB4.below.size))
    | (go_at_call 8; refine (treeWalk_any _ _ _ _ _ hT5).mono ?_; rintro e w6 ⟨v6, rfl, hv6, k6⟩; rw [f3] at hv6; have hs6 := strs_own hv6)
    | (go_at_call 15; refine (texts_any _ _ _ _ [[47, 97, 47], [47, 97, 47, 120], [47, 121]] (hs6.later (Nat.le_refl _) (below_alloc _ _)) (strs_lit3 _ _ _ _)).mono ?_; rw [eqS_self]; rintro e w7 ⟨rfl, k7⟩))
  go_ret
  have z5 := hB5.below.size
  exact ⟨rfl, hB5.below.trans ((k6.mono z5).trans (((below_alloc w6 _).trans (k7.mono (by simp))).mono (Nat.le_trans z5 k6.size)))⟩

end Go.Proofs.YtdlmkienogimgaaGreatDoor

namespace Go.Proofs.YtdlmkienogimgaaGreatDoor
open Go.RowKit Go.Deep Go.Shelf Go.Maps

theorem StrsIs.turned {w w' : World} {v : Value} {ls : List (List UInt8)} {base : Nat} (h : StrsIs w v ls) (hT : Turned base w w') : StrsIs w' v ls := by
  obtain ⟨a, c, h1, h2, h3, h4⟩ := h
  refine ⟨a, c, h1, h2, h3, fun hne => ?_⟩
  obtain ⟨b, o, ha, hlt, hc⟩ := h4 hne
  exact ⟨b, o, ha, Nat.lt_of_lt_of_le hlt hT.below.size, fun i hi => hT.cell (hc i hi)⟩

theorem puE_zero {L : List Ent} {M : Nat → Option Nat} (hG : Good L M) {l : List UInt8} (h : puE L M l = 0) :
    ∃ q k d m, pE l = 0 ∧ pN l = q ++ [k] ∧ isN k = true ∧ look L q = some d ∧ M d = some m ∧ look L (q ++ [k]) = none ∧ q.length + 1 ≤ 8 ∧ L.length ≤ 24 := by
  unfold puE at h
  split at h
  · rename_i h1; exact absurd h h1
  · rename_i h1
    obtain ⟨q, k, d, m, g1, g2, g3, g4, g5, _, g6, g7⟩ := frE_zero hG (by simpa using h1)
    split at h
    · cases h
    · exact ⟨q, k, d, m, g1, g2, g3, g4, g5, g6, g7, by omega⟩
theorem cut_put {L : List Ent} {p : List (List UInt8)} {i : Nat} (hp : look L p = none) : cutL (L ++ [(p, i)]) p = L := by
  unfold cutL
  rw [List.filter_append, List.filter_eq_self.2 fun x hx => ?_]
  · simp
  · have : x.1 ≠ p := fun e => look_none.1 hp x.2 (by rw [← e]; exact hx)
    simpa using this
/-- A name that was put is dropped. -/
theorem drop_put {L : List Ent} {M : Nat → Option Nat} {l : List UInt8} {q : List (List UInt8)} {k : List UInt8} {d m i : Nat} (hG : Good L M) (hG' : Good (L ++ [(q ++ [k], i)]) M) (he : pE l = 0) (hn : pN l = q ++ [k]) (hq : look L q = some d) (hd : M d = some m) (hf : look L (q ++ [k]) = none) :
    drE (L ++ [(q ++ [k], i)]) M l = 0 ∧ drL (L ++ [(q ++ [k], i)]) M l = L := by
  have hl : ∀ x, look (L ++ [(q ++ [k], i)]) x = if x = q ++ [k] then some i else look L x := fun x => put_look hG.uni hf
  have hq' : look (L ++ [(q ++ [k], i)]) q = some d := by rw [hl, if_neg (fun e => by have := congrArg List.length e; simp at this)]; exact hq
  obtain ⟨h0, _⟩ := spE_good he hn (atF_good hG' hq') hd
  have hk : kids (L ++ [(q ++ [k], i)]) (q ++ [k]) = [] := by
    rw [List.eq_nil_iff_forall_not_mem]
    intro c hc
    obtain ⟨j, hj⟩ := mem_kids.1 hc
    rcases List.mem_append.1 hj with hj | hj
    · obtain ⟨d', hd', _⟩ := hG.up _ _ _ hj
      exact look_none.1 hf d' hd'
    · rw [List.mem_singleton] at hj
      simp at hj
  have hE : drE (L ++ [(q ++ [k], i)]) M l = 0 := by
    unfold drE
    rw [if_neg (by simp [h0]), hn, hl, if_pos rfl, if_neg (by simp), if_pos hk]
  refine ⟨hE, ?_⟩
  unfold drL
  rw [if_pos hE, hn, cut_put hf]

theorem strs_form {w : World} {v : Value} {ls : List (List UInt8)} (h : StrsIs w v ls) : ∃ a c, v = .slice a ls.length c := by
  obtain ⟨a, c, rfl, _⟩ := h
  exact ⟨a, c, rfl⟩


theorem Laid.turned {w w' : World} {base : Nat} (h : Laid w) (hT : Turned base w w') : Laid w' := by
  unfold Laid at h ⊢
  exact hT.cell h

/-- A name, and a / behind it, begin another name and what is behind it. -/
theorem name_pre : ∀ (k k2 r Y : List UInt8), k.all isL = true → k2.all isL = true → (Y = [] ∨ ∃ y, Y = 47 :: y) → (k ++ 47 :: r) <+: (k2 ++ Y) → k = k2 ∧ (47 :: r) <+: Y
  | [], [], r, Y, _, _, _, h => ⟨rfl, h⟩
  | [], c :: k2, r, Y, _, h2, _, h => by
    obtain ⟨u, hu⟩ := h
    simp only [List.nil_append, List.cons_append, List.cons.injEq] at hu
    have hc : isL c = true := by simp at h2; exact h2.1
    rw [← hu.1] at hc
    exact absurd hc (by decide)
  | c :: k, [], r, Y, h1, _, hY, h => by
    obtain ⟨u, hu⟩ := h
    have hc : isL c = true := by simp at h1; exact h1.1
    rcases hY with rfl | ⟨y, rfl⟩
    · simp at hu
    · simp only [List.nil_append, List.cons_append, List.cons.injEq] at hu
      rw [hu.1] at hc
      exact absurd hc (by decide)
  | c :: k, c2 :: k2, r, Y, h1, h2, hY, h => by
    obtain ⟨u, hu⟩ := h
    simp only [List.cons_append, List.cons.injEq] at hu
    obtain ⟨e, g⟩ := name_pre k k2 r Y (by simp at h1; simp; exact h1.2) (by simp at h2; simp; exact h2.2) hY ⟨u, by simpa using hu.2⟩
    exact ⟨by rw [hu.1, e], g⟩

/-- A directory's path begins a longer one. -/
theorem sg_pre : ∀ (p q : List (List UInt8)) (s : List UInt8), (∀ k ∈ p, isN k = true) → (∀ k ∈ q, isN k = true) → (s = [] ∨ s = [47]) → (sg p ++ [47]) <+: (sg q ++ s) → (sg p ++ [47]).length < (sg q ++ s).length → ∃ k u, q = p ++ k :: u
  | [], [], s, _, _, hs, _, hl => by rcases hs with rfl | rfl <;> simp [sg] at hl
  | [], k :: u, s, _, _, _, _, _ => ⟨k, u, rfl⟩
  | k :: p, [], s, _, _, hs, _, hl => by
    rcases hs with rfl | rfl <;> rw [sg_cons] at hl <;> simp [sg] at hl
  | k :: p, k2 :: q, s, hp, hq, hs, h, hl => by
    rw [sg_cons, sg_cons] at h hl
    have h1 : (k ++ (sg p ++ [47])) <+: (k2 ++ (sg q ++ s)) := by
      obtain ⟨u, hu⟩ := h
      simp only [List.cons_append, List.cons.injEq, true_and] at hu
      exact ⟨u, by simpa using hu⟩
    obtain ⟨r, hr⟩ : ∃ r, sg p ++ [47] = 47 :: r := by
      rcases sg_begin p [47] (.inr rfl) with h | h
      · simp at h
      · exact h
    have h2 := h1
    rw [hr] at h2
    obtain ⟨e, g⟩ := name_pre k k2 r _ (isN_all (hp k (by simp))) (isN_all (hq k2 (by simp))) (sg_begin q s hs) h2
    subst e
    rw [← hr] at g
    obtain ⟨k0, u, hu⟩ := sg_pre p q s (fun x hx => hp x (by simp [hx])) (fun x hx => hq x (by simp [hx])) hs g (by simp at hl ⊢; omega)
    exact ⟨k0, u, by rw [hu]; rfl⟩

theorem sg_last {p : List (List UInt8)} (hp : p ≠ []) (hn : ∀ k ∈ p, isN k = true) : ∃ a c, sg p = a ++ [c] ∧ isL c = true := by
  obtain ⟨q, k, rfl⟩ : ∃ q k, p = q ++ [k] := ⟨_, _, (List.dropLast_concat_getLast hp).symm⟩
  have hk := hn k (by simp)
  have hkl := isN_len hk
  obtain ⟨b, c, rfl⟩ : ∃ b c, k = b ++ [c] := ⟨_, _, (List.dropLast_concat_getLast (by rintro rfl; simp [isN] at hk)).symm⟩
  refine ⟨sg q ++ 47 :: b, c, by simp [sg], ?_⟩
  have := isN_all hk
  simp at this
  exact this.2

/-- What is told of a directory that has something. -/
theorem tx_full {L : List Ent} {M : Nat → Option Nat} (hG : Good L M) {x y : Ent} (hx : x ∈ wka L) (hy : y ∈ wka L) (h1 : (tx M x).getLast? = some 47) (h2 : tx M x <+: tx M y) (h3 : (tx M x).length < (tx M y).length) : drE L M (tx M x) = 7 := by
  obtain ⟨hx, hxe⟩ := (wka_mem hG x).1 hx
  obtain ⟨hy, hye⟩ := (wka_mem hG y).1 hy
  obtain ⟨p, i⟩ := x
  obtain ⟨q, j⟩ := y
  dsimp only at hxe hye
  obtain ⟨hpl, hpn⟩ := hG.nam _ _ hx
  obtain ⟨hql, hqn⟩ := hG.nam _ _ hy
  have hd : (M i).isSome = true := by
    cases hM : M i with
    | some m => rfl
    | none =>
      unfold tx at h1
      rw [shw_sg hxe] at h1
      dsimp only at h1
      rw [hM] at h1
      obtain ⟨a, c, e, hc⟩ := sg_last hxe hpn
      rw [e] at h1
      simp at h1
      rw [h1] at hc
      exact absurd hc (by decide)
  have e1 : tx M (p, i) = sg p ++ [47] := by unfold tx; rw [shw_sg hxe]; dsimp only; rw [hd]; rfl
  have e2 : ∃ s, (s = [] ∨ s = [47]) ∧ tx M (q, j) = sg q ++ s := ⟨if (M j).isSome then [47] else [], by split <;> simp, by unfold tx; rw [shw_sg hye]⟩
  obtain ⟨s, hs, e2⟩ := e2
  rw [e1, e2] at h2 h3
  obtain ⟨k0, u, rfl⟩ := sg_pre p q s hpn hqn hs h2 h3
  have hk : kids L p ≠ [] := by
    intro e
    obtain ⟨d, hd⟩ := hG.upto u (p ++ [k0]) j (by simpa using hy)
    have := mem_kids.2 ⟨d, hd⟩
    rw [e] at this
    simp at this
  obtain ⟨p1, p2, _⟩ := shw_slash hpl hpn
  rw [shw_sg hxe, ← e1] at p1 p2
  obtain ⟨q0, k, rfl⟩ : ∃ q k, p = q ++ [k] := ⟨_, _, (List.dropLast_concat_getLast hxe).symm⟩
  obtain ⟨d, hd', hds⟩ := hG.up _ _ _ hx
  obtain ⟨m, hm⟩ := Option.isSome_iff_exists.1 hds
  obtain ⟨h0, _⟩ := spE_good p1 p2 (atF_good hG (hG.uni.look.2 hd')) hm
  unfold drE
  rw [if_neg (by simp [h0]), p2, hG.uni.look.2 hx, if_neg (by simp), if_neg hk]

end Go.Proofs.YtdlmkienogimgaaGreatDoor

namespace Go.Proofs.YtdlmkienogimgaaGreatDoor
open Go.RowKit Go.Deep Go.Shelf Go.Maps

def lsE (L : List Ent) (M : Nat → Option Nat) (s : List UInt8) : Nat := if (atS L M s).1 ≠ 0 then (atS L M s).1 else if M (thing L M s) = none then 3 else 0
def lsL (L : List Ent) (M : Nat → Option Nat) (s : List UInt8) : List (List UInt8) := if lsE L M s = 0 then kids L (pN s) else []

set_option maxHeartbeats 4000000 in
set_option maxRecDepth 100000 in
theorem list_any (w : World) (base t : Nat) (L : List Ent) (M : Nat → Option Nat) (h : TreeAt w base t L M) (s : ByteArray) (hs : s.size ≤ maxLen) (hm : Mx w) :
    Calls Tryz.prog 11 #[ptr t, .string s] w fun e w' => ∃ v, e = .returned (.tuple #[v, errV (lsE L M s.data.toList)]) ∧ StrsIs w' v (lsL L M s.data.toList) ∧ Below w.heap.size w w' := by
  have HA : Hid _ := fun (_ : Nat) => at_any w base t L M h s hs hm
  rcases atS_cases h.good s.data.toList with ⟨j, h1, h2, h3⟩ | ⟨e, h0, h1⟩
  · rw [h1] at HA
    simp only [valO, errV_zero] at HA
    have hth : thing L M s.data.toList = j := by unfold thing; rw [h1]; rfl
    obtain ⟨hnj, _⟩ := h.node _ _ (look_mem h3)
    have HD : Hid _ := fun (w' : World) (hb : Below w.heap.size w w') => isDir_any w' j (M j) ((hb.block _ hnj.lt).trans hnj)
    cases hM : M j with
    | none =>
      have hE : lsE L M s.data.toList = 3 := by unfold lsE; rw [h1, hth, hM]; rfl
      have hL : lsL L M s.data.toList = [] := by unfold lsL; rw [if_neg (by rw [hE]; decide)]
      rw [hE, hL, errV_pos (by decide)]
      rw [hM] at HD
      unfold ptr at HA HD ⊢
      clear hE hL hM hnj hth h1 h2 h3 h
      go_enter Tryz.func11, Tryz.ntmps11
      go_wp2_with (first
        | (go_at_call 39; refine (HA.out 0).mono ?_; rintro e w1 ⟨rfl, hb1⟩)
        | (go_at_call 33; refine (HD.out _ hb1).mono ?_; rintro e w' ⟨rfl, rfl⟩))
      go_ret2
      exact ⟨_, rfl, strs_nil _ _ _, hb1⟩
    | some m =>
      have hE : lsE L M s.data.toList = 0 := by unfold lsE; rw [h1, hth, hM]; rfl
      have hL : lsL L M s.data.toList = kids L (pN s.data.toList) := by unfold lsL; rw [if_pos hE]
      rw [hE, hL, errV_zero]
      rw [hM] at HD
      have HR : Hid _ := fun (w' : World) (hb : Below w.heap.size w w') => rising_any w' base t L M (h.later hb) (pN s.data.toList) j (look_mem h3)
      generalize kids L (pN s.data.toList) = K at *
      unfold ptr at HA HD HR ⊢
      clear hE hL hM hnj hth h1 h2 h3 h
      go_enter Tryz.func11, Tryz.ntmps11
      go_wp2_with (first
        | (go_at_call 39; refine (HA.out 0).mono ?_; rintro e w1 ⟨rfl, hb1⟩)
        | (go_at_call 33; refine (HD.out _ hb1).mono ?_; rintro e w' ⟨rfl, rfl⟩)
        | (go_at_call 40; refine (HR.out _ hb1).mono ?_; rintro e w2 ⟨v2, rfl, hv2, hb2⟩))
      go_ret2
      exact ⟨_, rfl, strs_own hv2, hb1.trans (hb2.mono hb1.size)⟩
  · have hE : lsE L M s.data.toList = e := by unfold lsE; rw [h1, if_pos h0]
    have hL : lsL L M s.data.toList = [] := by unfold lsL; rw [if_neg (by rw [hE]; exact h0)]
    rw [h1] at HA
    simp only [valO] at HA
    rw [errV_pos h0] at HA
    rw [hE, hL, errV_pos h0]
    unfold ptr at HA ⊢
    clear hE hL h1 h0 h
    go_enter Tryz.func11, Tryz.ntmps11
    go_wp2_with (first
      | (go_at_call 39; refine (HA.out 0).mono ?_; rintro e w1 ⟨rfl, hb1⟩))
    go_ret2
    exact ⟨_, rfl, strs_nil _ _ _, hb1⟩

end Go.Proofs.YtdlmkienogimgaaGreatDoor

namespace Go.Proofs.YtdlmkienogimgaaGreatDoor
open Go.RowKit Go.Deep Go.Shelf

/-- The first k names, with / ahead. -/
def shp (ls : List (List UInt8)) (k : Nat) : List UInt8 := ((ls.take k).map fun x => 47 :: x).flatten
theorem shp_succ {ls : List (List UInt8)} {k : Nat} (h : k < ls.length) : shp ls (k + 1) = shp ls k ++ [47] ++ sth ls k := by
  unfold shp
  rw [List.take_add_one, List.getElem?_eq_getElem h, sth_lt h, List.map_append, List.flatten_append]
  simp [List.map_take]
theorem shp_all {ls : List (List UInt8)} (h : ls ≠ []) : shp ls ls.length = shw ls := by
  unfold shp shw
  rw [List.take_length]
  cases ls with
  | nil => exact absurd rfl h
  | cons n ns => rw [Lib.join_cons]; simp [Lib.joinTail]
theorem shp_len (ls : List (List UInt8)) : ∀ k, (shp ls k).length ≤ wid ls := by
  induction ls with
  | nil => intro k; simp [shp]
  | cons n ns ih =>
    intro k
    rw [wid_cons]
    cases k with
    | zero => simp [shp]
    | succ k =>
      have := ih k
      unfold shp at this ⊢
      simp at this ⊢
      omega
theorem wid_at {ls : List (List UInt8)} {k : Nat} (h : k < ls.length) : (sth ls k).length ≤ wid ls := by
  have hm := sth_mem h
  obtain ⟨a, b, e⟩ := List.append_of_mem hm
  conv => rhs; rw [e]
  rw [wid_append, wid_cons]; omega

set_option maxHeartbeats 2000000 in
theorem shown_any (w : World) (v : Value) (ls : List (List UInt8)) (hx : StrsIs w v ls) (hw : wid ls ≤ 1000000) :
    Calls Tryz.prog 10 #[v] w fun e w' => e = .returned (.string (bs (shw ls))) ∧ w = w' := by
  obtain ⟨a, c, b, o, rfl, _, hl, ha, hc⟩ := hx.where
  by_cases h0 : ls = []
  · subst h0
    go_enter Tryz.func10, Tryz.ntmps10
    go_wp2
    go_ret
    exact ⟨rfl, rfl⟩
  · rw [← shp_all h0]
    have hp : 0 < ls.length := List.length_pos_iff.2 h0
    obtain ⟨n, hxn⟩ : ∃ n, n = ls.length := ⟨_, rfl⟩
    have HX : Hid (n = ls.length) := hxn
    have haa := (ha hp).1
    subst haa
    rw [← hxn] at hl hc hp ⊢
    have HC : Hid (∀ i, i < n → w.cell? ⟨b, o + i, none⟩ = some (.string (bs (sth ls i)))) := hc
    have HL : Hid (∀ k, (bs (shp ls k)).size ≤ 1000000) := fun k => by rw [size_bs]; exact Nat.le_trans (shp_len ls k) hw
    have HM : Hid (∀ k, k < n → (bs (sth ls k)).size ≤ 1000000) := fun k hk => by rw [size_bs]; exact Nat.le_trans (wid_at (by rw [← hxn]; exact hk)) hw
    unfold maxLen at hl
    clear ha hc hxn hx h0 hw
    go_enter Tryz.func10, Tryz.ntmps10
    go_wp2
    go_loop [3, 4] (fun s i => ∃ k : Nat, k ≤ n ∧ i = .int .i64 k ∧ s = .string (bs (shp ls k))) (fun _ i => n - (intOf i).toNat)
    case atStart => exact ⟨0, Nat.zero_le _, rfl, rfl⟩
    case round =>
      obtain ⟨k, hk, rfl, rfl⟩ := hrel
      have h1 := HL.out k
      have h1' : (bs (shp ls k) ++ ⟨#[47]⟩).size ≤ 1000001 := by rw [size_app, size_one]; omega
      by_cases hlt : k < n
      · have hck := HC.out k hlt
        have h2 := HM.out k hlt
        go_wp2
        go_round
        case rel =>
          refine ⟨k + 1, by omega, by go_num, ?_⟩
          rw [shp_succ (by rw [← HX.out]; exact hlt), ← bs_app, ← bs_app]; rfl
        case measure => simp [intOf]; omega
      · have hkn : k = n := by omega
        subst hkn
        go_wp2
        go_ret
        exact ⟨rfl, rfl⟩

end Go.Proofs.YtdlmkienogimgaaGreatDoor
