/- This text proves that the law's closed fact is true; old memory is as it was; the only condition is that the library's variable internal/bytealg.MaxLen holds some number. -/
import Derived.Test.YtdlmkienogimgaaGreatDoorT21
import Derived.Test.YtdlmkienogimgaaGreatDoorT19
import Derived.Test.YtdlmkienogimgaaGreatDoorQ8t
namespace Go.Proofs.YtdlmkienogimgaaGreatDoor
open Go.RowKit Go.Deep Go.Shelf Go.Maps

theorem pE_a : pE [47, 97] = 0 := by decide +kernel
theorem pN_a : pN [47, 97] = [] ++ [[97]] := by decide +kernel
theorem pE_ax : pE [47, 97, 47, 120] = 0 := by decide +kernel
theorem pN_ax : pN [47, 97, 47, 120] = [[97]] ++ [[120]] := by decide +kernel
theorem pE_y : pE [47, 121] = 0 := by decide +kernel
theorem pN_y : pN [47, 121] = [] ++ [[121]] := by decide +kernel

theorem puE_ok {L : List Ent} {M : Nat → Option Nat} {l : List UInt8} {q : List (List UInt8)} {k : List UInt8} {d m : Nat} (h : pE l = 0) (hn : pN l = q ++ [k]) (ha : atF L M q = (0, some d)) (hd : M d = some m) (hf : look L (q ++ [k]) = none) (hl : L.length ≤ 24) : puE L M l = 0 := by
  obtain ⟨h0, _⟩ := spE_good h hn ha hd
  have hfr : frE L M l = 0 := by unfold frE; rw [if_neg (by simp [h0]), hn, hf]; rfl
  unfold puE
  rw [if_neg (by simp [hfr]), if_neg (by omega)]
theorem atF_nil {L : List Ent} {M : Nat → Option Nat} {r : Nat} (h : look L [] = some r) : atF L M [] = (0, some r) := by
  unfold atF rootOf; rw [h]; rfl
theorem atF_good {L : List Ent} {M : Nat → Option Nat} (hG : Good L M) {ns : List (List UInt8)} {j : Nat} (h : look L ns = some j) : atF L M ns = (0, some j) := by
  rcases atF_cases hG ns with ⟨j', h1, h2⟩ | ⟨e, _, h1, h2⟩
  · rw [h] at h2
    cases h2
    exact h1
  · rw [h] at h2; cases h2
theorem atS_good {L : List Ent} {M : Nat → Option Nat} (hG : Good L M) {l : List UInt8} {j : Nat} (he : pE l = 0) (h : look L (pN l) = some j) : atS L M l = (0, some j) := by
  unfold atS
  rw [if_pos he, atF_good hG h]

theorem fact_one {r n : Nat} {M M' : Nat → Option Nat} {L' : List Ent} (hr : (M r).isSome = true) (h : MkS true [([], r)] M [47, 97] n L' M') : n = 0 ∧ ∃ i, L' = [([], r), ([[97]], i)] ∧ (M' i).isSome = true ∧ (M' r).isSome = true ∧ i ≠ r := by
  obtain ⟨h1, i, h2, h3, h4, h5⟩ := h
  obtain ⟨m, hm⟩ := Option.isSome_iff_exists.1 hr
  have h0 : puE [([], r)] M [47, 97] = 0 := puE_ok pE_a pN_a (atF_nil (by simp [look])) hm (by simp [look]) (by simp)
  have hne : i ≠ r := fun e => h2 [] (by simp [e])
  rw [h0] at h1
  rw [h0, if_pos rfl, pN_a] at h5
  exact ⟨h1, i, h5, h3, by rw [h4 r (Ne.symm hne)]; exact hr, hne⟩
theorem fact_two {r i n : Nat} {M M' : Nat → Option Nat} {L' : List Ent} (hG : Good [([], r), ([[97]], i)] M) (hi : (M i).isSome = true) (h : MkS false [([], r), ([[97]], i)] M [47, 97, 47, 120] n L' M') :
    n = 0 ∧ ∃ j, L' = [([], r), ([[97]], i), ([[97], [120]], j)] ∧ M' j = none ∧ (M' r = M r) ∧ (M' i = M i) ∧ j ≠ i := by
  obtain ⟨h1, j, h2, h3, h4, h5⟩ := h
  obtain ⟨m, hm⟩ := Option.isSome_iff_exists.1 hi
  have h0 : puE [([], r), ([[97]], i)] M [47, 97, 47, 120] = 0 := puE_ok pE_ax pN_ax (atF_good hG (by simp [look])) hm (by simp [look]) (by simp)
  have n1 : j ≠ r := fun e => h2 [] (by simp [e])
  have n2 : j ≠ i := fun e => h2 [[97]] (by simp [e])
  rw [h0] at h1
  rw [h0, if_pos rfl, pN_ax] at h5
  exact ⟨h1, j, h5, by simpa using h3, h4 r (Ne.symm n1), h4 i (Ne.symm n2), n2⟩
theorem fact_three {r i j : Nat} {M : Nat → Option Nat} (hG : Good [([], r), ([[97]], i), ([[97], [120]], j)] M) (hj : M j = none) :
    lkE [([], r), ([[97]], i), ([[97], [120]], j)] M [47, 97, 47, 120] [47, 121] = 0 ∧ lkL [([], r), ([[97]], i), ([[97], [120]], j)] M [47, 97, 47, 120] [47, 121] = [([], r), ([[97]], i), ([[97], [120]], j), ([[121]], j)] := by
  have h1 := atS_good hG (l := [47, 97, 47, 120]) (j := j) pE_ax (by rw [pN_ax]; simp [look])
  have hth : thing [([], r), ([[97]], i), ([[97], [120]], j)] M [47, 97, 47, 120] = j := by unfold thing; rw [h1]; rfl
  obtain ⟨r', hr', hrm⟩ := hG.start
  obtain ⟨m, hm⟩ := Option.isSome_iff_exists.1 hrm
  have hr2 : r' = r := hG.uni.same hr' (by simp)
  subst hr2
  have h0 : puE [([], r'), ([[97]], i), ([[97], [120]], j)] M [47, 121] = 0 := puE_ok pE_y pN_y (atF_nil (by simp [look])) hm (by simp [look]) (by simp)
  have hE : lkE [([], r'), ([[97]], i), ([[97], [120]], j)] M [47, 97, 47, 120] [47, 121] = 0 := by
    unfold lkE
    rw [h1, if_neg (by simp), hth, hj, if_neg (by simp), h0]
  refine ⟨hE, ?_⟩
  unfold lkL
  rw [if_pos hE, hth, pN_y]; rfl
theorem fact_four {r i j : Nat} {M : Nat → Option Nat} (hG : Good [([], r), ([[97]], i), ([[97], [120]], j), ([[121]], j)] M) (hi : (M i).isSome = true) (hj : M j = none) (hne : j ≠ i) :
    (atS [([], r), ([[97]], i), ([[97], [120]], j), ([[121]], j)] M [47, 121]).1 = 0 ∧ nmN [([], r), ([[97]], i), ([[97], [120]], j), ([[121]], j)] M [47, 121] = 2 ∧ txs [([], r), ([[97]], i), ([[97], [120]], j), ([[121]], j)] M = [[47, 97, 47], [47, 97, 47, 120], [47, 121]] := by
  have h1 := atS_good hG (l := [47, 121]) (j := j) pE_y (by rw [pN_y]; simp [look])
  have hth : thing [([], r), ([[97]], i), ([[97], [120]], j), ([[121]], j)] M [47, 121] = j := by unfold thing; rw [h1]; rfl
  have hp := wka_perm hG
  refine ⟨by rw [h1], ?_, ?_⟩
  · unfold nmN
    rw [h1, hth, if_pos ⟨rfl, hj⟩, hp.countP_eq]
    simp [Ne.symm hne]
  · refine rise_one (R := fun a b : List UInt8 => a < b) (fun a => List.lt_irrefl _) (fun a b c => List.lt_trans) (txs_rise hG) (by decide) fun x => ?_
    unfold txs
    rw [(hp.map _).mem_iff]
    simp [tx, hi, hj, shw, Lib.join]

theorem strs_lit3 (w : World) (x y z : List UInt8) : StrsIs (w.alloc (.cells #[.string (bs x), .string (bs y), .string (bs z)] 9)) (.slice (some ⟨w.heap.size, 0, none⟩) 3 3) [x, y, z] :=
  ⟨_, 3, rfl, Nat.le_refl _, by simp [maxLen], fun _ => ⟨w.heap.size, 0, rfl, by simp, fun i hi => by
    have hi3 : i < 3 := by simpa using hi
    rw [Nat.zero_add]
    refine (cell_new w _ _ _).trans ?_
    match i, hi3 with
    | 0, _ => rfl
    | 1, _ => rfl
    | 2, _ => rfl⟩⟩

set_option maxHeartbeats 8000000 in
set_option maxRecDepth 100000 in
theorem fact_any (w : World) (hm : Mx w) : Calls Tryz.prog 6 #[] w fun e w' => e = .returned (.bool true) ∧ Below w.heap.size w w' := by
  have H1 : Hid _ := fun (w1 : World) (t r : Nat) (M : Nat → Option Nat) (h : TreeAt w1 w.heap.size t [([], r)] M) (hb : Turned w.heap.size w w1) => dir_any w1 w.heap.size t _ M h ⟨#[47, 97]⟩ (by decide) (hm.turned hb) hb.below.size
  have H2 : Hid _ := fun (w1 : World) (t : Nat) (L : List Ent) (M : Nat → Option Nat) (h : TreeAt w1 w.heap.size t L M) (hb : Turned w.heap.size w w1) => file_any w1 w.heap.size t L M h ⟨#[47, 97, 47, 120]⟩ (by decide) (hm.turned hb) hb.below.size
  have H3 : Hid _ := fun (w1 : World) (t : Nat) (L : List Ent) (M : Nat → Option Nat) (h : TreeAt w1 w.heap.size t L M) (hb : Turned w.heap.size w w1) => link_any w1 w.heap.size t L M h ⟨#[47, 97, 47, 120]⟩ ⟨#[47, 121]⟩ (by decide) (by decide) (hm.turned hb) hb.below.size
  have H4 : Hid _ := fun (w1 : World) (t : Nat) (L : List Ent) (M : Nat → Option Nat) (h : TreeAt w1 w.heap.size t L M) (hb : Turned w.heap.size w w1) => names_any w1 w.heap.size t L M h ⟨#[47, 121]⟩ (by decide) (hm.turned hb)
  unfold ptr at H1 H2 H3 H4
  go_enter Tryz.func6, Tryz.ntmps6
  go_wp2_with (first
    | (go_at_call 17; refine (new_any w w.heap.size (Nat.le_refl _)).mono ?_; unfold ptr; rintro e w1 ⟨t, r, M0, rfl, hr, hT1, hb1⟩; have hB1 : Turned w.heap.size w w1 := Turned.of_below hb1 (Nat.le_refl _))
    | (go_at_call 14; refine (H1.out _ _ _ _ hT1 hB1).mono ?_; rintro e w2 ⟨n1, L1, M1, rfl, g1, hT2, k2⟩; obtain ⟨rfl, i, rfl, hi, hri, hir⟩ := fact_one hr g1; rw [errV_zero]; have hB2 := hB1.trans k2)
    | (go_at_call 12; refine (H2.out _ _ _ _ hT2 hB2).mono ?_; rintro e w3 ⟨n2, L2, M2, rfl, g2, hT3, k3⟩; obtain ⟨rfl, j, rfl, hj, hjr, hji, hne⟩ := fact_two hT2.good hi g2; rw [errV_zero]; have hB3 := hB2.trans k3)
    | (go_at_call 29; refine (H3.out _ _ _ _ hT3 hB3).mono ?_; rintro e w4 ⟨rfl, hT4, k4⟩; obtain ⟨e1, e2⟩ := fact_three hT3.good hj; rw [e2] at hT4; rw [e1, errV_zero]; have hB4 := hB3.trans k4)
    | (go_at_call 26; refine (H4.out _ _ _ _ hT4 hB4).mono ?_; rintro e w5 ⟨rfl, k5⟩; obtain ⟨f1, f2, f3⟩ := fact_four hT4.good (by rw [hji]; exact hi) hj hne; rw [f1, f2, errV_zero]; have hT5 := hT4.later k5; have hB5 : Turned w.heap.size w w5 := hB4.trans (Turned.of_below k5 hB4.below.size))
    | (go_at_call 8; refine (treeWalk_any _ _ _ _ _ hT5).mono ?_; rintro e w6 ⟨v6, rfl, hv6, k6⟩; rw [f3] at hv6; have hs6 := strs_own hv6)
    | (go_at_call 15; refine (texts_any _ _ _ _ [[47, 97, 47], [47, 97, 47, 120], [47, 121]] (hs6.later (Nat.le_refl _) (below_alloc _ _)) (strs_lit3 _ _ _ _)).mono ?_; rw [eqS_self]; rintro e w7 ⟨rfl, k7⟩))
  go_ret
  have z5 := hB5.below.size
  exact ⟨rfl, hB5.below.trans ((k6.mono z5).trans (((below_alloc w6 _).trans (k7.mono (by simp))).mono (Nat.le_trans z5 k6.size)))⟩

end Go.Proofs.YtdlmkienogimgaaGreatDoor
