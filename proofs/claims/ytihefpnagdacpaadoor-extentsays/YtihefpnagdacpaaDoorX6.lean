/- This text proves what extent.change answers, for any question about the two sets that writes nothing: what is told, and the set of the places that become, in new memory; Add and Cut are that; the only condition is that the slice lies there. -/
import Derived.Test.YtihefpnagdacpaaDoorX5
import Derived.Deep.RegionHeld3
namespace Go.Proofs.YtihefpnagdacpaaDoor
open Go.RowKit Go.Deep

theorem runs_nil (w : World) : RunsIs w (.slice none 0 0) [] := ⟨none, 0, rfl, Nat.zero_le _, fun h => absurd rfl h⟩

theorem edg_two {l : List Rn} {r : Rn} (hr : isR r) : 2 ≤ (edg l r).length := by
  have h0 := (edg_len l r).1
  have h1 := up_first (edg_up l r) ((edg_mem l r r.1).2 (by simp))
  have h2 := up_first (edg_up l r) ((edg_mem l r (r.1 + r.2)).2 (by simp))
  unfold isR at hr
  by_cases h : 2 ≤ (edg l r).length
  · exact h
  · rw [show (edg l r).length - 1 = 0 by omega] at h1 h2
    omega

set_option maxHeartbeats 4000000 in
set_option maxRecDepth 100000 in
theorem change_any (g : Nat) (b : Bool → Bool → Bool) (hb0 : b false false = false) (eg : ∀ args w, (callFunc g args).run Tryd.prog w = .ok (.enter g args) w)
    (hg : ∀ (x y : Bool) (w : World), Calls Tryd.prog g #[.bool x, .bool y] w fun e w' => e = .returned (.bool (b x y)) ∧ w = w')
    (w : World) (v : Value) (l : List Rn) (r : Rn) (hx : RunsIs w v l) :
    Calls Tryd.prog 19 #[v, .agg #[.int .i64 r.1, .int .i64 r.2], .func (.func g) #[] #[]] w fun e w' => ∃ v', e = .returned (.tuple #[v', errV (chgE b l r)]) ∧ RunsIs w' v' (chgL b l r) ∧ Below w.heap.size w w' := by
  obtain ⟨F, T, rfl⟩ : ∃ F T, r = (F, T) := ⟨r.1, r.2, rfl⟩
  have b0 : Below w.heap.size w (w.alloc (.cells #[.int .i64 F, .int .i64 T] 24)) := below_one _ _
  have HC : Hid _ := fun (_ : Nat) => check_any (w.alloc (.cells #[.int .i64 F, .int .i64 T] 24)) v l (hx.later b0)
  have HB0 : Hid (Below w.heap.size w (w.alloc (.cells #[.int .i64 F, .int .i64 T] 24))) := b0
  clear b0
  by_cases h0 : runsE l = 0
  · rw [h0] at HC
    have HR0 : Hid (runsE l = 0) := h0
    have HLr : Hid (∀ x ∈ l, isR x) := ok_each h0
    have HL16 : Hid (l.length ≤ 16) := ((runsE_ok l).1 h0).1
    have HBX : Hid (∀ w1, Below (w.alloc (.cells #[.int .i64 F, .int .i64 T] 24)).heap.size (w.alloc (.cells #[.int .i64 F, .int .i64 T] 24)) w1 → w1.cell? ⟨w.heap.size, 0, none⟩ = some (.int .i64 F) ∧ w1.cell? ⟨w.heap.size, 1, none⟩ = some (.int .i64 T)) := fun w1 h => by
      exact ⟨by rw [h.cell (p := ⟨w.heap.size, 0, none⟩) (by simp)]; exact cell_new _ _ _ _, by rw [h.cell (p := ⟨w.heap.size, 1, none⟩) (by simp)]; exact cell_new _ _ _ _⟩
    cases hrb : rB (F, T) with
    | false =>
      have HE : Hid (chgE b l (F, T) = 1) := by show chgE b l (F, T) = 1; unfold chgE; rw [if_neg (by rw [h0]; simp), if_pos hrb]
      have HV : Hid (chgL b l (F, T) = []) := by show chgL b l (F, T) = []; unfold chgL; rw [HE.out]; rfl
      have HI : Hid (rB (F, T) = false) := hrb
      clear hrb h0
      go_enter Tryd.func19, Tryd.ntmps19
      go_wp2_with (first | (go_at_call 6; refine (HC.out 0).mono ?_; rintro e w1 ⟨rfl, hb1⟩; rw [errV_zero]; obtain ⟨c0, c1⟩ := HBX.out w1 hb1) | (go_at_call 16; refine (isRun_any _ _ _).mono ?_; rintro e w2 ⟨rfl, hb2⟩; rw [HI.out]))
      go_ret2
      exact ⟨_, by rw [HE.out]; rfl, by rw [HV.out]; exact runs_nil _, Below.next (Below.next HB0.out hb1) hb2⟩
    | true =>
      have HI : Hid (rB (F, T) = true) := hrb
      have HRr : Hid (isR (F, T)) := (rB_iff _).1 hrb
      have HEd : Hid _ := fun (w1 : World) (h : Below w.heap.size w w1) => edgesOf_any w1 v l (F, T) (hx.later h) HLr.out HRr.out HL16.out
      have HX : Hid (RunsIs w v l) := hx
      clear hrb h0
      go_enter Tryd.func19, Tryd.ntmps19
      go_wp2_with (first | (go_at_call 6; refine (HC.out 0).mono ?_; rintro e w1 ⟨rfl, hb1⟩; rw [errV_zero]; obtain ⟨c0, c1⟩ := HBX.out w1 hb1) | (go_at_call 16; refine (isRun_any _ _ _).mono ?_; rintro e w2 ⟨rfl, hb2⟩; rw [HI.out]; obtain ⟨d0, d1⟩ := HBX.out w2 (Below.next hb1 hb2)))
      refine (HEd.out _ (Below.next (Below.next HB0.out hb1) hb2)).mono ?_
      rintro e w3 ⟨v3, rfl, ho3, hb3⟩
      obtain ⟨ge, cap, rfl, hg1, hg2⟩ := own_where ho3 (edg_len l (F, T)).1
      have HB3 : Hid (Below w.heap.size w w3) := Below.next (Below.next (Below.next HB0.out hb1) hb2) hb3
      have HBx : Hid (∀ w4, Below w3.heap.size w3 w4 → w4.cell? ⟨w.heap.size, 0, none⟩ = some (.int .i64 F) ∧ w4.cell? ⟨w.heap.size, 1, none⟩ = some (.int .i64 T)) := fun w4 h4 => HBX.out w4 (Below.next (Below.next (Below.next hb1 hb2) hb3) h4)
      have HEc : Hid (∀ w4, Below w3.heap.size w3 w4 → ∀ i, i < (edg l (F, T)).length → w4.cell? ⟨ge, i, none⟩ = some (.int .i64 (nth (edg l (F, T)) i))) := fun w4 h4 i hi => by
        rw [h4.cell (p := ⟨ge, i, none⟩) hg2, ho3.cellAt i (by omega), cellsOf_get hi]
      have HRx : Hid (∀ w4, Below w3.heap.size w3 w4 → RunsIs w4 v l) := fun w4 h4 => HX.out.later (Below.next HB3.out h4)
      have hcap : (edg l (F, T)).length ≤ cap ∧ cap ≤ maxLen := by
        have := own_holds ho3
        exact ⟨this.2.1, this.2.2.1⟩
      have h2 : 2 ≤ (edg l (F, T)).length := edg_two HRr.out
      have h34 : (edg l (F, T)).length ≤ 34 := by have := (edg_len l (F, T)).2; have := HL16.out; omega
      have HEI : Hid (∀ i, i < (edg l (F, T)).length → 0 ≤ nth (edg l (F, T)) i ∧ nth (edg l (F, T)) i ≤ 1000) := fun i hi => edg_in HLr.out HRr.out (nth_mem hi)
      have HST : Hid (EdI b l (F, T) [] 0) := EdI.start hb0 HLr.out HRr.out
      have HSP : Hid _ := fun (s : List Rn) (i : Nat) (h : EdI b l (F, T) s i) => h.step HLr.out HRr.out
      have HDN : Hid _ := fun (s : List Rn) (i : Nat) (h : EdI b l (F, T) s i) => h.done hb0
      have HUP : Hid (∀ i, i + 1 < (edg l (F, T)).length → nth (edg l (F, T)) i < nth (edg l (F, T)) (i + 1)) := fun i hi => up_lt (edg_up l (F, T)) (by omega) hi
      obtain ⟨m, hm⟩ : ∃ m, m + 1 = (edg l (F, T)).length := ⟨(edg l (F, T)).length - 1, by omega⟩
      rw [← hm] at hcap h2 h34 HEc HEI HUP ⊢
      have HM : Hid (m + 1 = (edg l (F, T)).length) := hm
      obtain ⟨hc1, hc2⟩ := hcap
      have hc3 : 1 ≤ cap := by omega
      have hc4 : ¬ cap = 1 := by omega
      unfold maxLen at hc2
      clear ho3 hb3 hb2 hb1 hm c0 c1 d0 d1 hg1 hx HBX HEd HC
      go_wp2
      go_loopw [9, 11, 12, 13, 29] (fun se _ _ _ i wr => ∃ (k : Nat) (s : List Rn), k ≤ m ∧ i = .int .i64 k ∧ EdI b l (F, T) s k ∧ wr.ownsRow w3.heap.size 24 2 se s.length (rdc s) ∧ Below w3.heap.size w3 wr) (fun _ _ _ _ i _ => m - (intOf i).toNat)
      case atStart => exact ⟨0, [], Nat.zero_le _, rfl, HST.out, World.ownsRow_nil _ _ _ _, Below.refl _ _⟩
      case round =>
        obtain ⟨k, s, hk, rfl, hed, hO, hbr⟩ := hrel
        have HO : Hid (wr.ownsRow w3.heap.size 24 2 u9 s.length (rdc s)) := hO
        have HED : Hid (EdI b l (F, T) s k) := hed
        have HBr : Hid (Below w3.heap.size w3 wr) := hbr
        clear hed hO
        by_cases hlt : k < m
        · have c1 : wr.cell? ⟨ge, 1 + k, none⟩ = some (.int .i64 (nth (edg l (F, T)) (k + 1))) := by rw [Nat.add_comm]; exact HEc.out _ hbr (k + 1) (by omega)
          have c0 : wr.cell? ⟨ge, k, none⟩ = some (.int .i64 (nth (edg l (F, T)) k)) := HEc.out _ hbr k (by omega)
          obtain ⟨x0, x1⟩ := HBx.out _ hbr
          obtain ⟨e0, e1⟩ := HEI.out k (by omega)
          obtain ⟨e2, e3⟩ := HEI.out (k + 1) (by omega)
          have e4 := HUP.out k (by omega)
          have hlow := HED.out.low
          have HSP2 : Hid _ := HSP.out s k HED.out (by rw [← HM.out]; omega)
          generalize nth (edg l (F, T)) (k + 1) = E1 at c1 e2 e3 e4 HSP2
          generalize nth (edg l (F, T)) k = E0 at c0 e0 e1 e4 hlow HSP2
          have HKx : Hid (∀ w4, Below wr.heap.size wr w4 → w4.cell? ⟨w.heap.size, 0, none⟩ = some (.int .i64 F) ∧ w4.cell? ⟨w.heap.size, 1, none⟩ = some (.int .i64 T)) := fun w4 h4 => HBx.out w4 (Below.next HBr.out h4)
          have HSH : Hid _ := fun (w4 : World) (h : Below wr.heap.size wr w4) => setHas_any w4 v l E0 (HRx.out w4 (Below.next HBr.out h)) HLr.out
          have HRH : Hid _ := fun (w4 : World) => runHas_any (F, T) E0 w4 HRr.out
          have HGR : Hid _ := fun (w4 : World) (h : Below wr.heap.size wr w4) => grow_any w4 w3.heap.size u9 s E0 E1 (xown_later HO.out h) (by have := HBr.out.size; have := h.size; omega) (fun x hx => by have := HED.out.ok.each x hx; unfold isR; omega) hlow e0 e4 e3 (by have := HED.out.len; omega)
          have HGL : Hid (∀ w4 w5, Below wr.heap.size wr w4 → Below w3.heap.size w4 w5 → Below w3.heap.size w3 w5) := fun w4 w5 h4 h5 => (Below.next HBr.out h4).trans h5
          clear hbr hlow
          cases hbv : b (memR l E0) (inR (F, T) E0) with
          | true =>
            have HBV : Hid (b (memR l E0) (inR (F, T) E0) = true) := hbv
            have HN : Hid (EdI b l (F, T) (gro s E0 E1) (k + 1)) := HSP2.out.1 hbv
            clear hbv
            go_wp2_with fail
            go_region_held3 (fun w' => w'.cell? ⟨w.heap.size, 0, none⟩ = some (.int .i64 F) ∧ w'.cell? ⟨w.heap.size, 1, none⟩ = some (.int .i64 T))
              (first | go_keep | (go_split_ands; exact HKx.out _ HB6.out) | (go_split_ands; exact HKx.out _ HB5.out) | (go_split_ands; exact HKx.out _ HB4.out))
              (first | (go_at_call 18; refine (HSH.out _ (undrew2 (Below.refl _ _))).mono ?_; rintro e w4 ⟨rfl, hb4⟩; have HB4 : Hid (Below wr.heap.size wr w4) := undrew1 hb4) | (go_at_call 25; refine (HRH.out _).mono ?_; rintro e w5 ⟨rfl, hb5⟩; have HB5 : Hid (Below wr.heap.size wr w5) := Below.next HB4.out hb5) | (refine (hg _ _ _).mono ?_; rintro e w6 ⟨rfl, rfl⟩; rw [HBV.out]; have HB6 : Hid (Below wr.heap.size wr w5) := HB5.out))
            clear hb4 hb5 c0 c1 x0 x1
            go_wp2_with (go_at_call 27; refine (HGR.out _ HB6.out).mono ?_; rintro e w7 ⟨v7, rfl, ho7, hb7⟩)
            have HO7 : Hid (w7.ownsRow w3.heap.size 24 2 v7 (gro s E0 E1).length (rdc (gro s E0 E1))) := ho7
            have HB7 : Hid (Below w3.heap.size w3 w7) := HGL.out _ _ HB6.out hb7
            clear ho7 hb7
            go_roundw
            case rel => exact ⟨k + 1, gro s E0 E1, by omega, by go_num, HN.out, HO7.out, HB7.out⟩
            case measure => simp [intOf]; omega
          | false =>
            have HBV : Hid (b (memR l E0) (inR (F, T) E0) = false) := hbv
            have HN : Hid (EdI b l (F, T) s (k + 1)) := HSP2.out.2 hbv
            clear hbv
            go_wp2_with fail
            go_region_held3 (fun w' => w'.cell? ⟨w.heap.size, 0, none⟩ = some (.int .i64 F) ∧ w'.cell? ⟨w.heap.size, 1, none⟩ = some (.int .i64 T))
              (first | go_keep | (go_split_ands; exact HKx.out _ HB6.out) | (go_split_ands; exact HKx.out _ HB5.out) | (go_split_ands; exact HKx.out _ HB4.out))
              (first | (go_at_call 18; refine (HSH.out _ (undrew2 (Below.refl _ _))).mono ?_; rintro e w4 ⟨rfl, hb4⟩; have HB4 : Hid (Below wr.heap.size wr w4) := undrew1 hb4) | (go_at_call 25; refine (HRH.out _).mono ?_; rintro e w5 ⟨rfl, hb5⟩; have HB5 : Hid (Below wr.heap.size wr w5) := Below.next HB4.out hb5) | (refine (hg _ _ _).mono ?_; rintro e w6 ⟨rfl, rfl⟩; rw [HBV.out]; have HB6 : Hid (Below wr.heap.size wr w5) := HB5.out))
            clear hb4 hb5 c0 c1 x0 x1
            go_wp2
            go_roundw
            case rel => exact ⟨k + 1, s, by omega, by go_num, HN.out, xown_later HO.out HB6.out, Below.next HBr.out HB6.out⟩
            case measure => simp [intOf]; omega
        · obtain rfl : k = m := by omega
          have HS : Hid (s = bld (chP b l (F, T)) 1000) := HDN.out s k HED.out HM.out
          have hs34 : s.length ≤ 34 := by have := HED.out.len; omega
          obtain ⟨a9, c9, rfl⟩ := rown_form HO.out
          have HRS : Hid (RunsIs wr (.slice a9 s.length c9) s) := runs_own HO.out (by unfold maxLen; omega)
          have HBn : Hid (Below w.heap.size w wr) := Below.next HB3.out HBr.out
          have hkk : ¬ (k : Int) < (k : Int) := by omega
          clear hbr
          by_cases h16 : 16 < s.length
          · have HE : Hid (chgE b l (F, T) = 4) := by show chgE b l (F, T) = 4; unfold chgE; rw [if_neg (by rw [HR0.out]; simp), if_neg (by rw [HI.out]; simp), ← HS.out, if_pos h16]
            have HV : Hid (chgL b l (F, T) = []) := by show chgL b l (F, T) = []; unfold chgL; rw [HE.out]; rfl
            generalize s.length = z at h16 hs34 HRS ⊢
            have h16' : (16 : Int) < (z : Int) := by omega
            go_wp2
            go_ret2
            exact ⟨_, by rw [HE.out]; rfl, by rw [HV.out]; exact runs_nil _, HBn.out⟩
          · have HE : Hid (chgE b l (F, T) = 0) := by show chgE b l (F, T) = 0; unfold chgE; rw [if_neg (by rw [HR0.out]; simp), if_neg (by rw [HI.out]; simp), ← HS.out, if_neg h16]
            have HV : Hid (chgL b l (F, T) = s) := by show chgL b l (F, T) = s; unfold chgL; rw [if_pos HE.out, HS.out]
            generalize s.length = z at h16 hs34 HRS ⊢
            have h16' : ¬ (16 : Int) < (z : Int) := by omega
            go_wp2
            go_ret2
            exact ⟨_, by rw [HE.out]; rfl, by rw [HV.out]; exact HRS.out, HBn.out⟩
  · have HE : Hid (chgE b l (F, T) = runsE l) := by show chgE b l (F, T) = runsE l; unfold chgE; rw [if_pos h0]
    have HV : Hid (chgL b l (F, T) = []) := by show chgL b l (F, T) = []; unfold chgL; rw [HE.out, if_neg h0]
    have HZ : Hid (errV (runsE l) = .iface 42 (.int .i64 ((runsE l : Nat) : Int))) := errV_pos h0
    rw [HZ.out] at HC
    rw [HE.out, HZ.out]
    clear hx h0
    generalize ((runsE l : Nat) : Int) = z at HC ⊢
    go_enter Tryd.func19, Tryd.ntmps19
    go_wp2_with (first | (go_at_call 6; refine (HC.out 0).mono ?_; rintro e w1 ⟨rfl, hb1⟩))
    go_ret2
    exact ⟨_, rfl, by rw [HV.out]; exact runs_nil _, Below.next HB0.out hb1⟩

end Go.Proofs.YtihefpnagdacpaaDoor
