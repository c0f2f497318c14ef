/- This text proves what the document's own function Changed (package platterholdref1) answers: what is told, and the set of the places that become, in new memory, place by place; old memory stays; the only condition is that the slice lies there. -/
import Derived.Test.YtihefpnagdacpaaDoorY1
import Derived.Test.YtihefpnagdacpaaDoorX6
import Derived.Test.YtihefpnagdacpaaDoorSp
namespace Go.Proofs.YtihefpnagdacpaaDoor
open Go.RowKit Go.Deep

theorem bld_true {f : Int → Bool} {k : Nat} (h : f (k : Int) = true) : bld f (k + 1) = gro (bld f k) k ((k : Int) + 1) := by
  show (if f (k : Int) = true then _ else _) = _
  rw [if_pos h]
theorem bld_false {f : Int → Bool} {k : Nat} (h : f (k : Int) = false) : bld f (k + 1) = bld f k := by
  show (if f (k : Int) = true then _ else _) = _
  rw [if_neg (by rw [h]; simp)]
/-- Was the place ahead in it? -/
def ahB (f : Int → Bool) (k : Nat) : Bool := decide (eF (-1) (bld f k) = (k : Int))
theorem ahB_next {f : Int → Bool} {k : Nat} (hk : k < 1000) : ahB f (k + 1) = f (k : Int) := by
  have := (bld_ok f (k + 1) (by omega)).2.2.1 (by omega)
  rw [show ((k + 1 : Nat) : Int) - 1 = (k : Int) by omega] at this
  unfold ahB
  rw [Bool.eq_iff_iff, decide_eq_true_iff, this]
theorem ahB_zero (f : Int → Bool) : ahB f 0 = false := rfl

theorem rown_down {w : World} {base e z g n cap k : Nat} {xs : List Value} (h : w.ownsRow base e z (.slice (some ⟨g, 0, none⟩) n cap) n xs) (hk : k ≤ n) : w.ownsRow base e z (.slice (some ⟨g, 0, none⟩) k cap) k (xs.take (k * z)) := by
  have hl := h.1
  have hz : k * z ≤ n * z := Nat.mul_le_mul_right z hk
  refine ⟨by rw [List.length_take]; omega, ?_⟩
  rcases h.2 with ⟨h0, _⟩ | ⟨g', cap', cur, h0, h1, h2, h3, h4, h5, h6⟩
  · cases h0
  · cases h0
    refine .inr ⟨g, cap, cur, rfl, h1, h2, by omega, h4, h5, ?_⟩
    rw [← h6, List.take_take, Nat.min_eq_left hz]
theorem rdc_front (a : List Rn) (x : Rn) : (rdc (a ++ [x])).take (a.length * 2) = rdc a := by
  rw [rdc_append, ← rdc_len a, List.take_left']
  rfl

theorem one_run {w : World} {f s : Int} {t : TypeId} : RunsIs (w.alloc (.cells #[.int .i64 f, .int .i64 s] t)) (.slice (some ⟨w.heap.size, 0, none⟩) 1 1) [(f, s)] := by
  refine ⟨_, 1, rfl, by unfold maxLen; simp, fun _ => ⟨w.heap.size, 0, rfl, by simp, fun i hi => ?_⟩⟩
  obtain rfl : i = 0 := by simpa using hi
  exact ⟨cell_new _ _ _ _, cell_new _ _ _ _⟩

set_option maxHeartbeats 8000000 in
set_option maxRecDepth 100000 in
theorem chgd_add (w : World) (v : Value) (l : List Rn) (r : Rn) (hx : RunsIs w v l) :
    Calls Tryd.prog 10 #[v, .agg #[.int .i64 r.1, .int .i64 r.2], .bool true] w fun e w' => ∃ v', e = .returned (.tuple #[v', .int .i64 ((chgE orB l r : Nat) : Int)]) ∧ RunsIs w' v' (chgL orB l r) ∧ Below w.heap.size w w' := by
  obtain ⟨F, T, rfl⟩ : ∃ F T, r = (F, T) := ⟨r.1, r.2, rfl⟩
  have b0 : Below w.heap.size w (w.alloc (.cells #[.int .i64 F, .int .i64 T] 24)) := below_one _ _
  have HC : Hid _ := fun (_ : Nat) => refRuns_any (w.alloc (.cells #[.int .i64 F, .int .i64 T] 24)) v l (hx.later b0)
  have HB0 : Hid (Below w.heap.size w (w.alloc (.cells #[.int .i64 F, .int .i64 T] 24))) := b0
  clear b0
  by_cases h0 : runsE l = 0
  · rw [h0] at HC
    have HR0 : Hid (runsE l = 0) := h0
    have HLr : Hid (∀ x ∈ l, isR x) := ok_each h0
    have HBX : Hid (∀ w1, Below (w.alloc (.cells #[.int .i64 F, .int .i64 T] 24)).heap.size (w.alloc (.cells #[.int .i64 F, .int .i64 T] 24)) w1 → w1.cell? ⟨w.heap.size, 0, none⟩ = some (.int .i64 F) ∧ w1.cell? ⟨w.heap.size, 1, none⟩ = some (.int .i64 T)) := fun w1 h => by
      exact ⟨by rw [h.cell (p := ⟨w.heap.size, 0, none⟩) (by simp)]; exact cell_new _ _ _ _, by rw [h.cell (p := ⟨w.heap.size, 1, none⟩) (by simp)]; exact cell_new _ _ _ _⟩
    cases hrb : rB (F, T) with
    | false =>
      have HE : Hid (chgE orB l (F, T) = 1) := by show chgE orB l (F, T) = 1; unfold chgE; rw [if_neg (by rw [h0]; simp), if_pos hrb]
      have HV : Hid (chgL orB l (F, T) = []) := by show chgL orB l (F, T) = []; unfold chgL; rw [HE.out]; rfl
      have HI : Hid (rB (F, T) = false) := hrb
      clear hrb h0
      go_enter Tryd.func10, Tryd.ntmps10
      go_wp2_with (first | (go_at_call 4; refine (HC.out 0).mono ?_; rintro e w1 ⟨rfl, hb1⟩; obtain ⟨c0, c1⟩ := HBX.out w1 hb1) | (go_at_call 14; refine (refRun_any _ _ _).mono ?_; rintro e w2 ⟨rfl, hb2⟩; rw [HI.out]))
      go_ret2
      exact ⟨_, by rw [HE.out]; rfl, by rw [HV.out]; exact runs_nil _, Below.next (Below.next HB0.out hb1) hb2⟩
    | true =>
      have HI : Hid (rB (F, T) = true) := hrb
      have HRr : Hid (isR (F, T)) := (rB_iff _).1 hrb
      have HX : Hid (RunsIs w v l) := hx
      obtain ⟨ti, hti, hz0, hz1, hz2⟩ := info_parts Tryd.info24
      clear hrb h0
      go_enter Tryd.func10, Tryd.ntmps10
      go_wp2_with fail
      refine (HC.out 0).mono ?_
      rintro e w1 ⟨rfl, hb1⟩
      obtain ⟨c0, c1⟩ := HBX.out w1 hb1
      go_wp2_with fail
      refine (refRun_any _ _ _).mono ?_
      rintro e w2 ⟨rfl, hb2⟩
      rw [HI.out]
      obtain ⟨d0, d1⟩ := HBX.out w2 (Below.next hb1 hb2)
      have HB2 : Hid (Below w.heap.size w w2) := Below.next (Below.next HB0.out hb1) hb2
      clear hb1 hb2 c0 c1
      go_wp2
      have HW0 : Hid (Below w.heap.size w (w2.alloc (.cells #[.int .i64 F, .int .i64 T] 24))) := Below.next HB2.out (below_one _ _)
      have HON : Hid (RunsIs (w2.alloc (.cells #[.int .i64 F, .int .i64 T] 24)) (.slice (some ⟨w2.heap.size, 0, none⟩) 1 1) [(F, T)]) := one_run
      generalize w2.alloc (.cells #[.int .i64 F, .int .i64 T] 24) = W0 at HW0 HON ⊢
      generalize w2.heap.size = B1 at HON ⊢
      clear d0 d1 HBX HC
      have HIL : Hid _ := fun (w1 : World) (k : Nat) (h : Below W0.heap.size W0 w1) => inRuns_any w1 v l (k : Int) (HX.out.later (Below.next HW0.out h)) HLr.out
      have HIO : Hid _ := fun (w1 : World) (k : Nat) (h : Below W0.heap.size W0 w1) => inRuns_any w1 (.slice (some ⟨B1, 0, none⟩) 1 1) [(F, T)] (k : Int) (HON.out.later h) (fun x hx => by obtain rfl := List.mem_singleton.1 hx; exact HRr.out)
      obtain ⟨f, hf⟩ : ∃ f, f = chP orB l (F, T) := ⟨_, rfl⟩
      have HF : Hid (f = chP orB l (F, T)) := hf
      have HFk : Hid (∀ k : Nat, f (k : Int) = orB (memR l (k : Int)) (inR (F, T) (k : Int))) := fun k => by rw [hf]; rfl
      clear hf
      go_loopw [10, 11, 12, 13, 14, 15] (fun ou ah i _ _ _ wr => ∃ k : Nat, k ≤ 1000 ∧ i = .int .i64 (k : Int) ∧ ah = .bool (ahB f k) ∧ wr.ownsRow W0.heap.size 24 2 ou (bld f k).length (rdc (bld f k)) ∧ Below W0.heap.size W0 wr) (fun _ _ i _ _ _ _ => 1000 - (intOf i).toNat)
      case atStart => exact ⟨0, by omega, rfl, rfl, World.ownsRow_nil _ _ _ _, Below.refl _ _⟩
      case round =>
        obtain ⟨k, hk, rfl, rfl, hO, hbr⟩ := hrel
        have HO : Hid (wr.ownsRow W0.heap.size 24 2 u10 (bld f k).length (rdc (bld f k))) := hO
        have HBr : Hid (Below W0.heap.size W0 wr) := hbr
        clear hO
        by_cases hlt : k < 1000
        · have hk1 : (k : Int) < 1000 := by omega
          have HI1 : Hid _ := fun (q : Nat) => HIL.out (wr.drewN q) k (Below.next HBr.out (below_drew _ _ _))
          have HI2 : Hid _ := fun (q : Nat) => HIO.out (wr.drewN q) k (Below.next HBr.out (below_drew _ _ _))
          have HI0 : Hid _ := fun (_ : Nat) => HIL.out wr k HBr.out
          rw [memR_one] at HI2
          have HFP := HFk.out k
          have HNX : Hid (ahB f (k + 1) = f (k : Int)) := ahB_next hlt
          obtain ⟨g1, g2, _, _, g5⟩ := bld_ok f k (by omega)
          have HOK : Hid (Okc (-1) (bld f k) ∧ eF (-1) (bld f k) ≤ (k : Int)) := ⟨g1, g2⟩
          clear g1 g2 hbr
          cases hin : inR (F, T) (k : Int) with
          | true =>
            have HIN : Hid (inR (F, T) (k : Int) = true) := hin
            have HN0 : Hid (ahB f (k + 1) = true) := by show ahB f (k + 1) = true; rw [HNX.out, HFP, hin]; cases memR l (k : Int) <;> rfl
            have HBL : Hid (bld f (k + 1) = gro (bld f k) k ((k : Int) + 1)) := bld_true (by rw [HFP, hin]; cases memR l (k : Int) <;> rfl)
            clear HFP hin
            generalize memR l (k : Int) = mm at HI0
            cases hah : ahB f k with
            | false =>
              have HGN : Hid (bld f (k + 1) = bld f k ++ [((k : Int), 1)]) := by
                show bld f (k + 1) = _
                unfold ahB at hah
                have := HOK.out.2
                rw [HBL.out, gro_new (by have := of_decide_eq_false hah; omega), show (k : Int) + 1 - (k : Int) = 1 by omega]
              have HLT : Hid (∀ k, u10.ownBlock = some k → W0.heap.size ≤ k) := fun k e => (HO.out.lt k e).1
              have HSZ : Hid (W0.heap.size ≤ wr.heap.size) := HBr.out.size
              have HOD : Hid (∀ q o, ((wr.drewN q).alloc o).ownsRow W0.heap.size 24 2 u10 (bld f k).length (rdc (bld f k))) := fun q o => (xown_later HO.out (below_drew _ _ _)).alloc o
              clear hah
              obtain ⟨z, hz⟩ : ∃ z, z = (bld f k).length := ⟨_, rfl⟩
              have HZ : Hid (z = (bld f k).length) := hz
              rw [← hz] at HO HOD g5
              clear hz
              go_wp2_with (first | (go_at_call_of 9 v; refine (HI0.out 0).mono ?_; rintro e w4 ⟨rfl, n4, rfl⟩) | (go_at_call 9; refine (HI2.out n4).mono ?_; rintro e w5 ⟨rfl, n5, rfl⟩; rw [HIN.out]) | (at_builtin; refine wpList_append_own _ rfl (.tmp 42) (.tmp 45) 22 rfl W0.heap.size 24 ti (.agg #[.int .i64 0, .int .i64 0]) 2 16 Tryd.underlying22 hti hz0 hz1 hz2 rfl (by decide) u10 z (rdc (bld f k)) rfl (HOD.out _ _) ⟨wr.heap.size, 0, none⟩ 1 1 [.int .i64 (k : Int), .int .i64 1] rfl rfl (news_twoI (wr.drewN (n4 + n5)) _ _ 24) (ones_two _ _) ?q1 ?q2 ?q3 ?q4))
              case q1 => unfold maxLen; omega
              case q2 => omega
              case q3 => have := HSZ.out; simp; omega
              case q4 =>
                intro v6 w6 hown hgr _
                have HO6 : Hid (w6.ownsRow W0.heap.size 24 2 v6 (bld f (k + 1)).length (rdc (bld f (k + 1)))) := by
                  rw [rdc_snoc ((k : Int), 1) (bld f k), ← HGN.out] at hown
                  rw [show (bld f (k + 1)).length = z + 1 by rw [HGN.out, List.length_append, ← HZ.out]; rfl]
                  exact hown
                have HB6 : Hid (Below W0.heap.size W0 w6) := by
                  have hq : Below W0.heap.size W0 ((wr.drewN (n4 + n5)).alloc (.cells #[.int .i64 (k : Int), .int .i64 1] 24)) := Below.next (Below.next HBr.out (below_drew _ _ _)) (below_one _ _)
                  exact hq.grown hgr hq.size HLT.out
                clear hown hgr
                go_wp2
                go_roundw
                case rel => exact ⟨k + 1, by omega, by go_num, by rw [HN0.out], HO6.out, HB6.out⟩
                case measure => simp [intOf]; omega
            | true =>
              obtain ⟨a, x, hax, hxe⟩ : ∃ a x, bld f k = a ++ [x] ∧ x.1 + x.2 = (k : Int) := by
                have he : eF (-1) (bld f k) = (k : Int) := of_decide_eq_true hah
                rcases snoc_cases (bld f k) with h | ⟨a, x, h⟩
                · rw [h] at he
                  have : (-1 : Int) = (k : Int) := he
                  omega
                · rw [h, eF_snoc] at he
                  exact ⟨a, x, h, he⟩
              have HGN : Hid (bld f (k + 1) = a ++ [(x.1, x.2 + 1)]) := by
                show bld f (k + 1) = _
                rw [HBL.out, hax, gro_grow hxe (by omega), show (k : Int) + 1 - (k : Int) = 1 by omega]
              have hxr := (HOK.out.1.each x (by rw [hax]; simp))
              have hle : a.length + 1 ≤ k := by rw [hax, List.length_append] at g5; exact g5
              have hO := HO.out
              rw [hax, show (a ++ [x]).length = a.length + 1 by simp] at hO
              obtain ⟨g, cap, rfl, hg1, hg2⟩ := rown_where hO (by omega)
              have hcap : a.length + 1 ≤ cap := by
                rcases hO.2 with ⟨h0, _⟩ | ⟨g', cap', cur, h0, _, _, h3, _⟩ <;> cases h0
                exact h3
              have hcap2 : cap ≤ maxLen := by
                rcases hO.2 with ⟨h0, _⟩ | ⟨g', cap', cur, h0, _, _, _, h3, _⟩ <;> cases h0
                exact h3
              have k0 : wr.cell? ⟨g, a.length * 2, none⟩ = some (.int .i64 x.1) := by
                have := (rdc_even (a ++ [x]) a.length (by simp)).1
                rw [rAt_last] at this
                rw [hO.cellAt (a.length * 2) (by omega)]; exact this
              have k1 : wr.cell? ⟨g, a.length * 2 + 1, none⟩ = some (.int .i64 x.2) := by
                have := (rdc_even (a ++ [x]) a.length (by simp)).2
                rw [rAt_last] at this
                rw [hO.cellAt (a.length * 2 + 1) (by omega)]; exact this
              have hOd := rown_down hO (show a.length ≤ a.length + 1 by omega)
              rw [rdc_front] at hOd
              have HOD : Hid (∀ W1, Below wr.heap.size wr W1 → W1.ownsRow W0.heap.size 24 2 (.slice (some ⟨g, 0, none⟩) a.length cap) a.length (rdc a)) := fun W1 h => xown_later hOd h
              have HLA : Hid ((a ++ [(x.1, x.2 + 1)]).length = a.length + 1) := by show List.length _ = _; simp
              have HRD : Hid (rdc a ++ [.int .i64 x.1, .int .i64 (x.2 + 1)] = rdc (a ++ [(x.1, x.2 + 1)])) := rdc_snoc (x.1, x.2 + 1) a
              have HGG : Hid (W0.heap.size ≤ g ∧ g < wr.heap.size) := ⟨hg1, hg2⟩
              unfold maxLen at hcap2
              clear hO hOd hax hah HO g5 hg1 hg2
              generalize a.length = m at k0 k1 hle hcap HOD HLA ⊢
              generalize x.1 = X at k0 hxe hxr HGN HLA HRD ⊢
              generalize x.2 = Y at k1 hxe hxr HGN HLA HRD ⊢
              obtain ⟨x1, x2, x3⟩ := hxr
              have hm1 : m ≤ cap := by omega
              have hm2 : m ≤ m + 1 := by omega
              have hm3 : ¬ cap = m := by omega
              go_wp2_with fail
              refine (HI0.out 0).mono ?_
              rintro e w4 ⟨rfl, n4, rfl⟩
              go_wp2_with fail
              refine (HI2.out n4).mono ?_
              rintro e w5 ⟨rfl, n5, rfl⟩
              rw [HIN.out]
              have HB5 : Hid (Below wr.heap.size wr ((wr.drewN n4).drewN n5)) := Below.next (below_drew _ _ _) (below_drew _ _ _)
              generalize (wr.drewN n4).drewN n5 = W5 at HB5 ⊢
              have j0 : W5.cell? ⟨g, m * 2, none⟩ = some (.int .i64 X) := by rw [HB5.out.cell (p := ⟨g, m * 2, none⟩) HGG.out.2]; exact k0
              have j1 : W5.cell? ⟨g, m * 2 + 1, none⟩ = some (.int .i64 Y) := by rw [HB5.out.cell (p := ⟨g, m * 2 + 1, none⟩) HGG.out.2]; exact k1
              have e0 : (W5.alloc (.cells #[.int .i64 X, .int .i64 Y] 24)).cell? ⟨W5.heap.size, 0, none⟩ = some (.int .i64 X) := cell_new _ _ _ _
              have e1 : (W5.alloc (.cells #[.int .i64 X, .int .i64 Y] 24)).cell? ⟨W5.heap.size, 1, none⟩ = some (.int .i64 Y) := cell_new _ _ _ _
              clear k0 k1
              go_wp2_with fail
              have HB6 : Hid (Below wr.heap.size wr (W5.alloc (.cells #[.int .i64 X, .int .i64 Y] 24))) := Below.next HB5.out (below_one _ _)
              have hlt6 : W5.heap.size < (W5.alloc (.cells #[.int .i64 X, .int .i64 Y] 24)).heap.size := by simp
              have hne6 : g < W5.heap.size := by have := HB5.out.size; have := HGG.out.2; omega
              have hw1 : IntKind.i64.wrap (Y + 1) = Y + 1 := wrap_in (by omega) (by omega)
              have hi0 : (0 : Int) ≤ (m : Int) := by omega
              have hi1 : (m : Int) ≤ (cap : Int) := by omega
              clear j0 j1 HB5
              generalize W5.alloc (.cells #[.int .i64 X, .int .i64 Y] 24) = W6 at e0 e1 HB6 hlt6 ⊢
              generalize W5.heap.size = B6 at e0 e1 hlt6 hne6 ⊢
              have HKB : Hid (∀ W7, Below W6.heap.size W6 W7 → W7.cell? ⟨B6, 0, none⟩ = some (.int .i64 X) ∧ W7.cell? ⟨B6, 1, none⟩ = some (.int .i64 Y)) := fun W7 h => by
                exact ⟨by rw [h.cell (p := ⟨B6, 0, none⟩) hlt6]; exact e0, by rw [h.cell (p := ⟨B6, 1, none⟩) hlt6]; exact e1⟩
              have HOB : Hid (∀ W7 o, Below W6.heap.size W6 W7 → (W7.alloc o).ownsRow W0.heap.size 24 2 (.slice (some ⟨g, 0, none⟩) m cap) m (rdc a) ∧ W0.heap.size ≤ (W7.alloc o).heap.size ∧ B6 < (W7.alloc o).heap.size) := fun W7 o h => by
                have h1 := h.size
                have h2 := HB6.out.size
                have h3 := HBr.out.size
                exact ⟨(HOD.out W7 (Below.next HB6.out h)).alloc _, by simp; omega, by simp; omega⟩
              have HVB : Hid ((Value.slice (some ⟨g, 0, none⟩) m cap).ownBlock ≠ some B6) := fun e => Nat.ne_of_lt hne6 (Option.some.inj e)
              have HRF : Hid (Below W6.heap.size W6 W6.drew) := undrew2 (Below.refl _ _)
              go_region_held3 (fun w' => w'.cell? ⟨B6, 0, none⟩ = some (.int .i64 X) ∧ w'.cell? ⟨B6, 1, none⟩ = some (.int .i64 Y))
                (first | go_keep | (go_split_ands; exact HKB.out _ (Below.next HRF.out (below_one _ _))) | (go_split_ands; exact HKB.out _ (below_one _ _)) | (go_split_ands; exact ⟨by rw [xgrown_cell hgr (HOB.out _ _ HRF.out).2.2 HVB.out]; exact (HKB.out _ (Below.next HRF.out (below_one _ _))).1, by rw [xgrown_cell hgr (HOB.out _ _ HRF.out).2.2 HVB.out]; exact (HKB.out _ (Below.next HRF.out (below_one _ _))).2⟩))
                (first | (refine step_append_own (by rfl) (.tmp 57) (.tmp 64) 22 (by rfl) W0.heap.size 24 ti (.agg #[.int .i64 0, .int .i64 0]) 2 16 Tryd.underlying22 hti hz0 hz1 hz2 rfl (by decide) (.slice (some ⟨g, 0, none⟩) m cap) m (rdc a) (by rfl) (HOB.out _ _ HRF.out).1 ⟨W6.heap.size, 0, none⟩ 1 1 [.int .i64 X, .int .i64 (Y + 1)] (by rfl) rfl (news_twoI W6.drew _ _ 24) (ones_two _ _) (by unfold maxLen; omega) (by omega) (HOB.out _ _ HRF.out).2.1 ?_; intro v7 w7 hown hgr))
              have HO7 : Hid (w7.ownsRow W0.heap.size 24 2 v7 (bld f (k + 1)).length (rdc (bld f (k + 1)))) := by
                rw [HRD.out] at hown
                rw [HGN.out, HLA.out]
                exact hown
              have HB7 : Hid (Below W0.heap.size W0 w7) := by
                have hq : Below W0.heap.size W0 (W6.alloc (.cells #[.int .i64 X, .int .i64 (Y + 1)] 24)).drew := undrew2 (Below.next (Below.next HBr.out HB6.out) (below_one _ _))
                exact hq.grown hgr hq.size (fun k e => by have h : g = k := Option.some.inj e; rw [← h]; exact HGG.out.1)
              clear hown hgr e0 e1
              go_wp2
              go_roundw
              case rel => exact ⟨k + 1, by omega, by go_num, by rw [HN0.out], HO7.out, HB7.out⟩
              case measure => simp [intOf]; omega
          | false =>
            have HIN : Hid (inR (F, T) (k : Int) = false) := hin
            cases hme : memR l (k : Int) with
            | true =>
              have HME : Hid (memR l (k : Int) = true) := hme
              have HN0 : Hid (ahB f (k + 1) = true) := by show ahB f (k + 1) = true; rw [HNX.out, HFP, hin, hme]; rfl
              have HBL : Hid (bld f (k + 1) = gro (bld f k) k ((k : Int) + 1)) := bld_true (by rw [HFP, hin, hme]; rfl)
              clear HFP hin hme
              cases hah : ahB f k with
              | false =>
                have HGN : Hid (bld f (k + 1) = bld f k ++ [((k : Int), 1)]) := by
                  show bld f (k + 1) = _
                  unfold ahB at hah
                  have := HOK.out.2
                  rw [HBL.out, gro_new (by have := of_decide_eq_false hah; omega), show (k : Int) + 1 - (k : Int) = 1 by omega]
                have HLT : Hid (∀ k, u10.ownBlock = some k → W0.heap.size ≤ k) := fun k e => (HO.out.lt k e).1
                have HSZ : Hid (W0.heap.size ≤ wr.heap.size) := HBr.out.size
                have HOD : Hid (∀ q o, ((wr.drewN q).alloc o).ownsRow W0.heap.size 24 2 u10 (bld f k).length (rdc (bld f k))) := fun q o => (xown_later HO.out (below_drew _ _ _)).alloc o
                clear hah
                obtain ⟨z, hz⟩ : ∃ z, z = (bld f k).length := ⟨_, rfl⟩
                have HZ : Hid (z = (bld f k).length) := hz
                rw [← hz] at HO HOD g5
                clear hz
                go_wp2_with (first | (go_at_call_of 9 v; refine (HI0.out 0).mono ?_; rintro e w4 ⟨rfl, n4, rfl⟩; rw [HME.out]) | (go_at_call 9; refine (HI2.out n4).mono ?_; rintro e w5 ⟨rfl, n5, rfl⟩; rw [HIN.out]) | (at_builtin; refine wpList_append_own _ rfl (.tmp 42) (.tmp 45) 22 rfl W0.heap.size 24 ti (.agg #[.int .i64 0, .int .i64 0]) 2 16 Tryd.underlying22 hti hz0 hz1 hz2 rfl (by decide) u10 z (rdc (bld f k)) rfl (HOD.out _ _) ⟨wr.heap.size, 0, none⟩ 1 1 [.int .i64 (k : Int), .int .i64 1] rfl rfl (news_twoI (wr.drewN (n4 + n5)) _ _ 24) (ones_two _ _) ?q1 ?q2 ?q3 ?q4))
                case q1 => unfold maxLen; omega
                case q2 => omega
                case q3 => have := HSZ.out; simp; omega
                case q4 =>
                  intro v6 w6 hown hgr _
                  have HO6 : Hid (w6.ownsRow W0.heap.size 24 2 v6 (bld f (k + 1)).length (rdc (bld f (k + 1)))) := by
                    rw [rdc_snoc ((k : Int), 1) (bld f k), ← HGN.out] at hown
                    rw [show (bld f (k + 1)).length = z + 1 by rw [HGN.out, List.length_append, ← HZ.out]; rfl]
                    exact hown
                  have HB6 : Hid (Below W0.heap.size W0 w6) := by
                    have hq : Below W0.heap.size W0 ((wr.drewN (n4 + n5)).alloc (.cells #[.int .i64 (k : Int), .int .i64 1] 24)) := Below.next (Below.next HBr.out (below_drew _ _ _)) (below_one _ _)
                    exact hq.grown hgr hq.size HLT.out
                  clear hown hgr
                  go_wp2
                  go_roundw
                  case rel => exact ⟨k + 1, by omega, by go_num, by rw [HN0.out], HO6.out, HB6.out⟩
                  case measure => simp [intOf]; omega
              | true =>
                obtain ⟨a, x, hax, hxe⟩ : ∃ a x, bld f k = a ++ [x] ∧ x.1 + x.2 = (k : Int) := by
                  have he : eF (-1) (bld f k) = (k : Int) := of_decide_eq_true hah
                  rcases snoc_cases (bld f k) with h | ⟨a, x, h⟩
                  · rw [h] at he
                    have : (-1 : Int) = (k : Int) := he
                    omega
                  · rw [h, eF_snoc] at he
                    exact ⟨a, x, h, he⟩
                have HGN : Hid (bld f (k + 1) = a ++ [(x.1, x.2 + 1)]) := by
                  show bld f (k + 1) = _
                  rw [HBL.out, hax, gro_grow hxe (by omega), show (k : Int) + 1 - (k : Int) = 1 by omega]
                have hxr := (HOK.out.1.each x (by rw [hax]; simp))
                have hle : a.length + 1 ≤ k := by rw [hax, List.length_append] at g5; exact g5
                have hO := HO.out
                rw [hax, show (a ++ [x]).length = a.length + 1 by simp] at hO
                obtain ⟨g, cap, rfl, hg1, hg2⟩ := rown_where hO (by omega)
                have hcap : a.length + 1 ≤ cap := by
                  rcases hO.2 with ⟨h0, _⟩ | ⟨g', cap', cur, h0, _, _, h3, _⟩ <;> cases h0
                  exact h3
                have hcap2 : cap ≤ maxLen := by
                  rcases hO.2 with ⟨h0, _⟩ | ⟨g', cap', cur, h0, _, _, _, h3, _⟩ <;> cases h0
                  exact h3
                have k0 : wr.cell? ⟨g, a.length * 2, none⟩ = some (.int .i64 x.1) := by
                  have := (rdc_even (a ++ [x]) a.length (by simp)).1
                  rw [rAt_last] at this
                  rw [hO.cellAt (a.length * 2) (by omega)]; exact this
                have k1 : wr.cell? ⟨g, a.length * 2 + 1, none⟩ = some (.int .i64 x.2) := by
                  have := (rdc_even (a ++ [x]) a.length (by simp)).2
                  rw [rAt_last] at this
                  rw [hO.cellAt (a.length * 2 + 1) (by omega)]; exact this
                have hOd := rown_down hO (show a.length ≤ a.length + 1 by omega)
                rw [rdc_front] at hOd
                have HOD : Hid (∀ W1, Below wr.heap.size wr W1 → W1.ownsRow W0.heap.size 24 2 (.slice (some ⟨g, 0, none⟩) a.length cap) a.length (rdc a)) := fun W1 h => xown_later hOd h
                have HLA : Hid ((a ++ [(x.1, x.2 + 1)]).length = a.length + 1) := by show List.length _ = _; simp
                have HRD : Hid (rdc a ++ [.int .i64 x.1, .int .i64 (x.2 + 1)] = rdc (a ++ [(x.1, x.2 + 1)])) := rdc_snoc (x.1, x.2 + 1) a
                have HGG : Hid (W0.heap.size ≤ g ∧ g < wr.heap.size) := ⟨hg1, hg2⟩
                unfold maxLen at hcap2
                clear hO hOd hax hah HO g5 hg1 hg2
                generalize a.length = m at k0 k1 hle hcap HOD HLA ⊢
                generalize x.1 = X at k0 hxe hxr HGN HLA HRD ⊢
                generalize x.2 = Y at k1 hxe hxr HGN HLA HRD ⊢
                obtain ⟨x1, x2, x3⟩ := hxr
                have hm1 : m ≤ cap := by omega
                have hm2 : m ≤ m + 1 := by omega
                have hm3 : ¬ cap = m := by omega
                go_wp2_with fail
                refine (HI0.out 0).mono ?_
                rintro e w4 ⟨rfl, n4, rfl⟩
                rw [HME.out]
                go_wp2_with fail
                refine (HI2.out n4).mono ?_
                rintro e w5 ⟨rfl, n5, rfl⟩
                rw [HIN.out]
                have HB5 : Hid (Below wr.heap.size wr ((wr.drewN n4).drewN n5)) := Below.next (below_drew _ _ _) (below_drew _ _ _)
                generalize (wr.drewN n4).drewN n5 = W5 at HB5 ⊢
                have j0 : W5.cell? ⟨g, m * 2, none⟩ = some (.int .i64 X) := by rw [HB5.out.cell (p := ⟨g, m * 2, none⟩) HGG.out.2]; exact k0
                have j1 : W5.cell? ⟨g, m * 2 + 1, none⟩ = some (.int .i64 Y) := by rw [HB5.out.cell (p := ⟨g, m * 2 + 1, none⟩) HGG.out.2]; exact k1
                have e0 : (W5.alloc (.cells #[.int .i64 X, .int .i64 Y] 24)).cell? ⟨W5.heap.size, 0, none⟩ = some (.int .i64 X) := cell_new _ _ _ _
                have e1 : (W5.alloc (.cells #[.int .i64 X, .int .i64 Y] 24)).cell? ⟨W5.heap.size, 1, none⟩ = some (.int .i64 Y) := cell_new _ _ _ _
                clear k0 k1
                go_wp2_with fail
                have HB6 : Hid (Below wr.heap.size wr (W5.alloc (.cells #[.int .i64 X, .int .i64 Y] 24))) := Below.next HB5.out (below_one _ _)
                have hlt6 : W5.heap.size < (W5.alloc (.cells #[.int .i64 X, .int .i64 Y] 24)).heap.size := by simp
                have hne6 : g < W5.heap.size := by have := HB5.out.size; have := HGG.out.2; omega
                have hw1 : IntKind.i64.wrap (Y + 1) = Y + 1 := wrap_in (by omega) (by omega)
                have hi0 : (0 : Int) ≤ (m : Int) := by omega
                have hi1 : (m : Int) ≤ (cap : Int) := by omega
                clear j0 j1 HB5
                generalize W5.alloc (.cells #[.int .i64 X, .int .i64 Y] 24) = W6 at e0 e1 HB6 hlt6 ⊢
                generalize W5.heap.size = B6 at e0 e1 hlt6 hne6 ⊢
                have HKB : Hid (∀ W7, Below W6.heap.size W6 W7 → W7.cell? ⟨B6, 0, none⟩ = some (.int .i64 X) ∧ W7.cell? ⟨B6, 1, none⟩ = some (.int .i64 Y)) := fun W7 h => by
                  exact ⟨by rw [h.cell (p := ⟨B6, 0, none⟩) hlt6]; exact e0, by rw [h.cell (p := ⟨B6, 1, none⟩) hlt6]; exact e1⟩
                have HOB : Hid (∀ W7 o, Below W6.heap.size W6 W7 → (W7.alloc o).ownsRow W0.heap.size 24 2 (.slice (some ⟨g, 0, none⟩) m cap) m (rdc a) ∧ W0.heap.size ≤ (W7.alloc o).heap.size ∧ B6 < (W7.alloc o).heap.size) := fun W7 o h => by
                  have h1 := h.size
                  have h2 := HB6.out.size
                  have h3 := HBr.out.size
                  exact ⟨(HOD.out W7 (Below.next HB6.out h)).alloc _, by simp; omega, by simp; omega⟩
                have HVB : Hid ((Value.slice (some ⟨g, 0, none⟩) m cap).ownBlock ≠ some B6) := fun e => Nat.ne_of_lt hne6 (Option.some.inj e)
                have HRF : Hid (Below W6.heap.size W6 W6.drew) := undrew2 (Below.refl _ _)
                go_region_held3 (fun w' => w'.cell? ⟨B6, 0, none⟩ = some (.int .i64 X) ∧ w'.cell? ⟨B6, 1, none⟩ = some (.int .i64 Y))
                  (first | go_keep | (go_split_ands; exact HKB.out _ (Below.next HRF.out (below_one _ _))) | (go_split_ands; exact HKB.out _ (below_one _ _)) | (go_split_ands; exact ⟨by rw [xgrown_cell hgr (HOB.out _ _ HRF.out).2.2 HVB.out]; exact (HKB.out _ (Below.next HRF.out (below_one _ _))).1, by rw [xgrown_cell hgr (HOB.out _ _ HRF.out).2.2 HVB.out]; exact (HKB.out _ (Below.next HRF.out (below_one _ _))).2⟩))
                  (first | (refine step_append_own (by rfl) (.tmp 57) (.tmp 64) 22 (by rfl) W0.heap.size 24 ti (.agg #[.int .i64 0, .int .i64 0]) 2 16 Tryd.underlying22 hti hz0 hz1 hz2 rfl (by decide) (.slice (some ⟨g, 0, none⟩) m cap) m (rdc a) (by rfl) (HOB.out _ _ HRF.out).1 ⟨W6.heap.size, 0, none⟩ 1 1 [.int .i64 X, .int .i64 (Y + 1)] (by rfl) rfl (news_twoI W6.drew _ _ 24) (ones_two _ _) (by unfold maxLen; omega) (by omega) (HOB.out _ _ HRF.out).2.1 ?_; intro v7 w7 hown hgr))
                have HO7 : Hid (w7.ownsRow W0.heap.size 24 2 v7 (bld f (k + 1)).length (rdc (bld f (k + 1)))) := by
                  rw [HRD.out] at hown
                  rw [HGN.out, HLA.out]
                  exact hown
                have HB7 : Hid (Below W0.heap.size W0 w7) := by
                  have hq : Below W0.heap.size W0 (W6.alloc (.cells #[.int .i64 X, .int .i64 (Y + 1)] 24)).drew := undrew2 (Below.next (Below.next HBr.out HB6.out) (below_one _ _))
                  exact hq.grown hgr hq.size (fun k e => by have h : g = k := Option.some.inj e; rw [← h]; exact HGG.out.1)
                clear hown hgr e0 e1
                go_wp2
                go_roundw
                case rel => exact ⟨k + 1, by omega, by go_num, by rw [HN0.out], HO7.out, HB7.out⟩
                case measure => simp [intOf]; omega
            | false =>
              have HME : Hid (memR l (k : Int) = false) := hme
              have HBL : Hid (bld f (k + 1) = bld f k) := bld_false (by rw [HFP, hin, hme]; rfl)
              have HN0 : Hid (ahB f (k + 1) = false) := by show ahB f (k + 1) = false; rw [HNX.out, HFP, hin, hme]; rfl
              clear HFP hin hme
              go_wp2_with (first | (go_at_call_of 9 v; refine (HI0.out 0).mono ?_; rintro e w4 ⟨rfl, n4, rfl⟩; rw [HME.out]) | (go_at_call 9; refine (HI2.out n4).mono ?_; rintro e w5 ⟨rfl, n5, rfl⟩; rw [HIN.out]))
              go_roundw
              case rel => exact ⟨k + 1, by omega, by go_num, by rw [HN0.out], by rw [HBL.out]; exact xown_later HO.out (below_drew _ _ _), Below.next HBr.out (below_drew _ _ _)⟩
              case measure => simp [intOf]; omega
        · obtain rfl : k = 1000 := by omega
          have HSb : Hid (bld f 1000 = bld (chP orB l (F, T)) 1000) := by show bld f 1000 = _; rw [HF.out]
          have hs1 : (bld f 1000).length ≤ 1000 := (bld_ok f 1000 (Nat.le_refl _)).2.2.2.2
          obtain ⟨a9, c9, rfl⟩ := rown_form HO.out
          have HRS : Hid (RunsIs wr (.slice a9 (bld f 1000).length c9) (bld f 1000)) := runs_own HO.out (by unfold maxLen; omega)
          have HBn : Hid (Below w.heap.size w wr) := Below.next HW0.out HBr.out
          clear hbr HO
          by_cases h16 : 16 < (bld f 1000).length
          · have HE : Hid (chgE orB l (F, T) = 4) := by show chgE orB l (F, T) = 4; unfold chgE; rw [if_neg (by rw [HR0.out]; simp), if_neg (by rw [HI.out]; simp), ← HSb.out, if_pos h16]
            have HV : Hid (chgL orB l (F, T) = []) := by show chgL orB l (F, T) = []; unfold chgL; rw [HE.out]; rfl
            generalize (bld f 1000).length = z at h16 hs1 HRS ⊢
            have h16' : (16 : Int) < (z : Int) := by omega
            go_wp2
            go_ret2
            exact ⟨_, by rw [HE.out]; rfl, by rw [HV.out]; exact runs_nil _, HBn.out⟩
          · have HE : Hid (chgE orB l (F, T) = 0) := by show chgE orB l (F, T) = 0; unfold chgE; rw [if_neg (by rw [HR0.out]; simp), if_neg (by rw [HI.out]; simp), ← HSb.out, if_neg h16]
            have HV : Hid (chgL orB l (F, T) = bld f 1000) := by show chgL orB l (F, T) = _; unfold chgL; rw [if_pos HE.out, HSb.out]
            generalize (bld f 1000).length = z at h16 hs1 HRS ⊢
            have h16' : ¬ (16 : Int) < (z : Int) := by omega
            go_wp2
            go_ret2
            exact ⟨_, by rw [HE.out]; rfl, by rw [HV.out]; exact HRS.out, HBn.out⟩
  · have HE : Hid (chgE orB l (F, T) = runsE l) := by show chgE orB l (F, T) = runsE l; unfold chgE; rw [if_pos h0]
    have HV : Hid (chgL orB l (F, T) = []) := by show chgL orB l (F, T) = []; unfold chgL; rw [HE.out, if_neg h0]
    have hz : ((runsE l : Nat) : Int) ≠ 0 := by omega
    rw [HE.out]
    clear hx h0
    generalize ((runsE l : Nat) : Int) = z at HC hz ⊢
    go_enter Tryd.func10, Tryd.ntmps10
    go_wp2_with (first | (go_at_call 4; refine (HC.out 0).mono ?_; rintro e w1 ⟨rfl, hb1⟩))
    go_ret2
    exact ⟨_, rfl, by rw [HV.out]; exact runs_nil _, Below.next HB0.out hb1⟩

set_option maxHeartbeats 8000000 in
set_option maxRecDepth 100000 in
theorem chgd_cut (w : World) (v : Value) (l : List Rn) (r : Rn) (hx : RunsIs w v l) :
    Calls Tryd.prog 10 #[v, .agg #[.int .i64 r.1, .int .i64 r.2], .bool false] w fun e w' => ∃ v', e = .returned (.tuple #[v', .int .i64 ((chgE cutB l r : Nat) : Int)]) ∧ RunsIs w' v' (chgL cutB l r) ∧ Below w.heap.size w w' := by
  obtain ⟨F, T, rfl⟩ : ∃ F T, r = (F, T) := ⟨r.1, r.2, rfl⟩
  have b0 : Below w.heap.size w (w.alloc (.cells #[.int .i64 F, .int .i64 T] 24)) := below_one _ _
  have HC : Hid _ := fun (_ : Nat) => refRuns_any (w.alloc (.cells #[.int .i64 F, .int .i64 T] 24)) v l (hx.later b0)
  have HB0 : Hid (Below w.heap.size w (w.alloc (.cells #[.int .i64 F, .int .i64 T] 24))) := b0
  clear b0
  by_cases h0 : runsE l = 0
  · rw [h0] at HC
    have HR0 : Hid (runsE l = 0) := h0
    have HLr : Hid (∀ x ∈ l, isR x) := ok_each h0
    have HBX : Hid (∀ w1, Below (w.alloc (.cells #[.int .i64 F, .int .i64 T] 24)).heap.size (w.alloc (.cells #[.int .i64 F, .int .i64 T] 24)) w1 → w1.cell? ⟨w.heap.size, 0, none⟩ = some (.int .i64 F) ∧ w1.cell? ⟨w.heap.size, 1, none⟩ = some (.int .i64 T)) := fun w1 h => by
      exact ⟨by rw [h.cell (p := ⟨w.heap.size, 0, none⟩) (by simp)]; exact cell_new _ _ _ _, by rw [h.cell (p := ⟨w.heap.size, 1, none⟩) (by simp)]; exact cell_new _ _ _ _⟩
    cases hrb : rB (F, T) with
    | false =>
      have HE : Hid (chgE cutB l (F, T) = 1) := by show chgE cutB l (F, T) = 1; unfold chgE; rw [if_neg (by rw [h0]; simp), if_pos hrb]
      have HV : Hid (chgL cutB l (F, T) = []) := by show chgL cutB l (F, T) = []; unfold chgL; rw [HE.out]; rfl
      have HI : Hid (rB (F, T) = false) := hrb
      clear hrb h0
      go_enter Tryd.func10, Tryd.ntmps10
      go_wp2_with (first | (go_at_call 4; refine (HC.out 0).mono ?_; rintro e w1 ⟨rfl, hb1⟩; obtain ⟨c0, c1⟩ := HBX.out w1 hb1) | (go_at_call 14; refine (refRun_any _ _ _).mono ?_; rintro e w2 ⟨rfl, hb2⟩; rw [HI.out]))
      go_ret2
      exact ⟨_, by rw [HE.out]; rfl, by rw [HV.out]; exact runs_nil _, Below.next (Below.next HB0.out hb1) hb2⟩
    | true =>
      have HI : Hid (rB (F, T) = true) := hrb
      have HRr : Hid (isR (F, T)) := (rB_iff _).1 hrb
      have HX : Hid (RunsIs w v l) := hx
      obtain ⟨ti, hti, hz0, hz1, hz2⟩ := info_parts Tryd.info24
      clear hrb h0
      go_enter Tryd.func10, Tryd.ntmps10
      go_wp2_with fail
      refine (HC.out 0).mono ?_
      rintro e w1 ⟨rfl, hb1⟩
      obtain ⟨c0, c1⟩ := HBX.out w1 hb1
      go_wp2_with fail
      refine (refRun_any _ _ _).mono ?_
      rintro e w2 ⟨rfl, hb2⟩
      rw [HI.out]
      obtain ⟨d0, d1⟩ := HBX.out w2 (Below.next hb1 hb2)
      have HB2 : Hid (Below w.heap.size w w2) := Below.next (Below.next HB0.out hb1) hb2
      clear hb1 hb2 c0 c1
      go_wp2
      have HW0 : Hid (Below w.heap.size w (w2.alloc (.cells #[.int .i64 F, .int .i64 T] 24))) := Below.next HB2.out (below_one _ _)
      have HON : Hid (RunsIs (w2.alloc (.cells #[.int .i64 F, .int .i64 T] 24)) (.slice (some ⟨w2.heap.size, 0, none⟩) 1 1) [(F, T)]) := one_run
      generalize w2.alloc (.cells #[.int .i64 F, .int .i64 T] 24) = W0 at HW0 HON ⊢
      generalize w2.heap.size = B1 at HON ⊢
      clear d0 d1 HBX HC
      have HIL : Hid _ := fun (w1 : World) (k : Nat) (h : Below W0.heap.size W0 w1) => inRuns_any w1 v l (k : Int) (HX.out.later (Below.next HW0.out h)) HLr.out
      have HIO : Hid _ := fun (w1 : World) (k : Nat) (h : Below W0.heap.size W0 w1) => inRuns_any w1 (.slice (some ⟨B1, 0, none⟩) 1 1) [(F, T)] (k : Int) (HON.out.later h) (fun x hx => by obtain rfl := List.mem_singleton.1 hx; exact HRr.out)
      obtain ⟨f, hf⟩ : ∃ f, f = chP cutB l (F, T) := ⟨_, rfl⟩
      have HF : Hid (f = chP cutB l (F, T)) := hf
      have HFk : Hid (∀ k : Nat, f (k : Int) = cutB (memR l (k : Int)) (inR (F, T) (k : Int))) := fun k => by rw [hf]; rfl
      clear hf
      go_loopw [10, 11, 12, 13, 14, 15] (fun ou ah i _ _ _ wr => ∃ k : Nat, k ≤ 1000 ∧ i = .int .i64 (k : Int) ∧ ah = .bool (ahB f k) ∧ wr.ownsRow W0.heap.size 24 2 ou (bld f k).length (rdc (bld f k)) ∧ Below W0.heap.size W0 wr) (fun _ _ i _ _ _ _ => 1000 - (intOf i).toNat)
      case atStart => exact ⟨0, by omega, rfl, rfl, World.ownsRow_nil _ _ _ _, Below.refl _ _⟩
      case round =>
        obtain ⟨k, hk, rfl, rfl, hO, hbr⟩ := hrel
        have HO : Hid (wr.ownsRow W0.heap.size 24 2 u10 (bld f k).length (rdc (bld f k))) := hO
        have HBr : Hid (Below W0.heap.size W0 wr) := hbr
        clear hO
        by_cases hlt : k < 1000
        · have hk1 : (k : Int) < 1000 := by omega
          have HI1 : Hid _ := fun (q : Nat) => HIL.out (wr.drewN q) k (Below.next HBr.out (below_drew _ _ _))
          have HI2 : Hid _ := fun (q : Nat) => HIO.out (wr.drewN q) k (Below.next HBr.out (below_drew _ _ _))
          have HI0 : Hid _ := fun (_ : Nat) => HIL.out wr k HBr.out
          rw [memR_one] at HI2
          have HFP := HFk.out k
          have HNX : Hid (ahB f (k + 1) = f (k : Int)) := ahB_next hlt
          obtain ⟨g1, g2, _, _, g5⟩ := bld_ok f k (by omega)
          have HOK : Hid (Okc (-1) (bld f k) ∧ eF (-1) (bld f k) ≤ (k : Int)) := ⟨g1, g2⟩
          clear g1 g2 hbr
          cases hin : inR (F, T) (k : Int) with
          | true =>
            have HIN : Hid (inR (F, T) (k : Int) = true) := hin
            have HBL : Hid (bld f (k + 1) = bld f k) := bld_false (by rw [HFP, hin]; cases memR l (k : Int) <;> rfl)
            have HN0 : Hid (ahB f (k + 1) = false) := by show ahB f (k + 1) = false; rw [HNX.out, HFP, hin]; cases memR l (k : Int) <;> rfl
            clear HFP hin
            generalize memR l (k : Int) = mm at HI0
            go_wp2_with (first | (go_at_call_of 9 v; refine (HI0.out 0).mono ?_; rintro e w4 ⟨rfl, n4, rfl⟩) | (go_at_call 9; refine (HI2.out n4).mono ?_; rintro e w5 ⟨rfl, n5, rfl⟩; rw [HIN.out]))
            go_roundw
            case rel => exact ⟨k + 1, by omega, by go_num, by rw [HN0.out], by rw [HBL.out]; exact xown_later HO.out (below_drew _ _ _), Below.next HBr.out (below_drew _ _ _)⟩
            case measure => simp [intOf]; omega
          | false =>
            have HIN : Hid (inR (F, T) (k : Int) = false) := hin
            cases hme : memR l (k : Int) with
            | true =>
              have HME : Hid (memR l (k : Int) = true) := hme
              have HN0 : Hid (ahB f (k + 1) = true) := by show ahB f (k + 1) = true; rw [HNX.out, HFP, hin, hme]; rfl
              have HBL : Hid (bld f (k + 1) = gro (bld f k) k ((k : Int) + 1)) := bld_true (by rw [HFP, hin, hme]; rfl)
              clear HFP hin hme
              cases hah : ahB f k with
              | false =>
                have HGN : Hid (bld f (k + 1) = bld f k ++ [((k : Int), 1)]) := by
                  show bld f (k + 1) = _
                  unfold ahB at hah
                  have := HOK.out.2
                  rw [HBL.out, gro_new (by have := of_decide_eq_false hah; omega), show (k : Int) + 1 - (k : Int) = 1 by omega]
                have HLT : Hid (∀ k, u10.ownBlock = some k → W0.heap.size ≤ k) := fun k e => (HO.out.lt k e).1
                have HSZ : Hid (W0.heap.size ≤ wr.heap.size) := HBr.out.size
                have HOD : Hid (∀ q o, ((wr.drewN q).alloc o).ownsRow W0.heap.size 24 2 u10 (bld f k).length (rdc (bld f k))) := fun q o => (xown_later HO.out (below_drew _ _ _)).alloc o
                clear hah
                obtain ⟨z, hz⟩ : ∃ z, z = (bld f k).length := ⟨_, rfl⟩
                have HZ : Hid (z = (bld f k).length) := hz
                rw [← hz] at HO HOD g5
                clear hz
                go_wp2_with (first | (go_at_call_of 9 v; refine (HI0.out 0).mono ?_; rintro e w4 ⟨rfl, n4, rfl⟩; rw [HME.out]) | (go_at_call 9; refine (HI2.out n4).mono ?_; rintro e w5 ⟨rfl, n5, rfl⟩; rw [HIN.out]) | (at_builtin; refine wpList_append_own _ rfl (.tmp 42) (.tmp 45) 22 rfl W0.heap.size 24 ti (.agg #[.int .i64 0, .int .i64 0]) 2 16 Tryd.underlying22 hti hz0 hz1 hz2 rfl (by decide) u10 z (rdc (bld f k)) rfl (HOD.out _ _) ⟨wr.heap.size, 0, none⟩ 1 1 [.int .i64 (k : Int), .int .i64 1] rfl rfl (news_twoI (wr.drewN (n4 + n5)) _ _ 24) (ones_two _ _) ?q1 ?q2 ?q3 ?q4))
                case q1 => unfold maxLen; omega
                case q2 => omega
                case q3 => have := HSZ.out; simp; omega
                case q4 =>
                  intro v6 w6 hown hgr _
                  have HO6 : Hid (w6.ownsRow W0.heap.size 24 2 v6 (bld f (k + 1)).length (rdc (bld f (k + 1)))) := by
                    rw [rdc_snoc ((k : Int), 1) (bld f k), ← HGN.out] at hown
                    rw [show (bld f (k + 1)).length = z + 1 by rw [HGN.out, List.length_append, ← HZ.out]; rfl]
                    exact hown
                  have HB6 : Hid (Below W0.heap.size W0 w6) := by
                    have hq : Below W0.heap.size W0 ((wr.drewN (n4 + n5)).alloc (.cells #[.int .i64 (k : Int), .int .i64 1] 24)) := Below.next (Below.next HBr.out (below_drew _ _ _)) (below_one _ _)
                    exact hq.grown hgr hq.size HLT.out
                  clear hown hgr
                  go_wp2
                  go_roundw
                  case rel => exact ⟨k + 1, by omega, by go_num, by rw [HN0.out], HO6.out, HB6.out⟩
                  case measure => simp [intOf]; omega
              | true =>
                obtain ⟨a, x, hax, hxe⟩ : ∃ a x, bld f k = a ++ [x] ∧ x.1 + x.2 = (k : Int) := by
                  have he : eF (-1) (bld f k) = (k : Int) := of_decide_eq_true hah
                  rcases snoc_cases (bld f k) with h | ⟨a, x, h⟩
                  · rw [h] at he
                    have : (-1 : Int) = (k : Int) := he
                    omega
                  · rw [h, eF_snoc] at he
                    exact ⟨a, x, h, he⟩
                have HGN : Hid (bld f (k + 1) = a ++ [(x.1, x.2 + 1)]) := by
                  show bld f (k + 1) = _
                  rw [HBL.out, hax, gro_grow hxe (by omega), show (k : Int) + 1 - (k : Int) = 1 by omega]
                have hxr := (HOK.out.1.each x (by rw [hax]; simp))
                have hle : a.length + 1 ≤ k := by rw [hax, List.length_append] at g5; exact g5
                have hO := HO.out
                rw [hax, show (a ++ [x]).length = a.length + 1 by simp] at hO
                obtain ⟨g, cap, rfl, hg1, hg2⟩ := rown_where hO (by omega)
                have hcap : a.length + 1 ≤ cap := by
                  rcases hO.2 with ⟨h0, _⟩ | ⟨g', cap', cur, h0, _, _, h3, _⟩ <;> cases h0
                  exact h3
                have hcap2 : cap ≤ maxLen := by
                  rcases hO.2 with ⟨h0, _⟩ | ⟨g', cap', cur, h0, _, _, _, h3, _⟩ <;> cases h0
                  exact h3
                have k0 : wr.cell? ⟨g, a.length * 2, none⟩ = some (.int .i64 x.1) := by
                  have := (rdc_even (a ++ [x]) a.length (by simp)).1
                  rw [rAt_last] at this
                  rw [hO.cellAt (a.length * 2) (by omega)]; exact this
                have k1 : wr.cell? ⟨g, a.length * 2 + 1, none⟩ = some (.int .i64 x.2) := by
                  have := (rdc_even (a ++ [x]) a.length (by simp)).2
                  rw [rAt_last] at this
                  rw [hO.cellAt (a.length * 2 + 1) (by omega)]; exact this
                have hOd := rown_down hO (show a.length ≤ a.length + 1 by omega)
                rw [rdc_front] at hOd
                have HOD : Hid (∀ W1, Below wr.heap.size wr W1 → W1.ownsRow W0.heap.size 24 2 (.slice (some ⟨g, 0, none⟩) a.length cap) a.length (rdc a)) := fun W1 h => xown_later hOd h
                have HLA : Hid ((a ++ [(x.1, x.2 + 1)]).length = a.length + 1) := by show List.length _ = _; simp
                have HRD : Hid (rdc a ++ [.int .i64 x.1, .int .i64 (x.2 + 1)] = rdc (a ++ [(x.1, x.2 + 1)])) := rdc_snoc (x.1, x.2 + 1) a
                have HGG : Hid (W0.heap.size ≤ g ∧ g < wr.heap.size) := ⟨hg1, hg2⟩
                unfold maxLen at hcap2
                clear hO hOd hax hah HO g5 hg1 hg2
                generalize a.length = m at k0 k1 hle hcap HOD HLA ⊢
                generalize x.1 = X at k0 hxe hxr HGN HLA HRD ⊢
                generalize x.2 = Y at k1 hxe hxr HGN HLA HRD ⊢
                obtain ⟨x1, x2, x3⟩ := hxr
                have hm1 : m ≤ cap := by omega
                have hm2 : m ≤ m + 1 := by omega
                have hm3 : ¬ cap = m := by omega
                go_wp2_with fail
                refine (HI0.out 0).mono ?_
                rintro e w4 ⟨rfl, n4, rfl⟩
                rw [HME.out]
                go_wp2_with fail
                refine (HI2.out n4).mono ?_
                rintro e w5 ⟨rfl, n5, rfl⟩
                rw [HIN.out]
                have HB5 : Hid (Below wr.heap.size wr ((wr.drewN n4).drewN n5)) := Below.next (below_drew _ _ _) (below_drew _ _ _)
                generalize (wr.drewN n4).drewN n5 = W5 at HB5 ⊢
                have j0 : W5.cell? ⟨g, m * 2, none⟩ = some (.int .i64 X) := by rw [HB5.out.cell (p := ⟨g, m * 2, none⟩) HGG.out.2]; exact k0
                have j1 : W5.cell? ⟨g, m * 2 + 1, none⟩ = some (.int .i64 Y) := by rw [HB5.out.cell (p := ⟨g, m * 2 + 1, none⟩) HGG.out.2]; exact k1
                have e0 : (W5.alloc (.cells #[.int .i64 X, .int .i64 Y] 24)).cell? ⟨W5.heap.size, 0, none⟩ = some (.int .i64 X) := cell_new _ _ _ _
                have e1 : (W5.alloc (.cells #[.int .i64 X, .int .i64 Y] 24)).cell? ⟨W5.heap.size, 1, none⟩ = some (.int .i64 Y) := cell_new _ _ _ _
                clear k0 k1
                go_wp2_with fail
                have HB6 : Hid (Below wr.heap.size wr (W5.alloc (.cells #[.int .i64 X, .int .i64 Y] 24))) := Below.next HB5.out (below_one _ _)
                have hlt6 : W5.heap.size < (W5.alloc (.cells #[.int .i64 X, .int .i64 Y] 24)).heap.size := by simp
                have hne6 : g < W5.heap.size := by have := HB5.out.size; have := HGG.out.2; omega
                have hw1 : IntKind.i64.wrap (Y + 1) = Y + 1 := wrap_in (by omega) (by omega)
                have hi0 : (0 : Int) ≤ (m : Int) := by omega
                have hi1 : (m : Int) ≤ (cap : Int) := by omega
                clear j0 j1 HB5
                generalize W5.alloc (.cells #[.int .i64 X, .int .i64 Y] 24) = W6 at e0 e1 HB6 hlt6 ⊢
                generalize W5.heap.size = B6 at e0 e1 hlt6 hne6 ⊢
                have HKB : Hid (∀ W7, Below W6.heap.size W6 W7 → W7.cell? ⟨B6, 0, none⟩ = some (.int .i64 X) ∧ W7.cell? ⟨B6, 1, none⟩ = some (.int .i64 Y)) := fun W7 h => by
                  exact ⟨by rw [h.cell (p := ⟨B6, 0, none⟩) hlt6]; exact e0, by rw [h.cell (p := ⟨B6, 1, none⟩) hlt6]; exact e1⟩
                have HOB : Hid (∀ W7 o, Below W6.heap.size W6 W7 → (W7.alloc o).ownsRow W0.heap.size 24 2 (.slice (some ⟨g, 0, none⟩) m cap) m (rdc a) ∧ W0.heap.size ≤ (W7.alloc o).heap.size ∧ B6 < (W7.alloc o).heap.size) := fun W7 o h => by
                  have h1 := h.size
                  have h2 := HB6.out.size
                  have h3 := HBr.out.size
                  exact ⟨(HOD.out W7 (Below.next HB6.out h)).alloc _, by simp; omega, by simp; omega⟩
                have HVB : Hid ((Value.slice (some ⟨g, 0, none⟩) m cap).ownBlock ≠ some B6) := fun e => Nat.ne_of_lt hne6 (Option.some.inj e)
                have HRF : Hid (Below W6.heap.size W6 W6.drew) := undrew2 (Below.refl _ _)
                go_region_held3 (fun w' => w'.cell? ⟨B6, 0, none⟩ = some (.int .i64 X) ∧ w'.cell? ⟨B6, 1, none⟩ = some (.int .i64 Y))
                  (first | go_keep | (go_split_ands; exact HKB.out _ (Below.next HRF.out (below_one _ _))) | (go_split_ands; exact HKB.out _ (below_one _ _)) | (go_split_ands; exact ⟨by rw [xgrown_cell hgr (HOB.out _ _ HRF.out).2.2 HVB.out]; exact (HKB.out _ (Below.next HRF.out (below_one _ _))).1, by rw [xgrown_cell hgr (HOB.out _ _ HRF.out).2.2 HVB.out]; exact (HKB.out _ (Below.next HRF.out (below_one _ _))).2⟩))
                  (first | (refine step_append_own (by rfl) (.tmp 57) (.tmp 64) 22 (by rfl) W0.heap.size 24 ti (.agg #[.int .i64 0, .int .i64 0]) 2 16 Tryd.underlying22 hti hz0 hz1 hz2 rfl (by decide) (.slice (some ⟨g, 0, none⟩) m cap) m (rdc a) (by rfl) (HOB.out _ _ HRF.out).1 ⟨W6.heap.size, 0, none⟩ 1 1 [.int .i64 X, .int .i64 (Y + 1)] (by rfl) rfl (news_twoI W6.drew _ _ 24) (ones_two _ _) (by unfold maxLen; omega) (by omega) (HOB.out _ _ HRF.out).2.1 ?_; intro v7 w7 hown hgr))
                have HO7 : Hid (w7.ownsRow W0.heap.size 24 2 v7 (bld f (k + 1)).length (rdc (bld f (k + 1)))) := by
                  rw [HRD.out] at hown
                  rw [HGN.out, HLA.out]
                  exact hown
                have HB7 : Hid (Below W0.heap.size W0 w7) := by
                  have hq : Below W0.heap.size W0 (W6.alloc (.cells #[.int .i64 X, .int .i64 (Y + 1)] 24)).drew := undrew2 (Below.next (Below.next HBr.out HB6.out) (below_one _ _))
                  exact hq.grown hgr hq.size (fun k e => by have h : g = k := Option.some.inj e; rw [← h]; exact HGG.out.1)
                clear hown hgr e0 e1
                go_wp2
                go_roundw
                case rel => exact ⟨k + 1, by omega, by go_num, by rw [HN0.out], HO7.out, HB7.out⟩
                case measure => simp [intOf]; omega
            | false =>
              have HME : Hid (memR l (k : Int) = false) := hme
              have HBL : Hid (bld f (k + 1) = bld f k) := bld_false (by rw [HFP, hin, hme]; rfl)
              have HN0 : Hid (ahB f (k + 1) = false) := by show ahB f (k + 1) = false; rw [HNX.out, HFP, hin, hme]; rfl
              clear HFP hin hme
              go_wp2_with (first | (go_at_call_of 9 v; refine (HI0.out 0).mono ?_; rintro e w4 ⟨rfl, n4, rfl⟩; rw [HME.out]) | (go_at_call 9; refine (HI2.out n4).mono ?_; rintro e w5 ⟨rfl, n5, rfl⟩; rw [HIN.out]))
              go_roundw
              case rel => exact ⟨k + 1, by omega, by go_num, by rw [HN0.out], by rw [HBL.out]; exact xown_later HO.out (below_drew _ _ _), Below.next HBr.out (below_drew _ _ _)⟩
              case measure => simp [intOf]; omega
        · obtain rfl : k = 1000 := by omega
          have HSb : Hid (bld f 1000 = bld (chP cutB l (F, T)) 1000) := by show bld f 1000 = _; rw [HF.out]
          have hs1 : (bld f 1000).length ≤ 1000 := (bld_ok f 1000 (Nat.le_refl _)).2.2.2.2
          obtain ⟨a9, c9, rfl⟩ := rown_form HO.out
          have HRS : Hid (RunsIs wr (.slice a9 (bld f 1000).length c9) (bld f 1000)) := runs_own HO.out (by unfold maxLen; omega)
          have HBn : Hid (Below w.heap.size w wr) := Below.next HW0.out HBr.out
          clear hbr HO
          by_cases h16 : 16 < (bld f 1000).length
          · have HE : Hid (chgE cutB l (F, T) = 4) := by show chgE cutB l (F, T) = 4; unfold chgE; rw [if_neg (by rw [HR0.out]; simp), if_neg (by rw [HI.out]; simp), ← HSb.out, if_pos h16]
            have HV : Hid (chgL cutB l (F, T) = []) := by show chgL cutB l (F, T) = []; unfold chgL; rw [HE.out]; rfl
            generalize (bld f 1000).length = z at h16 hs1 HRS ⊢
            have h16' : (16 : Int) < (z : Int) := by omega
            go_wp2
            go_ret2
            exact ⟨_, by rw [HE.out]; rfl, by rw [HV.out]; exact runs_nil _, HBn.out⟩
          · have HE : Hid (chgE cutB l (F, T) = 0) := by show chgE cutB l (F, T) = 0; unfold chgE; rw [if_neg (by rw [HR0.out]; simp), if_neg (by rw [HI.out]; simp), ← HSb.out, if_neg h16]
            have HV : Hid (chgL cutB l (F, T) = bld f 1000) := by show chgL cutB l (F, T) = _; unfold chgL; rw [if_pos HE.out, HSb.out]
            generalize (bld f 1000).length = z at h16 hs1 HRS ⊢
            have h16' : ¬ (16 : Int) < (z : Int) := by omega
            go_wp2
            go_ret2
            exact ⟨_, by rw [HE.out]; rfl, by rw [HV.out]; exact HRS.out, HBn.out⟩
  · have HE : Hid (chgE cutB l (F, T) = runsE l) := by show chgE cutB l (F, T) = runsE l; unfold chgE; rw [if_pos h0]
    have HV : Hid (chgL cutB l (F, T) = []) := by show chgL cutB l (F, T) = []; unfold chgL; rw [HE.out, if_neg h0]
    have hz : ((runsE l : Nat) : Int) ≠ 0 := by omega
    rw [HE.out]
    clear hx h0
    generalize ((runsE l : Nat) : Int) = z at HC hz ⊢
    go_enter Tryd.func10, Tryd.ntmps10
    go_wp2_with (first | (go_at_call 4; refine (HC.out 0).mono ?_; rintro e w1 ⟨rfl, hb1⟩))
    go_ret2
    exact ⟨_, rfl, by rw [HV.out]; exact runs_nil _, Below.next HB0.out hb1⟩

end Go.Proofs.YtihefpnagdacpaaDoor
