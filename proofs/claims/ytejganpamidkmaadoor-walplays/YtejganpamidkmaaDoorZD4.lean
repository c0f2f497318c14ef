/- This text proves what the document's own Crash of a log answers: the records that are left, and what is wrong; old memory is as it was; the condition is that the document's records lie there. -/
import Derived.Test.YtejganpamidkmaaDoorZD3
import Derived.Deep.RegionHeld3
namespace Go.Proofs.YtejganpamidkmaaDoor
open Go.RowKit Go.Deep Go.Maps

/-- Two boxes at the start of a call. -/
theorem boxes2 (w : World) (x y z : Value) : ∃ w1, (w.alloc (.cells #[x, y, z] 28)).alloc (.cells #[.slice none 0 0, .slice none 0 0, .int .i64 0] 28) = w1 ∧
    Below w.heap.size w w1 ∧ Box3 w1 w.heap.size x y z ∧ Box3 w1 (w.heap.size + 1) (.slice none 0 0) (.slice none 0 0) (.int .i64 0) ∧ w1.heap.size = w.heap.size + 2 := by
  refine ⟨_, rfl, Below.next (below_one _ _) (below_one _ _), (box3_new w x y z).later (below_one _ _), ?_, by simp⟩
  have := box3_new (w.alloc (.cells #[x, y, z] 28)) (.slice none 0 0) (.slice none 0 0) (.int .i64 0)
  rwa [show (w.alloc (.cells #[x, y, z] 28)).heap.size = w.heap.size + 1 by simp] at this

/-- The records so far that are left. -/
def lfk (M : List Rc) (k : Nat) : List Rc := (M.take k).filter fun r => endd M r.t
theorem lfk_yes {M : List Rc} {k : Nat} (hk : k < M.length) (h : endd M (rcAt M k).t = true) : lfk M (k + 1) = lfk M k ++ [rcAt M k] := by
  unfold lfk
  rw [List.take_succ_eq_append_getElem hk, List.filter_append, ← rcAt_lt hk, List.filter_cons_of_pos (p := fun r : Rc => endd M r.t) (a := rcAt M k) h, List.filter_nil]
theorem lfk_no {M : List Rc} {k : Nat} (hk : k < M.length) (h : endd M (rcAt M k).t = false) : lfk M (k + 1) = lfk M k := by
  unfold lfk
  rw [List.take_succ_eq_append_getElem hk, List.filter_append, ← rcAt_lt hk, List.filter_cons_of_neg (p := fun r : Rc => endd M r.t) (a := rcAt M k) (by rw [h]; decide), List.filter_nil, List.append_nil]
theorem lfk_all (M : List Rc) : lfk M M.length = lft M := by unfold lfk lft; rw [List.take_length]
theorem lfk_le (M : List Rc) (k : Nat) : (lfk M k).length ≤ k := by unfold lfk; exact Nat.le_trans (List.length_filter_le _ _) (by rw [List.length_take]; omega)

/-- What a crash comes to. -/
theorem crash_end {w W0 w4 : World} {vh v2 s : Value} {n : Int} {M : List Rc} (hb1 : Below w.heap.size w W0) (hs1 : w.heap.size + 2 ≤ W0.heap.size) (ho : w4.ownsRow W0.heap.size 35 3 v2 M.length (plc M)) (hb : Below W0.heap.size W0 w4) :
    ((((((w4.setCell ⟨w.heap.size, 1, none⟩ v2).setCell ⟨w.heap.size, 2, none⟩ (.int .i64 n)).setCell ⟨w.heap.size + 1, 0, none⟩ vh).setCell ⟨w.heap.size + 1, 1, none⟩ v2).setCell ⟨w.heap.size + 1, 2, none⟩ s).ownsRow w.heap.size 35 3 v2 M.length (plc M)) ∧
    Below w.heap.size w (((((w4.setCell ⟨w.heap.size, 1, none⟩ v2).setCell ⟨w.heap.size, 2, none⟩ (.int .i64 n)).setCell ⟨w.heap.size + 1, 0, none⟩ vh).setCell ⟨w.heap.size + 1, 1, none⟩ v2).setCell ⟨w.heap.size + 1, 2, none⟩ s) := by
  have hb4 : Below w.heap.size w w4 := hb1.trans (hb.mono (by omega))
  refine ⟨own_base (own_block ho fun b e => ?_) (by omega), below_set3 ((hb4.setCell (p := ⟨w.heap.size, 1, none⟩) (Nat.le_refl _) v2).setCell (p := ⟨w.heap.size, 2, none⟩) (Nat.le_refl _) _) (by omega) _ _ _⟩
  have := (ho.lt b e).1
  rw [Below.heap_setCell _ ⟨w.heap.size + 1, 2, none⟩ _ b (by show b ≠ w.heap.size + 1; omega), Below.heap_setCell _ ⟨w.heap.size + 1, 1, none⟩ _ b (by show b ≠ w.heap.size + 1; omega), Below.heap_setCell _ ⟨w.heap.size + 1, 0, none⟩ _ b (by show b ≠ w.heap.size + 1; omega), Below.heap_setCell _ ⟨w.heap.size, 2, none⟩ _ b (by show b ≠ w.heap.size; omega), Below.heap_setCell _ ⟨w.heap.size, 1, none⟩ _ b (by show b ≠ w.heap.size; omega)]

set_option maxHeartbeats 16000000 in
set_option maxRecDepth 100000 in
theorem r2crash_any (w : World) (ah : Option Addr) (ch : Nat) (vl : Value) (H : Nat → Nat) (s : Nat) (L : List Rc) (h : PutsIs w vl L) (h60 : L.length ≤ 60) (m : Int) :
    Calls Tryd.prog 8 #[.agg #[.slice ah 8 ch, vl, .int .i64 (s : Int)], .int .i64 m] w fun e w' => ∃ vl', e = .returned (.tuple #[.agg #[.slice ah 8 ch, vl', .int .i64 ((crD ⟨H, L, s⟩ m).s : Int)], .int .i64 (crE ⟨H, L, s⟩ m : Int)]) ∧ NewLog w w' vl vl' L (crD ⟨H, L, s⟩ m).L ∧ Below w.heap.size w w' := by
  obtain ⟨a, c, hvl, hlc, hform, _⟩ := id h
  obtain ⟨n, hn⟩ : ∃ n, L.length = n := ⟨_, rfl⟩
  have HN : Hid (L.length = n) := hn
  rw [hn] at hvl hlc
  subst hvl
  obtain ⟨w1, hw1, hb1, k0, k2, ksz⟩ := boxes2 w (.slice ah 8 ch) (.slice a n c) (.int .i64 (s : Int))
  have HW1 : Hid _ := hw1
  by_cases hr : (s : Int) ≤ m ∧ m ≤ (n : Int)
  · obtain ⟨J, rfl⟩ : ∃ J : Nat, m = (J : Int) := ⟨m.toNat, by omega⟩
    have hKn : J ≤ n := by omega
    have HI : Hid _ := fun (W : World) => rin_yes (J : Int) (s : Int) (n : Int) W hr
    have he : crE ⟨H, L, s⟩ (J : Int) = 0 := if_pos (by show (s : Int) ≤ (J : Int) ∧ (J : Int) ≤ (L.length : Int); rw [hn]; exact hr)
    have hd : crD ⟨H, L, s⟩ (J : Int) = ⟨H, lft (L.take J), (lft (L.take J)).length⟩ := if_pos he
    rw [he, hd]
    have hlen : (L.take J).length = J := by rw [List.length_take]; omega
    have HPw : Hid (∀ W, Below w.heap.size w W → PutsIs W (.slice a J c) (L.take J)) := fun W hW => (h.later hW).front hKn
    have hall : lfk (L.take J) J = lft (L.take J) := by
      have := lfk_all (L.take J)
      rwa [hlen] at this
    have HAll : Hid (lft (L.take J) = lfk (L.take J) J) := hall.symm
    rw [← hall]
    clear hall
    generalize L.take J = M at HPw hlen HAll ⊢
    have HB1 : Hid (Below w.heap.size w w1 ∧ w1.heap.size = w.heap.size + 2) := ⟨hb1, ksz⟩
    have HK0 : Hid (Box3 w1 w.heap.size (.slice ah 8 ch) (.slice a n c) (.int .i64 (s : Int)) ∧ Box3 w1 (w.heap.size + 1) (.slice none 0 0) (.slice none 0 0) (.int .i64 0)) := ⟨k0, k2⟩
    have hMl : M.length ≤ 60 := by omega
    have HEd : Hid (∀ W (T : Nat), Below w.heap.size w W → Calls Tryd.prog 20 #[.agg #[.slice ah 8 ch, .slice a J c, .int .i64 (s : Int)], .int .i64 (T : Int)] W fun e w' => e = .returned (.bool (endd M T)) ∧ Below W.heap.size W w') := fun W T hW => r2ended_any W ah ch _ (s : Int) M (HPw.out W hW) hMl T
    have HML : Hid (M.length = J) := hlen
    have hK60 : J ≤ 60 := by omega
    have hKc : J ≤ c := by omega
    clear h hw1 hb1 k0 k2 ksz hn he hd hr hlen hMl
    obtain ⟨ti, hti, hz0, hz1, hz2⟩ := info_parts Tryd.info35
    rcases hform with rfl | ⟨b, rfl⟩
    · go_enter Tryd.func8, Tryd.ntmps8
      go_wp2_with fail
      rw [HW1.out]
      obtain ⟨u0, u1, u2, uf0, uf1, uf2⟩ := HK0.out.1.facts
      refine Calls.mono (HI.out w1) ?_
      rintro e w2 ⟨rfl, rfl⟩
      go_wp2
      have HW0 : Hid (Box3 (w1.setCell ⟨w.heap.size, 1, none⟩ (.slice none J c)) w.heap.size (.slice ah 8 ch) (.slice none J c) (.int .i64 (s : Int)) ∧ Box3 (w1.setCell ⟨w.heap.size, 1, none⟩ (.slice none J c)) (w.heap.size + 1) (.slice none 0 0) (.slice none 0 0) (.int .i64 0) ∧ Below w.heap.size w (w1.setCell ⟨w.heap.size, 1, none⟩ (.slice none J c)) ∧ w.heap.size + 2 ≤ (w1.setCell ⟨w.heap.size, 1, none⟩ (.slice none J c)).heap.size) :=
        ⟨HK0.out.1.set1 _, HK0.out.2.same (Below.heap_setCell _ ⟨w.heap.size, 1, none⟩ _ _ (by show w.heap.size + 1 ≠ w.heap.size; omega)), HB1.out.1.setCell (p := ⟨w.heap.size, 1, none⟩) (Nat.le_refl _) _, by show _ ≤ (World.setCell _ _ _).heap.size; have := HB1.out.2; simp [World.setCell]; omega⟩
      clear u0 u1 u2 uf0 uf1 uf2
      generalize w1.setCell ⟨w.heap.size, 1, none⟩ (.slice none J c) = W0 at HW0 ⊢
      have KX : Hid (∀ W, Below W0.heap.size W0 W → Box3 W w.heap.size (.slice ah 8 ch) (.slice none J c) (.int .i64 (s : Int)) ∧ Box3 W (w.heap.size + 1) (.slice none 0 0) (.slice none 0 0) (.int .i64 0) ∧ Below w.heap.size w W) := fun W hW => ⟨HW0.out.1.later hW, HW0.out.2.1.later hW, HW0.out.2.2.1.trans (hW.mono (by have := HW0.out.2.2.2; omega))⟩
      go_loopw [6, 7] (fun vo i wr => ∃ k : Nat, k ≤ J ∧ i = .int .i64 (k : Int) ∧ wr.ownsRow W0.heap.size 35 3 vo (lfk M k).length (plc (lfk M k)) ∧ Below W0.heap.size W0 wr) (fun _ i _ => J - (Go.RowKit.intOf i).toNat)
      case atStart => exact ⟨0, Nat.zero_le _, rfl, World.ownsRow_nil _ _ _ _, Below.refl _ _⟩
      case round =>
        obtain ⟨k, hk, rfl, ho, hb⟩ := hrel
        have OR : Hid (wr.ownsRow W0.heap.size 35 3 u6 (lfk M k).length (plc (lfk M k))) := ho
        have BR : Hid (Below W0.heap.size W0 wr) := hb
        clear ho hb
        obtain ⟨m0, m2, mb⟩ := KX.out wr BR.out
        obtain ⟨u0, u1, u2, uf0, uf1, uf2⟩ := m0.facts
        by_cases hlt : k < J
        · have hkM : k < M.length := by rw [HML.out]; exact hlt
          obtain ⟨aw, cw, bw, ew, _, haw, _, _⟩ := (HPw.out w (Below.refl _ _)).where
          have haw2 := haw (by omega)
          subst haw2
          exact absurd ew (by simp)
        · obtain rfl : k = J := by omega
          obtain ⟨ao, co, rfl⟩ := rown_form OR.out
          obtain ⟨y0, y1, y2, f0, f1, f2⟩ := m2.facts
          have HD : Hid _ := fun (_ : Nat) => crash_end (vh := .slice ah 8 ch) (s := .int .i64 ((lfk M k).length : Int)) (n := ((lfk M k).length : Int)) HW0.out.2.2.1 HW0.out.2.2.2 OR.out BR.out
          have hno : (lfk M k).length ≤ 60 := by have := lfk_le M k; omega
          clear m0 m2 mb
          generalize hN : (lfk M k).length = N at HD hno ⊢
          go_wp2
          refine bodyPost_ret (v := .tuple #[.agg #[.slice ah 8 ch, .slice ao N co, .int .i64 (N : Int)], .int .i64 0]) ?_ rfl ?_
          · rw [results_cell2 rfl]
            go_simp
          · exact ⟨_, by rw [hN]; rfl, .inr (by rw [hN]; exact (HD.out 0).1), (HD.out 0).2⟩
    · go_enter Tryd.func8, Tryd.ntmps8
      go_wp2_with fail
      rw [HW1.out]
      obtain ⟨u0, u1, u2, uf0, uf1, uf2⟩ := HK0.out.1.facts
      refine Calls.mono (HI.out w1) ?_
      rintro e w2 ⟨rfl, rfl⟩
      go_wp2
      have HW0 : Hid (Box3 (w1.setCell ⟨w.heap.size, 1, none⟩ (.slice (some ⟨b, 0, none⟩) J c)) w.heap.size (.slice ah 8 ch) (.slice (some ⟨b, 0, none⟩) J c) (.int .i64 (s : Int)) ∧ Box3 (w1.setCell ⟨w.heap.size, 1, none⟩ (.slice (some ⟨b, 0, none⟩) J c)) (w.heap.size + 1) (.slice none 0 0) (.slice none 0 0) (.int .i64 0) ∧ Below w.heap.size w (w1.setCell ⟨w.heap.size, 1, none⟩ (.slice (some ⟨b, 0, none⟩) J c)) ∧ w.heap.size + 2 ≤ (w1.setCell ⟨w.heap.size, 1, none⟩ (.slice (some ⟨b, 0, none⟩) J c)).heap.size) :=
        ⟨HK0.out.1.set1 _, HK0.out.2.same (Below.heap_setCell _ ⟨w.heap.size, 1, none⟩ _ _ (by show w.heap.size + 1 ≠ w.heap.size; omega)), HB1.out.1.setCell (p := ⟨w.heap.size, 1, none⟩) (Nat.le_refl _) _, by show _ ≤ (World.setCell _ _ _).heap.size; have := HB1.out.2; simp [World.setCell]; omega⟩
      clear u0 u1 u2 uf0 uf1 uf2
      generalize w1.setCell ⟨w.heap.size, 1, none⟩ (.slice (some ⟨b, 0, none⟩) J c) = W0 at HW0 ⊢
      have KX : Hid (∀ W, Below W0.heap.size W0 W → Box3 W w.heap.size (.slice ah 8 ch) (.slice (some ⟨b, 0, none⟩) J c) (.int .i64 (s : Int)) ∧ Box3 W (w.heap.size + 1) (.slice none 0 0) (.slice none 0 0) (.int .i64 0) ∧ Below w.heap.size w W) := fun W hW => ⟨HW0.out.1.later hW, HW0.out.2.1.later hW, HW0.out.2.2.1.trans (hW.mono (by have := HW0.out.2.2.2; omega))⟩
      go_loopw [6, 7] (fun vo i wr => ∃ k : Nat, k ≤ J ∧ i = .int .i64 (k : Int) ∧ wr.ownsRow W0.heap.size 35 3 vo (lfk M k).length (plc (lfk M k)) ∧ Below W0.heap.size W0 wr) (fun _ i _ => J - (Go.RowKit.intOf i).toNat)
      case atStart => exact ⟨0, Nat.zero_le _, rfl, World.ownsRow_nil _ _ _ _, Below.refl _ _⟩
      case round =>
        obtain ⟨k, hk, rfl, ho, hb⟩ := hrel
        have OR : Hid (wr.ownsRow W0.heap.size 35 3 u6 (lfk M k).length (plc (lfk M k))) := ho
        have BR : Hid (Below W0.heap.size W0 wr) := hb
        clear ho hb
        obtain ⟨m0, m2, mb⟩ := KX.out wr BR.out
        obtain ⟨u0, u1, u2, uf0, uf1, uf2⟩ := m0.facts
        by_cases hlt : k < J
        · have hkM : k < M.length := by rw [HML.out]; exact hlt
          obtain ⟨aw, cw, bw, ew, _, haw, hbw, hcw⟩ := (HPw.out w (Below.refl _ _)).where
          have haw2 := haw (by omega)
          subst haw2
          have hbb : b = bw := congrArg (fun v : Value => (v.ownBlock).getD 0) ew
          clear ew
          subst hbb
          have HCk : Hid (∀ W, Below W0.heap.size W0 W → W.cell? ⟨b, k * 3, none⟩ = some (.int .i64 ((rcAt M k).t : Int)) ∧ W.cell? ⟨b, k * 3 + 1, none⟩ = some (.int .i64 (pcB (rcAt M k))) ∧ W.cell? ⟨b, k * 3 + 2, none⟩ = some (.int .i64 (pcV (rcAt M k)))) := fun W hW => by
            have hwW := (KX.out W hW).2.2
            have hbl := hbw (by omega)
            obtain ⟨c0, c1, c2⟩ := hcw k hkM
            exact ⟨by rw [hwW.cell (p := ⟨b, k * 3, none⟩) hbl]; exact c0, by rw [hwW.cell (p := ⟨b, k * 3 + 1, none⟩) hbl]; exact c1, by rw [hwW.cell (p := ⟨b, k * 3 + 2, none⟩) hbl]; exact c2⟩
          have HEk : Hid _ := fun (_ : Nat) => HEd.out wr.drew (rcAt M k).t (mb.trans (below_drew1 _ _))
          have HYes : Hid (endd M (rcAt M k).t = true → lfk M (k + 1) = lfk M k ++ [rcAt M k]) := lfk_yes hkM
          have HNo : Hid (endd M (rcAt M k).t = false → lfk M (k + 1) = lfk M k) := lfk_no hkM
          have HKp : Hid (∀ W, Below wr.drew.heap.size wr.drew W → (W.cell? ⟨w.heap.size, 0, none⟩ = some (.slice ah 8 ch) ∧ W.cell? ⟨w.heap.size, 1, none⟩ = some (.slice (some ⟨b, 0, none⟩) J c) ∧ W.cell? ⟨w.heap.size, 2, none⟩ = some (.int .i64 (s : Int)) ∧ W.cell? ⟨b, k * 3, none⟩ = some (.int .i64 ((rcAt M k).t : Int))) ∧ Below W0.heap.size W0 W ∧ W.ownsRow W0.heap.size 35 3 u6 (lfk M k).length (plc (lfk M k))) := fun W hW => by
            have hz : Below W0.heap.size W0 W := BR.out.trans ((undrew1 hW).mono BR.out.size)
            obtain ⟨z0, z1, z2, _, _, _⟩ := (KX.out W hz).1.facts
            exact ⟨⟨z0, z1, z2, (HCk.out W hz).1⟩, hz, xown_later OR.out (undrew1 hW)⟩
          have hl60 : (lfk M k).length ≤ 60 := by have := lfk_le M k; omega
          obtain ⟨N, hN⟩ : ∃ N, (lfk M k).length = N := ⟨_, rfl⟩
          have HLN : Hid ((lfk M k).length = N) := hN
          rw [hN] at HKp hl60
          obtain ⟨c0, _, _⟩ := HCk.out wr BR.out
          clear hN hcw hbw haw mb m0 m2 uf0 uf1 uf2
          cases hE : endd M (rcAt M k).t with
          | false =>
            rw [hE] at HEk
            have HL : Hid (lfk M (k + 1) = lfk M k) := HNo.out hE
            clear hE
            go_wp2_with fail
            go_region_held3 (fun w' => w'.cell? ⟨w.heap.size, 0, none⟩ = some (.slice ah 8 ch) ∧ w'.cell? ⟨w.heap.size, 1, none⟩ = some (.slice (some ⟨b, 0, none⟩) J c) ∧ w'.cell? ⟨w.heap.size, 2, none⟩ = some (.int .i64 (s : Int)) ∧ w'.cell? ⟨b, k * 3, none⟩ = some (.int .i64 ((rcAt M k).t : Int)))
              (first | (go_split_ands; exact HB5.out.1) | go_keep)
              (first | (go_at_call 20; refine (HEk.out 0).mono ?_; rintro e w5 ⟨rfl, hb5⟩; have HB5 : Hid _ := HKp.out w5 hb5; clear hb5))
            go_wp2
            go_roundw
            case rel => exact ⟨k + 1, by omega, by go_num, by rw [HL.out, HLN.out]; exact HB5.out.2.2, HB5.out.2.1⟩
            case measure => simp [Go.RowKit.intOf]; omega
          | true =>
            rw [hE] at HEk
            have HL : Hid (lfk M (k + 1) = lfk M k ++ [rcAt M k]) := HYes.out hE
            clear hE
            go_wp2_with fail
            go_region_held3 (fun w' => w'.cell? ⟨w.heap.size, 0, none⟩ = some (.slice ah 8 ch) ∧ w'.cell? ⟨w.heap.size, 1, none⟩ = some (.slice (some ⟨b, 0, none⟩) J c) ∧ w'.cell? ⟨w.heap.size, 2, none⟩ = some (.int .i64 (s : Int)) ∧ w'.cell? ⟨b, k * 3, none⟩ = some (.int .i64 ((rcAt M k).t : Int)))
              (first | (go_split_ands; exact HB5.out.1) | go_keep)
              (first | (go_at_call 20; refine (HEk.out 0).mono ?_; rintro e w5 ⟨rfl, hb5⟩; have HB5 : Hid _ := HKp.out w5 hb5; clear hb5))
            clear u0 u1 u2 c0
            obtain ⟨⟨u0, u1, u2, c0⟩, _, _⟩ := HB5.out
            obtain ⟨_, c1, c2⟩ := HCk.out w5 HB5.out.2.1
            go_wp2_with (at_builtin; refine wpList_append_own _ (by rfl) (.tmp 35) (.tmp 41) 26 (by rfl) W0.heap.size 35 ti (.agg #[.int .i64 0, .int .i64 0, .int .i64 0]) 3 24 Tryd.underlying26 hti hz0 hz1 hz2 rfl (by decide) u6 N (plc (lfk M k)) (by rfl) (HB5.out.2.2.alloc _) ⟨w5.heap.size, 0, none⟩ 1 1 [.int .i64 ((rcAt M k).t : Int), .int .i64 (pcB (rcAt M k)), .int .i64 (pcV (rcAt M k))] (by rfl) rfl (news_three w5 _ _ _ 35) (ones_three _ _ _) ?p1 ?p2 ?p3 ?p4)
            case p1 => unfold maxLen; omega
            case p2 => omega
            case p3 => have := HB5.out.2.1.size; simp; omega
            case p4 =>
              intro v2 w6 hown hgr _
              have hb6 : Below W0.heap.size W0 w6 := (HB5.out.2.1.alloc HB5.out.2.1.size _).grown hgr (by have := HB5.out.2.1.size; simp; omega) (fun k e => (HB5.out.2.2.lt k e).1)
              have O6 : Hid (w6.ownsRow W0.heap.size 35 3 v2 (lfk M (k + 1)).length (plc (lfk M (k + 1)))) := by
                show World.ownsRow _ _ _ _ _ _ _
                rw [HL.out, List.length_append, HLN.out, ← plc_snoc]
                exact hown
              have B6 : Hid (Below W0.heap.size W0 w6) := hb6
              clear hown hgr hb6
              go_wp2
              go_roundw
              case rel => exact ⟨k + 1, by omega, by go_num, O6.out, B6.out⟩
              case measure => simp [Go.RowKit.intOf]; omega
        · obtain rfl : k = J := by omega
          obtain ⟨ao, co, rfl⟩ := rown_form OR.out
          obtain ⟨y0, y1, y2, f0, f1, f2⟩ := m2.facts
          have HD : Hid _ := fun (_ : Nat) => crash_end (vh := .slice ah 8 ch) (s := .int .i64 ((lfk M k).length : Int)) (n := ((lfk M k).length : Int)) HW0.out.2.2.1 HW0.out.2.2.2 OR.out BR.out
          have hno : (lfk M k).length ≤ 60 := by have := lfk_le M k; omega
          clear m0 m2 mb
          generalize hN : (lfk M k).length = N at HD hno ⊢
          go_wp2
          refine bodyPost_ret (v := .tuple #[.agg #[.slice ah 8 ch, .slice ao N co, .int .i64 (N : Int)], .int .i64 0]) ?_ rfl ?_
          · rw [results_cell2 rfl]
            go_simp
          · exact ⟨_, by rw [hN]; rfl, .inr (by rw [hN]; exact (HD.out 0).1), (HD.out 0).2⟩
  · have HI : Hid _ := fun (W : World) => rin_no m (s : Int) (n : Int) W hr
    have he : crE ⟨H, L, s⟩ m = 1 := if_neg (by show ¬ ((s : Int) ≤ m ∧ m ≤ (L.length : Int)); rw [hn]; exact hr)
    have hd : crD ⟨H, L, s⟩ m = ⟨H, L, s⟩ := if_neg (by rw [he]; decide)
    rw [he, hd]
    obtain ⟨u0, u1, u2, _, _, _⟩ := k0.facts
    obtain ⟨y0, y1, y2, f0, f1, f2⟩ := k2.facts
    have HErr : Hid (Below w.heap.size w (((w1.setCell ⟨w.heap.size + 1, 0, none⟩ (.slice ah 8 ch)).setCell ⟨w.heap.size + 1, 1, none⟩ (.slice a n c)).setCell ⟨w.heap.size + 1, 2, none⟩ (.int .i64 (s : Int)))) := below_set3 hb1 (by omega) _ _ _
    clear h hw1 hb1 k0 k2 ksz hn he hd hr
    go_enter Tryd.func8, Tryd.ntmps8
    go_wp2_with fail
    rw [HW1.out]
    refine Calls.mono (HI.out w1) ?_
    rintro e w2 ⟨rfl, rfl⟩
    go_wp2
    refine bodyPost_ret (v := .tuple #[.agg #[.slice ah 8 ch, .slice a n c, .int .i64 (s : Int)], .int .i64 1]) ?_ rfl ?_
    · rw [results_cell2 rfl]
      go_simp
    · exact ⟨_, rfl, .inl ⟨rfl, rfl⟩, HErr.out⟩

end Go.Proofs.YtejganpamidkmaaDoor
