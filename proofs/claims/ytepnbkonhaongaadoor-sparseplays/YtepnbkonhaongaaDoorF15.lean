/- This text proves what the document's own Cut answers: the file behind it, and what is wrong; old memory is as it was; the condition is that the document's lists lie there. -/
import Derived.Test.YtepnbkonhaongaaDoorF14
import Derived.Test.YtepnbkonhaongaaDoorF8
namespace Go.Proofs.YtepnbkonhaongaaDoor
open Go.RowKit Go.Deep Go.Maps

/-- A file behind some rounds of a cut. -/
def ckF (f : Fil) (m k : Nat) : Fil := ⟨f.s, fun p => if m ≤ p ∧ p < k then 0 else f.c p, fun j => if m ≤ 4 * j ∧ 4 * j < k then false else f.h j⟩
theorem ckF_start {S : Nat → Prop} {w : World} {vb vk : Value} {f : Fil} (h : DocS S w vb vk f) (m : Nat) : DocS S w vb vk (ckF f m m) :=
  h.alike (fun i _ => (if_neg (by omega)).symm) (fun j _ => (if_neg (by omega)).symm)
theorem ckF_end {S : Nat → Prop} {w : World} {vb vk : Value} {f : Fil} {m : Nat} (h : DocS S w vb vk (ckF f m 64)) : DocS S w vb vk (ctF f m) := by
  refine h.alike (fun i hi => ?_) (fun j hj => ?_)
  · show (if m ≤ i ∧ i < 64 then 0 else f.c i) = if i < m then f.c i else 0
    by_cases e : i < m
    · rw [if_neg (by omega), if_pos e]
    · rw [if_pos (by omega), if_neg e]
  · show (if m ≤ 4 * j ∧ 4 * j < 64 then false else f.h j) = (f.h j && decide (4 * j < m))
    by_cases e : 4 * j < m
    · rw [if_neg (by omega), decide_eq_true e, Bool.and_true]
    · rw [if_pos (by omega), decide_eq_false e, Bool.and_false]
theorem ckF_by {f : Fil} {m k : Nat} (hk : m ≤ k) : byC (fun q => if q = k then 0 else (ckF f m k).c q) = byC (ckF f m (k + 1)).c := byC_same fun i _ => by
  show (if i = k then 0 else (if m ≤ i ∧ i < k then 0 else f.c i)) = if m ≤ i ∧ i < k + 1 then 0 else f.c i
  by_cases e : i = k
  · rw [if_pos e, if_pos (by omega)]
  · rw [if_neg e]
    by_cases e2 : m ≤ i ∧ i < k
    · rw [if_pos e2, if_pos (by omega)]
    · rw [if_neg e2, if_neg (by omega)]
theorem ckF_bk {f : Fil} {m k j : Nat} (hk : m ≤ k) (hj : k = 4 * j) : bkH (fun q => if q = j then false else (ckF f m k).h q) = bkH (ckF f m (k + 1)).h := bkH_same fun i _ => by
  show (if i = j then false else (if m ≤ 4 * i ∧ 4 * i < k then false else f.h i)) = if m ≤ 4 * i ∧ 4 * i < k + 1 then false else f.h i
  by_cases e : i = j
  · rw [if_pos e, if_pos (by omega)]
  · rw [if_neg e]
    by_cases e2 : m ≤ 4 * i ∧ 4 * i < k
    · rw [if_pos e2, if_pos (by omega)]
    · rw [if_neg e2, if_neg (by omega)]
theorem ckF_bk0 {f : Fil} {m k : Nat} (hj : ¬ k % 4 = 0) : bkH (ckF f m k).h = bkH (ckF f m (k + 1)).h := bkH_same fun i _ => by
  show (if m ≤ 4 * i ∧ 4 * i < k then false else f.h i) = if m ≤ 4 * i ∧ 4 * i < k + 1 then false else f.h i
  by_cases e2 : m ≤ 4 * i ∧ 4 * i < k
  · rw [if_pos e2, if_pos (by omega)]
  · rw [if_neg e2, if_neg (by omega)]

theorem below_set3 {G b : Nat} {w w' : World} (hb : Below G w w') (hle : G ≤ b) (x y z : Value) : Below G w (((w'.setCell ⟨b, 0, none⟩ x).setCell ⟨b, 1, none⟩ y).setCell ⟨b, 2, none⟩ z) :=
  ((hb.setCell (p := ⟨b, 0, none⟩) hle x).setCell (p := ⟨b, 1, none⟩) hle y).setCell (p := ⟨b, 2, none⟩) hle z
theorem stay_set3 {S : Nat → Prop} (w : World) {b : Nat} (hS : S b) (x y z : Value) : Stay S w (((w.setCell ⟨b, 0, none⟩ x).setCell ⟨b, 1, none⟩ y).setCell ⟨b, 2, none⟩ z) :=
  ((Stay.set w x hS).trans (Stay.set _ y hS)).trans (Stay.set _ z hS)

/-- Blocks that may be turned within a call: those of before, and its two boxes. -/
def In2B (S : Nat → Prop) (B x : Nat) : Prop := S x ∨ x = B ∨ x = B + 1

set_option maxHeartbeats 8000000 in
set_option maxRecDepth 100000 in
theorem r2cut_any (S : Nat → Prop) (w : World) (hS : ∀ x, S x → x < w.heap.size) (vb vk : Value) (f : Fil) (h : DocS S w vb vk f) (n : Int) :
    Calls Tryd.prog 7 #[.agg #[vb, .int .i64 (f.s : Int), vk], .int .i64 n] w fun e w' => ∃ vb' vk', e = .returned (.tuple #[.agg #[vb', .int .i64 ((ctoF f n).s : Int), vk'], .int .i64 (ctE n : Int)]) ∧ DocS S w' vb' vk' (ctoF f n) ∧ Below w.heap.size w w' := by
  obtain ⟨ab, cb, ak, ck, rfl, hcb, rfl, hck⟩ := h.form
  obtain ⟨s, hs0⟩ : ∃ s, s = f.s := ⟨_, rfl⟩
  have HSz : Hid (s = f.s) := hs0
  rw [← hs0]
  obtain ⟨w1, hw1, hb1, k0, k1⟩ := boxes_new w (.slice ab 64 cb) (.int .i64 (s : Int)) (.slice ak 16 ck) (.slice none 0 0) (.int .i64 0) (.slice none 0 0)
  obtain ⟨B, hB0⟩ : ∃ B, B = w.heap.size := ⟨_, rfl⟩
  rw [← hB0] at hb1 k0 k1 ⊢
  have HBz : Hid (B = w.heap.size) := hB0
  have HW1 : Hid _ := hw1
  have HD1 : Hid (DocS (In2B S B) w1 (.slice ab 64 cb) (.slice ak 16 ck) f) := h.wide (Stay.of (by rw [← hB0]; exact hb1)) (by
    rintro x (e | e | e)
    · exact .inl e
    · exact .inr (by omega)
    · exact .inr (by omega))
  have HST : Hid (Box3 w1 B (.slice ab 64 cb) (.int .i64 (s : Int)) (.slice ak 16 ck) ∧ Box3 w1 (B + 1) (.slice none 0 0) (.int .i64 0) (.slice none 0 0) ∧ Below B w w1) := ⟨k0, k1, hb1⟩
  have HI : Hid _ := fun (W : World) => r2in_any n W
  have HLs : Hid (∀ {W a b F}, DocS (In2B S B) W a b F → DocS S W a b F) := fun hD => hD.less fun x hx => .inl hx
  clear h hw1 hb1 k0 k1 hs0 hB0
  unfold ctE ctoF
  cases hn : isS n with
  | false =>
    rw [hn] at HI
    obtain ⟨x0, x1, x2, _, _, _⟩ := HST.out.1.facts
    obtain ⟨y0, y1, y2, f0, f1, f2⟩ := HST.out.2.1.facts
    rw [if_neg (by decide), if_neg (by decide), ← HSz.out]
    clear hn
    go_enter Tryd.func7, Tryd.ntmps7
    go_wp2_with fail
    rw [HW1.out, ← HBz.out]
    refine Calls.mono (HI.out w1) ?_
    rintro e w2 ⟨rfl, rfl⟩
    go_wp2_with fail
    refine bodyPost_ret (v := .tuple #[.agg #[.slice ab 64 cb, .int .i64 (s : Int), .slice ak 16 ck], .int .i64 1]) ?_ rfl ?_
    · rw [results_cell2 rfl]
      go_simp
    · exact ⟨_, _, rfl, HLs.out (HD1.out.stay (stay_set3 w1 (b := B + 1) (.inr (.inr rfl)) _ _ _)), below_set3 HST.out.2.2 (by omega) _ _ _⟩
  | true =>
    rw [hn] at HI
    obtain ⟨hn0, hn1⟩ := isS_iff.1 hn
    obtain ⟨m, rfl⟩ : ∃ m : Nat, n = (m : Int) := ⟨n.toNat, by omega⟩
    rw [if_pos rfl, if_pos rfl, Int.toNat_natCast, show (ctF f m).s = m from rfl]
    clear hn
    go_enter Tryd.func7, Tryd.ntmps7
    go_wp2_with fail
    rw [HW1.out, ← HBz.out]
    refine Calls.mono (HI.out w1) ?_
    rintro e w2 ⟨rfl, rfl⟩
    go_wp2
    go_loopw [6] (fun i wr => ∃ (k : Nat) (vb' vk' : Value), m ≤ k ∧ k ≤ 64 ∧ i = .int .i64 (k : Int) ∧ Box3 wr B vb' (.int .i64 (s : Int)) vk' ∧ Box3 wr (B + 1) (.slice none 0 0) (.int .i64 0) (.slice none 0 0) ∧ DocS (In2B S B) wr vb' vk' (ckF f m k) ∧ Below B w wr) (fun i _ => 64 - (Go.RowKit.intOf i).toNat)
    case atStart => exact ⟨m, _, _, Nat.le_refl _, by omega, rfl, HST.out.1, HST.out.2.1, ckF_start HD1.out m, HST.out.2.2⟩
    case round =>
      obtain ⟨k, vb', vk', hmk, hk, rfl, hx0, hx1, hd, hb⟩ := hrel
      obtain ⟨ab', cb', ak', ck', rfl, _, rfl, _⟩ := hd.form
      have HX0 : Hid (Box3 wr B (.slice ab' 64 cb') (.int .i64 (s : Int)) (.slice ak' 16 ck')) := hx0
      have HX1 : Hid (Box3 wr (B + 1) (.slice none 0 0) (.int .i64 0) (.slice none 0 0)) := hx1
      have HD : Hid (DocS (In2B S B) wr (.slice ab' 64 cb') (.slice ak' 16 ck') (ckF f m k)) := hd
      have HB : Hid (Below B w wr) := hb
      have HSr : Hid (∀ x, In2B S B x → x < wr.heap.size) := fun x hx => by
        have h1 := hx1.lt
        have h0 := hb.size
        have hz := HBz.out
        rcases hx with e | e | e
        · have := hS x e; omega
        · omega
        · omega
      clear hx0 hx1 hd hb
      by_cases hlt : k < 64
      · have hlt' : (k : Int) < 64 := by omega
        obtain ⟨x0, x1, x2, f0, f1, f2⟩ := HX0.out.facts
        have H1 : Hid _ := fun (_ : Nat) => set_keeps (S := In2B S B) wr _ _ 64 k 0 HD.out.by'.is (byC_len _) hlt (by omega) HSr.out
        rw [byC_set, ckF_by hmk] at H1
        go_wp2_with fail
        refine (H1.out 0).mono ?_
        rintro e w2 ⟨v2, rfl, hk2, hb2⟩
        obtain ⟨a2, c2, hv2, hc2, _⟩ := id hk2
        rw [byC_len] at hv2 hc2
        subst hv2
        have HK2 : Hid (KeepsC (In2B S B) w2 (.slice a2 64 c2) (byC (ckF f m (k + 1)).c)) := hk2
        have HB2 : Hid (Below wr.heap.size wr w2) := hb2
        obtain ⟨y0, y1, y2, g0, g1, g2⟩ := (HX0.out.later hb2).facts
        clear hk2 hb2 x0 x1 x2 f0 f1 f2
        obtain ⟨w3, hw3⟩ : ∃ w3, w2.setCell ⟨B, 0, none⟩ (.slice a2 64 c2) = w3 := ⟨_, rfl⟩
        have HW3 : Hid (w2.setCell ⟨B, 0, none⟩ (.slice a2 64 c2) = w3) := hw3
        have hst3 : Stay (In2B S B) wr w3 := by rw [← hw3]; exact (Stay.of HB2.out).trans (Stay.set _ _ (.inr (.inl rfl)))
        have HX03 : Hid (Box3 w3 B (.slice a2 64 c2) (.int .i64 (s : Int)) (.slice ak' 16 ck')) := by rw [← hw3]; exact (HX0.out.later HB2.out).set0 _
        have HX13 : Hid (Box3 w3 (B + 1) (.slice none 0 0) (.int .i64 0) (.slice none 0 0)) := by rw [← hw3]; exact (HX1.out.later HB2.out).off (by simp) _
        have HK23 : Hid (KeepsC (In2B S B) w3 (.slice a2 64 c2) (byC (ckF f m (k + 1)).c)) := by rw [← hw3]; exact HK2.out.stay (Stay.set _ _ (.inr (.inl rfl)))
        have HKk : Hid (KeepsC (In2B S B) w3 (.slice ak' 16 ck') (bkH (ckF f m k).h)) := HD.out.bk.stay hst3
        have HB3 : Hid (Below B w w3) := by
          rw [← hw3]
          exact (HB.out.trans (HB2.out.mono (by have := HX1.out.lt; omega))).setCell (p := ⟨B, 0, none⟩) (Nat.le_refl _) _
        have HSr3 : Hid (∀ x, In2B S B x → x < w3.heap.size) := fun x hx => Nat.lt_of_lt_of_le (HSr.out x hx) hst3.size
        clear hst3
        by_cases h4 : k % 4 = 0
        · obtain ⟨j, hj⟩ : ∃ j, k = 4 * j := ⟨k / 4, by omega⟩
          have HJ : Hid (k = 4 * j) := hj
          have hr : (k : Int) % 4 = 0 := by omega
          have hq : (k : Int) / 4 = (j : Int) := by omega
          have H2 : Hid _ := fun (_ : Nat) => set_keeps (S := In2B S B) w3 _ _ 16 j 0 HKk.out.is (bkH_len _) (by omega) (by omega) HSr3.out
          have hset := bkH_set (ckF f m k).h j false
          rw [show (if false = true then (1 : Int) else 0) = 0 from rfl, ckF_bk hmk hj] at hset
          rw [hset] at H2
          clear hj h4 hset hw3
          go_wp2_with fail
          rw [HW3.out]
          refine (H2.out 0).mono ?_
          rintro e w4 ⟨v4, rfl, hk4, hb4⟩
          obtain ⟨a4, c4, hv4, _, _⟩ := id hk4
          rw [bkH_len] at hv4
          subst hv4
          have HK4 : Hid (KeepsC (In2B S B) w4 (.slice a4 16 c4) (bkH (ckF f m (k + 1)).h)) := hk4
          have HB4 : Hid (Below w3.heap.size w3 w4) := hb4
          clear y0 y1 y2 g0 g1 g2
          obtain ⟨y0, y1, y2, g0, g1, g2⟩ := (HX03.out.later hb4).facts
          clear hk4 hb4
          go_wp2
          go_roundw
          case rel =>
            refine ⟨k + 1, _, _, by omega, by omega, by go_num, (HX03.out.later HB4.out).set2 _, (HX13.out.later HB4.out).off (by simp) _, ⟨(HK23.out.stay (Stay.of HB4.out)).stay (Stay.set _ _ (.inr (.inl rfl))), HK4.out.stay (Stay.set _ _ (.inr (.inl rfl)))⟩, (HB3.out.trans (HB4.out.mono (by have := HX13.out.lt; omega))).setCell (p := ⟨B, 2, none⟩) (Nat.le_refl _) _⟩
          case measure => simp [Go.RowKit.intOf]; omega
        · have hr : ¬ (k : Int) % 4 = 0 := by omega
          have HKk1 : Hid (KeepsC (In2B S B) w3 (.slice ak' 16 ck') (bkH (ckF f m (k + 1)).h)) := by rw [← ckF_bk0 h4]; exact HKk.out
          clear h4 hw3
          go_wp2
          rw [HW3.out]
          go_roundw
          case rel => exact ⟨k + 1, _, _, by omega, by omega, by go_num, HX03.out, HX13.out, ⟨HK23.out, HKk1.out⟩, HB3.out⟩
          case measure => simp [Go.RowKit.intOf]; omega
      · have hkn : k = 64 := by omega
        subst hkn
        obtain ⟨x0, x1, x2, f0, f1, f2⟩ := HX0.out.facts
        obtain ⟨y0, y1, y2, g0, g1, g2⟩ := HX1.out.facts
        have HE : Hid (DocS (In2B S B) wr (.slice ab' 64 cb') (.slice ak' 16 ck') (ctF f m)) := ckF_end HD.out
        go_wp2_with fail
        refine bodyPost_ret (v := .tuple #[.agg #[.slice ab' 64 cb', .int .i64 (m : Int), .slice ak' 16 ck'], .int .i64 0]) ?_ rfl ?_
        · rw [results_cell2 rfl]
          go_simp
        · exact ⟨_, _, rfl, HLs.out ((HE.out.stay (Stay.set wr _ (.inr (.inl rfl)))).stay (stay_set3 _ (b := B + 1) (.inr (.inr rfl)) _ _ _)), below_set3 (HB.out.setCell (p := ⟨B, 1, none⟩) (Nat.le_refl _) _) (by omega) _ _ _⟩

end Go.Proofs.YtepnbkonhaongaaDoor
