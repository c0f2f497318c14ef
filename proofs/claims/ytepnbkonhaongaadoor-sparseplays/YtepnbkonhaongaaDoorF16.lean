/- This text proves what the document's own Write answers: the file behind it, and what is wrong; old memory is as it was; the conditions are that the document's lists lie there, and the bytes. -/
import Derived.Test.YtepnbkonhaongaaDoorF15
import Derived.Test.YtepnbkonhaongaaDoorRb
import Derived.Test.YtepnbkonhaongaaDoorLj
import Derived.Test.YtepnbkonhaongaaDoorHl
namespace Go.Proofs.YtepnbkonhaongaaDoor
open Go.RowKit Go.Deep Go.Maps

theorem all_bad (xs : List Int) : allB 0 255 xs = !xs.any badB := by
  unfold allB
  induction xs with
  | nil => rfl
  | cons x l ih =>
    rw [List.all_cons, List.any_cons, ih]
    have e : decide (0 ≤ x ∧ x ≤ 255) = !badB x := by
      unfold badB
      by_cases h1 : x < 0
      · rw [decide_eq_true h1, decide_eq_false (by omega)]; rfl
      · by_cases h2 : 255 < x
        · rw [decide_eq_true h2, decide_eq_false (by omega), decide_eq_false h1]; rfl
        · rw [decide_eq_false h2, decide_eq_true (by omega), decide_eq_false h1]; rfl
    rw [e]
    cases badB x <;> rfl
theorem bytes_bad {a : Int} {xs : List Int} (h : bytesE 64 xs ≠ 0) : wrE a xs = bytesE 64 xs := by
  unfold bytesE at h ⊢
  unfold wrE
  rw [all_bad] at h ⊢
  by_cases h1 : 64 < xs.length
  · rw [if_pos h1, if_pos (by omega)]
  · have h1' : ¬ (64 : Int) < (xs.length : Int) := by omega
    rw [if_neg h1'] at h ⊢
    rw [if_neg h1]
    cases hb : xs.any badB
    · rw [hb] at h; exact absurd rfl h
    · rw [if_pos (.inr rfl)]; rfl
theorem bytes_good {xs : List Int} (h : bytesE 64 xs = 0) : xs.length ≤ 64 ∧ xs.any badB = false := by
  unfold bytesE at h
  rw [all_bad] at h
  split at h
  · cases h
  · refine ⟨by omega, ?_⟩
    cases hb : xs.any badB
    · rfl
    · rw [hb] at h; cases h

/-- A file behind some rounds of a write. -/
def wkF (f : Fil) (A : Nat) (xs : List Int) (k : Nat) : Fil := ⟨if 0 < k then max f.s (A + k) else f.s, (putN f A xs k).c, (putN f A xs k).h⟩
theorem wkF_end (f : Fil) (A : Nat) (xs : List Int) : wkF f A xs xs.length = wrF f A xs := rfl
theorem wkF_by (f : Fil) (A : Nat) (xs : List Int) (k : Nat) : byC (fun q => if q = A + k then nth xs k else (wkF f A xs k).c q) = byC (wkF f A xs (k + 1)).c := rfl
theorem wkF_bk (f : Fil) (A : Nat) (xs : List Int) (k : Nat) : bkH (fun j => if j = (A + k) / 4 then true else (wkF f A xs k).h j) = bkH (wkF f A xs (k + 1)).h := rfl
theorem wkF_s (f : Fil) (A : Nat) (xs : List Int) (k : Nat) : (wkF f A xs (k + 1)).s = if (wkF f A xs k).s ≤ A + k then A + k + 1 else (wkF f A xs k).s := by
  show (if 0 < k + 1 then max f.s (A + (k + 1)) else f.s) = if (if 0 < k then max f.s (A + k) else f.s) ≤ A + k then A + k + 1 else (if 0 < k then max f.s (A + k) else f.s)
  rw [if_pos (by omega)]
  by_cases h : 0 < k
  · rw [if_pos h]
    split <;> omega
  · rw [if_neg h]
    split <;> omega
theorem wkF_le {f : Fil} (hw : f.s ≤ 64) (A : Nat) (xs : List Int) {k : Nat} (h : A + k ≤ 64) : (wkF f A xs k).s ≤ 64 := by
  show (if 0 < k then max f.s (A + k) else f.s) ≤ 64
  split <;> omega
theorem wrap_small {x : Int} (h0 : 0 ≤ x) (h1 : x ≤ 1000) : IntKind.i64.wrap x = x := by
  unfold IntKind.wrap
  simp [IntKind.bits, IntKind.signed]
  omega

set_option maxHeartbeats 16000000 in
set_option maxRecDepth 100000 in
theorem r2write_any (S : Nat → Prop) (w : World) (hS : ∀ x, S x → x < w.heap.size) (vb vk : Value) (f : Fil) (h : DocS S w vb vk f) (hf64 : f.s ≤ 64) (a : Int) (v : Value) (xs : List Int) (hx : SliceIs w v xs) :
    Calls Tryd.prog 10 #[.agg #[vb, .int .i64 (f.s : Int), vk], .int .i64 a, v] w fun e w' => ∃ vb' vk', e = .returned (.tuple #[.agg #[vb', .int .i64 ((wroF f a xs).s : Int), vk'], .int .i64 (wrE a xs : Int)]) ∧ DocS S w' vb' vk' (wroF f a xs) ∧ Below w.heap.size w w' := by
  obtain ⟨ab, cb, ak, ck, rfl, hcb, rfl, hck⟩ := h.form
  have HX : Hid (SliceIs w v xs) := hx
  obtain ⟨a2, c2, b2, o2, rfl, hl2, ha2, hlt2, hc2⟩ := hx.parts
  obtain ⟨n, hn⟩ : ∃ n, n = xs.length := ⟨_, rfl⟩
  have HN : Hid (n = xs.length) := hn
  rw [← hn] at ha2 hl2 hlt2 hc2 HX ⊢
  obtain ⟨s, hs0⟩ : ∃ s, s = f.s := ⟨_, rfl⟩
  have HSz : Hid (s = f.s) := hs0
  rw [← hs0]
  obtain ⟨w1, hw1, hb1, k0, k1⟩ := boxes_new w (.slice ab 64 cb) (.int .i64 (s : Int)) (.slice ak 16 ck) (.slice none 0 0) (.int .i64 0) (.slice none 0 0)
  obtain ⟨B, hB0⟩ : ∃ B, B = w.heap.size := ⟨_, rfl⟩
  have HC2 : Hid (∀ w', Below B w w' → ∀ i, i < n → w'.cell? ⟨b2, o2 + i, none⟩ = some (.int .i64 (nth xs i))) := fun w' hb i hi => by
    rw [hb.cell (p := ⟨b2, o2 + i, none⟩) (by rw [hB0]; exact hlt2 (by omega))]; exact hc2 i hi
  have HXL : Hid (∀ w', Below B w w' → SliceIs w' (.slice a2 n c2) xs) := fun w' hb => HX.out.later (by rw [← hB0]; exact hb)
  rw [← hB0] at hb1 k0 k1 ⊢
  have HBz : Hid (B = w.heap.size) := hB0
  have HW1 : Hid _ := hw1
  have HD1 : Hid (DocS (In2B S B) w1 (.slice ab 64 cb) (.slice ak 16 ck) f) := h.wide (Stay.of (by rw [← hB0]; exact hb1)) (by
    rintro x (e | e | e)
    · exact .inl e
    · exact .inr (by omega)
    · exact .inr (by omega))
  have HST : Hid (Box3 w1 B (.slice ab 64 cb) (.int .i64 (s : Int)) (.slice ak 16 ck) ∧ Box3 w1 (B + 1) (.slice none 0 0) (.int .i64 0) (.slice none 0 0) ∧ Below B w w1) := ⟨k0, k1, hb1⟩
  have HI : Hid _ := fun (W : World) => r2in_any a W
  have HY : Hid _ := fun (_ : Nat) => bytes_any w1 (.slice a2 n c2) xs 64 (HXL.out w1 hb1)
  have HLs : Hid (∀ {W a b F}, DocS (In2B S B) W a b F → DocS S W a b F) := fun hD => hD.less fun x hx => .inl hx
  have HF64 : Hid (f.s ≤ 64) := hf64
  unfold maxLen at hl2
  clear h hx hw1 hb1 k0 k1 hs0 hB0 hlt2 hc2 hn hf64
  obtain ⟨x0, x1, x2, _, _, _⟩ := HST.out.1.facts
  obtain ⟨y0, y1, y2, f0, f1, f2⟩ := HST.out.2.1.facts
  have HBad : Hid (∀ E : Nat, wrE a xs = E → E ≠ 0 → ∃ vb' vk', Ending.returned (Value.tuple #[.agg #[.slice ab 64 cb, .int .i64 (s : Int), .slice ak 16 ck], .int .i64 (E : Int)]) = .returned (.tuple #[.agg #[vb', .int .i64 ((wroF f a xs).s : Int), vk'], .int .i64 (wrE a xs : Int)]) ∧
      DocS S (((w1.setCell ⟨B + 1, 0, none⟩ (.slice ab 64 cb)).setCell ⟨B + 1, 1, none⟩ (.int .i64 (s : Int))).setCell ⟨B + 1, 2, none⟩ (.slice ak 16 ck)) vb' vk' (wroF f a xs) ∧ Below B w (((w1.setCell ⟨B + 1, 0, none⟩ (.slice ab 64 cb)).setCell ⟨B + 1, 1, none⟩ (.int .i64 (s : Int))).setCell ⟨B + 1, 2, none⟩ (.slice ak 16 ck))) := fun E hE h0 => by
    rw [show wroF f a xs = f from if_neg (by rw [hE]; exact h0), hE, ← HSz.out]
    exact ⟨_, _, rfl, HLs.out (HD1.out.stay (stay_set3 w1 (b := B + 1) (.inr (.inr rfl)) _ _ _)), below_set3 HST.out.2.2 (by omega) _ _ _⟩
  by_cases hE : bytesE 64 xs = 0
  · obtain ⟨hl64, hbad⟩ := bytes_good hE
    rw [hE] at HY
    rw [← HN.out] at hl64
    cases hn : isS a with
    | false =>
      have hw : wrE a xs = 1 := by unfold wrE; rw [if_neg (by rw [← HN.out]; omega), if_pos (.inl hn)]
      have HE : Hid _ := HBad.out 1 hw (by decide)
      rw [hn] at HI
      clear hE hbad hn hw HBad
      go_enter Tryd.func10, Tryd.ntmps10
      go_wp2_with fail
      rw [HW1.out, ← HBz.out]
      refine Calls.mono (HY.out 0) ?_
      rintro e w2 ⟨rfl, rfl⟩
      go_wp2_with fail
      refine Calls.mono (HI.out w1) ?_
      rintro e w2 ⟨rfl, rfl⟩
      go_wp2_with fail
      refine bodyPost_ret (v := .tuple #[.agg #[.slice ab 64 cb, .int .i64 (s : Int), .slice ak 16 ck], .int .i64 1]) ?_ rfl ?_
      · rw [results_cell2 rfl]
        go_simp
      · exact HE.out
    | true =>
      obtain ⟨hn0, hn1⟩ := isS_iff.1 hn
      obtain ⟨A, rfl⟩ : ∃ A : Nat, a = (A : Int) := ⟨a.toNat, by omega⟩
      rw [hn] at HI
      by_cases hfit : A + n ≤ 64
      · have hw : wrE (A : Int) xs = 0 := by unfold wrE; rw [if_neg (by rw [← HN.out]; omega), if_neg (by simp [hn, hbad]), if_neg (by rw [← HN.out]; omega)]
        have HWr : Hid (wroF f (A : Int) xs = wkF f A xs n) := by
          show wroF f (A : Int) xs = wkF f A xs n
          rw [HN.out, wkF_end]
          exact if_pos hw
        rw [HWr.out, hw]
        have hgt : ¬ (64 : Int) < (A : Int) + (n : Int) := by omega
        clear hE hbad hn hw HBad
        go_enter Tryd.func10, Tryd.ntmps10
        go_wp2_with fail
        rw [HW1.out, ← HBz.out]
        refine Calls.mono (HY.out 0) ?_
        rintro e w2 ⟨rfl, rfl⟩
        go_wp2_with fail
        refine Calls.mono (HI.out w1) ?_
        rintro e w2 ⟨rfl, rfl⟩
        go_wp2
        clear x0 x1 x2 y0 y1 y2 f0 f1 f2
        go_loopw [9] (fun i wr => ∃ (k : Nat) (vb' vk' : Value), k ≤ n ∧ i = .int .i64 (k : Int) ∧ Box3 wr B vb' (.int .i64 ((wkF f A xs k).s : Int)) vk' ∧ Box3 wr (B + 1) (.slice none 0 0) (.int .i64 0) (.slice none 0 0) ∧ DocS (In2B S B) wr vb' vk' (wkF f A xs k) ∧ Below B w wr) (fun i _ => n - (Go.RowKit.intOf i).toNat)
        case atStart => exact ⟨0, _, _, by omega, rfl, by rw [show (wkF f A xs 0).s = s from HSz.out.symm]; exact HST.out.1, HST.out.2.1, HD1.out.alike (fun _ _ => rfl) (fun _ _ => rfl), HST.out.2.2⟩
        case round =>
        obtain ⟨k, vb', vk', hk, rfl, hx0, hx1, hd, hb⟩ := hrel
        obtain ⟨ab', cb', ak', ck', rfl, _, rfl, _⟩ := hd.form
        have hsk := wkF_le HF64.out A xs (k := k) (by omega)
        have HSK : Hid _ := wkF_s f A xs k
        have HSn : Hid (k = n → (wkF f A xs k).s = (wkF f A xs n).s) := fun e => by rw [e]
        obtain ⟨sk, hsk0⟩ : ∃ sk, sk = (wkF f A xs k).s := ⟨_, rfl⟩
        rw [← hsk0] at hx0 hsk HSK HSn
        have HX0 : Hid (Box3 wr B (.slice ab' 64 cb') (.int .i64 (sk : Int)) (.slice ak' 16 ck')) := hx0
        have HX1 : Hid (Box3 wr (B + 1) (.slice none 0 0) (.int .i64 0) (.slice none 0 0)) := hx1
        have HD : Hid (DocS (In2B S B) wr (.slice ab' 64 cb') (.slice ak' 16 ck') (wkF f A xs k)) := hd
        have HB : Hid (Below B w wr) := hb
        have HSr : Hid (∀ x, In2B S B x → x < wr.heap.size) := fun x hx => by
          have h1 := hx1.lt
          have h0 := hb.size
          have hz := HBz.out
          rcases hx with e | e | e
          · have := hS x e; omega
          · omega
          · omega
        clear hx0 hx1 hd hb hsk0
        by_cases hlt : k < n
        · have hlt' : (k : Int) < (n : Int) := by omega
          have haa := ha2 (by omega)
          subst haa
          have hck := HC2.out wr HB.out k hlt
          have HBy := wkF_by f A xs k
          obtain ⟨x, hx⟩ : ∃ x, nth xs k = x := ⟨_, rfl⟩
          rw [hx] at hck HBy
          have HCk : Hid (∀ w', Below B w w' → w'.cell? ⟨b2, o2 + k, none⟩ = some (.int .i64 x)) := fun w' hb => by rw [HC2.out w' hb k hlt, hx]
          have H1 : Hid _ := fun (_ : Nat) => set_keeps (S := In2B S B) wr.drew _ _ 64 (A + k) x (HD.out.later (below_drew1 _ _)).by'.is (byC_len _) (by omega) (by omega) HSr.out
          rw [byC_set, HBy, show ((A + k : Nat) : Int) = (A : Int) + (k : Int) by omega] at H1
          have hwr : IntKind.i64.wrap ((A : Int) + (k : Int)) = (A : Int) + (k : Int) := wrap_small (by omega) (by omega)
          have HKp : Hid (∀ w4, Below wr.heap.size wr w4 → w4.cell? ⟨B, 0, none⟩ = some (.slice ab' 64 cb') ∧ w4.frozen? ⟨B, 0, none⟩ = false ∧ w4.cell? ⟨b2, o2 + k, none⟩ = some (.int .i64 x)) := fun w4 hb => by
            obtain ⟨q0, _, _, q3, _, _⟩ := (HX0.out.later hb).facts
            exact ⟨q0, q3, HCk.out w4 (HB.out.trans (hb.mono (by have := HX1.out.lt; omega)))⟩
          have hk0 : (0 : Int) ≤ (k : Int) := by omega
          clear hx HBy
          go_wp2_with fail
          refine wp_region_last (S := fun w' => w'.cell? ⟨B, 0, none⟩ = some (.slice ab' 64 cb') ∧ w'.frozen? ⟨B, 0, none⟩ = false ∧ w'.cell? ⟨b2, o2 + k, none⟩ = some (.int .i64 x)) 11 (by kernel_rfl) (by kernel_rfl) ?hs (fun hHeld => ?_)
          case hs => exact HKp.out _ (below_drew1 _ _)
          refine held_take (i := 0) (v := ?_) rfl rfl (by kernel_rfl) (by kernel_rfl) (by kernel_rfl) (fun _ _ _ h => h) (Or.inl ⟨by rfl, ?_⟩) hHeld ?_
          rotate_left
          · (intro w hSw; (try dsimp only at hSw); go_simp; try with_reducible rfl)
          simp only [Act.put, List.setIfInBounds_toArray, List.set_cons_zero, List.set_cons_succ]
          refine held_take (i := 1) (v := ?_) rfl rfl (by kernel_rfl) (by kernel_rfl) (by kernel_rfl) (fun _ _ _ h => h) (Or.inl ⟨by rfl, ?_⟩) hHeld ?_
          rotate_left
          · (intro w hSw; (try dsimp only at hSw); go_simp; try with_reducible rfl)
          simp only [Act.put, List.setIfInBounds_toArray, List.set_cons_zero, List.set_cons_succ]
          refine held_take (i := 2) (v := ?_) rfl rfl (by kernel_rfl) (by kernel_rfl) (by kernel_rfl) (fun _ _ _ h => h) (Or.inl ⟨by rfl, ?_⟩) hHeld ?_
          rotate_left
          · (intro w hSw; (try dsimp only at hSw); go_simp; try with_reducible rfl)
          simp only [Act.put, List.setIfInBounds_toArray, List.set_cons_zero, List.set_cons_succ]
          refine held_take (i := 3) (v := ?_) rfl rfl (by kernel_rfl) (by kernel_rfl) (by kernel_rfl) (fun _ _ _ h => h) (Or.inl ⟨by rfl, ?_⟩) hHeld ?_
          rotate_left
          · (intro w hSw; (try dsimp only at hSw); go_simp; try with_reducible rfl)
          simp only [Act.put, List.setIfInBounds_toArray, List.set_cons_zero, List.set_cons_succ]
          refine held_take (i := 4) (v := ?_) rfl rfl (by kernel_rfl) (by kernel_rfl) (by kernel_rfl) (fun _ _ _ h => h) (Or.inl ⟨by rfl, ?_⟩) hHeld ?_
          rotate_left
          · (intro w hSw; (try dsimp only at hSw); go_simp; try with_reducible rfl)
          simp only [Act.put, List.setIfInBounds_toArray, List.set_cons_zero, List.set_cons_succ]
          refine held_take (i := 5) (v := ?_) rfl rfl (by kernel_rfl) (by kernel_rfl) (by kernel_rfl) (fun _ _ _ h => h) (Or.inl ⟨by rfl, ?_⟩) hHeld ?_
          rotate_left
          · (intro w hSw; (try dsimp only at hSw); go_simp; try with_reducible rfl)
          simp only [Act.put, List.setIfInBounds_toArray, List.set_cons_zero, List.set_cons_succ]
          refine held_take (i := 6) (v := ?_) rfl rfl (by kernel_rfl) (by kernel_rfl) (by kernel_rfl) (fun _ _ _ h => h) (Or.inl ⟨by rfl, ?_⟩) hHeld ?_
          rotate_left
          · (intro w hSw; (try dsimp only at hSw); go_simp; try with_reducible rfl)
          simp only [Act.put, List.setIfInBounds_toArray, List.set_cons_zero, List.set_cons_succ]
          refine held_take (i := 7) (v := ?_) rfl rfl (by kernel_rfl) (by kernel_rfl) (by kernel_rfl) (fun _ _ _ h => h) (Or.inl ⟨by rfl, ?_⟩) hHeld ?_
          rotate_left
          · (intro w hSw; (try dsimp only at hSw); go_simp; try with_reducible rfl)
          simp only [Act.put, List.setIfInBounds_toArray, List.set_cons_zero, List.set_cons_succ]
          refine held_take (i := 8) (v := ?_) rfl rfl (by kernel_rfl) (by kernel_rfl) (by kernel_rfl) (fun _ _ _ h => h) (Or.inl ⟨by rfl, ?_⟩) hHeld ?_
          rotate_left
          · (intro w hSw; (try dsimp only at hSw); go_simp; try with_reducible rfl)
          simp only [Act.put, List.setIfInBounds_toArray, List.set_cons_zero, List.set_cons_succ]
          refine wpAnyH_ready (rs := [9]) (by kernel_rfl) (by simp) ?_
          refine AllReadyH.cons rfl (fun K hK => ?_) AllReadyH.nil
          go_simp
          go_at_call 23
          refine (H1.out 0).mono ?_
          rintro e w2 ⟨v2, rfl, hk2, hb2⟩
          obtain ⟨a2', c2', hv2, _, _⟩ := id hk2
          rw [byC_len] at hv2
          subst hv2
          go_simp
          refine hK.out _ _ (HKp.out w2 ((below_drew1 _ _).trans hb2)) (fun hHeld => ?_)
          clear hK K
          have HK2 : Hid (KeepsC (In2B S B) w2 (.slice a2' 64 c2') (byC (wkF f A xs (k + 1)).c)) := hk2
          have HB2 : Hid (Below wr.heap.size wr w2) := (below_drew1 _ _).trans hb2
          clear hk2 hb2
          refine held_take (i := 10) (v := ?_) rfl rfl (by kernel_rfl) (by kernel_rfl) (by kernel_rfl) (fun _ _ _ h => h) (Or.inl ⟨by rfl, ?_⟩) hHeld ?_
          rotate_left
          · (intro w hSw; (try dsimp only at hSw); go_simp; try with_reducible rfl)
          simp only [Act.put, List.setIfInBounds_toArray, List.set_cons_zero, List.set_cons_succ]
          obtain ⟨q0, q1, _⟩ := hHeld
          refine wpAnyH_done (by kernel_rfl) ?_ _
          refine last_step rfl (fun K hK => ?_)
          go_simp
          refine hK _ _ ?_
          clear hK K
          obtain ⟨w3, hw3⟩ : ∃ w3, w2.setCell ⟨B, 0, none⟩ (.slice a2' 64 c2') = w3 := ⟨_, rfl⟩
          rw [hw3]
          have hst3 : Stay (In2B S B) wr w3 := by rw [← hw3]; exact (Stay.of HB2.out).trans (Stay.set _ _ (.inr (.inl rfl)))
          have HX03 : Hid (Box3 w3 B (.slice a2' 64 c2') (.int .i64 (sk : Int)) (.slice ak' 16 ck')) := by rw [← hw3]; exact (HX0.out.later HB2.out).set0 _
          have HX13 : Hid (Box3 w3 (B + 1) (.slice none 0 0) (.int .i64 0) (.slice none 0 0)) := by rw [← hw3]; exact (HX1.out.later HB2.out).off (by simp) _
          have HK23 : Hid (KeepsC (In2B S B) w3 (.slice a2' 64 c2') (byC (wkF f A xs (k + 1)).c)) := by rw [← hw3]; exact HK2.out.stay (Stay.set _ _ (.inr (.inl rfl)))
          have HKk : Hid (KeepsC (In2B S B) w3 (.slice ak' 16 ck') (bkH (wkF f A xs k).h)) := HD.out.bk.stay hst3
          have HB3 : Hid (Below B w w3) := by
            rw [← hw3]
            exact (HB.out.trans (HB2.out.mono (by have := HX1.out.lt; omega))).setCell (p := ⟨B, 0, none⟩) (Nat.le_refl _) _
          have HSr3 : Hid (∀ x, In2B S B x → x < w3.heap.size) := fun x hx => Nat.lt_of_lt_of_le (HSr.out x hx) hst3.size
          obtain ⟨j, hj⟩ : ∃ j, j = (A + k) / 4 := ⟨_, rfl⟩
          have hq : ((A : Int) + (k : Int)) / 4 = (j : Int) := by omega
          have H2 : Hid _ := fun (_ : Nat) => set_keeps (S := In2B S B) w3 _ _ 16 j 1 HKk.out.is (bkH_len _) (by omega) (by omega) HSr3.out
          have hset := bkH_set (wkF f A xs k).h j true
          rw [show (if true = true then (1 : Int) else 0) = 1 from rfl, hj, wkF_bk, ← hj] at hset
          rw [hset] at H2
          obtain ⟨x0, x1, x2, f0, f1, f2⟩ := HX03.out.facts
          clear hst3 hset hw3 q0 q1 hck hj
          go_wp2_with fail
          refine (H2.out 0).mono ?_
          rintro e w4 ⟨v4, rfl, hk4, hb4⟩
          obtain ⟨a4, c4, hv4, _, _⟩ := id hk4
          rw [bkH_len] at hv4
          subst hv4
          have HK4 : Hid (KeepsC (In2B S B) w4 (.slice a4 16 c4) (bkH (wkF f A xs (k + 1)).h)) := hk4
          have HB4 : Hid (Below w3.heap.size w3 w4) := hb4
          clear x0 x1 x2 f0 f1 f2
          obtain ⟨y0, y1, y2, g0, g1, g2⟩ := (HX03.out.later hb4).facts
          have HBx : Hid (Below B w (w4.setCell ⟨B, 2, none⟩ (.slice a4 16 c4))) := (HB3.out.trans (hb4.mono (by have := HX13.out.lt; omega))).setCell (p := ⟨B, 2, none⟩) (Nat.le_refl _) _
          have HX05 : Hid (Box3 (w4.setCell ⟨B, 2, none⟩ (.slice a4 16 c4)) B (.slice a2' 64 c2') (.int .i64 (sk : Int)) (.slice a4 16 c4)) := (HX03.out.later hb4).set2 _
          have HX15 : Hid (Box3 (w4.setCell ⟨B, 2, none⟩ (.slice a4 16 c4)) (B + 1) (.slice none 0 0) (.int .i64 0) (.slice none 0 0)) := (HX13.out.later hb4).off (by simp) _
          have HD5 : Hid (DocS (In2B S B) (w4.setCell ⟨B, 2, none⟩ (.slice a4 16 c4)) (.slice a2' 64 c2') (.slice a4 16 c4) (wkF f A xs (k + 1))) := ⟨(HK23.out.stay (Stay.of hb4)).stay (Stay.set _ _ (.inr (.inl rfl))), hk4.stay (Stay.set _ _ (.inr (.inl rfl)))⟩
          clear hk4 hb4
          by_cases hgr : sk ≤ A + k
          · have hgr' : (sk : Int) ≤ (A : Int) + (k : Int) := by omega
            have HS1 : Hid ((wkF f A xs (k + 1)).s = A + k + 1) := by show _ = _; rw [HSK.out, if_pos hgr]
            go_wp2
            go_roundw
            case rel =>
              refine ⟨k + 1, _, _, by omega, by go_num, ?_, HX15.out.off (by simp) _, HD5.out.stay (Stay.set _ _ (.inr (.inl rfl))), HBx.out.setCell (p := ⟨B, 1, none⟩) (Nat.le_refl _) _⟩
              rw [HS1.out, show ((A + k + 1 : Nat) : Int) = (A : Int) + (k : Int) + 1 by omega]
              exact HX05.out.set1 _
            case measure => simp [Go.RowKit.intOf]; omega
          · have hgr' : ¬ (sk : Int) ≤ (A : Int) + (k : Int) := by omega
            have HS1 : Hid ((wkF f A xs (k + 1)).s = sk) := by show _ = _; rw [HSK.out, if_neg hgr]
            go_wp2
            go_roundw
            case rel =>
              refine ⟨k + 1, _, _, by omega, by go_num, ?_, HX15.out, HD5.out, HBx.out⟩
              rw [HS1.out]
              exact HX05.out
            case measure => simp [Go.RowKit.intOf]; omega
        · have hkn : k = n := by omega
          have HKN : Hid (k = n) := hkn
          obtain ⟨x0, x1, x2, f0, f1, f2⟩ := HX0.out.facts
          obtain ⟨y0, y1, y2, g0, g1, g2⟩ := HX1.out.facts
          have hl' : ¬ (k : Int) < (n : Int) := by omega
          clear hkn
          go_wp2_with fail
          refine bodyPost_ret (v := .tuple #[.agg #[.slice ab' 64 cb', .int .i64 (sk : Int), .slice ak' 16 ck'], .int .i64 0]) ?_ rfl ?_
          · rw [results_cell2 rfl]
            go_simp
          · rw [HSn.out HKN.out, ← HKN.out]
            exact ⟨_, _, rfl, HLs.out (HD.out.stay (stay_set3 _ (b := B + 1) (.inr (.inr rfl)) _ _ _)), below_set3 HB.out (by omega) _ _ _⟩
      · have hw : wrE (A : Int) xs = 4 := by unfold wrE; rw [if_neg (by rw [← HN.out]; omega), if_neg (by simp [hn, hbad]), if_pos (by rw [← HN.out]; omega)]
        have HE : Hid _ := HBad.out 4 hw (by decide)
        have hgt : (64 : Int) < (A : Int) + (n : Int) := by omega
        clear hE hbad hn hw HBad
        go_enter Tryd.func10, Tryd.ntmps10
        go_wp2_with fail
        rw [HW1.out, ← HBz.out]
        refine Calls.mono (HY.out 0) ?_
        rintro e w2 ⟨rfl, rfl⟩
        go_wp2_with fail
        refine Calls.mono (HI.out w1) ?_
        rintro e w2 ⟨rfl, rfl⟩
        go_wp2_with fail
        refine bodyPost_ret (v := .tuple #[.agg #[.slice ab 64 cb, .int .i64 (s : Int), .slice ak 16 ck], .int .i64 4]) ?_ rfl ?_
        · rw [results_cell2 rfl]
          go_simp
        · exact HE.out
  · have HE : Hid _ := HBad.out _ (bytes_bad hE) hE
    generalize bytesE 64 xs = E at *
    have hE' : ¬ (E : Int) = 0 := by omega
    clear hE HBad
    go_enter Tryd.func10, Tryd.ntmps10
    go_wp2_with fail
    rw [HW1.out, ← HBz.out]
    refine Calls.mono (HY.out 0) ?_
    rintro e w2 ⟨rfl, rfl⟩
    go_wp2_with fail
    refine bodyPost_ret (v := .tuple #[.agg #[.slice ab 64 cb, .int .i64 (s : Int), .slice ak 16 ck], .int .i64 (E : Int)]) ?_ rfl ?_
    · rw [results_cell2 rfl]
      go_simp
    · exact HE.out

end Go.Proofs.YtepnbkonhaongaaDoor
