/- This text proves what the document's own AtHome of a log answers: all in the blocks, and no record, or that a turn is open; old memory is as it was; the conditions are that the document's records lie there, and its blocks' values. -/
import Derived.Test.YtejganpamidkmaaDoorZD4
namespace Go.Proofs.YtejganpamidkmaaDoor
open Go.RowKit Go.Deep Go.Maps

theorem Out.of {w wr : World} {vh vo : Value} {H X : Nat → Nat} (hh : SliceIs w vh (lst H)) (ho : (vo = vh ∧ lst X = lst H) ∨ wr.ownsRow w.heap.size 3 1 vo 8 (cellsOf (lst X))) (hb : Below w.heap.size w wr) : Out w wr vh H vo X := by
  refine ⟨?_, ho, hb⟩
  rcases ho with ⟨rfl, e⟩ | h
  · rw [e]; exact hh.later hb
  · exact slice_own h (by decide)
/-- What was told, when it has been put into a box. -/
theorem Out.boxed {w wr w' : World} {vh vo : Value} {H X : Nat → Nat} (hh : SliceIs w vh (lst H)) (hb : Below w.heap.size w wr) (h : Out wr w' vh H vo X) {g : Nat} (hg : w.heap.size ≤ g) (hg2 : g < wr.heap.size) (x y z : Value) :
    Out w (((w'.setCell ⟨g, 0, none⟩ x).setCell ⟨g, 1, none⟩ y).setCell ⟨g, 2, none⟩ z) vh H vo X := by
  refine Out.of hh ?_ (below_set3 (hb.trans (h.old.mono hb.size)) hg x y z)
  rcases h.or' with k | k
  · exact .inl k
  · refine .inr (own_base (own_block k fun b e => ?_) hb.size)
    have := (k.lt b e).1
    rw [Below.heap_setCell _ ⟨g, 2, none⟩ _ b (by show b ≠ g; omega), Below.heap_setCell _ ⟨g, 1, none⟩ _ b (by show b ≠ g; omega), Below.heap_setCell _ ⟨g, 0, none⟩ _ b (by show b ≠ g; omega)]

set_option maxHeartbeats 16000000 in
set_option maxRecDepth 100000 in
theorem r2home_any (w : World) (ah : Option Addr) (ch : Nat) (vl : Value) (s : Nat) (H : Nat → Nat) (L : List Rc) (hh : SliceIs w (.slice ah 8 ch) (lst H)) (h : PutsIs w vl L) (hf : Fine ⟨H, L, 0⟩) :
    Calls Tryd.prog 12 #[.agg #[.slice ah 8 ch, vl, .int .i64 (s : Int)]] w fun e w' => ∃ vh' vl' s', e = .returned (.tuple #[.agg #[vh', vl', .int .i64 (s' : Nat)], .int .i64 (hoE L : Int)]) ∧
      ((opn L = true ∧ vh' = .slice ah 8 ch ∧ vl' = vl ∧ s' = s) ∨ (opn L = false ∧ vl' = .slice none 0 0 ∧ s' = 0 ∧ Out w w' (.slice ah 8 ch) H vh' (vals L H))) ∧ Below w.heap.size w w' := by
  obtain ⟨a, c, b, hvl, hlc, ha, hbw, hcw⟩ := h.where
  obtain ⟨n, hn⟩ : ∃ n, L.length = n := ⟨_, rfl⟩
  have HN : Hid (L.length = n) := hn
  have h60 : n ≤ 60 := by rw [← hn]; exact hf.len
  rw [hn] at hvl hlc ha hbw hcw
  subst hvl
  obtain ⟨w1, hw1, hb1, k0, k2, ksz⟩ := boxes2 w (.slice ah 8 ch) (.slice a n c) (.int .i64 (s : Int))
  have HW1 : Hid _ := hw1
  have HB1 : Hid (Below w.heap.size w w1 ∧ w1.heap.size = w.heap.size + 2) := ⟨hb1, ksz⟩
  have HHh : Hid (SliceIs w (.slice ah 8 ch) (lst H)) := hh
  have HPw : Hid (PutsIs w (.slice a n c) L) := h
  have HF : Hid (Fine ⟨H, L, 0⟩) := hf
  have KX : Hid (∀ W, Below w1.heap.size w1 W → Box3 W w.heap.size (.slice ah 8 ch) (.slice a n c) (.int .i64 (s : Int)) ∧ Box3 W (w.heap.size + 1) (.slice none 0 0) (.slice none 0 0) (.int .i64 0) ∧ Below w.heap.size w W) := fun W hW => ⟨k0.later hW, k2.later hW, hb1.trans (hW.mono (by omega))⟩
  have HC : Hid (∀ W, Below w.heap.size w W → ∀ i, i < n → W.cell? ⟨b, i * 3, none⟩ = some (.int .i64 ((rcAt L i).t : Int))) := fun W hW i hi => by rw [hW.cell (p := ⟨b, i * 3, none⟩) (hbw (by omega))]; exact (hcw i hi).1
  clear hh h hf hw1 hb1 k0 k2 ksz hn hcw
  go_enter Tryd.func12, Tryd.ntmps12
  go_wp2_with fail
  rw [HW1.out]
  go_loopw [4] (fun i wr => ∃ k : Nat, k ≤ n ∧ i = .int .i64 (k : Int) ∧ (∀ j, j < k → endd L (rcAt L j).t = true) ∧ Below w1.heap.size w1 wr) (fun i _ => n - (Go.RowKit.intOf i).toNat)
  case atStart => exact ⟨0, Nat.zero_le _, rfl, fun j hj => absurd hj (by omega), Below.refl _ _⟩
  case round =>
    obtain ⟨k, hk, rfl, hall, hb⟩ := hrel
    have HJ : Hid (∀ j, j < k → endd L (rcAt L j).t = true) := hall
    have BR : Hid (Below w1.heap.size w1 wr) := hb
    clear hall
    obtain ⟨m0, m2, mb⟩ := KX.out wr hb
    obtain ⟨u0, u1, u2, uf0, uf1, uf2⟩ := m0.facts
    obtain ⟨y0, y1, y2, f0, f1, f2⟩ := m2.facts
    by_cases hlt : k < n
    · have haw2 := ha (by omega)
      subst haw2
      have c0 := HC.out wr mb k hlt
      have HEk : Hid _ := fun (_ : Nat) => r2ended_any wr.drew ah ch _ (s : Int) L (HPw.out.later (mb.trans (below_drew1 _ _))) (by rw [HN.out]; exact h60) (rcAt L k).t
      have HKp : Hid (∀ W, Below wr.drew.heap.size wr.drew W → (W.cell? ⟨w.heap.size, 0, none⟩ = some (.slice ah 8 ch) ∧ W.cell? ⟨w.heap.size, 1, none⟩ = some (.slice (some ⟨b, 0, none⟩) n c) ∧ W.cell? ⟨w.heap.size, 2, none⟩ = some (.int .i64 (s : Int)) ∧ W.cell? ⟨b, k * 3, none⟩ = some (.int .i64 ((rcAt L k).t : Int))) ∧ Below w1.heap.size w1 W) := fun W hW => by
        have hz : Below w1.heap.size w1 W := BR.out.trans ((undrew1 hW).mono BR.out.size)
        obtain ⟨z0, z1, z2, _, _, _⟩ := (KX.out W hz).1.facts
        exact ⟨⟨z0, z1, z2, HC.out W (KX.out W hz).2.2 k hlt⟩, hz⟩
      have HNx : Hid (endd L (rcAt L k).t = true → ∀ j, j < k + 1 → endd L (rcAt L j).t = true) := fun h j hj => by
        by_cases e : j = k
        · subst e; exact h
        · exact HJ.out j (by omega)
      have HOp : Hid (endd L (rcAt L k).t = false → opn L = true) := fun h => opn_yes (by rw [HN.out]; exact hlt) h
      clear hb m0 m2 mb
      cases hE : endd L (rcAt L k).t with
      | true =>
        rw [hE] at HEk
        have HX2 : Hid _ := HNx.out hE
        clear hE HOp
        go_wp2_with fail
        go_region_held3 (fun w' => w'.cell? ⟨w.heap.size, 0, none⟩ = some (.slice ah 8 ch) ∧ w'.cell? ⟨w.heap.size, 1, none⟩ = some (.slice (some ⟨b, 0, none⟩) n c) ∧ w'.cell? ⟨w.heap.size, 2, none⟩ = some (.int .i64 (s : Int)) ∧ w'.cell? ⟨b, k * 3, none⟩ = some (.int .i64 ((rcAt L k).t : Int)))
          (first | (go_split_ands; exact HB5.out.1) | go_keep)
          (first | (go_at_call 20; refine (HEk.out 0).mono ?_; rintro e w5 ⟨rfl, hb5⟩; have HB5 : Hid _ := HKp.out w5 hb5; clear hb5))
        go_wp2
        go_roundw
        case rel => exact ⟨k + 1, by omega, by go_num, HX2.out, HB5.out.2⟩
        case measure => simp [Go.RowKit.intOf]; omega
      | false =>
        rw [hE] at HEk
        have hop := HOp.out hE
        have HO7 : Hid (hoE L = 7) := if_pos hop
        have HOp2 : Hid (opn L = true) := hop
        clear hE HOp hop
        go_wp2_with fail
        go_region_held3 (fun w' => w'.cell? ⟨w.heap.size, 0, none⟩ = some (.slice ah 8 ch) ∧ w'.cell? ⟨w.heap.size, 1, none⟩ = some (.slice (some ⟨b, 0, none⟩) n c) ∧ w'.cell? ⟨w.heap.size, 2, none⟩ = some (.int .i64 (s : Int)) ∧ w'.cell? ⟨b, k * 3, none⟩ = some (.int .i64 ((rcAt L k).t : Int)))
          (first | (go_split_ands; exact HB5.out.1) | go_keep)
          (first | (go_at_call 20; refine (HEk.out 0).mono ?_; rintro e w5 ⟨rfl, hb5⟩; have HB5 : Hid _ := HKp.out w5 hb5; clear hb5))
        clear u0 u1 u2 y0 y1 y2 f0 f1 f2 uf0 uf1 uf2 c0
        obtain ⟨m0, m2, mb⟩ := KX.out w5 HB5.out.2
        obtain ⟨u0, u1, u2, uf0, uf1, uf2⟩ := m0.facts
        obtain ⟨y0, y1, y2, f0, f1, f2⟩ := m2.facts
        have HEr : Hid (Below w.heap.size w (((w5.setCell ⟨w.heap.size + 1, 0, none⟩ (.slice ah 8 ch)).setCell ⟨w.heap.size + 1, 1, none⟩ (.slice (some ⟨b, 0, none⟩) n c)).setCell ⟨w.heap.size + 1, 2, none⟩ (.int .i64 (s : Int)))) := below_set3 mb (by omega) _ _ _
        clear m0 m2 mb
        go_wp2
        refine bodyPost_ret (v := .tuple #[.agg #[.slice ah 8 ch, .slice (some ⟨b, 0, none⟩) n c, .int .i64 (s : Int)], .int .i64 7]) ?_ rfl ?_
        · rw [results_cell2 rfl]
          go_simp
        · exact ⟨_, _, s, by rw [HO7.out]; rfl, .inl ⟨HOp2.out, rfl, rfl, rfl⟩, HEr.out⟩
    · obtain rfl : k = n := by omega
      have hop : opn L = false := opn_no (by rw [HN.out]; exact HJ.out)
      have HO0 : Hid (hoE L = 0) := if_neg (by rw [hop]; decide)
      have HOp2 : Hid (opn L = false) := hop
      have HVa : Hid _ := fun (_ : Nat) => r2values_any wr (.slice ah 8 ch) (.slice a k c) (s : Int) H L (HHh.out.later mb) (HPw.out.later mb) HF.out
      have HBx : Hid (∀ w5 v5, Out wr w5 (.slice ah 8 ch) H v5 (vals L H) → Out w (((w5.setCell ⟨w.heap.size + 1, 0, none⟩ v5).setCell ⟨w.heap.size + 1, 1, none⟩ (.slice none 0 0)).setCell ⟨w.heap.size + 1, 2, none⟩ (.int .i64 0)) (.slice ah 8 ch) H v5 (vals L H)) := fun w5 v5 ho => Out.boxed HHh.out (KX.out wr BR.out).2.2 ho (by omega) (by have := HB1.out.2; have := BR.out.size; omega) _ _ _
      have HK2 : Hid (∀ w5, Below wr.heap.size wr w5 → Box3 w5 (w.heap.size + 1) (.slice none 0 0) (.slice none 0 0) (.int .i64 0)) := fun w5 h5 => (KX.out wr BR.out).2.1.later h5
      clear hb hop m0 m2 mb
      go_wp2_with (go_at_call 18; refine (HVa.out 0).mono ?_; rintro e w5 ⟨v5, rfl, ho5⟩; obtain ⟨a5, c5, hv5, _, _⟩ := id ho5.is; rw [lst_len] at hv5; have m2 := HK2.out w5 ho5.old; obtain ⟨z0, z1, z2, g0, g1, g2⟩ := m2.facts; have HO5 : Hid _ := fun (_ : Nat) => HBx.out w5 v5 ho5; clear m2 ho5; subst hv5)
      refine bodyPost_ret (v := .tuple #[.agg #[.slice a5 8 c5, .slice none 0 0, .int .i64 0], .int .i64 0]) ?_ rfl ?_
      · rw [results_cell2 rfl]
        go_simp
      · exact ⟨_, _, 0, by rw [HO0.out]; rfl, .inr ⟨HOp2.out, rfl, rfl, HO5.out 0⟩, (HO5.out 0).old⟩

end Go.Proofs.YtejganpamidkmaaDoor
