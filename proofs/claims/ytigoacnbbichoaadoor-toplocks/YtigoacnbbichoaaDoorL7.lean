/- This text proves what ranges.Set and Free tell and leave; nothing is turned but the table; the conditions: the table lies there, its places are free, shared or alone, and the lock's first place fits its kind of number. -/
import Derived.Test.YtigoacnbbichoaaDoorL6
import Derived.Deep.RegionHeld3
namespace Go.Proofs.YtigoacnbbichoaaDoor
open Go.RowKit Go.Deep

theorem undrew1 {B : Nat} {w w' : World} (h : Below B w.drew w') : Below B w w' := ⟨h.os, h.tape, h.output, h.size, h.block⟩
theorem below_drew1 (B : Nat) (w : World) : Below B w w.drew := ⟨rfl, rfl, rfl, Nat.le_refl _, fun _ _ => rfl⟩

/-- Its four cells. -/
def LkAt (w : World) (b : Nat) (o f z : Int) (a : Bool) : Prop :=
  w.cell? ⟨b, 0, none⟩ = some (.int .i64 o) ∧ w.cell? ⟨b, 1, none⟩ = some (.int .i64 f) ∧ w.cell? ⟨b, 2, none⟩ = some (.int .i64 z) ∧ w.cell? ⟨b, 3, none⟩ = some (.bool a)
theorem lk_new (w : World) (o f z : Int) (a : Bool) {w' : World} (h : Below (w.alloc (.cells #[.int .i64 o, .int .i64 f, .int .i64 z, .bool a] 29)).heap.size (w.alloc (.cells #[.int .i64 o, .int .i64 f, .int .i64 z, .bool a] 29)) w') : LkAt w' w.heap.size o f z a := by
  have hl : w.heap.size < (w.alloc (.cells #[.int .i64 o, .int .i64 f, .int .i64 z, .bool a] 29)).heap.size := by simp
  exact ⟨by rw [h.cell (p := ⟨w.heap.size, 0, none⟩) hl, cell_new]; rfl, by rw [h.cell (p := ⟨w.heap.size, 1, none⟩) hl, cell_new]; rfl, by rw [h.cell (p := ⟨w.heap.size, 2, none⟩) hl, cell_new]; rfl, by rw [h.cell (p := ⟨w.heap.size, 3, none⟩) hl, cell_new]; rfl⟩

theorem LkAt.tch {g : Nat} {w w' : World} {b : Nat} {o f z : Int} {a : Bool} (h : LkAt w b o f z a) (ht : Tch g w w') (hb : b < w.heap.size) (hg : b ≠ g) : LkAt w' b o f z a := by
  have hc : ∀ i, w'.cell? ⟨b, i, none⟩ = w.cell? ⟨b, i, none⟩ := fun i => World.cell?_of_block (w := w) (ht.block b hb hg)
  exact ⟨(hc 0).trans h.1, (hc 1).trans h.2.1, (hc 2).trans h.2.2.1, (hc 3).trans h.2.2.2⟩

theorem st_out {S : Nat → Nat} {o f z : Int} {a : Bool} (h : okK o f z = false) : stE S o f z a = 1 ∧ stS S o f z a = S := by
  have h1 : stE S o f z a = 1 := by unfold stE; rw [h]; rfl
  exact ⟨h1, if_neg (by rw [h1]; decide)⟩
theorem st_hit {S : Nat → Nat} {o f z : Int} {a : Bool} (h : okK o f z = true) (h2 : tsN S o f z a ≠ -1) : stE S o f z a = 6 ∧ stS S o f z a = S := by
  have h1 : stE S o f z a = 6 := by unfold stE; rw [if_pos h, if_neg h2]
  exact ⟨h1, if_neg (by rw [h1]; decide)⟩
theorem st_in {S : Nat → Nat} {o f z : Int} {a : Bool} (h : okK o f z = true) (h2 : tsN S o f z a = -1) : stE S o f z a = puE (puS S o f z (sOf a)) ∧ stS S o f z a = puR S (puS S o f z (sOf a)) := by
  have h1 : stE S o f z a = puE (puS S o f z (sOf a)) := by unfold stE; rw [if_pos h, if_pos h2]
  exact ⟨h1, by unfold stS puR; rw [h1]⟩
theorem fr_out {S : Nat → Nat} {o f z : Int} (h : okK o f z = false) : frE S o f z = 1 ∧ frS S o f z = S := by
  have h1 : frE S o f z = 1 := by unfold frE; rw [h]; rfl
  exact ⟨h1, if_neg (by rw [h1]; decide)⟩
theorem fr_in {S : Nat → Nat} {o f z : Int} (h : okK o f z = true) : frE S o f z = puE (puS S o f z 0) ∧ frS S o f z = puR S (puS S o f z 0) := by
  have h1 : frE S o f z = puE (puS S o f z 0) := by unfold frE; rw [if_pos h]
  exact ⟨h1, by unfold frS puR; rw [h1]⟩
theorem ts_hit {S : Nat → Nat} {o f z : Int} {a : Bool} (h : okK o f z = true) (h2 : tsN S o f z a ≠ -1) : ∃ j : Nat, tsN S o f z a = (j : Int) ∧ j < 4 ∧ (j : Int) ≠ o := by
  unfold tsN at h2 ⊢
  rw [if_pos h] at h2 ⊢
  obtain ⟨j, h1, _, h3, h4, _⟩ := tsF_some h2
  exact ⟨j, h1, by omega, by have := (okK_iff.1 h).1; omega⟩
theorem ts_e {o f z : Int} (h : okK o f z = true) : tsE o f z = 0 := if_pos h
theorem sOf_le (a : Bool) : sOf a ≤ 2 := by cases a <;> decide

set_option maxHeartbeats 4000000 in
set_option maxRecDepth 100000 in
theorem set_any (w : World) (g : Nat) (S : Nat → Nat) (o f z : Int) (a : Bool) (hT : TabAt w g S) (hS : Bd S) (hf : Fit f) :
    Calls Tryd.prog 14 #[.pointer (some ⟨g, 0, none⟩), lkV o f z a] w fun e w' => e = .returned (errV (stE S o f z a)) ∧ TabAt w' g (stS S o f z a) ∧ Tch g w w' := by
  have HT : Hid (∀ w', Below w.heap.size w w' → TabAt w' g S) := fun w' hb => hT.later hb
  have HTs : Hid _ := fun (w' : World) (h : TabAt w' g S) => test_any w' g S o f z a h hf
  cases hk : okK o f z with
  | false =>
    rw [(st_out (S := S) (a := a) hk).1, (st_out (S := S) (a := a) hk).2, errV_pos (by decide)]
    rw [(ts_out (S := S) (a := a) hk).1, (ts_out (S := S) (a := a) hk).2, errV_pos (by decide)] at HTs
    unfold lkV at HTs ⊢
    clear hT hS hf hk
    go_enter Tryd.func14, Tryd.ntmps14
    go_wp2_with (go_at_call 13; refine (HTs.out _ (HT.out _ (below_one _ _))).mono ?_; rintro e w1 ⟨rfl, hb1⟩; have HB1 : Hid (Below w.heap.size w w1) := Below.next (below_one _ _) hb1)
    go_ret
    exact ⟨rfl, HT.out _ HB1.out, Tch.of HB1.out⟩
  | true =>
    by_cases hts : tsN S o f z a = -1
    · have HPu : Hid _ := fun (w' : World) (h : TabAt w' g S) => put_any w' g S o f z a (sOf a) h hS hk (sOf_le a)
      have HAs : Hid _ := fun (w' : World) => asked_any o f z a w'
      rw [(st_in hk hts).1, (st_in hk hts).2]
      rw [hts, ts_e hk, errV_zero] at HTs
      generalize puR S (puS S o f z (sOf a)) = S2 at HPu ⊢
      generalize errV (puE (puS S o f z (sOf a))) = E at HPu ⊢
      generalize ((sOf a : Nat) : Int) = sv at HPu HAs
      have HL : Hid (∀ w', Below (w.alloc (.cells #[.int .i64 o, .int .i64 f, .int .i64 z, .bool a] 29)).heap.size (w.alloc (.cells #[.int .i64 o, .int .i64 f, .int .i64 z, .bool a] 29)) w' → LkAt w' w.heap.size o f z a) := fun w' h => lk_new w o f z a h
      have HGl : Hid (g < w.heap.size) := hT.lt
      unfold lkV at HTs HPu HAs ⊢
      clear hT hS hf hk hts
      go_enter Tryd.func14, Tryd.ntmps14
      go_wp2_with (go_at_call 13; refine (HTs.out _ (HT.out _ (below_one _ _))).mono ?_; rintro e w1 ⟨rfl, hb1⟩; have HK : Hid (∀ w', Below w1.heap.size w1 w' → LkAt w' w.heap.size o f z a) := fun w' h => HL.out w' (Below.next hb1 h); have HB1 : Hid (Below w.heap.size w w1) := Below.next (below_one _ _) hb1; obtain ⟨c0, c1, c2, c3⟩ := HK.out w1 (Below.refl _ _); clear hb1)
      have HG : Hid (w.heap.size ≠ g ∧ w.heap.size < w1.heap.size) := ⟨by have := HGl.out; omega, block_lt_of_cell c0⟩
      go_region_held3 (fun w' => w'.cell? ⟨w.heap.size, 0, none⟩ = some (.int .i64 o) ∧ w'.cell? ⟨w.heap.size, 1, none⟩ = some (.int .i64 f) ∧ w'.cell? ⟨w.heap.size, 2, none⟩ = some (.int .i64 z) ∧ w'.cell? ⟨w.heap.size, 3, none⟩ = some (.bool a))
        (first | go_keep | (go_split_ands; exact HK.out _ HB2.out) | (go_split_ands; exact (HK.out _ HB2.out).tch HC3.out (Nat.lt_of_lt_of_le HG.out.2 HB2.out.size) HG.out.1))
        (first
          | (go_at_call 25; refine (HAs.out _).mono ?_; rintro e w2 ⟨rfl, hb2⟩; have HB2 : Hid (Below w1.heap.size w1 w2) := undrew1 hb2)
          | (go_at_call 23; refine (HPu.out _ (HT.out _ (Below.next HB1.out HB2.out))).mono ?_; rintro e w3 ⟨rfl, ht3, hc3⟩; have HC3 : Hid (Tch g w2 w3) := hc3; have HT3 : Hid (TabAt w3 g S2) := ht3))
      go_wp2
      go_ret
      exact ⟨rfl, HT3.out, Tch.next (Below.next HB1.out HB2.out) HC3.out⟩
    · obtain ⟨j, hj, _, _⟩ := ts_hit hk hts
      rw [(st_hit hk hts).1, (st_hit hk hts).2, errV_pos (by decide)]
      rw [hj, ts_e hk, errV_zero] at HTs
      unfold lkV at HTs ⊢
      clear hT hS hf hk hts hj
      go_enter Tryd.func14, Tryd.ntmps14
      go_wp2_with (go_at_call 13; refine (HTs.out _ (HT.out _ (below_one _ _))).mono ?_; rintro e w1 ⟨rfl, hb1⟩; have HB1 : Hid (Below w.heap.size w w1) := Below.next (below_one _ _) hb1)
      go_ret
      exact ⟨rfl, HT.out _ HB1.out, Tch.of HB1.out⟩

set_option maxHeartbeats 4000000 in
set_option maxRecDepth 100000 in
theorem free_any (w : World) (g : Nat) (S : Nat → Nat) (o f z : Int) (a : Bool) (hT : TabAt w g S) (hS : Bd S) (hf : Fit f) :
    Calls Tryd.prog 11 #[.pointer (some ⟨g, 0, none⟩), lkV o f z a] w fun e w' => e = .returned (errV (frE S o f z)) ∧ TabAt w' g (frS S o f z) ∧ Tch g w w' := by
  have HT : Hid (∀ w', Below w.heap.size w w' → TabAt w' g S) := fun w' hb => hT.later hb
  have HI : Hid _ := fun w' => isLock_any o f z a w' hf
  have HL : Hid (∀ w', Below (w.alloc (.cells #[.int .i64 o, .int .i64 f, .int .i64 z, .bool a] 29)).heap.size (w.alloc (.cells #[.int .i64 o, .int .i64 f, .int .i64 z, .bool a] 29)) w' → LkAt w' w.heap.size o f z a) := fun w' h => lk_new w o f z a h
  cases hk : okK o f z with
  | false =>
    rw [(fr_out (S := S) hk).1, (fr_out (S := S) hk).2, errV_pos (by decide)]
    rw [hk] at HI
    unfold lkV at HI ⊢
    clear hT hS hf hk
    go_enter Tryd.func11, Tryd.ntmps11
    go_wp2_with (go_at_call 22; refine (HI.out _).mono ?_; rintro e w1 ⟨rfl, hb1⟩; have HB1 : Hid (Below w.heap.size w w1) := Below.next (below_one _ _) hb1)
    go_ret
    exact ⟨rfl, HT.out _ HB1.out, Tch.of HB1.out⟩
  | true =>
    have HPu : Hid _ := fun (w' : World) (h : TabAt w' g S) => put_any w' g S o f z a 0 h hS hk (by decide)
    rw [(fr_in hk).1, (fr_in hk).2]
    rw [hk] at HI
    generalize puR S (puS S o f z 0) = S2 at HPu ⊢
    generalize errV (puE (puS S o f z 0)) = E at HPu ⊢
    unfold lkV at HI HPu ⊢
    have HP0 : Hid (∀ (w' : World), TabAt w' g S → Calls Tryd.prog 23 #[.pointer (some ⟨g, 0, none⟩), .agg #[.int .i64 o, .int .i64 f, .int .i64 z, .bool a], .int .i64 0] w' fun e w'' => e = .returned E ∧ TabAt w'' g S2 ∧ Tch g w' w'') := HPu.out
    clear hT hS hf hk HPu
    go_enter Tryd.func11, Tryd.ntmps11
    go_wp2_with (first
      | (go_at_call 22; refine (HI.out _).mono ?_; rintro e w1 ⟨rfl, hb1⟩; have HB1 : Hid (Below w.heap.size w w1) := Below.next (below_one _ _) hb1; obtain ⟨c0, c1, c2, c3⟩ := HL.out w1 hb1)
      | (go_at_call 23; refine (HP0.out _ (HT.out _ HB1.out)).mono ?_; rintro e w3 ⟨rfl, ht3, hc3⟩))
    go_ret
    exact ⟨rfl, ht3, Tch.next HB1.out hc3⟩

end Go.Proofs.YtigoacnbbichoaaDoor
