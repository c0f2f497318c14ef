/- This text proves what reed.rowThrough answers: as many factors as there are points, which come to each point's shard at its number, in new memory; the conditions: the points lie there, their numbers grow and are bytes, and so are the shards. -/
import Derived.Test.YtebjefgdjfjndaaDoorRe3
namespace Go.Proofs.YtebjefgdjfjndaaDoor
open Go.RowKit Go.Deep

/-- What the loop keeps, k points so far. -/
structure Half (m k : Nat) (X Y f g : Nat → Nat) : Prop where
  fb : BytesF f
  gb : BytesF g
  gz : ∀ i, k + 1 ≤ i → g i = 0
  thru : ∀ j, j < k → evF f (X j) m = Y j
  null : ∀ j, j < k → evF g (X j) (k + 1) = 0
  some' : ∀ x, x < 256 → (∀ j, j < k → x ≠ X j) → evF g x (k + 1) ≠ 0

theorem half_start (m : Nat) (X Y : Nat → Nat) : Half m 0 X Y (fun _ => 0) (fun i => if i = 0 then 1 else 0) := by
  refine ⟨fun _ => by decide, fun i => by show (if i = 0 then 1 else 0) < 256; split <;> decide, fun i hi => if_neg (by omega), fun j hj => by omega, fun j hj => by omega, fun x _ _ => ?_⟩
  rw [evF_succ, evF_zero, if_pos rfl, gpow_zero, one_gm (by decide)]
  decide

theorem xor_ne {x y : Nat} (h : x ≠ y) : x ^^^ y ≠ 0 := fun e => h (xor_null e)

theorem half_step {m k : Nat} {X Y f g : Nat → Nat} (h : Half m k X Y f g) (hk : k < m) (hX : Grows m X) (hb : ∀ i, i < m → X i < 256) (hY : Y k < 256) :
    Half m (k + 1) X Y (fun i => f i ^^^ gm (gm (Y k ^^^ evF f (X k) m) (gpow (evF g (X k) (k + 1)) 254)) (g i)) (nx g (X k)) := by
  have hxk := hb k hk
  have he : evF f (X k) m < 256 := evF_byte h.fb hxk m
  have hgk : evF g (X k) (k + 1) < 256 := evF_byte h.gb hxk (k + 1)
  have hs : gm (Y k ^^^ evF f (X k) m) (gpow (evF g (X k) (k + 1)) 254) < 256 := gm_byte (xor_byte hY he) (gpow_byte hgk)
  have hlong : ∀ x, evF g x m = evF g x (k + 1) := fun x => evF_long h.gz m (by omega)
  have hne : evF g (X k) (k + 1) ≠ 0 := h.some' _ hxk fun j hj => Nat.ne_of_gt (hX j k hj hk)
  refine ⟨fun i => xor_byte (h.fb i) (gm_byte hs (h.gb i)), nx_byte h.gb hxk, nx_long h.gz, fun j hj => ?_, fun j hj => ?_, fun x hx hall => ?_⟩
  · rw [evF_add hs h.gb (hb j (by omega)), hlong]
    by_cases e : j = k
    · subst e
      rw [gdiv_back (xor_byte hY he) hgk hne, Nat.xor_comm, Nat.xor_assoc, Nat.xor_self, Nat.xor_zero]
    · rw [h.null j (by omega), gm_zero, Nat.xor_zero, h.thru j (by omega)]
  · rw [nx_at h.gb hxk (hb j (by omega)) h.gz]
    by_cases e : j = k
    · subst e; rw [Nat.xor_self, gm_zero]
    · rw [h.null j (by omega), zero_gm]
  · rw [nx_at h.gb hxk hx h.gz]
    intro e
    rcases gm_null (evF_byte h.gb hx _) (xor_byte hx hxk) e with e | e
    · exact h.some' x hx (fun j hj => hall j (by omega)) e
    · exact xor_ne (hall k (by omega)) e

theorem over_xor (a b d : Nat) (w : World) (ha : a < 256) (hb : b < 256) (hd : d < 256) (h0 : d ≠ 0) :
    Calls Tryd.prog 31 #[.int .i64 (bits .xor .i64 (a : Int) (b : Int)), .int .i64 (d : Int)] w fun e w' => e = .returned (.int .i64 (gm (a ^^^ b) (gpow d 254) : Int)) ∧ w = w' := by
  rw [xor_nat (by omega) (by omega)]
  exact over_any _ d w (xor_byte ha hb) hd h0

theorem rowIs_below {w w' : World} {b t n : Nat} {f : Nat → Value} {B : Nat} (h : w.rowIs b t n f) (hb : Below B w w') (hB : b < B) : w'.rowIs b t n f := h.of_block (hb.block b hB)

set_option maxHeartbeats 4000000 in
set_option maxRecDepth 100000 in
theorem rowThrough_some (w : World) (g0 cap m : Nat) (X Y : Nat → Nat) (hg0 : g0 < w.heap.size) (hm : m ≤ 8)
    (hc : ∀ i, i < m → w.cell? ⟨g0, 2 * i, none⟩ = some (.int .i64 (X i : Int)) ∧ w.cell? ⟨g0, 2 * i + 1, none⟩ = some (.int .i64 (Y i : Int))) (hX : Grows m X) (hXb : ∀ i, i < m → X i < 256) (hYb : ∀ i, i < m → Y i < 256) :
    Calls Tryd.prog 21 #[.slice (some ⟨g0, 0, none⟩) m cap] w fun e w' => ∃ f, Thru m X Y f ∧ e = .returned (.slice (some ⟨w.heap.size, 0, none⟩) m m) ∧ w'.rowIs w.heap.size 3 m (fun i => .int .i64 (f i : Int)) ∧ Below w.heap.size w w' := by
  have HX : Hid (Grows m X) := hX
  have HXb : Hid (∀ i, i < m → X i < 256) := hXb
  have HYb : Hid (∀ i, i < m → Y i < 256) := hYb
  have HC : Hid (∀ i, i < m → w.cell? ⟨g0, 2 * i, none⟩ = some (.int .i64 (X i : Int)) ∧ w.cell? ⟨g0, 2 * i + 1, none⟩ = some (.int .i64 (Y i : Int))) := hc
  have HG0 : Hid (g0 < w.heap.size) := hg0
  have hmk := run_make_row' (P := Tryd.prog) 22 3 (.int .i64 0) 8 Tryd.underlying22 Tryd.info3 rfl .i64 .i64 m (by omega) (by omega)
  clear hX hXb hYb hc hg0
  go_enter Tryd.func21, Tryd.ntmps21
  go_wp2
  clear hmk
  go_loopw [4, 16] (fun v4 i wr => ∃ k : Nat, k ≤ m ∧ i = .int .i64 k ∧ ∃ (q : Nat) (f g : Nat → Nat), v4 = .slice (some ⟨q, 0, none⟩) (k + 1) (k + 1) ∧ w.heap.size < q ∧ wr.rowIs q 3 (k + 1) (fun i => .int .i64 (g i : Int)) ∧
      wr.rowIs w.heap.size 3 m (fun i => .int .i64 (f i : Int)) ∧ Half m k X Y f g ∧ Below w.heap.size w wr) (fun _ i _ => m - (intOf i).toNat)
  case atStart =>
    refine ⟨0, Nat.zero_le _, rfl, w.heap.size + 1, (fun _ => 0), (fun i => if i = 0 then 1 else 0), rfl, by omega, ?_, ((World.rowIs_made w _ m 3).congr fun i _ => rfl).alloc _, half_start m X Y, ((Below.refl _ _).alloc (Nat.le_refl _) _).alloc (by simp) _⟩
    have h := World.rowIs_alloc (w.alloc (.cells (madeCells #[.int .i64 0] m) 3)) #[.int .i64 1] 3 (fun i => .int .i64 ((if i = 0 then 1 else 0 : Nat) : Int)) (fun i hi => by
      have : i = 0 := by simpa using hi
      subst this; rfl)
    simpa using h
  case round =>
    obtain ⟨k, hk, rfl, q, f, g, rfl, hq, hrg, hrf, hhalf, hbel⟩ := hrel
    have HQ : Hid (w.heap.size < q) := hq
    have HRG : Hid (wr.rowIs q 3 (k + 1) (fun i => .int .i64 (g i : Int))) := hrg
    have HRF : Hid (wr.rowIs w.heap.size 3 m (fun i => .int .i64 (f i : Int))) := hrf
    have HH : Hid (Half m k X Y f g) := hhalf
    have HB : Hid (Below w.heap.size w wr) := hbel
    clear hq hrg hrf hhalf hbel
    by_cases hlt : k < m
    · have h1 : wr.cell? ⟨g0, 2 * k, none⟩ = some (.int .i64 (X k : Int)) := by rw [HB.out.cell (p := ⟨g0, 2 * k, none⟩) HG0.out]; exact (HC.out k hlt).1
      have h2 : wr.cell? ⟨g0, 2 * k + 1, none⟩ = some (.int .i64 (Y k : Int)) := by rw [HB.out.cell (p := ⟨g0, 2 * k + 1, none⟩) HG0.out]; exact (HC.out k hlt).2
      rw [Nat.mul_comm] at h1 h2
      go_wp2_with fail
      have c0 : (wr.alloc (.cells #[.int .i64 (X k : Int), .int .i64 (Y k : Int)] 50)).cell? ⟨wr.heap.size, 0, none⟩ = some (.int .i64 (X k : Int)) := by rw [cell_new]; rfl
      have c1 : (wr.alloc (.cells #[.int .i64 (X k : Int), .int .i64 (Y k : Int)] 50)).cell? ⟨wr.heap.size, 1, none⟩ = some (.int .i64 (Y k : Int)) := by rw [cell_new]; rfl
      have HRG1 : Hid ((wr.alloc (.cells #[.int .i64 (X k : Int), .int .i64 (Y k : Int)] 50)).rowIs q 3 (k + 1) (fun i => .int .i64 (g i : Int))) := HRG.out.alloc _
      have HRF1 : Hid ((wr.alloc (.cells #[.int .i64 (X k : Int), .int .i64 (Y k : Int)] 50)).rowIs w.heap.size 3 m (fun i => .int .i64 (f i : Int))) := HRF.out.alloc _
      have HB1 : Hid (Below w.heap.size w (wr.alloc (.cells #[.int .i64 (X k : Int), .int .i64 (Y k : Int)] 50))) := HB.out.alloc HB.out.size _
      have HP : Hid (w.heap.size < wr.heap.size) := Nat.lt_trans HQ.out HRG.out.lt
      generalize wr.alloc (.cells #[.int .i64 (X k : Int), .int .i64 (Y k : Int)] 50) = W1 at c0 c1 HRG1 HRF1 HB1 ⊢
      generalize wr.heap.size = p at c0 c1 HP ⊢
      clear h1 h2 HRG HRF HB
      have hxk := HXb.out k hlt
      have hyk := HYb.out k hlt
      have HS : Hid (gm (Y k ^^^ evF f (X k) m) (gpow (evF g (X k) (k + 1)) 254) < 256) := gm_byte (xor_byte hyk (evF_byte HH.out.fb hxk m)) (gpow_byte (evF_byte HH.out.gb hxk _))
      have HNE : Hid (evF g (X k) (k + 1) ≠ 0) := HH.out.some' _ hxk fun j hj => Nat.ne_of_gt (HX.out j k hj hlt)
      have A1 : ∀ j, Calls Tryd.prog 30 #[.slice (some ⟨w.heap.size, 0, none⟩) m m, .int .i64 (X k : Int)] (W1.drewN j) fun e w' => e = .returned (.int .i64 (evF f (X k) m : Int)) ∧ ∃ n, w' = W1.drewN n :=
        fun j => (at_fl (W1.drewN j) _ m (X k) f HH.out.fb (by omega) hxk (slice_row (w := W1.drewN j) HRF1.out (by unfold maxLen; omega))).mono fun _ _ h => ⟨h.1, j, h.2.symm⟩
      have A2 : ∀ j, Calls Tryd.prog 30 #[.slice (some ⟨q, 0, none⟩) (k + 1) (k + 1), .int .i64 (X k : Int)] (W1.drewN j) fun e w' => e = .returned (.int .i64 (evF g (X k) (k + 1) : Int)) ∧ ∃ n, w' = W1.drewN n :=
        fun j => (at_fl (W1.drewN j) _ (k + 1) (X k) g HH.out.gb (by omega) hxk (slice_row (w := W1.drewN j) HRG1.out (by unfold maxLen; omega))).mono fun _ _ h => ⟨h.1, j, h.2.symm⟩
      have A3 : ∀ j, Calls Tryd.prog 31 #[.int .i64 (bits .xor .i64 (Y k : Int) (evF f (X k) m : Int)), .int .i64 (evF g (X k) (k + 1) : Int)] (W1.drewN j) fun e w' => e = .returned (.int .i64 (gm (Y k ^^^ evF f (X k) m) (gpow (evF g (X k) (k + 1)) 254) : Int)) ∧ ∃ n, w' = W1.drewN n :=
        fun j => (over_xor _ _ _ (W1.drewN j) hyk (evF_byte HH.out.fb hxk m) (evF_byte HH.out.gb hxk _) HNE.out).mono fun _ _ h => ⟨h.1, j, h.2.symm⟩
      obtain ⟨s, hs⟩ : ∃ s, s = gm (Y k ^^^ evF f (X k) m) (gpow (evF g (X k) (k + 1)) 254) := ⟨_, rfl⟩
      have HSE : Hid (s = gm (Y k ^^^ evF f (X k) m) (gpow (evF g (X k) (k + 1)) 254)) := hs
      rw [← hs] at A3 HS
      clear hs HNE
      generalize evF f (X k) m = ef at A1 A3
      generalize evF g (X k) (k + 1) = eg at A2 A3
      generalize hxe : X k = x at A1 A2 A3 c0 hxk
      generalize hye : Y k = y at A3 c1 hyk
      have HXE : Hid (X k = x) := hxe
      have HYE : Hid (Y k = y) := hye
      clear hxe hye
      go_quiet (first
        | (go_at_call 31; exact A3 _)
        | (go_at_call_of 30 (Value.slice (some ⟨w.heap.size, 0, none⟩) m m); exact A1 _)
        | (go_at_call 30; exact A2 _))
      have d0 : (W1.drewN nq).cell? ⟨p, 0, none⟩ = some (.int .i64 (x : Int)) := c0
      have HRG2 : Hid ((W1.drewN nq).rowIs q 3 (k + 1) (fun i => .int .i64 (g i : Int))) := HRG1.out
      have HRF2 : Hid ((W1.drewN nq).rowIs w.heap.size 3 m (fun i => .int .i64 (f i : Int))) := HRF1.out
      have HB2 : Hid (Below w.heap.size w (W1.drewN nq)) := ⟨HB1.out.os, HB1.out.tape, HB1.out.output, HB1.out.size, HB1.out.block⟩
      clear A1 A2 A3 c0 c1
      generalize W1.drewN nq = W2 at d0 HRG2 HRF2 HB2 ⊢
      clear HRG1 HRF1 HB1
      have HD0 : Hid (W2.cell? ⟨p, 0, none⟩ = some (.int .i64 (x : Int))) := d0
      clear d0
      go_wp2
      go_loopw [34] (fun i wv => ∃ j : Nat, j ≤ k + 1 ∧ i = .int .i64 j ∧ wv.rowIs w.heap.size 3 m (fun i => .int .i64 ((if i < j then f i ^^^ gm s (g i) else f i : Nat) : Int)) ∧ wv.rowIs q 3 (k + 1) (fun i => .int .i64 (g i : Int)) ∧
          wv.cell? ⟨p, 0, none⟩ = some (.int .i64 (x : Int)) ∧ Below w.heap.size w wv) (fun i _ => k + 1 - (intOf i).toNat)
      case atStart => exact ⟨0, Nat.zero_le _, rfl, HRF2.out.congr (fun i _ => by simp), HRG2.out, HD0.out, HB2.out⟩
      case round =>
        obtain ⟨j, hj, rfl, hrf, hrg, hd, hbel⟩ := hrel
        have HRF3 : Hid (wr.rowIs w.heap.size 3 m (fun i => .int .i64 ((if i < j then f i ^^^ gm s (g i) else f i : Nat) : Int))) := hrf
        have HRG3 : Hid (wr.rowIs q 3 (k + 1) (fun i => .int .i64 (g i : Int))) := hrg
        have HD3 : Hid (wr.cell? ⟨p, 0, none⟩ = some (.int .i64 (x : Int))) := hd
        have HB3 : Hid (Below w.heap.size w wr) := hbel
        clear hrf hrg hd hbel
        by_cases hjl : j < k + 1
        · have e1 : wr.cell? ⟨q, j, none⟩ = some (.int .i64 (g j : Int)) := HRG3.out.cell hjl
          have e2 : wr.cell? ⟨w.heap.size, j, none⟩ = some (.int .i64 (f j : Int)) := by have := HRF3.out.cell (i := j) (by omega); simpa using this
          have e3 : wr.frozen? ⟨w.heap.size, j, none⟩ = false := HRF3.out.frozen j
          have hfj := HH.out.fb j
          have hgj := HH.out.gb j
          have hs := HS.out
          have HEQ : Hid (bits .xor .i64 (f j : Int) (gm s (g j) : Int) = ((f j ^^^ gm s (g j) : Nat) : Int)) := xor_nat (by omega) (Nat.lt_trans (gm_byte hs hgj) (by decide))
          have hjm : (j : Int) < (m : Int) := by omega
          have hjk : (j : Int) < ((k + 1 : Nat) : Int) := by omega
          go_wp2_with fail
          go_region_with (go_at_call 32; refine (rtimes_any s (g j) _ hs hgj).mono ?_; rintro e w' ⟨rfl, rfl⟩)
          all_goals
            go_wp2
            go_roundw
            case rel =>
              exact ⟨j + 1, by omega, by go_num, row_put (f := fun i => f i ^^^ gm s (g i)) (g := f) (w := wr) HRF3.out HEQ.out, HRG3.out.setOther (a := ⟨w.heap.size, j, none⟩) (by have := HQ.out; show q ≠ w.heap.size; omega) _,
                (World.cell?_of_block (w := wr) (Below.heap_setCell wr ⟨w.heap.size, j, none⟩ _ p (by have := HP.out; show p ≠ w.heap.size; omega))).trans HD3.out, (HB3.out.setCell (p := ⟨w.heap.size, j, none⟩) (Nat.le_refl _) _).drew⟩
            case measure => simp [intOf]; omega
        · have hjk : j = k + 1 := by omega
          subst hjk
          have hd := HD3.out
          go_wp2_with fail
          refine (noughtAlso_any wr _ (k + 1) x g HH.out.gb HH.out.gz (by omega) hxk (slice_row HRG3.out (by unfold maxLen; omega))).mono ?_
          rintro e w' ⟨rfl, hrn, hbn, hsn⟩
          have HRN : Hid (w'.rowIs wr.heap.size 3 (k + 1 + 1) (fun i => .int .i64 (nx g x i : Int))) := hrn
          have HRF4 : Hid (w'.rowIs w.heap.size 3 m (fun i => .int .i64 ((f i ^^^ gm s (g i) : Nat) : Int))) := by
            refine (rowIs_below HRF3.out hbn (by have := HQ.out; have := HRG3.out.lt; omega)).congr fun i _ => ?_
            by_cases hi : i < k + 1
            · simp [hi]
            · rw [if_neg hi, HH.out.gz i (by omega), gm_zero, Nat.xor_zero]
          have HB4 : Hid (Below w.heap.size w w') := HB3.out.trans (hbn.mono (by have := HQ.out; have := HRG3.out.lt; omega))
          have HQ4 : Hid (w.heap.size < wr.heap.size) := Nat.lt_trans HQ.out HRG3.out.lt
          have HH4 : Hid (Half m (k + 1) X Y (fun i => f i ^^^ gm s (g i)) (nx g x)) := by
            have h := half_step HH.out hlt HX.out HXb.out (HYb.out k hlt)
            rw [← HSE.out, HXE.out] at h
            exact h
          clear hrn hbn hsn hd
          generalize wr.heap.size = q2 at HRN HQ4 ⊢
          go_wp2
          go_roundw
          case rel => exact ⟨k + 1, by omega, by go_num, q2, (fun i => f i ^^^ gm s (g i)), nx g x, rfl, HQ4.out, HRN.out, HRF4.out, HH4.out, HB4.out⟩
          case measure => simp [intOf]; omega
    · have hkn : k = m := by omega
      subst hkn
      go_wp2
      go_ret
      exact ⟨f, ⟨HH.out.fb, HH.out.thru⟩, rfl, HRF.out, HB.out⟩

/-- The points of the first that are there. -/
theorem rowThrough_any (w : World) (v : Value) (xs : List Int) (l : List Nat) (m : Nat) (hp : PointsIs w v xs l) (hl : l.length = m) (hm : m ≤ 8) (hg : Grows m (fun i => l.getD i 0)) (hX : ∀ i, i < m → l.getD i 0 < 256) (hY : ∀ i, i < m → isByte (nth xs (l.getD i 0))) :
    Calls Tryd.prog 21 #[v] w fun e w' => ∃ f v', Thru m (fun i => l.getD i 0) (fun i => (nth xs (l.getD i 0)).toNat) f ∧ e = .returned v' ∧ SliceIs w' v' (fl m f) ∧ Below w.heap.size w w' := by
  obtain ⟨g, cap, rfl, hg0, hc⟩ := hp
  rw [hl] at hc ⊢
  refine (rowThrough_some w g cap m (fun i => l.getD i 0) (fun i => (nth xs (l.getD i 0)).toNat) hg0 hm (fun i hi => ⟨(hc i hi).1, ?_⟩) hg hX (fun i hi => ?_)).mono ?_
  · rw [(hc i hi).2]
    have := (hY i hi).1
    congr 2
    show nth xs (l.getD i 0) = ((nth xs (l.getD i 0)).toNat : Int)
    omega
  · have h1 := (hY i hi).1; have h2 := (hY i hi).2
    show (nth xs (l.getD i 0)).toNat < 256
    omega
  · rintro e w' ⟨f, ht, rfl, hr, hb⟩
    exact ⟨f, _, ht, rfl, slice_row hr (by unfold maxLen; omega), hb⟩

end Go.Proofs.YtebjefgdjfjndaaDoor
