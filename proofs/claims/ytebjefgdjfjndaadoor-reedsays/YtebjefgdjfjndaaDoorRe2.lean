/- This text proves what reed.shardsOf and reed.noughtAlso answer: what factors come to at each number, and a row times the sum of the byte and a number, in new memory; the only condition is that the slices lie there and hold bytes. -/
import Derived.Test.YtebjefgdjfjndaaDoorRe1
import Derived.Deep.RegionWith
namespace Go.Proofs.YtebjefgdjfjndaaDoor
open Go.RowKit Go.Deep

theorem Tryd.info3 : (Tryd.prog.info? 3).map (fun i => (i.zero, i.size, i.bytes)) = some (some (.int .i64 0), 1, 8) := by kernel_rfl

/-- One more place is set. -/
theorem row_put {w : World} {b n k : Nat} {f g : Nat → Nat} {v : Int} (h : w.rowIs b 3 n (fun i => .int .i64 ((if i < k then f i else g i : Nat) : Int))) (hv : v = (f k : Int)) :
    (w.setCell ⟨b, k, none⟩ (.int .i64 v)).rowIs b 3 n (fun i => .int .i64 ((if i < k + 1 then f i else g i : Nat) : Int)) := by
  refine (h.set k _).congr fun i _ => ?_
  by_cases e : i = k
  · subst e; subst hv; simp
  · simp only [e, if_false]
    by_cases hlt : i < k
    · simp [hlt, show i < k + 1 by omega]
    · simp [hlt, show ¬ i < k + 1 by omega]

set_option maxHeartbeats 2000000 in
theorem shardsOf_any (w : World) (v : Value) (n m : Nat) (f : Nat → Nat) (hf : BytesF f) (hn : n ≤ 16) (hm : m ≤ 256) (hs : SliceIs w v (fl n f)) :
    Calls Tryd.prog 20 #[v, .int .i64 (m : Int)] w fun e w' => e = .returned (.slice (some ⟨w.heap.size, 0, none⟩) m m) ∧ w'.rowIs w.heap.size 3 m (fun i => .int .i64 (evF f i n : Int)) ∧ Below w.heap.size w w' ∧ w'.heap.size = w.heap.size + 1 := by
  have HS : Hid (SliceIs w v (fl n f)) := hs
  have HF : Hid (BytesF f) := hf
  obtain ⟨a, c, hv, _⟩ := id hs
  rw [fl_len] at hv
  subst hv
  have hmk := run_make_row' (P := Tryd.prog) 22 3 (.int .i64 0) 8 Tryd.underlying22 Tryd.info3 rfl .i64 .i64 m (by omega) (by omega)
  clear hs hf
  go_enter Tryd.func20, Tryd.ntmps20
  go_wp2
  clear hmk
  go_loopw [11] (fun i wr => ∃ k : Nat, k ≤ m ∧ i = .int .i64 k ∧ wr.rowIs w.heap.size 3 m (fun i => .int .i64 ((if i < k then evF f i n else 0 : Nat) : Int)) ∧ Below w.heap.size w wr ∧ wr.heap.size = w.heap.size + 1) (fun i _ => m - (intOf i).toNat)
  case atStart => exact ⟨0, Nat.zero_le _, rfl, (World.rowIs_made w _ m 3).congr (fun i _ => rfl), (Below.refl _ _).alloc (Nat.le_refl _) _, by simp⟩
  case round =>
    obtain ⟨k, hk, rfl, hr, hbel, hsz⟩ := hrel
    have HR : Hid (wr.rowIs w.heap.size 3 m (fun i => .int .i64 ((if i < k then evF f i n else 0 : Nat) : Int))) := hr
    have HB : Hid (Below w.heap.size w wr) := hbel
    have HZ : Hid (wr.heap.size = w.heap.size + 1) := hsz
    clear hr hbel hsz
    by_cases hlt : k < m
    · have h2 : wr.cell? ⟨w.heap.size, k, none⟩ = some (.int .i64 0) := by have := HR.out.cell hlt; simpa using this
      have h3 : wr.frozen? ⟨w.heap.size, k, none⟩ = false := HR.out.frozen k
      go_wp2_with fail
      refine (at_fl wr _ n k f HF.out hn (by omega) (HS.out.later HB.out)).mono ?_
      rintro e w' ⟨rfl, rfl⟩
      go_wp2
      go_roundw
      case rel => exact ⟨k + 1, by omega, by go_num, row_put HR.out rfl, HB.out.setCell (Nat.le_refl _) _, by simp [World.setCell, HZ.out]⟩
      case measure => simp [intOf]; omega
    · have hkn : k = m := by omega
      subst hkn
      go_wp2
      go_ret
      exact ⟨rfl, HR.out.congr (fun i hi => by simp [hi]), HB.out, HZ.out⟩

/-- The row times a sum, so far as it is made. -/
def nxk (f : Nat → Nat) (r k : Nat) : Nat → Nat := fun i => if i < k then nx f r i else if i = k then (if k = 0 then 0 else f (k - 1)) else 0

theorem nxk_put {w : World} {b n k : Nat} {f : Nat → Nat} {r : Nat} {u v : Int} (h : w.rowIs b 3 n (fun i => .int .i64 (nxk f r k i : Int))) (hu : u = (nx f r k : Int)) (hv : v = (f k : Int)) :
    ((w.setCell ⟨b, k, none⟩ (.int .i64 u)).setCell ⟨b, k + 1, none⟩ (.int .i64 v)).rowIs b 3 n (fun i => .int .i64 (nxk f r (k + 1) i : Int)) := by
  refine ((h.set k _).set (k + 1) _).congr fun i _ => ?_
  subst hu hv
  unfold nxk
  by_cases e1 : i = k + 1
  · subst e1; simp
  · rw [if_neg e1]
    by_cases e : i = k
    · subst e; simp
    · rw [if_neg e]
      by_cases hlt : i < k
      · simp [hlt, show i < k + 1 by omega]
      · simp [hlt, e, e1, show ¬ i < k + 1 by omega]

theorem nxk_all {f : Nat → Nat} {r n : Nat} (h : ∀ i, n ≤ i → f i = 0) {i : Nat} (hi : i < n + 1) : nxk f r n i = nx f r i := by
  unfold nxk
  by_cases e : i < n
  · rw [if_pos e]
  · have : i = n := by omega
    subst this
    rw [if_neg e, if_pos rfl]
    unfold nx
    rw [h i (Nat.le_refl _), zero_gm, Nat.zero_xor]

set_option maxHeartbeats 4000000 in
theorem noughtAlso_any (w : World) (v : Value) (n r : Nat) (f : Nat → Nat) (hf : BytesF f) (hz : ∀ i, n ≤ i → f i = 0) (hn : n ≤ 16) (hr : r < 256) (hs : SliceIs w v (fl n f)) :
    Calls Tryd.prog 33 #[v, .int .i64 (r : Int)] w fun e w' => e = .returned (.slice (some ⟨w.heap.size, 0, none⟩) (n + 1) (n + 1)) ∧ w'.rowIs w.heap.size 3 (n + 1) (fun i => .int .i64 (nx f r i : Int)) ∧ Below w.heap.size w w' ∧ w'.heap.size = w.heap.size + 1 := by
  have HF : Hid (BytesF f) := hf
  have HZ0 : Hid (∀ i, n ≤ i → f i = 0) := hz
  have HS : Hid (SliceIs w v (fl n f)) := hs
  obtain ⟨a, c, q, o, hv, _, ha, hc⟩ := hs.where
  rw [fl_len] at hv ha hc
  subst hv
  have HC : Hid (∀ i, i < n → w.cell? ⟨q, o + i, none⟩ = some (.int .i64 (f i : Int))) := fun i hi => by rw [hc i hi, fl_nth hi]
  have HQ : Hid (0 < n → q < w.heap.size) := by
    intro h0
    obtain ⟨_, _, h1, h2, h3⟩ := HS.out
    obtain ⟨b', o', h4, h5, _⟩ := h3 (fun e => by have := fl_len n f; rw [e] at this; simp at this; omega)
    rw [fl_len] at h1
    cases h1
    rw [ha h0] at h4
    cases h4
    exact h5
  have hmk := run_make_row' (P := Tryd.prog) 22 3 (.int .i64 0) 8 Tryd.underlying22 Tryd.info3 rfl .i64 .i64 (n + 1) (by omega) (by omega)
  rw [show (((n + 1 : Nat) : Int)) = (n : Int) + 1 by omega] at hmk
  clear hs hf hz hc
  go_enter Tryd.func33, Tryd.ntmps33
  go_wp2
  clear hmk
  go_loopw [14] (fun i wr => ∃ k : Nat, k ≤ n ∧ i = .int .i64 k ∧ wr.rowIs w.heap.size 3 (n + 1) (fun i => .int .i64 (nxk f r k i : Int)) ∧ Below w.heap.size w wr ∧ wr.heap.size = w.heap.size + 1) (fun i _ => n - (intOf i).toNat)
  case atStart => exact ⟨0, Nat.zero_le _, rfl, (World.rowIs_made w _ (n + 1) 3).congr (fun i _ => by unfold nxk; simp), (Below.refl _ _).alloc (Nat.le_refl _) _, by simp⟩
  case round =>
    obtain ⟨k, hk, rfl, hro, hbel, hsz⟩ := hrel
    have HR : Hid (wr.rowIs w.heap.size 3 (n + 1) (fun i => .int .i64 (nxk f r k i : Int))) := hro
    have HB : Hid (Below w.heap.size w wr) := hbel
    have HZ : Hid (wr.heap.size = w.heap.size + 1) := hsz
    clear hro hbel hsz
    by_cases hlt : k < n
    · have haa := ha (by omega)
      subst haa
      clear ha
      have h1 : wr.cell? ⟨q, o + k, none⟩ = some (.int .i64 (f k : Int)) := by rw [HB.out.cell (p := ⟨q, o + k, none⟩) (HQ.out (by omega))]; exact HC.out k hlt
      have h2 : wr.cell? ⟨w.heap.size, k, none⟩ = some (.int .i64 (nxk f r k k : Int)) := HR.out.cell (by omega)
      have h3 : wr.frozen? ⟨w.heap.size, k, none⟩ = false := HR.out.frozen k
      have h4 : wr.cell? ⟨w.heap.size, k + 1, none⟩ = some (.int .i64 0) := by have := HR.out.cell (i := k + 1) (by omega); rw [this]; unfold nxk; rw [if_neg (by omega), if_neg (by omega)]; rfl
      have h5 : wr.frozen? ⟨w.heap.size, k + 1, none⟩ = false := HR.out.frozen (k + 1)
      have hg : nxk f r k k < 256 := by
        unfold nxk; rw [if_neg (by omega), if_pos rfl]; split
        · decide
        · exact HF.out _
      have HG : Hid (nxk f r k k ^^^ gm (f k) r = nx f r k) := by
        show nxk f r k k ^^^ gm (f k) r = nx f r k
        unfold nxk nx; rw [if_neg (by omega), if_pos rfl, Nat.xor_comm]
      generalize nxk f r k k = g at h2 hg HG
      have hfk := HF.out k
      have HY : Hid (bits .xor .i64 0 (f k : Int) = (f k : Int)) := by
        show bits .xor .i64 ((0 : Nat) : Int) (f k : Int) = (f k : Int)
        rw [xor_nat (by decide) (by omega), Nat.zero_xor]
      obtain ⟨y, hy⟩ : ∃ y, y = f k := ⟨_, rfl⟩
      have HE : Hid (y = f k) := hy
      rw [← hy] at h1 hfk HG HY
      clear hy
      go_wp2_with fail
      go_region_with (go_at_call 32; refine (rtimes_any y r _ hfk hr).mono ?_; rintro e w' ⟨rfl, rfl⟩)
      all_goals
        go_wp2
        go_roundw
        case rel => exact ⟨k + 1, by omega, by go_num, nxk_put (w := wr) HR.out (by rw [xor_nat (by omega) (Nat.lt_trans (gm_byte hfk hr) (by decide)), HG.out]) (HY.out.trans (by rw [HE.out])), ((HB.out.setCell (p := ⟨w.heap.size, k, none⟩) (Nat.le_refl _) _).setCell (p := ⟨w.heap.size, k + 1, none⟩) (Nat.le_refl _) _).drew, by simp [World.setCell, HZ.out]⟩
        case measure => simp [intOf]; omega
    · have hkn : k = n := by omega
      subst hkn
      go_wp2
      go_ret
      exact ⟨rfl, HR.out.congr (fun i hi => by rw [nxk_all HZ0.out hi]), HB.out, HZ.out⟩

end Go.Proofs.YtebjefgdjfjndaaDoor
