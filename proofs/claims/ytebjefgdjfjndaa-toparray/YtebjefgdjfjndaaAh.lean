/- This text proves what parity.Again answers: the exclusive or of the one more and of all rows but one, in new memory, or nil with the first error that the document names; the only condition is that the slices lie there. -/
import Derived.Test.YtebjefgdjfjndaaOg
import Derived.Test.YtebjefgdjfjndaaMb
namespace Go.Proofs.Ytebjefgdjfjndaa
open Go.RowKit Go.Deep

/-- What is left of the one more and of the first j rows but row k, at a place. -/
def exTo (rs : List (List Int)) (more : List Int) (k i : Nat) : Nat → Int
  | 0 => bx 0 (nth more i)
  | j + 1 => if j = k then exTo rs more k i j else bx (exTo rs more k i j) (nth (rowAt rs j) i)

theorem exTo_byte {n : Nat} {rs : List (List Int)} {more : List Int} {k i : Nat} (hi : i < n) (hm : Good n more) : ∀ j, (∀ q, q < j → Good n (rowAt rs q)) → isByte (exTo rs more k i j)
  | 0, _ => bx_byte ⟨by decide, by decide⟩ (good_nth hm hi)
  | j + 1, h => by
    rw [exTo]
    split
    · exact exTo_byte hi hm j (fun q hq => h q (by omega))
    · exact bx_byte (exTo_byte hi hm j (fun q hq => h q (by omega))) (good_nth (h j (by omega)) hi)

/-- The rows but row k, the one more ahead of them. -/
def others (rs : List (List Int)) (more : List Int) (k : Nat) : List (List Int) := more :: rs.eraseIdx k

theorem exTo_left {n : Nat} {rs : List (List Int)} {more : List Int} {k i : Nat} (hi : i < n) (hm : Good n more) : ∀ j, j ≤ rs.length → exTo rs more k i j = left i (more :: (rs.take j).eraseIdx k)
  | 0, _ => by
    rw [exTo, zero_bx (good_nth hm hi)]
    simp [left, bx_zero (good_nth hm hi)]
  | j + 1, hj => by
    rw [exTo, exTo_left hi hm j (by omega), take_row (by omega)]
    have hl : (rs.take j).length = j := by rw [List.length_take]; omega
    by_cases e : j = k
    · subst e
      rw [if_pos rfl, List.eraseIdx_append_of_length_le (by omega), hl, Nat.sub_self, List.eraseIdx_of_length_le (by omega)]
      simp
    · rw [if_neg e]
      by_cases hlt : k < j
      · rw [List.eraseIdx_append_of_lt_length (by omega), ← List.cons_append, left_snoc]
      · rw [List.eraseIdx_append_of_length_le (by omega), List.eraseIdx_of_length_le (by omega), hl, List.eraseIdx_of_length_le (by simp; omega), ← List.cons_append, left_snoc]

theorem exTo_all {n : Nat} {rs : List (List Int)} {more : List Int} {k i : Nat} (hi : i < n) (hm : Good n more) : exTo rs more k i rs.length = left i (others rs more k) := by
  rw [exTo_left hi hm _ (Nat.le_refl _), List.take_length]; rfl

theorem others_good {n k : Nat} {rs : List (List Int)} {more : List Int} (hg : GoodRows n rs) (hm : Good n more) (hk : k < rs.length) : GoodRows n (others rs more k) := by
  refine ⟨by simp [others], ?_, good_mem.2 fun r hr => ?_⟩
  · have := hg.2.1
    simp only [others, List.length_cons, List.length_eraseIdx, hk, if_true]
    omega
  · rcases List.mem_cons.1 hr with rfl | h
    · exact hm
    · exact good_mem.1 hg.2.2 r (List.mem_of_mem_eraseIdx h)

set_option maxHeartbeats 1000000 in
theorem again_err1 (w : World) (v vm : Value) (k : Int) (rs : List (List Int)) (h : RowsIs w v rs) (he : checkE rs ≠ 0) :
    Calls Try.prog 16 #[v, vm, .int .i64 k] w fun e w' => e = .returned (.tuple #[.slice none 0 0, errV (checkE rs)]) ∧ w = w' := by
  have HE : Hid (errV (checkE rs) = .iface 45 (.int .i64 (checkE rs : Int))) := errV_pos he
  clear he
  go_enter Try.func16, Try.ntmps16
  go_wp2_with (go_at_call 23; refine (check_any _ _ _ h).mono ?_; rintro e w' ⟨rfl, rfl⟩; rw [HE.out])
  go_ret2
  exact ⟨by rw [HE.out]; rfl, rfl⟩

set_option maxHeartbeats 2000000 in
theorem again_more (w : World) (vm : Value) (k : Int) (rs : List (List Int)) (xm : List Int) (b off cap n : Nat) (h : RowsIs w (.slice (some ⟨b, off, none⟩) rs.length cap) rs) (hg : GoodRows n rs) (hm : SliceIs w vm xm)
    (hc : ∀ i, i < rs.length → ∃ v, w.cell? ⟨b, off + i, none⟩ = some v ∧ SliceIs w v (rowAt rs i)) (he : rowE n xm ≠ 0 ∨ ¬ (0 ≤ k ∧ k < (rs.length : Int))) :
    Calls Try.prog 16 #[.slice (some ⟨b, off, none⟩) rs.length cap, vm, .int .i64 k] w fun e w' => e = .returned (.tuple #[.slice none 0 0, errV (if rowE n xm = 0 then 1 else rowE n xm)]) ∧ w = w' := by
  have HE : Hid (errV (checkE rs) = .nilIface) := by show errV (checkE rs) = .nilIface; rw [checkE_zero.2 (by rw [(hg.2.2 0 hg.1).2.1]; exact hg)]; rfl
  obtain ⟨v0, hc0, a0, cap0, hv0, hl0, _⟩ := hc 0 hg.1
  subst hv0
  have hpos : (0 : Int) < (rs.length : Int) := by have := hg.1; omega
  rw [(hg.2.2 0 hg.1).2.1] at hc0 hl0
  simp only [Nat.add_zero] at hc0
  clear hc hg
  by_cases hr : rowE n xm = 0
  · have HR : Hid (errV (rowE n xm) = .nilIface) := by show errV (rowE n xm) = .nilIface; rw [hr]; rfl
    rw [if_pos hr]
    have hk : ¬ (0 ≤ k ∧ k < (rs.length : Int)) := by rcases he with h | h; exact absurd hr h; exact h
    clear he hr
    by_cases h0 : k < 0
    · clear hk
      go_enter Try.func16, Try.ntmps16
      go_wp2_with (first | (go_at_call 23; refine (check_any _ _ _ h).mono ?_; rintro e w' ⟨rfl, rfl⟩; rw [HE.out]) | (go_at_call 25; refine (checkRow_any _ _ _ _ hl0 hm).mono ?_; rintro e w' ⟨rfl, rfl⟩; rw [HR.out]))
      go_ret2
      exact ⟨rfl, rfl⟩
    · have h1 : (rs.length : Int) ≤ k := by omega
      clear hk
      go_enter Try.func16, Try.ntmps16
      go_wp2_with (first | (go_at_call 23; refine (check_any _ _ _ h).mono ?_; rintro e w' ⟨rfl, rfl⟩; rw [HE.out]) | (go_at_call 25; refine (checkRow_any _ _ _ _ hl0 hm).mono ?_; rintro e w' ⟨rfl, rfl⟩; rw [HR.out]))
      go_ret2
      exact ⟨rfl, rfl⟩
  · have HR : Hid (errV (rowE n xm) = .iface 45 (.int .i64 (rowE n xm : Int))) := errV_pos hr
    rw [if_neg hr]
    clear he hr
    go_enter Try.func16, Try.ntmps16
    go_wp2_with (first | (go_at_call 23; refine (check_any _ _ _ h).mono ?_; rintro e w' ⟨rfl, rfl⟩; rw [HE.out]) | (go_at_call 25; refine (checkRow_any _ _ _ _ hl0 hm).mono ?_; rintro e w' ⟨rfl, rfl⟩; rw [HR.out]))
    go_ret2
    exact ⟨by rw [HR.out]; rfl, rfl⟩

set_option maxHeartbeats 4000000 in
theorem again_good (w : World) (b off cap n k : Nat) (vm : Value) (rs : List (List Int)) (xm : List Int) (h : RowsIs w (.slice (some ⟨b, off, none⟩) rs.length cap) rs) (hb : b < w.heap.size) (hg : GoodRows n rs) (hm : SliceIs w vm xm) (hgm : Good n xm) (hk : k < rs.length)
    (hc : ∀ i, i < rs.length → ∃ v, w.cell? ⟨b, off + i, none⟩ = some v ∧ SliceIs w v (rowAt rs i)) :
    Calls Try.prog 16 #[.slice (some ⟨b, off, none⟩) rs.length cap, vm, .int .i64 (k : Int)] w fun e w' => e = .returned (.tuple #[.slice (some ⟨w.heap.size, 0, none⟩) n n, .nilIface]) ∧
      w'.rowIs w.heap.size 3 n (fun i => .int .i64 (exTo rs xm k i rs.length)) ∧ Below w.heap.size w w' ∧ w'.heap.size = w.heap.size + 1 := by
  have HE : Hid (errV (checkE rs) = .nilIface) := by show errV (checkE rs) = .nilIface; rw [checkE_zero.2 (by rw [(hg.2.2 0 hg.1).2.1]; exact hg)]; rfl
  have HR : Hid (errV (rowE n xm) = .nilIface) := by show errV (rowE n xm) = .nilIface; rw [rowE_zero.2 hgm]; rfl
  obtain ⟨g1, g2, g3⟩ := hg
  have hn16 : n ≤ 16 := by have h1 := hgm.1; have h2 := hgm.2.1; omega
  obtain ⟨m, hmm⟩ : ∃ m, m = rs.length := ⟨_, rfl⟩
  rw [← hmm] at g1 g2 g3 hc h hk ⊢
  clear hmm
  obtain ⟨am, capm, hvm, hlm, him⟩ := id hm
  rw [hgm.2.1] at hvm
  subst hvm
  have HG : Hid (∀ i, i < m → Good n (rowAt rs i)) := g3
  have HC : Hid (∀ i, i < m → ∃ v, w.cell? ⟨b, off + i, none⟩ = some v ∧ SliceIs w v (rowAt rs i)) := hc
  have HGM : Hid (Good n xm) := hgm
  have HIM : Hid (IntsAt w am xm) := him
  obtain ⟨v0, hc0, a0, cap0, hv0, hl0, _⟩ := hc 0 g1
  subst hv0
  rw [(g3 0 g1).2.1] at hc0 hl0
  simp only [Nat.add_zero] at hc0
  have hmpos : (0 : Int) < (m : Int) := by omega
  have hk0 : ¬ ((k : Int) < 0) := by omega
  have hk1 : ¬ ((m : Int) ≤ (k : Int)) := by omega
  have hmk := run_make_row' (P := Try.prog) 22 3 (.int .i64 0) 8 Try.underlying22 Try.info3 rfl .i64 .i64 n (by omega) (by omega)
  clear g3 hc hgm him hlm
  go_enter Try.func16, Try.ntmps16
  go_wp2_with (first | (go_at_call 23; refine (check_any _ _ _ h).mono ?_; rintro e w' ⟨rfl, rfl⟩; rw [HE.out]) | (go_at_call 25; refine (checkRow_any _ _ _ _ hl0 hm).mono ?_; rintro e w' ⟨rfl, rfl⟩; rw [HR.out]) | fail)
  have hrow0 : (w.alloc (.cells (madeCells #[.int .i64 0] n) 3)).rowIs w.heap.size 3 n (fun _ => .int .i64 0) := World.rowIs_made w _ n 3
  have him1 : IntsAt (w.alloc (.cells (madeCells #[.int .i64 0] n) 3)) am xm := HIM.out.later (Nat.le_refl _) ((Below.refl _ _).alloc (Nat.le_refl _) _)
  have HMB : Hid (∀ q o, am = some ⟨q, o, none⟩ → 0 < n → q ≠ w.heap.size) := by
    intro q o e hpos
    obtain ⟨q', o', e', hlt', _⟩ := HIM.out (fun e0 => by have := HGM.out.2.1; rw [e0] at this; simp at this; omega)
    rw [e'] at e
    cases e
    omega
  refine (mixIn_any _ _ _ _ _ (fun _ => 0) xm hn16 HGM.out.2.1 (fun i hi => ⟨⟨by decide, by decide⟩, good_nth HGM.out hi⟩) hrow0 _ him1 HMB.out).mono ?_
  rintro e w1 ⟨rfl, hr1, hb1, hs1⟩
  have HR1 : Hid (w1.rowIs w.heap.size 3 n (fun i => .int .i64 (exTo rs xm k i 0))) := hr1
  have HB1 : Hid (Below w.heap.size w w1) := ((Below.refl _ _).alloc (Nat.le_refl _) _).trans hb1
  have HS1 : Hid (w1.heap.size = w.heap.size + 1) := by show w1.heap.size = _; rw [hs1]; simp
  clear hmk h hc0 hr1 hb1 hs1 hrow0 him1 hm
  go_wp2
  go_loopw [44] (fun i wr => ∃ j : Nat, j ≤ m ∧ i = .int .i64 j ∧ wr.rowIs w.heap.size 3 n (fun i => .int .i64 (exTo rs xm k i j)) ∧ Below w.heap.size w wr ∧ wr.heap.size = w.heap.size + 1) (fun i _ => m - (intOf i).toNat)
  case atStart => exact ⟨0, Nat.zero_le _, rfl, HR1.out, HB1.out, HS1.out⟩
  case round =>
    obtain ⟨j, hj, rfl, hr, hbel, hsz⟩ := hrel
    have HRj : Hid (wr.rowIs w.heap.size 3 n (fun i => .int .i64 (exTo rs xm k i j))) := hr
    have HS : Hid (wr.heap.size = w.heap.size + 1) := hsz
    have HB : Hid (Below w.heap.size w wr) := hbel
    clear hr hsz hbel
    by_cases hlt : j < m
    · obtain ⟨vj, hcj, aj, capj, hvj, hlj, hij⟩ := HC.out j hlt
      have gj := HG.out j hlt
      have hln : (rowAt rs j).length = n := gj.2.1
      rw [hln] at hvj
      subst hvj
      have h1 : wr.cell? ⟨b, off + j, none⟩ = some (.slice aj n capj) := by rw [HB.out.cell (p := ⟨b, off + j, none⟩) hb]; exact hcj
      by_cases e : j = k
      · have he : ((j : Int) == (k : Int)) = true := by simp; omega
        have HX : Hid (∀ i, exTo rs xm k i (j + 1) = exTo rs xm k i j) := fun i => by rw [exTo, if_pos e]
        clear e hcj hij hlj gj hln
        go_wp2
        go_roundw
        case rel => exact ⟨j + 1, by omega, by go_num, HRj.out.congr (fun i _ => by rw [HX.out]), HB.out, HS.out⟩
        case measure => simp [intOf]; omega
      · have he : ((j : Int) == (k : Int)) = false := by simp; omega
        have HX : Hid (∀ i, exTo rs xm k i (j + 1) = bx (exTo rs xm k i j) (nth (rowAt rs j) i)) := fun i => by rw [exTo, if_neg e]
        have HK : Hid (IntsAt wr aj (rowAt rs j)) := hij.later (Nat.le_refl _) HB.out
        have HA : Hid (∀ q o, aj = some ⟨q, o, none⟩ → 0 < n → q ≠ w.heap.size) := by
          intro q o e hpos
          obtain ⟨q', o', e', hlt', _⟩ := hij (fun e0 => by rw [e0] at hln; simp at hln; omega)
          rw [e'] at e
          cases e
          omega
        have HL : Hid ((rowAt rs j).length = n) := hln
        have HY : Hid (∀ i, i < n → isByte (exTo rs xm k i j) ∧ isByte (nth (rowAt rs j) i)) := fun i hi =>
          ⟨exTo_byte hi HGM.out j (fun q hq => HG.out q (by omega)), good_nth gj hi⟩
        clear e hcj hij hlj gj hln
        go_wp2_with (go_at_call 24; refine (mixIn_any _ _ _ _ _ _ (rowAt rs j) hn16 HL.out HY.out HRj.out _ HK.out HA.out).mono ?_)
        rintro e w' ⟨rfl, hr', hb', hs'⟩
        have HR' : Hid (w'.rowIs w.heap.size 3 n (fun i => .int .i64 (exTo rs xm k i (j + 1)))) := hr'.congr (fun i _ => by rw [HX.out])
        have HB' : Hid (Below w.heap.size w w') := HB.out.trans hb'
        have HS' : Hid (w'.heap.size = w.heap.size + 1) := hs'.trans HS.out
        clear hr' hb' hs'
        go_wp2
        go_roundw
        case rel => exact ⟨j + 1, by omega, by go_num, HR'.out, HB'.out, HS'.out⟩
        case measure => simp [intOf]; omega
    · have hjm : j = m := by omega
      subst hjm
      go_wp2
      go_ret2
      exact ⟨rfl, HRj.out, HB.out, HS.out⟩

theorem again_ok (w : World) (v vm : Value) (n k : Nat) (rs : List (List Int)) (xm : List Int) (h : RowsIs w v rs) (hm : SliceIs w vm xm) (hg : GoodRows n rs) (hgm : Good n xm) (hk : k < rs.length) :
    Calls Try.prog 16 #[v, vm, .int .i64 (k : Int)] w fun e w' => ∃ v', e = .returned (.tuple #[v', .nilIface]) ∧ SliceIs w' v' (parity (others rs xm k)) ∧ Below w.heap.size w w' := by
  obtain ⟨a, cap, rfl, hl, hx⟩ := h
  have hne : rs ≠ [] := fun e => by have := hg.1; rw [e] at this; simp at this
  obtain ⟨b, off, rfl, hb, hc⟩ := hx hne
  refine (again_good w b off cap n k vm rs xm ⟨_, _, rfl, hl, hx⟩ hb hg hm hgm hk hc).mono ?_
  rintro e w' ⟨rfl, hr, hbel, hs⟩
  have hgo := others_good hg hgm hk
  have hlen : (parity (others rs xm k)).length = n := by rw [parity_length, good_len hgo]
  refine ⟨_, rfl, ⟨some ⟨w.heap.size, 0, none⟩, n, by rw [hlen], by rw [hlen]; unfold maxLen; have h1 := hgm.1; have h2 := hgm.2.1; omega, fun _ => ⟨_, 0, rfl, hr.lt, fun i hi => ?_⟩⟩, hbel⟩
  rw [hlen] at hi
  rw [nth_par hgo hi, Nat.zero_add, ← exTo_all hi hgm]
  exact hr.cell hi

theorem again_err2 (w : World) (v vm : Value) (k : Int) (n : Nat) (rs : List (List Int)) (xm : List Int) (h : RowsIs w v rs) (hm : SliceIs w vm xm) (hg : GoodRows n rs) (he : rowE n xm ≠ 0 ∨ ¬ (0 ≤ k ∧ k < (rs.length : Int))) :
    Calls Try.prog 16 #[v, vm, .int .i64 k] w fun e w' => e = .returned (.tuple #[.slice none 0 0, errV (if rowE n xm = 0 then 1 else rowE n xm)]) ∧ w = w' := by
  obtain ⟨a, cap, rfl, hl, hx⟩ := h
  have hne : rs ≠ [] := fun e => by have := hg.1; rw [e] at this; simp at this
  obtain ⟨b, off, rfl, hb, hc⟩ := hx hne
  exact again_more w vm k rs xm b off cap n ⟨_, _, rfl, hl, hx⟩ hg hm hc he

end Go.Proofs.Ytebjefgdjfjndaa
