/- This text proves what reed.Again and platterholdref1.Again answer, in one form: all shards, told by the one row of factors, or nil with the first error that the document names; the only condition is that the slice lies there. -/
import Derived.Test.YtebjefgdjfjndaaDoorRk
namespace Go.Proofs.YtebjefgdjfjndaaDoor
open Go.RowKit Go.Deep

/-- The row of factors that tells all shards. -/
def tellF (xs : List Int) (d : Nat) : Nat → Nat := thruF d (fun i => (fst (thereB xs) d xs.length).getD i 0) (fun i => (nth xs ((fst (thereB xs) d xs.length).getD i 0)).toNat)

/-- Which error Again answers. -/
def againC (xs : List Int) (d : Int) : Nat :=
  if againE xs d ≠ 0 then againE xs d else if (fst (thereB xs) d.toNat xs.length).length < d.toNat then 5 else if allTold xs (fun i => evF (tellF xs d.toNat) i d.toNat) then 0 else 6

/-- What Again answers. -/
def againL (xs : List Int) (d : Int) : List Int := if againC xs d = 0 then fl xs.length (fun i => evF (tellF xs d.toNat) i d.toNat) else []

theorem againC_err {xs : List Int} {d : Int} (h : againE xs d ≠ 0) : againC xs d = againE xs d := by unfold againC; rw [if_pos h]
theorem againC_few {xs : List Int} {d : Nat} (h : againE xs d = 0) (hf : (fst (thereB xs) d xs.length).length < d) : againC xs d = 5 := by
  unfold againC
  rw [if_neg (fun k => k h), Int.toNat_natCast, if_pos hf]

/-- Where so many are there. -/
theorem fst_full {xs : List Int} {d : Nat} (hf : ¬ (fst (thereB xs) d xs.length).length < d) : (fst (thereB xs) d xs.length).length = d := by
  have := fst_len (thereB xs) d xs.length
  omega

theorem tell_same {xs : List Int} {d : Nat} {f : Nat → Nat} (h : againE xs d = 0) (hl : (fst (thereB xs) d xs.length).length = d) (hf : Thru d (fun i => (fst (thereB xs) d xs.length).getD i 0) (fun i => (nth xs ((fst (thereB xs) d xs.length).getD i 0)).toNat) f) (x : Nat) : evF f x d = evF (tellF xs d) x d := by
  have hG := fst_grows (thereB xs) d xs.length
  rw [hl] at hG
  refine thruF_same hG (fun i hi => ?_) hf x
  have := (fst_at (p := thereB xs) (many := d) (k := xs.length) (i := i) (by rw [hl]; exact hi)).1
  have := (againE_zero h).1
  omega

theorem allTold_congr {xs : List Int} {s t : Nat → Nat} (h : ∀ i, s i = t i) : allTold xs s ↔ allTold xs t :=
  ⟨fun k i hi ht => by rw [← h i]; exact k i hi ht, fun k i hi ht => by rw [h i]; exact k i hi ht⟩

theorem againC_full {xs : List Int} {d : Nat} {f : Nat → Nat} (h : againE xs d = 0) (hl : (fst (thereB xs) d xs.length).length = d) (hf : Thru d (fun i => (fst (thereB xs) d xs.length).getD i 0) (fun i => (nth xs ((fst (thereB xs) d xs.length).getD i 0)).toNat) f) :
    againC xs d = if allTold xs (fun i => evF f i d) then 0 else 6 := by
  unfold againC
  rw [if_neg (fun k => k h), Int.toNat_natCast, if_neg (by omega)]
  by_cases ht : allTold xs (fun i => evF f i d)
  · rw [if_pos ht, if_pos ((allTold_congr fun i => tell_same h hl hf i).1 ht)]
  · rw [if_neg ht, if_neg fun k => ht ((allTold_congr fun i => tell_same h hl hf i).2 k)]

theorem againL_told {xs : List Int} {d : Nat} {f : Nat → Nat} (h : againE xs d = 0) (hl : (fst (thereB xs) d xs.length).length = d) (hf : Thru d (fun i => (fst (thereB xs) d xs.length).getD i 0) (fun i => (nth xs ((fst (thereB xs) d xs.length).getD i 0)).toNat) f) (ht : allTold xs (fun i => evF f i d)) :
    againL xs d = fl xs.length (fun i => evF f i d) := by
  unfold againL
  rw [againC_full h hl hf, if_pos ht, if_pos rfl, Int.toNat_natCast]
  exact (fl_congr fun i _ => tell_same h hl hf i).symm

theorem againL_none {xs : List Int} {d : Int} (h : againC xs d ≠ 0) : againL xs d = [] := by unfold againL; rw [if_neg h]

theorem again_says (w : World) (v : Value) (xs : List Int) (d : Int) (hx : SliceIs w v xs) :
    Calls Tryd.prog 10 #[v, .int .i64 d] w fun e w' => ∃ v', e = .returned (.tuple #[v', errV (againC xs d)]) ∧ SliceIs w' v' (againL xs d) ∧ Below w.heap.size w w' := by
  by_cases h : againE xs d = 0
  · obtain ⟨k, rfl⟩ : ∃ k : Nat, d = k := ⟨d.toNat, by have := (againE_zero h).2.1; omega⟩
    by_cases hf : (fst (thereB xs) k xs.length).length < k
    · refine (rag_few w v xs k hx h hf).mono ?_
      rintro e w' ⟨rfl, hb⟩
      exact ⟨_, by rw [againC_few h hf]; rfl, by rw [againL_none (by rw [againC_few h hf]; decide)]; exact slice_nil _, hb⟩
    · have hl := fst_full hf
      refine (rag_ok w v xs k hx h hl).mono ?_
      rintro e w' ⟨v', f, ht, rfl, hs, hb⟩
      by_cases hto : allTold xs (fun i => evF f i k)
      · exact ⟨v', by unfold toldV; rw [if_pos hto, againC_full h hl ht, if_pos hto]; rfl, by rw [againL_told h hl ht hto]; exact hs, hb⟩
      · have e6 : againC xs k = 6 := by rw [againC_full h hl ht, if_neg hto]
        exact ⟨.slice none 0 0, by unfold toldV; rw [if_neg hto, e6]; rfl, by rw [againL_none (by rw [e6]; decide)]; exact slice_nil _, hb⟩
  · refine (rag_err w v xs d hx h).mono ?_
    rintro e w' ⟨rfl, rfl⟩
    exact ⟨_, by rw [againC_err h], by rw [againL_none (by rw [againC_err h]; exact h)]; exact slice_nil _, Below.refl _ _⟩

set_option maxHeartbeats 2000000 in
theorem ra_full (w : World) (a : Option Addr) (cap n : Nat) (d : Int) (h : 12 < n) (_hl : n ≤ maxLen) :
    Calls Tryd.prog 9 #[.slice a n cap, .int .i64 d] w fun e w' => e = .returned (.tuple #[.slice none 0 0, .int .i64 4]) ∧ w = w' := by
  have h2 : (12 : Int) < (n : Int) := by omega
  go_enter Tryd.func9, Tryd.ntmps9
  go_wp2
  go_ret2
  exact ⟨rfl, rfl⟩

theorem rin_yes (x lo hi : Int) (w : World) (h : lo ≤ x ∧ x ≤ hi) : Calls Tryd.prog 15 #[.int .i64 x, .int .i64 lo, .int .i64 hi] w fun e w' => e = .returned (.bool true) ∧ w = w' := by
  have := rin_any x lo hi w
  rwa [decide_eq_true h] at this
theorem rin_no (x lo hi : Int) (w : World) (h : ¬ (lo ≤ x ∧ x ≤ hi)) : Calls Tryd.prog 15 #[.int .i64 x, .int .i64 lo, .int .i64 hi] w fun e w' => e = .returned (.bool false) ∧ w = w' := by
  have := rin_any x lo hi w
  rwa [decide_eq_false h] at this

set_option maxHeartbeats 2000000 in
theorem ra_data (w : World) (a : Option Addr) (cap n : Nat) (d : Int) (h : n ≤ 12) (hd : ¬ (1 ≤ d ∧ d ≤ 8)) :
    Calls Tryd.prog 9 #[.slice a n cap, .int .i64 d] w fun e w' => e = .returned (.tuple #[.slice none 0 0, .int .i64 1]) ∧ w = w' := by
  have h2 : ¬ (12 : Int) < (n : Int) := by omega
  have HD : Hid (¬ (1 ≤ d ∧ d ≤ 8)) := hd
  clear hd
  go_enter Tryd.func9, Tryd.ntmps9
  go_wp2_with fail
  refine (rin_no _ _ _ _ HD.out).mono ?_
  rintro e w' ⟨rfl, rfl⟩
  go_wp2
  go_ret2
  exact ⟨rfl, rfl⟩

set_option maxHeartbeats 2000000 in
theorem ra_shard (w : World) (v : Value) (xs : List Int) (d : Int) (hx : SliceIs w v xs) (h : xs.length ≤ 12) (hd : 1 ≤ d ∧ d ≤ 8) (hs : allB (-1) 255 xs = false) :
    Calls Tryd.prog 9 #[v, .int .i64 d] w fun e w' => e = .returned (.tuple #[.slice none 0 0, .int .i64 1]) ∧ w = w' := by
  have h2 : ¬ (12 : Int) < (xs.length : Int) := by omega
  have H := all_any w v xs (-1) 255 hx
  rw [hs] at H
  have HD : Hid (1 ≤ d ∧ d ≤ 8) := hd
  obtain ⟨a, c, rfl, _⟩ := id hx
  clear hd hs hx
  go_enter Tryd.func9, Tryd.ntmps9
  go_wp2_with fail
  refine (rin_yes _ _ _ _ HD.out).mono ?_
  rintro e w' ⟨rfl, rfl⟩
  go_wp2_with fail
  refine H.mono ?_
  rintro e w' ⟨rfl, rfl⟩
  go_wp2
  go_ret2
  exact ⟨rfl, rfl⟩

set_option maxHeartbeats 2000000 in
theorem ra_shape (w : World) (v : Value) (xs : List Int) (d : Int) (hx : SliceIs w v xs) (h : xs.length ≤ 12) (hd : 1 ≤ d ∧ d ≤ 8) (hs : allB (-1) 255 xs = true) (hl : (xs.length : Int) < d ∨ d + 4 < (xs.length : Int)) :
    Calls Tryd.prog 9 #[v, .int .i64 d] w fun e w' => e = .returned (.tuple #[.slice none 0 0, .int .i64 3]) ∧ w = w' := by
  have h2 : ¬ (12 : Int) < (xs.length : Int) := by omega
  have H := all_any w v xs (-1) 255 hx
  rw [hs] at H
  have HD : Hid (1 ≤ d ∧ d ≤ 8) := hd
  obtain ⟨a, c, rfl, _⟩ := id hx
  have hl' : (xs.length : Int) < d ∨ (¬ (xs.length : Int) < d ∧ d + 4 < (xs.length : Int)) := by omega
  have hd1 := hd.1
  have hd2 := hd.2
  clear hd hs hx hl
  rcases hl' with hl | ⟨hl, hl2⟩
  all_goals
    go_enter Tryd.func9, Tryd.ntmps9
    go_wp2_with fail
    refine (rin_yes _ _ _ _ HD.out).mono ?_
    rintro e w' ⟨rfl, rfl⟩
    go_wp2_with fail
    refine H.mono ?_
    rintro e w' ⟨rfl, rfl⟩
    go_wp2
    go_ret2
    exact ⟨rfl, rfl⟩

/-- Places, and what a function says of each, as slices hold them. -/
theorem cells_snoc (h : Nat → Nat) (l : List Nat) (i : Nat) : cellsOf (fl l.length (fun q => h (l.getD q 0))) ++ [.int .i64 (h i : Int)] = cellsOf (fl (l.length + 1) (fun q => h ((l ++ [i]).getD q 0))) := by
  rw [← cells_succ]
  congr 2
  · refine fl_congr fun q hq => ?_
    simp [List.getElem?_append_left hq]
  · simp

set_option maxHeartbeats 8000000 in
set_option maxRecDepth 100000 in
theorem ra_good (w : World) (v : Value) (xs : List Int) (d : Nat) (hx : SliceIs w v xs) (he : againE xs d = 0) :
    Calls Tryd.prog 9 #[v, .int .i64 (d : Int)] w fun e w' => ∃ v', e = .returned (.tuple #[v', .int .i64 (againC xs d : Int)]) ∧ SliceIs w' v' (againL xs d) ∧ Below w.heap.size w w' := by
  obtain ⟨h12, hd1, hd8, hsh, hle, hle4⟩ := againE_zero he
  have hall : allB (-1) 255 xs = true := allB_yes hsh
  have H := all_any w v xs (-1) 255 hx
  rw [hall] at H
  have HD : Hid (1 ≤ (d : Int) ∧ (d : Int) ≤ 8) := ⟨hd1, hd8⟩
  have HEZ : Hid (againE xs d = 0) := he
  have HSH : Hid (∀ i, i < xs.length → -1 ≤ nth xs i ∧ nth xs i ≤ 255) := hsh
  obtain ⟨a, c, hv, hml, hia⟩ := hx
  obtain ⟨b, o, rfl, hlb, hcb⟩ := hia (fun e => by rw [e, List.length_nil] at hle; omega)
  obtain ⟨n, hn⟩ : ∃ n, n = xs.length := ⟨_, rfl⟩
  have HN : Hid (n = xs.length) := hn
  rw [← hn] at hv h12 hle hle4 hcb HSH
  subst hv
  have HCB : Hid (∀ i, i < n → w.cell? ⟨b, o + i, none⟩ = some (.int .i64 (nth xs i))) := hcb
  have HLB : Hid (b < w.heap.size) := hlb
  have h2 : ¬ (12 : Int) < (n : Int) := by omega
  have hl1 : ¬ (n : Int) < (d : Int) := by omega
  have hl2 : ¬ (d : Int) + 4 < (n : Int) := by omega
  have hd : d ≤ 8 := by omega
  have hd0 : 1 ≤ d := by omega
  clear he hsh hall hia hml hcb hlb hn hd1 hd8
  obtain ⟨t3, ht3, y30, y31, y32⟩ := info_parts Tryd.info3
  go_enter Tryd.func9, Tryd.ntmps9
  go_wp2_with fail
  refine (rin_yes _ _ _ _ HD.out).mono ?_
  rintro e w' ⟨rfl, rfl⟩
  go_wp2_with fail
  refine H.mono ?_
  rintro e w' ⟨rfl, rfl⟩
  clear H
  go_wp2
  rw [show decide ((d : Int) + 4 < (n : Int)) = false from decide_eq_false (by omega), show decide (n < d) = false from decide_eq_false (by omega)]
  simp only [Bool.or_false]
  go_loopw [6, 7, 8] (fun v6 v7 v8 wv => ∃ (i : Nat) (l : List Nat), i ≤ n ∧ v8 = .int .i64 i ∧ l = fst (thereB xs) d i ∧ wv.ownsRow w.heap.size 3 1 v6 l.length (cellsOf (fl l.length (fun q => l.getD q 0))) ∧
      wv.ownsRow w.heap.size 3 1 v7 l.length (cellsOf (fl l.length (fun q => (nth xs (l.getD q 0)).toNat))) ∧ (∀ k, v6.ownBlock = some k → v7.ownBlock ≠ some k) ∧ Below w.heap.size w wv) (fun _ _ i _ => n - (intOf i).toNat)
  case atStart => exact ⟨0, [], Nat.zero_le _, rfl, rfl, World.ownsRow_nil _ _ _ _, World.ownsRow_nil _ _ _ _, fun k e => (by cases e), Below.refl _ _⟩
  case round =>
    obtain ⟨i, l, hi, rfl, hl, ho6, ho7, hap, hbel⟩ := hrel
    have HO6 : Hid (wr.ownsRow w.heap.size 3 1 u6 l.length (cellsOf (fl l.length (fun q => l.getD q 0)))) := ho6
    have HO7 : Hid (wr.ownsRow w.heap.size 3 1 u7 l.length (cellsOf (fl l.length (fun q => (nth xs (l.getD q 0)).toNat)))) := ho7
    have HAP : Hid (∀ k, u6.ownBlock = some k → u7.ownBlock ≠ some k) := hap
    have HL : Hid (l = fst (thereB xs) d i) := hl
    have HB : Hid (Below w.heap.size w wr) := hbel
    have hlen : l.length ≤ d := by rw [hl, fst_len]; omega
    obtain ⟨a6, c6, hu6⟩ : ∃ a6 c6, u6 = .slice a6 l.length c6 := by
      rcases ho6.2 with ⟨rfl, h0⟩ | ⟨g, cap, cur, h1, _⟩
      · exact ⟨none, 0, by rw [h0]⟩
      · exact ⟨_, _, h1⟩
    obtain ⟨m, hm⟩ : ∃ m, m = l.length := ⟨_, rfl⟩
    have HM : Hid (m = l.length) := hm
    rw [← hm] at hu6 hlen HO6 HO7
    clear hl ho6 ho7 hap hbel hm
    by_cases hil : i < n
    · have hi' : (i : Int) < (n : Int) := by omega
      have h1 : wr.cell? ⟨b, o + i, none⟩ = some (.int .i64 (nth xs i)) := by rw [HB.out.cell (p := ⟨b, o + i, none⟩) HLB.out]; exact HCB.out i hil
      by_cases ht : nth xs i = -1
      · have HF : Hid (l = fst (thereB xs) d (i + 1)) := HL.out.trans (fst_no (.inl (by unfold thereB; simp [ht]))).symm
        rw [ht] at h1
        clear ht
        subst hu6
        go_wp2
        go_roundw
        case rel => exact ⟨i + 1, l, by omega, by go_num, HF.out, by rw [← HM.out]; exact HO6.out, by rw [← HM.out]; exact HO7.out, HAP.out, HB.out⟩
        case measure => simp [intOf]; omega
      · have hge : 0 ≤ nth xs i := by have := (HSH.out i hil).1; omega
        obtain ⟨x, hx⟩ : ∃ x : Nat, x = (nth xs i).toNat := ⟨_, rfl⟩
        have hxi : nth xs i = (x : Int) := by omega
        rw [hxi] at h1
        have hx0 : (0 : Int) ≤ (x : Int) := by omega
        by_cases hf : m < d
        · have hf' : (m : Int) < (d : Int) := by omega
          have HF : Hid (l ++ [i] = fst (thereB xs) d (i + 1)) := by
            show l ++ [i] = fst (thereB xs) d (i + 1)
            rw [fst_yes (by unfold thereB; simp [ht]) (by rw [← HL.out, ← HM.out]; exact hf), ← HL.out]
          have HC6 : Hid (cellsOf (fl m (fun q => l.getD q 0)) ++ [.int .i64 (i : Int)] = cellsOf (fl (m + 1) (fun q => (l ++ [i]).getD q 0))) := by
            have := cells_snoc (fun q => q) l i
            rw [← HM.out] at this
            exact this
          have HC7 : Hid (cellsOf (fl m (fun q => (nth xs (l.getD q 0)).toNat)) ++ [.int .i64 (x : Int)] = cellsOf (fl (m + 1) (fun q => (nth xs ((l ++ [i]).getD q 0)).toNat))) := by
            have := cells_snoc (fun q => (nth xs q).toNat) l i
            rw [← HM.out, ← hx] at this
            exact this
          have HLL : Hid ((l ++ [i]).length = m + 1) := by
            show (l ++ [i]).length = m + 1
            rw [List.length_append, ← HM.out]; rfl
          clear ht hge hx hxi
          have hu6' := hu6
          subst hu6
          go_wp2_with (at_builtin; refine wpList_append_lies _ rfl (.tmp 52) (.tmp 54) 22 rfl w.heap.size 3 t3 (.int .i64 0) 1 8 Tryd.underlying22 ht3 y30 y31 y32 rfl (by decide) (.slice a6 m c6) m (cellsOf (fl m (fun q => l.getD q 0))) rfl (HO6.out.alloc _) ⟨wr.heap.size, 0, none⟩ 1 1 [.int .i64 (i : Int)] rfl rfl (news_one wr _ 3) (ones_int _) (by decide) ?q1 ?q2 ?q3 (wr.heap.size + 1) ?q4 ?q5)
          case q1 => unfold maxLen; omega
          case q2 => omega
          case q3 => have := HB.out.size; simp; omega
          case q4 => simp
          case q5 =>
            intro g1 cap1 w1 hown hgr hat hlt
            have hown2 : w1.ownsRow w.heap.size 3 1 (.slice (some ⟨g1, 0, none⟩) (m + 1) cap1) (m + 1) (cellsOf (fl m (fun q => l.getD q 0)) ++ [.int .i64 (i : Int)]) := hown
            rw [HC6.out] at hown2
            have HO61 : Hid (w1.ownsRow w.heap.size 3 1 (.slice (some ⟨g1, 0, none⟩) (m + 1) cap1) (m + 1) (cellsOf (fl (m + 1) (fun q => (l ++ [i]).getD q 0)))) := hown2
            have HO71 : Hid (w1.ownsRow w.heap.size 3 1 u7 m (cellsOf (fl m (fun q => (nth xs (l.getD q 0)).toNat)))) := by
              refine (HO7.out.alloc _).kept hgr ?_
              rcases e : u7.ownBlock with _ | k
              · exact .inl rfl
              · exact .inr fun e2 => HAP.out k e2.symm e
            have HB1 : Hid (Below w.heap.size w w1) := (HB.out.alloc HB.out.size _).grown hgr (by have := HB.out.size; simp; omega) (fun k e => (HO6.out.lt k e).1)
            have HA1 : Hid (u7.ownBlock ≠ some g1) := by
              intro e
              rcases hat with h | h
              · exact HAP.out g1 h e
              · have := (HO7.out.lt g1 e).2; omega
            have HW1 : Hid (g1 < w1.heap.size) := hlt
            have h1' : w1.cell? ⟨b, o + i, none⟩ = some (.int .i64 (x : Int)) := by
              rw [← h1]
              exact (grown_cell hgr HLB.out (by have := HB.out.size; simp; omega) (fun k e => (HO6.out.lt k e).1)).trans (World.cell?_of_block (w := wr) (Below.heap_alloc wr _ b (Nat.lt_of_lt_of_le HLB.out HB.out.size)))
            clear hown hown2 hgr hat hlt h1
            go_wp2_with (at_builtin; refine wpList_append_lies _ rfl (.tmp 56) (.tmp 61) 22 rfl w.heap.size 3 t3 (.int .i64 0) 1 8 Tryd.underlying22 ht3 y30 y31 y32 rfl (by decide) u7 m (cellsOf (fl m (fun q => (nth xs (l.getD q 0)).toNat))) rfl (HO71.out.alloc _) ⟨w1.heap.size, 0, none⟩ 1 1 [.int .i64 (x : Int)] rfl rfl (news_one w1 _ 3) (ones_int _) (by decide) ?p1 ?p2 ?p3 (w1.heap.size + 1) ?p4 ?p5)
            case p1 => unfold maxLen; omega
            case p2 => omega
            case p3 => have := HB1.out.size; simp; omega
            case p4 => simp
            case p5 =>
              intro g2 cap2 w2 hown hgr hat hlt
              have hown2 : w2.ownsRow w.heap.size 3 1 (.slice (some ⟨g2, 0, none⟩) (m + 1) cap2) (m + 1) (cellsOf (fl m (fun q => (nth xs (l.getD q 0)).toNat)) ++ [.int .i64 (x : Int)]) := hown
              rw [HC7.out] at hown2
              have HO72 : Hid (w2.ownsRow w.heap.size 3 1 (.slice (some ⟨g2, 0, none⟩) (m + 1) cap2) (m + 1) (cellsOf (fl (m + 1) (fun q => (nth xs ((l ++ [i]).getD q 0)).toNat)))) := hown2
              have HO62 : Hid (w2.ownsRow w.heap.size 3 1 (.slice (some ⟨g1, 0, none⟩) (m + 1) cap1) (m + 1) (cellsOf (fl (m + 1) (fun q => (l ++ [i]).getD q 0)))) :=
                (HO61.out.alloc _).kept hgr (.inr fun e => HA1.out e.symm)
              have HA2 : Hid (∀ k, (Value.slice (some ⟨g1, 0, none⟩) (m + 1) cap1).ownBlock = some k → (Value.slice (some ⟨g2, 0, none⟩) (m + 1) cap2).ownBlock ≠ some k) := by
                intro k e e2
                have e3 : g1 = k := by cases e; rfl
                have e4 : g2 = k := by cases e2; rfl
                subst e3
                subst e4
                rcases hat with h | h
                · exact HA1.out h
                · have := HW1.out; omega
              have HB2 : Hid (Below w.heap.size w w2) := (HB1.out.alloc HB1.out.size _).grown hgr (by have := HB1.out.size; simp; omega) (fun k e => (HO71.out.lt k e).1)
              clear hown hown2 hgr hat hlt h1'
              go_wp2
              go_roundw
              case rel => exact ⟨i + 1, l ++ [i], by omega, by go_num, HF.out, by rw [HLL.out]; exact HO62.out, by rw [HLL.out]; exact HO72.out, HA2.out, HB2.out⟩
              case measure => simp [intOf]; omega
        · have HF : Hid (l = fst (thereB xs) d (i + 1)) := HL.out.trans (fst_no (.inr (by rw [← HL.out, ← HM.out]; exact hf))).symm
          have hf' : ¬ (m : Int) < (d : Int) := by omega
          clear ht hge hx hxi
          subst hu6
          go_wp2
          go_roundw
          case rel => exact ⟨i + 1, l, by omega, by go_num, HF.out, by rw [← HM.out]; exact HO6.out, by rw [← HM.out]; exact HO7.out, HAP.out, HB.out⟩
          case measure => simp [intOf]; omega
    · have hin : n = i := by omega
      subst hin
      have hii : ¬ (n : Int) < (n : Int) := by omega
      have HLF : Hid (l = fst (thereB xs) d xs.length) := by rw [← HN.out]; exact HL.out
      by_cases hf : m < d
      · have hf' : (m : Int) < (d : Int) := by omega
        have h5 : againC xs d = 5 := againC_few HEZ.out (by rw [← HLF.out, ← HM.out]; exact hf)
        have HC : Hid (againC xs d = 5) := h5
        have HLN : Hid (againL xs d = []) := againL_none (by rw [h5]; decide)
        clear h5
        subst hu6
        go_wp2
        go_ret2
        exact ⟨.slice none 0 0, by rw [HC.out]; rfl, by rw [HLN.out]; exact slice_nil _, HB.out⟩
      · have hmd : d = m := by omega
        subst hmd
        have hf' : ¬ (d : Int) < (d : Int) := by omega
        have HFL : Hid ((fst (thereB xs) d xs.length).length = d) := by rw [← HLF.out]; exact HM.out.symm
        obtain ⟨g6, k6, hv6, _, hg6⟩ := own_where HO6.out hd0
        obtain ⟨g7, k7, hv7, _, hg7⟩ := own_where HO7.out hd0
        have HS6 : Hid (SliceIs wr u6 (fl d (fun q => l.getD q 0))) := by rw [hv6]; rw [hv6] at HO6; exact slice_owned HO6.out (by unfold maxLen; omega) hg6
        have HS7 : Hid (SliceIs wr u7 (fl d (fun q => (nth xs (l.getD q 0)).toNat))) := by rw [hv7]; rw [hv7] at HO7; exact slice_owned HO7.out (by unfold maxLen; omega) hg7
        have hat : ∀ q, q < d → l.getD q 0 < n ∧ thereB xs (l.getD q 0) = true := fun q hq => by
          have := fst_at (p := thereB xs) (many := d) (k := xs.length) (i := q) (by rw [HFL.out]; exact hq)
          rw [← HLF.out, ← HN.out] at this
          exact this
        have HX : Hid (∀ q, l.getD q 0 < 256) := by
          intro q
          by_cases hq : q < d
          · have := (hat q hq).1; omega
          · have : l.getD q 0 = 0 := by unfold List.getD; rw [List.getElem?_eq_none (by rw [← HM.out]; omega)]; rfl
            omega
        have HY : Hid (∀ q, (nth xs (l.getD q 0)).toNat < 256) := by
          intro q
          have h0 : l.getD q 0 < n := by
            by_cases hq : q < d
            · exact (hat q hq).1
            · have : l.getD q 0 = 0 := by unfold List.getD; rw [List.getElem?_eq_none (by rw [← HM.out]; omega)]; rfl
              omega
          have := (HSH.out _ h0).2
          omega
        have HGR : Hid (Grows d (fun q => l.getD q 0)) := by
          have := fst_grows (thereB xs) d xs.length
          rw [HFL.out, ← HLF.out] at this
          exact this
        clear hat hg6 hg7 hv6 hv7
        subst hu6
        go_wp2_with fail
        refine (fac_any wr _ _ d (fun q => l.getD q 0) (fun q => (nth xs (l.getD q 0)).toNat) HS6.out HS7.out hd0 hd HX.out HY.out HGR.out).mono ?_
        rintro e w2 ⟨v2, f, rfl, ht, hs2, hb2⟩
        have HT : Hid (Thru d (fun i => (fst (thereB xs) d xs.length).getD i 0) (fun i => (nth xs ((fst (thereB xs) d xs.length).getD i 0)).toNat) f) := by rw [← HLF.out]; exact ht
        have HS2 : Hid (SliceIs w2 v2 (fl d f)) := hs2
        have HB2 : Hid (Below w.heap.size w w2) := Below.next HB.out hb2
        clear ht hs2 hb2
        go_wp2
        go_loopw [10, 11] (fun v10 v11 wv => ∃ i : Nat, i ≤ n ∧ v11 = .int .i64 i ∧ (∀ j, j < i → thereB xs j = true → nth xs j = (evF f j d : Int)) ∧ wv.ownsRow w2.heap.size 3 1 v10 i (cellsOf (fl i (fun i => evF f i d))) ∧ Below w2.heap.size w2 wv) (fun _ i _ => n - (intOf i).toNat)
        case atStart => exact ⟨0, Nat.zero_le _, rfl, fun j hj => absurd hj (Nat.not_lt_zero _), World.ownsRow_nil _ _ _ _, Below.refl _ _⟩
        case round =>
          obtain ⟨i, hi, rfl, hto, hown, hb3⟩ := hrel
          have HO : Hid (wr.ownsRow w2.heap.size 3 1 u10 i (cellsOf (fl i (fun i => evF f i d)))) := hown
          have HB3 : Hid (Below w2.heap.size w2 wr) := hb3
          have HTO : Hid (∀ j, j < i → thereB xs j = true → nth xs j = (evF f j d : Int)) := hto
          clear hown hb3 hto
          by_cases hil : i < n
          · have hi' : (i : Int) < (n : Int) := by omega
            go_wp2_with fail
            refine (rat_fl wr v2 d i f HT.out.1 (by omega) (by omega) (HS2.out.later HB3.out)).mono ?_
            rintro e w4 ⟨rfl, q4, hw4⟩
            have HB4 : Hid (Below w2.heap.size w2 w4) := by rw [hw4]; exact ⟨HB3.out.os, HB3.out.tape, HB3.out.output, HB3.out.size, HB3.out.block⟩
            have HO4 : Hid (w4.ownsRow w2.heap.size 3 1 u10 i (cellsOf (fl i (fun i => evF f i d)))) := by rw [hw4]; exact HO.out
            have HSC : Hid (cellsOf (fl i (fun i => evF f i d)) ++ [.int .i64 (evF f i d : Int)] = cellsOf (fl (i + 1) (fun i => evF f i d))) := cells_succ i (fun i => evF f i d)
            have h1 : w4.cell? ⟨b, o + i, none⟩ = some (.int .i64 (nth xs i)) := by rw [(Below.next HB2.out HB4.out).cell (p := ⟨b, o + i, none⟩) HLB.out]; exact HCB.out i hil
            clear hw4
            by_cases hok : thereB xs i = true → nth xs i = (evF f i d : Int)
            · have HTO2 : Hid (∀ j, j < i + 1 → thereB xs j = true → nth xs j = (evF f j d : Int)) := by
                intro j hj
                by_cases e : j = i
                · subst e; exact hok
                · exact HTO.out j (by omega)
              have hcs : nth xs i = -1 ∨ (0 ≤ nth xs i ∧ nth xs i = (evF f i d : Int)) := by
                by_cases e : nth xs i = -1
                · exact .inl e
                · exact .inr ⟨by have := (HSH.out i hil).1; omega, hok (by unfold thereB; simp [e])⟩
              clear hok
              rcases hcs with hc | ⟨hc1, hc2⟩
              · rw [hc] at h1
                clear hc
                generalize evF f i d = z at HSC ⊢
                go_wp2_with (at_builtin; refine wpList_append_own _ rfl (.tmp 92) (.tmp 94) 22 rfl w2.heap.size 3 t3 (.int .i64 0) 1 8 Tryd.underlying22 ht3 y30 y31 y32 rfl (by decide) u10 i (cellsOf (fl i (fun i => evF f i d))) rfl (HO4.out.alloc _) ⟨w4.heap.size, 0, none⟩ 1 1 [.int .i64 (z : Int)] rfl rfl (news_one w4 _ 3) (ones_int _) ?q1 ?q2 ?q3 ?q4)
                case q1 => unfold maxLen; omega
                case q2 => omega
                case q3 => have := HB4.out.size; simp; omega
                case q4 =>
                  intro v5 w5 hown hgr _
                  rw [HSC.out] at hown
                  have HO5 : Hid (w5.ownsRow w2.heap.size 3 1 v5 (i + 1) (cellsOf (fl (i + 1) (fun i => evF f i d)))) := hown
                  have HB5 : Hid (Below w2.heap.size w2 w5) := (HB4.out.alloc HB4.out.size _).grown hgr (by have := HB4.out.size; simp; omega) (fun k e => (HO4.out.lt k e).1)
                  clear hown hgr
                  go_wp2
                  go_roundw
                  case rel => exact ⟨i + 1, by omega, by go_num, HTO2.out, HO5.out, HB5.out⟩
                  case measure => simp [intOf]; omega
              · rw [hc2] at h1 hc1
                clear hc2
                generalize evF f i d = z at HSC h1 hc1 ⊢
                have hzz : ((z : Int) != (z : Int)) = false := by simp
                go_wp2_with (at_builtin; refine wpList_append_own _ rfl (.tmp 92) (.tmp 94) 22 rfl w2.heap.size 3 t3 (.int .i64 0) 1 8 Tryd.underlying22 ht3 y30 y31 y32 rfl (by decide) u10 i (cellsOf (fl i (fun i => evF f i d))) rfl (HO4.out.alloc _) ⟨w4.heap.size, 0, none⟩ 1 1 [.int .i64 (z : Int)] rfl rfl (news_one w4 _ 3) (ones_int _) ?q1 ?q2 ?q3 ?q4)
                case q1 => unfold maxLen; omega
                case q2 => omega
                case q3 => have := HB4.out.size; simp; omega
                case q4 =>
                  intro v5 w5 hown hgr _
                  rw [HSC.out] at hown
                  have HO5 : Hid (w5.ownsRow w2.heap.size 3 1 v5 (i + 1) (cellsOf (fl (i + 1) (fun i => evF f i d)))) := hown
                  have HB5 : Hid (Below w2.heap.size w2 w5) := (HB4.out.alloc HB4.out.size _).grown hgr (by have := HB4.out.size; simp; omega) (fun k e => (HO4.out.lt k e).1)
                  clear hown hgr
                  go_wp2
                  go_roundw
                  case rel => exact ⟨i + 1, by omega, by go_num, HTO2.out, HO5.out, HB5.out⟩
                  case measure => simp [intOf]; omega
            · simp only [Classical.not_imp] at hok
              have hne := there_ne hok.1
              have hge : 0 ≤ nth xs i := by have := (HSH.out i hil).1; omega
              have hnb : (nth xs i != (evF f i d : Int)) = true := by simpa using hok.2
              have h6 : againC xs d = 6 := by
                rw [againC_full HEZ.out HFL.out HT.out, if_neg]
                exact fun k => hok.2 (k i (by rw [← HN.out]; exact hil) hok.1)
              have HC : Hid (againC xs d = 6) := h6
              have HLN : Hid (againL xs d = []) := againL_none (by rw [h6]; decide)
              have HB9 : Hid (Below w.heap.size w w4) := Below.next HB2.out HB4.out
              clear h6 hok hne
              generalize (evF f i d : Int) = z at hnb ⊢
              generalize nth xs i = y at h1 hge hnb
              go_wp2
              go_ret2
              exact ⟨.slice none 0 0, by rw [HC.out]; rfl, by rw [HLN.out]; exact slice_nil _, HB9.out⟩
          · have hin : n = i := by omega
            subst hin
            have hto : allTold xs (fun i => evF f i d) := fun j hj => HTO.out j (by rw [HN.out]; exact hj)
            have HC : Hid (againC xs d = 0) := by
              show againC xs d = 0
              rw [againC_full HEZ.out HFL.out HT.out, if_pos hto]
            obtain ⟨g9, c9, hu, _, hg9⟩ := own_where HO.out (by omega)
            subst hu
            have HS9 : Hid (SliceIs wr (.slice (some ⟨g9, 0, none⟩) n c9) (againL xs d)) := by
              show SliceIs wr (.slice (some ⟨g9, 0, none⟩) n c9) (againL xs d)
              rw [againL_told HEZ.out HFL.out HT.out hto, ← HN.out]
              exact slice_owned HO.out (by unfold maxLen; omega) hg9
            have HB9 : Hid (Below w.heap.size w wr) := Below.next HB2.out HB3.out
            clear hg9 hto
            go_wp2
            go_ret2
            exact ⟨_, by rw [HC.out]; rfl, HS9.out, HB9.out⟩

theorem ragain_says (w : World) (v : Value) (xs : List Int) (d : Int) (hx : SliceIs w v xs) :
    Calls Tryd.prog 9 #[v, .int .i64 d] w fun e w' => ∃ v', e = .returned (.tuple #[v', .int .i64 (againC xs d : Int)]) ∧ SliceIs w' v' (againL xs d) ∧ Below w.heap.size w w' := by
  by_cases h : againE xs d = 0
  · obtain ⟨k, rfl⟩ : ∃ k : Nat, d = k := ⟨d.toNat, by have := (againE_zero h).2.1; omega⟩
    exact ra_good w v xs k hx h
  · rw [againL_none (by rw [againC_err h]; exact h), againC_err h]
    have hall : allB (-1) 255 xs = xs.all shardB := rfl
    unfold againE at h ⊢
    by_cases h12 : 12 < xs.length
    · rw [if_pos h12]
      obtain ⟨a, c, rfl, hl, _⟩ := id hx
      refine (ra_full w a c _ d h12 hl).mono ?_
      rintro e w' ⟨rfl, rfl⟩
      exact ⟨_, rfl, slice_nil _, Below.refl _ _⟩
    · rw [if_neg h12] at h ⊢
      by_cases hd : 1 ≤ d ∧ d ≤ 8
      · rw [decide_eq_true hd, Bool.true_and] at h ⊢
        cases hs : xs.all shardB with
        | false =>
          refine (ra_shard w v xs d hx (by omega) hd (hall.trans hs)).mono ?_
          rintro e w' ⟨rfl, rfl⟩
          exact ⟨_, rfl, slice_nil _, Below.refl _ _⟩
        | true =>
          rw [hs, if_pos rfl] at h
          rw [if_pos rfl]
          by_cases hl : (xs.length : Int) < d ∨ d + 4 < (xs.length : Int)
          · rw [if_pos hl]
            refine (ra_shape w v xs d hx (by omega) hd (hall.trans hs) hl).mono ?_
            rintro e w' ⟨rfl, rfl⟩
            exact ⟨_, rfl, slice_nil _, Below.refl _ _⟩
          · exact absurd (if_neg hl) h
      · rw [decide_eq_false hd]
        obtain ⟨a, c, rfl, _⟩ := id hx
        refine (ra_data w a c _ d (by omega) hd).mono ?_
        rintro e w' ⟨rfl, rfl⟩
        exact ⟨_, rfl, slice_nil _, Below.refl _ _⟩

end Go.Proofs.YtebjefgdjfjndaaDoor
