/- This text proves what platterholdref1.Count, Make and Again answer: the document's own shards, told by the one row of factors, or nil with the first error that it names; the only condition is that the slices lie there. -/
import Derived.Test.YtebjefgdjfjndaaDoorFac
import Derived.Test.YtebjefgdjfjndaaDoorRe7
import Derived.Deep.AppendLies
namespace Go.Proofs.YtebjefgdjfjndaaDoor
open Go.RowKit Go.Deep

/-- The row so far, and the row that comes to nothing so far, point by point. -/
def halfOf (m : Nat) (X Y : Nat → Nat) (k : Nat) : (Nat → Nat) × (Nat → Nat) :=
  Nat.rec (fun _ => 0, fun i => if i = 0 then 1 else 0) (fun k p => (fun i => p.1 i ^^^ gm (gm (Y k ^^^ evF p.1 (X k) m) (gpow (evF p.2 (X k) (k + 1)) 254)) (p.2 i), nx p.2 (X k))) k

theorem half_all {m : Nat} {X Y : Nat → Nat} (hX : Grows m X) (hb : ∀ i, i < m → X i < 256) (hY : ∀ i, i < m → Y i < 256) : ∀ k, k ≤ m → Half m k X Y (halfOf m X Y k).1 (halfOf m X Y k).2
  | 0, _ => half_start m X Y
  | k + 1, hk => half_step (half_all hX hb hY k (by omega)) (by omega) hX hb (hY k (by omega))

/-- The one row of factors through so many points. -/
def thruF (n : Nat) (X Y : Nat → Nat) : Nat → Nat := (halfOf n X Y n).1

theorem thruF_same {n : Nat} {X Y f : Nat → Nat} (hX : Grows n X) (hb : ∀ i, i < n → X i < 256) (hf : Thru n X Y f) (x : Nat) : evF f x n = evF (thruF n X Y) x n := by
  have hY : ∀ i, i < n → Y i < 256 := fun i hi => by rw [← hf.2 i hi]; exact evF_byte hf.1 (hb i hi) n
  have h := half_all hX hb hY n (Nat.le_refl _)
  exact hf.same hX hb ⟨h.fb, h.thru⟩ x

/-- What Make answers. -/
def makeL (xs : List Int) (more : Int) : List Int :=
  if makeE xs more = 0 then fl (xs.length + more.toNat) (fun i => evF (thruF xs.length (fun i => i) (fun i => (nth xs i).toNat)) i xs.length) else []

theorem makeL_of {xs : List Int} {more : Int} {f : Nat → Nat} (he : makeE xs more = 0) (hf : Thru xs.length (fun i => i) (fun i => (nth xs i).toNat) f) : makeL xs more = fl (xs.length + more.toNat) (fun i => evF f i xs.length) := by
  unfold makeL
  rw [if_pos he]
  exact (fl_congr fun i _ => thruF_same (grows_id _) (fun i hi => by have := (makeE_zero he).2.1; omega) hf i).symm

theorem make_says (w : World) (v : Value) (xs : List Int) (more : Int) (hx : SliceIs w v xs) :
    Calls Tryd.prog 6 #[v, .int .i64 more] w fun e w' => ∃ v', e = .returned (.tuple #[v', errV (makeE xs more)]) ∧ SliceIs w' v' (makeL xs more) ∧ Below w.heap.size w w' := by
  by_cases h : makeE xs more = 0
  · refine (make_ok w v xs more hx h).mono ?_
    rintro e w' ⟨v', f, ht, rfl, hs, hb⟩
    exact ⟨v', by rw [h]; rfl, by rw [makeL_of h ht]; exact hs, hb⟩
  · refine (make_err w v xs more hx h).mono ?_
    rintro e w' ⟨rfl, rfl⟩
    exact ⟨_, rfl, by unfold makeL; rw [if_neg h]; exact slice_nil _, Below.refl _ _⟩

/-- What At answers, in the document's own words. -/
theorem rat_fl (w : World) (v : Value) (n x : Nat) (f : Nat → Nat) (hf : BytesF f) (hn : n ≤ 16) (hx : x < 256) (hs : SliceIs w v (fl n f)) :
    Calls Tryd.prog 18 #[v, .int .i64 (x : Int)] w fun e w' => e = .returned (.int .i64 (evF f x n : Int)) ∧ ∃ q, w' = w.drewN q := by
  have h := rat_any w v (fl n f) x hs (by rw [fl_len]; exact hn) (fl_byte hf) hx
  rw [fl_map, ev_lst hf hx] at h
  exact h

set_option maxHeartbeats 2000000 in
theorem count_any (w : World) (n : Nat) (hn : n ≤ 8) (hn1 : 1 ≤ n) :
    Calls Tryd.prog 17 #[.int .i64 (n : Int)] w fun e w' => ∃ v', e = .returned v' ∧ SliceIs w' v' (fl n (fun i => i)) ∧ Below w.heap.size w w' := by
  obtain ⟨t3, ht3, y30, y31, y32⟩ := info_parts Tryd.info3
  go_enter Tryd.func17, Tryd.ntmps17
  go_wp2
  go_loopw [3, 4] (fun v3 v4 wv => ∃ i : Nat, i ≤ n ∧ v4 = .int .i64 i ∧ wv.ownsRow w.heap.size 3 1 v3 i (cellsOf (fl i (fun i => i))) ∧ Below w.heap.size w wv) (fun _ i _ => n - (intOf i).toNat)
  case atStart => exact ⟨0, Nat.zero_le _, rfl, World.ownsRow_nil _ _ _ _, Below.refl _ _⟩
  case round =>
    obtain ⟨i, hi, rfl, hown, hb1⟩ := hrel
    have HO : Hid (wr.ownsRow w.heap.size 3 1 u3 i (cellsOf (fl i (fun i => i)))) := hown
    have HB1 : Hid (Below w.heap.size w wr) := hb1
    clear hown hb1
    by_cases hil : i < n
    · have hi' : (i : Int) < (n : Int) := by omega
      go_wp2_with (at_builtin; refine wpList_append_own _ rfl (.tmp 10) (.tmp 12) 22 rfl w.heap.size 3 t3 (.int .i64 0) 1 8 Tryd.underlying22 ht3 y30 y31 y32 rfl (by decide) u3 i (cellsOf (fl i (fun i => i))) rfl (HO.out.alloc _) ⟨wr.heap.size, 0, none⟩ 1 1 [.int .i64 (i : Int)] rfl rfl (news_one wr _ 3) (ones_int _) ?q1 ?q2 ?q3 ?q4)
      case q1 => unfold maxLen; omega
      case q2 => omega
      case q3 => have := HB1.out.size; simp; omega
      case q4 =>
        intro v1 w1 hown hgr _
        have HO1 : Hid (w1.ownsRow w.heap.size 3 1 v1 (i + 1) (cellsOf (fl (i + 1) (fun i => i)))) := by
          rw [cells_succ i (fun i => i)] at hown
          exact hown
        have HB2 : Hid (Below w.heap.size w w1) := (HB1.out.alloc HB1.out.size _).grown hgr (by have := HB1.out.size; simp; omega) (fun k e => (HO.out.lt k e).1)
        clear hown hgr
        go_wp2
        go_roundw
        case rel => exact ⟨i + 1, by omega, by go_num, HO1.out, HB2.out⟩
        case measure => simp [intOf]; omega
    · have hin : n = i := by omega
      subst hin
      obtain ⟨g9, c9, hu, _, hg9⟩ := own_where HO.out (by omega)
      subst hu
      have HS9 : Hid (SliceIs wr (.slice (some ⟨g9, 0, none⟩) n c9) (fl n (fun i => i))) := slice_owned HO.out (by unfold maxLen; omega) hg9
      have hii : ¬ (n : Int) < (n : Int) := by omega
      clear hg9
      go_wp2
      go_ret
      exact ⟨_, rfl, HS9.out, HB1.out⟩

theorem makeE_bytes {xs : List Int} {more : Int} (h0 : xs.length ≠ 0) : makeE xs more = if bytesE 8 xs = 0 then (if 0 ≤ more ∧ more ≤ 4 then 0 else 1) else bytesE 8 xs := by
  unfold makeE bytesE
  rw [if_neg h0, allB_byte]
  by_cases h8 : 8 < xs.length
  · rw [if_pos h8, if_pos (show (8 : Int) < (xs.length : Int) by omega)]; rfl
  · rw [if_neg h8, if_neg (show ¬ (8 : Int) < (xs.length : Int) by omega)]
    cases xs.all byteB <;> by_cases hm : 0 ≤ more ∧ more ≤ 4 <;> simp [hm]

set_option maxHeartbeats 2000000 in
theorem rmake_none (w : World) (a : Option Addr) (cap : Nat) (more : Int) :
    Calls Tryd.prog 5 #[.slice a 0 cap, .int .i64 more] w fun e w' => e = .returned (.tuple #[.slice none 0 0, .int .i64 5]) ∧ w = w' := by
  go_enter Tryd.func5, Tryd.ntmps5
  go_wp2
  go_ret2
  exact ⟨rfl, rfl⟩

set_option maxHeartbeats 2000000 in
theorem rmake_bytes (w : World) (v : Value) (xs : List Int) (more : Int) (hx : SliceIs w v xs) (h0 : xs.length ≠ 0) (hb : bytesE 8 xs ≠ 0) :
    Calls Tryd.prog 5 #[v, .int .i64 more] w fun e w' => e = .returned (.tuple #[.slice none 0 0, .int .i64 (bytesE 8 xs : Int)]) ∧ w = w' := by
  have H := bytes_any w v xs 8 hx
  obtain ⟨a, c, rfl, _⟩ := id hx
  have hnb : ((xs.length : Int) == 0) = false := by simp; simpa using h0
  have hbb : ((bytesE 8 xs : Int) != 0) = true := by simp; omega
  generalize (bytesE 8 xs : Int) = z at H hbb
  clear hx hb h0
  go_enter Tryd.func5, Tryd.ntmps5
  go_wp2_with fail
  refine H.mono ?_
  rintro e w' ⟨rfl, rfl⟩
  go_wp2
  go_ret2
  exact ⟨rfl, rfl⟩

set_option maxHeartbeats 2000000 in
theorem rmake_more (w : World) (v : Value) (xs : List Int) (more : Int) (hx : SliceIs w v xs) (h0 : xs.length ≠ 0) (hb : bytesE 8 xs = 0) (hm : ¬ (0 ≤ more ∧ more ≤ 4)) :
    Calls Tryd.prog 5 #[v, .int .i64 more] w fun e w' => e = .returned (.tuple #[.slice none 0 0, .int .i64 1]) ∧ w = w' := by
  have H := bytes_any w v xs 8 hx
  rw [hb] at H
  obtain ⟨a, c, rfl, _⟩ := id hx
  have hnb : ((xs.length : Int) == 0) = false := by simp; simpa using h0
  have HM : Hid (¬ (0 ≤ more ∧ more ≤ 4)) := hm
  have H2 : Calls Tryd.prog 15 #[.int .i64 more, .int .i64 0, .int .i64 4] w fun e w' => e = .returned (.bool false) ∧ w = w' := by
    have := rin_any more 0 4 w
    rwa [decide_eq_false hm] at this
  clear hx hb h0 hm
  go_enter Tryd.func5, Tryd.ntmps5
  go_wp2_with fail
  refine H.mono ?_
  rintro e w' ⟨rfl, rfl⟩
  go_wp2_with fail
  refine H2.mono ?_
  rintro e w' ⟨rfl, rfl⟩
  go_wp2
  go_ret2
  exact ⟨rfl, rfl⟩

set_option maxHeartbeats 4000000 in
set_option maxRecDepth 100000 in
theorem rmake_good (w : World) (v : Value) (xs : List Int) (more : Int) (hx : SliceIs w v xs) (he : makeE xs more = 0) :
    Calls Tryd.prog 5 #[v, .int .i64 more] w fun e w' => ∃ v', e = .returned (.tuple #[v', .int .i64 0]) ∧ SliceIs w' v' (makeL xs more) ∧ Below w.heap.size w w' := by
  obtain ⟨h0, h8, hby, hm0, hm4⟩ := makeE_zero he
  have H := bytes_any w v xs 8 hx
  have hb0 : bytesE 8 xs = 0 := by
    unfold bytesE
    rw [if_neg (by omega), allB_byte, all_byte hby]; rfl
  rw [hb0] at H
  have H2 : Calls Tryd.prog 15 #[.int .i64 more, .int .i64 0, .int .i64 4] w fun e w' => e = .returned (.bool true) ∧ w = w' := by
    have := rin_any more 0 4 w
    rwa [decide_eq_true ⟨hm0, hm4⟩] at this
  have HS : Hid (SliceIs w v (fl xs.length (fun i => (nth xs i).toNat))) := by
    show SliceIs w v (fl xs.length (fun i => (nth xs i).toNat))
    rw [← fl_of hby]; exact hx
  have HTB : Hid (BytesF (fun i => (nth xs i).toNat)) := toNat_byte hby
  have HEZ : Hid (makeE xs more = 0) := he
  obtain ⟨a, c, hv, _⟩ := id hx
  obtain ⟨n, hn⟩ : ∃ n, n = xs.length := ⟨_, rfl⟩
  have HN : Hid (n = xs.length) := hn
  rw [← hn] at hv h0 h8 HS
  subst hv
  obtain ⟨k, rfl⟩ : ∃ k : Nat, more = k := ⟨more.toNat, by omega⟩
  have hk4 : k ≤ 4 := by omega
  have hnb : ((n : Int) == 0) = false := by simp; omega
  clear hx he hby hn hb0 hm0 hm4
  obtain ⟨t3, ht3, y30, y31, y32⟩ := info_parts Tryd.info3
  go_enter Tryd.func5, Tryd.ntmps5
  go_wp2_with fail
  refine H.mono ?_
  rintro e w' ⟨rfl, rfl⟩
  go_wp2_with fail
  refine H2.mono ?_
  rintro e w' ⟨rfl, rfl⟩
  clear H H2
  go_wp2_with fail
  refine (count_any w n h8 h0).mono ?_
  rintro e w1 ⟨v1, rfl, hs1, hb1⟩
  have HS1 : Hid (SliceIs w1 v1 (fl n (fun i => if i < n then i else 0))) := by
    show SliceIs w1 v1 (fl n (fun i => if i < n then i else 0))
    rw [fl_congr (g := fun i => i) fun i hi => if_pos hi]; exact hs1
  have HB1 : Hid (Below w.heap.size w w1) := hb1
  clear hs1 hb1
  go_wp2_with fail
  refine (fac_any w1 v1 _ n (fun i => if i < n then i else 0) (fun i => (nth xs i).toNat) HS1.out (HS.out.later HB1.out) h0 h8 (fun i => by show (if i < n then i else 0) < 256; split <;> omega) HTB.out (fun i j h1 h2 => by show (if i < n then i else 0) < (if j < n then j else 0); rw [if_pos (by omega), if_pos h2]; exact h1)).mono ?_
  rintro e w2 ⟨v2, f, rfl, ht, hs2, hb2⟩
  have HT : Hid (Thru n (fun i => i) (fun i => (nth xs i).toNat) f) := ⟨ht.1, fun i hi => by have := ht.2 i hi; simp only [if_pos hi] at this; exact this⟩
  have HS2 : Hid (SliceIs w2 v2 (fl n f)) := hs2
  have HB2 : Hid (Below w.heap.size w w2) := Below.next HB1.out hb2
  clear ht hs2 hb2
  go_wp2
  go_loopw [8, 9] (fun v8 v9 wv => ∃ i : Nat, i ≤ n + k ∧ v9 = .int .i64 i ∧ wv.ownsRow w2.heap.size 3 1 v8 i (cellsOf (fl i (fun i => evF f i n))) ∧ Below w2.heap.size w2 wv) (fun _ i _ => n + k - (intOf i).toNat)
  case atStart => exact ⟨0, Nat.zero_le _, rfl, World.ownsRow_nil _ _ _ _, Below.refl _ _⟩
  case round =>
    obtain ⟨i, hi, rfl, hown, hb3⟩ := hrel
    have HO : Hid (wr.ownsRow w2.heap.size 3 1 u8 i (cellsOf (fl i (fun i => evF f i n)))) := hown
    have HB3 : Hid (Below w2.heap.size w2 wr) := hb3
    clear hown hb3
    by_cases hil : i < n + k
    · have hi' : (i : Int) < (n : Int) + (k : Int) := by omega
      go_wp2_with fail
      refine (rat_fl wr v2 n i f HT.out.1 (by omega) (by omega) (HS2.out.later HB3.out)).mono ?_
      rintro e w4 ⟨rfl, q4, hw4⟩
      have HB4 : Hid (Below w2.heap.size w2 w4) := by rw [hw4]; exact ⟨HB3.out.os, HB3.out.tape, HB3.out.output, HB3.out.size, HB3.out.block⟩
      have HO4 : Hid (w4.ownsRow w2.heap.size 3 1 u8 i (cellsOf (fl i (fun i => evF f i n)))) := by rw [hw4]; exact HO.out
      have HSC : Hid (cellsOf (fl i (fun i => evF f i n)) ++ [.int .i64 (evF f i n : Int)] = cellsOf (fl (i + 1) (fun i => evF f i n))) := cells_succ i (fun i => evF f i n)
      clear hw4
      generalize evF f i n = z at HSC ⊢
      go_wp2_with (at_builtin; refine wpList_append_own _ rfl (.tmp 34) (.tmp 38) 22 rfl w2.heap.size 3 t3 (.int .i64 0) 1 8 Tryd.underlying22 ht3 y30 y31 y32 rfl (by decide) u8 i (cellsOf (fl i (fun i => evF f i n))) rfl (HO4.out.alloc _) ⟨w4.heap.size, 0, none⟩ 1 1 [.int .i64 (z : Int)] rfl rfl (news_one w4 _ 3) (ones_int _) ?q1 ?q2 ?q3 ?q4)
      case q1 => unfold maxLen; omega
      case q2 => omega
      case q3 => have := HB4.out.size; simp; omega
      case q4 =>
        intro v5 w5 hown hgr _
        rw [HSC.out] at hown
        have HO5 : Hid (w5.ownsRow w2.heap.size 3 1 v5 (i + 1) (cellsOf (fl (i + 1) (fun i => evF f i n)))) := hown
        have HB5 : Hid (Below w2.heap.size w2 w5) := (HB4.out.alloc HB4.out.size _).grown hgr (by have := HB4.out.size; simp; omega) (fun k e => (HO4.out.lt k e).1)
        clear hown hgr
        go_wp2
        go_roundw
        case rel => exact ⟨i + 1, by omega, by go_num, HO5.out, HB5.out⟩
        case measure => simp [intOf]; omega
    · have hin : i = n + k := by omega
      have hii : ¬ (i : Int) < (n : Int) + (k : Int) := by omega
      obtain ⟨g9, c9, hu, _, hg9⟩ := own_where HO.out (by omega)
      subst hu
      have HS9 : Hid (SliceIs wr (.slice (some ⟨g9, 0, none⟩) i c9) (makeL xs k)) := by
        show SliceIs wr (.slice (some ⟨g9, 0, none⟩) i c9) (makeL xs k)
        have hT := HT.out
        rw [HN.out] at hT
        rw [makeL_of HEZ.out hT, ← HN.out, Int.toNat_natCast, ← hin]
        exact slice_owned HO.out (by unfold maxLen; omega) hg9
      have HB9 : Hid (Below w.heap.size w wr) := Below.next HB2.out HB3.out
      clear hg9 hin
      go_wp2
      go_ret2
      exact ⟨_, rfl, HS9.out, HB9.out⟩

theorem rmake_says (w : World) (v : Value) (xs : List Int) (more : Int) (hx : SliceIs w v xs) :
    Calls Tryd.prog 5 #[v, .int .i64 more] w fun e w' => ∃ v', e = .returned (.tuple #[v', .int .i64 (makeE xs more : Int)]) ∧ SliceIs w' v' (makeL xs more) ∧ Below w.heap.size w w' := by
  by_cases h : makeE xs more = 0
  · rw [h]; exact rmake_good w v xs more hx h
  · have hL : makeL xs more = [] := by unfold makeL; rw [if_neg h]
    rw [hL]
    by_cases h0 : xs.length = 0
    · have e5 : makeE xs more = 5 := by simp [makeE, h0]
      obtain ⟨a, c, rfl, _⟩ := id hx
      rw [e5, h0]
      refine (rmake_none w a c more).mono ?_
      rintro e w' ⟨rfl, rfl⟩
      exact ⟨_, rfl, slice_nil _, Below.refl _ _⟩
    · rw [makeE_bytes h0] at h ⊢
      by_cases hb : bytesE 8 xs = 0
      · rw [if_pos hb] at h ⊢
        have hm : ¬ (0 ≤ more ∧ more ≤ 4) := fun hm => h (if_pos hm)
        rw [if_neg hm]
        refine (rmake_more w v xs more hx h0 hb hm).mono ?_
        rintro e w' ⟨rfl, rfl⟩
        exact ⟨_, rfl, slice_nil _, Below.refl _ _⟩
      · rw [if_neg hb]
        refine (rmake_bytes w v xs more hx h0 hb).mono ?_
        rintro e w' ⟨rfl, rfl⟩
        exact ⟨_, rfl, slice_nil _, Below.refl _ _⟩

end Go.Proofs.YtebjefgdjfjndaaDoor
