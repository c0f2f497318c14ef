/- This text proves what parity.mixIn and parity.Of answer: the exclusive or at each place where the rows are as they should be, in new memory, and nil with the error that 'checkE' gives where they are not; the only condition is that the slices lie there. -/
import Derived.Test.YtebjefgdjfjndaaCl
import Derived.Test.YtebjefgdjfjndaaRe2
namespace Go.Proofs.Ytebjefgdjfjndaa
open Go.RowKit Go.Deep

/-- One more place of the sum is mixed. -/
theorem row_step {w : World} {b n k : Nat} {S X : Nat → Int} {v : Int} (h : w.rowIs b 3 n (fun i => .int .i64 (if i < k then bx (S i) (X i) else S i))) (hv : v = bx (S k) (X k)) :
    (w.setCell ⟨b, k, none⟩ (.int .i64 v)).rowIs b 3 n (fun i => .int .i64 (if i < k + 1 then bx (S i) (X i) else S i)) := by
  refine (h.set k _).congr fun i _ => ?_
  by_cases e : i = k
  · subst e; subst hv; simp
  · simp only [e, if_false]
    by_cases hlt : i < k
    · simp [hlt, show i < k + 1 by omega]
    · simp [hlt, show ¬ i < k + 1 by omega]

set_option maxHeartbeats 2000000 in
theorem mixIn_any (w : World) (b n cap capr : Nat) (S : Nat → Int) (xs : List Int) (hn : n ≤ 16) (hlen : xs.length = n) (hb : ∀ i, i < n → isByte (S i) ∧ isByte (nth xs i))
    (hrow : w.rowIs b 3 n (fun i => .int .i64 (S i))) (a : Option Addr) (hx : IntsAt w a xs) (ha : ∀ q o, a = some ⟨q, o, none⟩ → 0 < n → q ≠ b) :
    Calls Try.prog 24 #[.slice (some ⟨b, 0, none⟩) n cap, .slice a n capr] w fun e w' => e = .returned (.tuple #[]) ∧ w'.rowIs b 3 n (fun i => .int .i64 (bx (S i) (nth xs i))) ∧ Below b w w' ∧ w'.heap.size = w.heap.size := by
  obtain ⟨q, o, haq, hqb, hc⟩ : ∃ q o, (0 < n → a = some ⟨q, o, none⟩) ∧ q ≠ b ∧ ∀ i, i < n → w.cell? ⟨q, o + i, none⟩ = some (.int .i64 (nth xs i)) := by
    by_cases hne : xs = []
    · exact ⟨b + 1, 0, fun h => by rw [hne] at hlen; simp at hlen; omega, by omega, fun i hi => by rw [hne] at hlen; simp at hlen; omega⟩
    · obtain ⟨q, o, h1, _, h2⟩ := hx hne
      exact ⟨q, o, fun _ => h1, ha q o h1 (by rw [← hlen]; exact List.length_pos_iff.2 hne), by rw [← hlen]; exact h2⟩
  have HB : Hid (∀ i, i < n → isByte (S i) ∧ isByte (nth xs i)) := hb
  have HC : Hid (∀ i, i < n → w.cell? ⟨q, o + i, none⟩ = some (.int .i64 (nth xs i))) := hc
  have HQ : Hid (q ≠ b) := hqb
  clear hb hc hx ha hlen hqb
  go_enter Try.func24, Try.ntmps24
  go_wp2
  go_loopw [8] (fun i wr => ∃ k : Nat, k ≤ n ∧ i = .int .i64 k ∧ wr.rowIs b 3 n (fun i => .int .i64 (if i < k then bx (S i) (nth xs i) else S i)) ∧ Below b w wr ∧ wr.heap.size = w.heap.size ∧ ∀ p : Addr, p.block ≠ b → wr.cell? p = w.cell? p) (fun i _ => n - (intOf i).toNat)
  case atStart => exact ⟨0, Nat.zero_le _, rfl, hrow.congr (fun i _ => by simp), Below.refl _ _, rfl, fun _ _ => rfl⟩
  case round =>
    obtain ⟨k, hk, rfl, hr, hbel, hsz, hoth⟩ := hrel
    have HR : Hid (wr.rowIs b 3 n (fun i => .int .i64 (if i < k then bx (S i) (nth xs i) else S i))) := hr
    have HO : Hid (∀ p : Addr, p.block ≠ b → wr.cell? p = w.cell? p) := hoth
    have HS : Hid (wr.heap.size = w.heap.size) := hsz
    have HBl : Hid (Below b w wr) := hbel
    clear hr hoth hsz hbel hrow
    by_cases hlt : k < n
    · have haa := haq (by omega)
      subst haa
      have h1 : wr.cell? ⟨q, o + k, none⟩ = some (.int .i64 (nth xs k)) := by rw [HO.out ⟨q, o + k, none⟩ HQ.out]; exact HC.out k hlt
      have h2 : wr.cell? ⟨b, k, none⟩ = some (.int .i64 (S k)) := by have := HR.out.cell hlt; simpa using this
      have h3 : wr.frozen? ⟨b, k, none⟩ = false := HR.out.frozen k
      clear haq
      go_wp2
      go_roundw
      case rel =>
        refine ⟨k + 1, by omega, by go_num, row_step HR.out (bits_bx (HB.out k hlt).1 (HB.out k hlt).2), HBl.out.setCell (Nat.le_refl _) _, by simp [World.setCell, HS.out], fun p hp => ?_⟩
        rw [← HO.out p hp]
        exact World.cell?_of_block (Below.heap_setCell _ _ _ _ hp)
      case measure => simp [intOf]; omega
    · have hkn : k = n := by omega
      subst hkn
      go_wp2
      go_end0
      exact ⟨rfl, HR.out.congr (fun i hi => by simp [hi]), HBl.out, HS.out⟩

set_option maxHeartbeats 1000000 in
theorem of_err (w : World) (v : Value) (rs : List (List Int)) (h : RowsIs w v rs) (he : checkE rs ≠ 0) :
    Calls Try.prog 14 #[v] w fun e w' => e = .returned (.tuple #[.slice none 0 0, .iface 45 (.int .i64 (checkE rs : Int))]) ∧ w = w' := by
  have HE : Hid (errV (checkE rs) = .iface 45 (.int .i64 (checkE rs : Int))) := errV_pos he
  clear he
  go_enter Try.func14, Try.ntmps14
  go_wp2_with (go_at_call 23; refine (check_any _ _ _ h).mono ?_; rintro e w' ⟨rfl, rfl⟩; rw [HE.out])
  go_ret2
  exact ⟨rfl, rfl⟩

set_option maxHeartbeats 2000000 in
theorem of_good (w : World) (b off cap n : Nat) (rs : List (List Int)) (h : RowsIs w (.slice (some ⟨b, off, none⟩) rs.length cap) rs) (hb : b < w.heap.size) (hg : GoodRows n rs) (hn : (rowAt rs 0).length = n)
    (hc : ∀ i, i < rs.length → ∃ v, w.cell? ⟨b, off + i, none⟩ = some v ∧ SliceIs w v (rowAt rs i)) :
    Calls Try.prog 14 #[.slice (some ⟨b, off, none⟩) rs.length cap] w fun e w' => e = .returned (.tuple #[.slice (some ⟨w.heap.size, 0, none⟩) n n, .nilIface]) ∧
      w'.rowIs w.heap.size 3 n (fun i => .int .i64 (parTo rs i rs.length)) ∧ Below w.heap.size w w' ∧ w'.heap.size = w.heap.size + 1 := by
  have HE : Hid (errV (checkE rs) = .nilIface) := by rw [checkE_zero.2 (by rw [hn]; exact hg)]; rfl
  obtain ⟨g1, g2, g3⟩ := hg
  have hn16 : n ≤ 16 := by have := (g3 0 g1).1; omega
  obtain ⟨m, hm⟩ : ∃ m, m = rs.length := ⟨_, rfl⟩
  rw [← hm] at g1 g2 g3 hc h ⊢
  clear hm
  have HG : Hid (∀ i, i < m → Good n (rowAt rs i)) := g3
  have HC : Hid (∀ i, i < m → ∃ v, w.cell? ⟨b, off + i, none⟩ = some v ∧ SliceIs w v (rowAt rs i)) := hc
  obtain ⟨v0, hc0, a0, cap0, hv0, _, _⟩ := hc 0 g1
  subst hv0
  rw [hn] at hc0
  simp only [Nat.add_zero] at hc0
  have hmpos : (0 : Int) < (m : Int) := by omega
  have hmk := run_make_row' (P := Try.prog) 22 3 (.int .i64 0) 8 Try.underlying22 Try.info3 rfl .i64 .i64 n (by omega) (by omega)
  clear g3 hc hn
  go_enter Try.func14, Try.ntmps14
  go_wp2_with (go_at_call 23; refine (check_any _ _ _ h).mono ?_; rintro e w' ⟨rfl, rfl⟩; rw [HE.out])
  clear hmk h hc0
  go_loopw [20] (fun i wr => ∃ k : Nat, k ≤ m ∧ i = .int .i64 k ∧ wr.rowIs w.heap.size 3 n (fun i => .int .i64 (parTo rs i k)) ∧ Below w.heap.size w wr ∧ wr.heap.size = w.heap.size + 1) (fun i _ => m - (intOf i).toNat)
  case atStart => exact ⟨0, Nat.zero_le _, rfl, (World.rowIs_made w _ n 3).congr (fun i _ => rfl), (Below.refl _ _).alloc (Nat.le_refl _) _, by simp⟩
  case round =>
    obtain ⟨k, hk, rfl, hr, hbel, hsz⟩ := hrel
    have HR : Hid (wr.rowIs w.heap.size 3 n (fun i => .int .i64 (parTo rs i k))) := hr
    have HS : Hid (wr.heap.size = w.heap.size + 1) := hsz
    have HB : Hid (Below w.heap.size w wr) := hbel
    clear hr hsz hbel
    by_cases hlt : k < m
    · obtain ⟨vk, hck, hsk⟩ := HC.out k hlt
      obtain ⟨ak, capk, hvk, hlk, hik⟩ := hsk
      subst hvk
      have gk := HG.out k hlt
      have hln : (rowAt rs k).length = n := gk.2.1
      rw [hln] at hck
      have h1 : wr.cell? ⟨b, off + k, none⟩ = some (.slice ak n capk) := by rw [HB.out.cell (p := ⟨b, off + k, none⟩) hb]; exact hck
      have HK : Hid (IntsAt wr ak (rowAt rs k)) := hik.later (Nat.le_refl _) HB.out
      have HA : Hid (∀ q o, ak = some ⟨q, o, none⟩ → 0 < n → q < w.heap.size) := by
        intro q o e hpos
        obtain ⟨q', o', e', hlt', _⟩ := hik (fun e0 => by rw [e0] at hln; simp at hln; omega)
        rw [e'] at e
        cases e
        exact hlt'
      have HL : Hid ((rowAt rs k).length = n) := hln
      have HY : Hid (∀ i, i < n → isByte (parTo rs i k) ∧ isByte (nth (rowAt rs k) i)) := fun i hi =>
        ⟨parTo_byte hi (fun j hj => HG.out j (by omega)), gk.2.2 i (by rw [hln]; exact hi)⟩
      clear hck hik hlk gk hln
      go_wp2_with (go_at_call 24; refine (mixIn_any _ _ _ _ _ _ (rowAt rs k) hn16 HL.out HY.out HR.out _ HK.out ?_).mono ?_)
      · intro q o e hpos
        have := HA.out q o e hpos
        omega
      · rintro e w' ⟨rfl, hr', hb', hs'⟩
        go_wp2
        go_roundw
        case rel => exact ⟨k + 1, by omega, by go_num, hr', HB.out.trans hb', by rw [hs', HS.out]⟩
        case measure => simp [intOf]; omega
    · have hkn : k = m := by omega
      subst hkn
      go_wp2
      go_ret2
      exact ⟨rfl, HR.out, HB.out, HS.out⟩

theorem of_ok (w : World) (v : Value) (rs : List (List Int)) (h : RowsIs w v rs) (he : checkE rs = 0) :
    Calls Try.prog 14 #[v] w fun e w' => ∃ v', e = .returned (.tuple #[v', .nilIface]) ∧ SliceIs w' v' (parity rs) ∧ Below w.heap.size w w' := by
  have hg := checkE_zero.1 he
  obtain ⟨a, cap, rfl, hl, hx⟩ := h
  have hne : rs ≠ [] := fun e => by have := hg.1; rw [e] at this; simp at this
  obtain ⟨b, off, rfl, hb, hc⟩ := hx hne
  refine (of_good w b off cap _ rs ⟨_, _, rfl, hl, hx⟩ hb hg rfl hc).mono ?_
  rintro e w' ⟨rfl, hr, hbel, hs⟩
  have h16 : (rowAt rs 0).length ≤ 16 := (hg.2.2 0 hg.1).1
  refine ⟨_, rfl, ⟨some ⟨w.heap.size, 0, none⟩, (rowAt rs 0).length, by rw [parity_length], by rw [parity_length]; unfold maxLen; omega, fun _ => ⟨_, 0, rfl, hr.lt, fun i hi => ?_⟩⟩, hbel⟩
  rw [parity_length] at hi
  rw [nth_parity hi, Nat.zero_add]
  exact hr.cell hi

/-- A slice of slices that was just written down. -/
theorem rows_lit (w : World) (vs : List Value) (rs : List (List Int)) (hl : vs.length = rs.length) (hm : rs.length ≤ maxLen) (cap : Nat) (h : ∀ i (hi : i < vs.length), SliceIs w vs[i] (rowAt rs i)) :
    RowsIs (w.alloc (.cells vs.toArray 22)) (.slice (some ⟨w.heap.size, 0, none⟩) rs.length cap) rs := by
  refine ⟨_, _, rfl, hm, fun _ => ⟨_, 0, rfl, by simp, fun i hi => ?_⟩⟩
  have hi' : i < vs.length := by rw [hl]; exact hi
  refine ⟨vs[i], ?_, (h i hi').later ((Below.refl _ _).alloc (Nat.le_refl _) _)⟩
  have := (World.rowIs_alloc w vs.toArray 22 (fun j => vs.getD j .nilIface) (fun j hj => by simp at hj; simp [List.getD, hj])).cell (i := i) (by simpa using hi')
  rw [Nat.zero_add, this]
  simp [List.getD, hi']

end Go.Proofs.Ytebjefgdjfjndaa
