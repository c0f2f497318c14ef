/- This text proves what platterholdref1.Set, Beside and Fill answer of a list of the call's own; what Set and Fill make is new, and all old memory is as it was. -/
import Derived.Test.YtgkmgcmppkdbgaaDoorAp
import Derived.Test.YtgkmgcmppkdbgaaDoorV6
namespace Go.Proofs.YtgkmgcmppkdbgaaDoor
open Go.RowKit Go.Deep

theorem own_down {w : World} {base base' e n : Nat} {v : Value} {xs : List Value} (h : w.ownsRow base e 1 v n xs) (hb : base' ≤ base) : w.ownsRow base' e 1 v n xs := by
  refine ⟨h.1, ?_⟩
  rcases h.2 with h0 | ⟨b, cap, cur, h1, h2, h3⟩
  · exact .inl h0
  · exact .inr ⟨b, cap, cur, h1, Nat.le_trans hb h2, h3⟩

theorem own_still {w w' : World} {base e n : Nat} {v : Value} {xs : List Value} (h : w.ownsRow base e 1 v n xs) (hb : Below w.heap.size w w') : w'.ownsRow base e 1 v n xs := by
  refine ⟨h.1, ?_⟩
  rcases h.2 with h0 | ⟨b, cap, cur, h1, h2, h3, h4⟩
  · exact .inl h0
  · exact .inr ⟨b, cap, cur, h1, h2, by rw [hb.block b (Array.getElem?_eq_some_iff.1 h3).1]; exact h3, h4⟩

set_option maxHeartbeats 2000000 in
theorem seto_any (w : World) (v : Value) (xs : List Int) (k : Nat) (x : Int) (hx : SliceIs w v xs) (hk : k < xs.length) (hn : xs.length ≤ 256) :
    Calls Tryd.prog 21 #[v, .int .i64 (k : Int), .int .i64 x] w fun e w' => ∃ v', e = .returned v' ∧ w'.ownsRow w.heap.size 3 1 v' xs.length (cellsOf (xs.set k x)) ∧ Below w.heap.size w w' := by
  have HX : Hid (SliceIs w v xs) := hx
  obtain ⟨n, hxn⟩ : ∃ n, n = xs.length := ⟨_, rfl⟩
  have HN : Hid (n = xs.length) := hxn
  rw [← hxn] at hk hn
  clear hx hxn
  go_enter Tryd.func21, Tryd.ntmps21
  go_wp2_with (at_builtin; refine wpList_append_ints rfl (.tmp 8) (.tmp 9) rfl w.heap.size (.slice none 0 0) 0 [] rfl (World.ownsRow_nil _ _ _ _) v xs rfl HX.out ?q1 ?q2 ?q3)
  case q1 => rw [← HN.out]; omega
  case q2 => exact Nat.le_refl _
  case q3 =>
    intro v1 w1 hown hb
    rw [← HN.out] at hown
    obtain ⟨g, cap, rfl, hg1, hg2⟩ := own_where hown (by omega)
    have HB : Hid (Below w.heap.size w w1) := hb
    have HG : Hid (g < w1.heap.size ∧ w.heap.size ≤ g) := ⟨hg2, hg1⟩
    have hc1 : w1.cell? ⟨g, k, none⟩ = some (.int .i64 (nth xs k)) := by rw [hown.cellAt k (by omega), cellsOf_get (by rw [← HN.out]; exact hk)]
    have hf1 : w1.frozen? ⟨g, k, none⟩ = false := hown.frozenAt k
    have HO2 : Hid ((w1.setCell ⟨g, k, none⟩ (.int .i64 x)).ownsRow w.heap.size 3 1 (.slice (some ⟨g, 0, none⟩) n cap) n (cellsOf (xs.set k x))) := by
      have := hown.stored k (.int .i64 x)
      rw [cellsOf_set] at this
      exact this.1
    have hki : (k : Int) < (n : Int) := by omega
    clear hown hb hg1 hg2
    go_wp2
    go_ret
    exact ⟨_, rfl, by rw [← HN.out]; exact HO2.out, HB.out.setCell HG.out.2 _⟩

/-- A list with t numbers from place a on set. -/
def fillL (xs : List Int) (a : Nat) (x : Int) : Nat → List Int
  | 0 => xs
  | t + 1 => (fillL xs a x t).set (a + t) x

theorem fillL_len (xs : List Int) (a : Nat) (x : Int) : ∀ t, (fillL xs a x t).length = xs.length
  | 0 => rfl
  | t + 1 => by rw [fillL, List.length_set, fillL_len xs a x t]

theorem fillL_nth {xs : List Int} {a : Nat} {x : Int} : ∀ {t}, a + t ≤ xs.length → ∀ i, nth (fillL xs a x t) i = if a ≤ i ∧ i < a + t then x else nth xs i
  | 0, _, i => by rw [if_neg (by omega)]; rfl
  | t + 1, h, i => by
    rw [fillL, nth_set (by rw [fillL_len]; omega), fillL_nth (by omega)]
    by_cases e : i = a + t
    · rw [if_pos e, if_pos (by omega)]
    · rw [if_neg e]
      by_cases e2 : a ≤ i ∧ i < a + t
      · rw [if_pos e2, if_pos (by omega)]
      · rw [if_neg e2, if_neg (by omega)]

theorem nth_ext {xs ys : List Int} (hl : xs.length = ys.length) (h : ∀ i, i < xs.length → nth xs i = nth ys i) : xs = ys := by
  refine List.ext_getElem hl fun i h1 h2 => ?_
  rw [← nth_lt h1, ← nth_lt h2]
  exact h i h1

/-- The places of a word, as numbers. -/
def bl (m : Nat) : List Int := fl 32 fun i => (m.testBit i).toNat

theorem bl_len (m : Nat) : (bl m).length = 32 := fl_len _ _
theorem bl_nth {m i : Nat} (h : i < 32) : nth (bl m) i = ((m.testBit i).toNat : Int) := fl_nth h

theorem fill_put {m a n : Nat} (h : a + n ≤ 32) : fillL (bl m) a 1 n = bl (put m a n) := by
  refine nth_ext (by rw [fillL_len, bl_len, bl_len]) fun i hi => ?_
  rw [fillL_len, bl_len] at hi
  rw [fillL_nth (by rw [bl_len]; exact h), bl_nth hi, bl_nth hi, put_bit]
  by_cases e : a ≤ i ∧ i < a + n
  · rw [if_pos e, decide_eq_true e, Bool.or_true]; rfl
  · rw [if_neg e, decide_eq_false e, Bool.or_false]
theorem fill_cut {m a n : Nat} (hm : m < 2 ^ 32) (h : a + n ≤ 32) : fillL (bl m) a 0 n = bl (cut m a n) := by
  refine nth_ext (by rw [fillL_len, bl_len, bl_len]) fun i hi => ?_
  rw [fillL_len, bl_len] at hi
  rw [fillL_nth (by rw [bl_len]; exact h), bl_nth hi, bl_nth hi, cut_bit hm h]
  by_cases e : a ≤ i ∧ i < a + n
  · rw [if_pos e, decide_eq_true e, Bool.not_true, Bool.and_false]; rfl
  · rw [if_neg e, decide_eq_false e, Bool.not_false, Bool.and_true]

/-- Are the first t places from a on all x? -/
def bsB (xs : List Int) (a : Nat) (x : Int) : Nat → Bool
  | 0 => true
  | t + 1 => bsB xs a x t && decide (nth xs (a + t) = x)

theorem bsB_iff (xs : List Int) (a : Nat) (x : Int) : ∀ t, bsB xs a x t = true ↔ ∀ i, a ≤ i → i < a + t → nth xs i = x
  | 0 => ⟨fun _ i h1 h2 => by omega, fun _ => rfl⟩
  | t + 1 => by
    simp only [bsB, Bool.and_eq_true, bsB_iff xs a x t, decide_eq_true_eq]
    constructor
    · rintro ⟨h1, h2⟩ i k1 k2
      by_cases e : i = a + t
      · rw [e]; exact h2
      · exact h1 i k1 (by omega)
    · intro h
      exact ⟨fun i k1 k2 => h i k1 (by omega), h (a + t) (by omega) (by omega)⟩

theorem bsB_free {m a n : Nat} (h : a + n ≤ 32) : bsB (bl m) a 0 n = true ↔ fr m a n := by
  rw [bsB_iff]
  refine forall_congr' fun i => forall_congr' fun _ => forall_congr' fun h2 => ?_
  rw [bl_nth (by omega)]
  cases m.testBit i <;> simp
theorem bsB_taken {m a n : Nat} (h : a + n ≤ 32) : bsB (bl m) a 1 n = true ↔ tk m a n := by
  rw [bsB_iff]
  refine forall_congr' fun i => forall_congr' fun _ => forall_congr' fun h2 => ?_
  rw [bl_nth (by omega)]
  cases m.testBit i <;> simp

set_option maxHeartbeats 2000000 in
theorem beside_any (w : World) (v : Value) (xs : List Int) (a n : Nat) (x : Int) (hx : SliceIs w v xs) (h : a + n ≤ xs.length) (h32 : xs.length ≤ 32) :
    Calls Tryd.prog 15 #[v, .int .i64 (a : Int), .int .i64 (n : Int), .int .i64 x] w fun e w' => e = .returned (.bool (bsB xs a x n)) ∧ w = w' := by
  obtain ⟨ad, c, b, o, hv, hl, ha, hc⟩ := hx.where
  have HC : Hid (∀ i, i < xs.length → w.cell? ⟨b, o + i, none⟩ = some (.int .i64 (nth xs i))) := hc
  subst hv
  obtain ⟨z, hz⟩ : ∃ z, z = xs.length := ⟨_, rfl⟩
  rw [← hz] at h h32 ha HC
  rw [← hz]
  clear hx hl hz hc
  go_enter Tryd.func15, Tryd.ntmps15
  go_wp2
  go_loop [9] (fun i => ∃ I : Nat, a ≤ I ∧ I ≤ a + n ∧ i = .int .i64 (I : Int) ∧ bsB xs a x (I - a) = true) (fun i => a + n - (intOf i).toNat)
  case atStart => exact ⟨a, by omega, by omega, rfl, by rw [Nat.sub_self]; rfl⟩
  case round =>
    obtain ⟨I, h1, h2, rfl, hb⟩ := hrel
    have HB : Hid (bsB xs a x (I - a) = true) := hb
    clear hb
    by_cases hlt : I < a + n
    · have hl : (I : Int) < (a : Int) + (n : Int) := by omega
      have hz : (I : Int) < (z : Int) := by omega
      have hcI := HC.out I (by omega)
      have hae := ha (by omega)
      subst hae
      have HS : Hid (bsB xs a x (I + 1 - a) = decide (nth xs I = x)) := by
        show bsB xs a x (I + 1 - a) = decide (nth xs I = x)
        rw [show I + 1 - a = I - a + 1 by omega, bsB, HB.out, show a + (I - a) = I by omega, Bool.true_and]
      by_cases he : nth xs I = x
      · have HS : Hid (bsB xs a x (I + 1 - a) = true) := by rw [HS.out]; exact decide_eq_true he
        rw [he] at hcI
        clear he
        go_wp2
        refine ⟨⟨I + 1, by omega, by omega, by go_num, HS.out⟩, ?_⟩
        simp [intOf]; omega
      · have HF : Hid (bsB xs a x n = false) := by
          show bsB xs a x n = false
          cases hh : bsB xs a x n with
          | true => exact absurd ((bsB_iff xs a x n).1 hh I h1 hlt) he
          | false => rfl
        generalize nth xs I = y at hcI he
        clear HS
        go_wp2
        go_ret
        exact ⟨by rw [HF.out]; rfl, rfl⟩
    · obtain rfl : I = a + n := by omega
      have hl : ¬ ((a + n : Nat) : Int) < (a : Int) + (n : Int) := by omega
      have HF : Hid (bsB xs a x n = true) := by have := HB.out; rw [Nat.add_sub_cancel_left] at this; exact this
      go_wp2
      go_ret
      exact ⟨by rw [HF.out]; rfl, rfl⟩

set_option maxHeartbeats 2000000 in
theorem fill_any (w : World) (v : Value) (xs : List Int) (a n base : Nat) (x : Int) (hx : w.ownsRow base 3 1 v 32 (cellsOf xs)) (hbs : base ≤ w.heap.size) (h : a + n ≤ 32) :
    Calls Tryd.prog 16 #[v, .int .i64 (a : Int), .int .i64 (n : Int), .int .i64 x] w fun e w' => ∃ v', e = .returned v' ∧ w'.ownsRow base 3 1 v' 32 (cellsOf (fillL xs a x n)) ∧ Below w.heap.size w w' := by
  have HX : Hid (w.ownsRow base 3 1 v 32 (cellsOf xs)) := hx
  have HL : Hid (xs.length = 32) := by have := hx.1; rw [cellsOf_len] at this; show xs.length = 32; omega
  have HBS : Hid (base ≤ w.heap.size) := hbs
  clear hx hbs
  go_enter Tryd.func16, Tryd.ntmps16
  go_wp2
  go_loopw [0, 9] (fun s i wr => ∃ I : Nat, a ≤ I ∧ I ≤ a + n ∧ i = .int .i64 (I : Int) ∧ wr.ownsRow base 3 1 s 32 (cellsOf (fillL xs a x (I - a))) ∧ Below w.heap.size w wr) (fun _ i _ => a + n - (intOf i).toNat)
  case atStart => exact ⟨a, by omega, by omega, rfl, by rw [Nat.sub_self]; exact HX.out, Below.refl _ _⟩
  case round =>
    obtain ⟨I, h1, h2, rfl, hown, hb⟩ := hrel
    have HO : Hid _ := hown
    have HB : Hid (Below w.heap.size w wr) := hb
    clear hown hb
    by_cases hlt : I < a + n
    · have hl : (I : Int) < (a : Int) + (n : Int) := by omega
      go_wp2_with fail
      refine (seto_any wr _ (fillL xs a x (I - a)) I x (slice_own HO.out (by decide)) (by rw [fillL_len, HL.out]; omega) (by rw [fillL_len, HL.out]; decide)).mono ?_
      rintro e w2 ⟨v2, rfl, ho, hb⟩
      have HO2 : Hid (w2.ownsRow base 3 1 v2 32 (cellsOf (fillL xs a x (I + 1 - a)))) := by
        rw [fillL_len, HL.out] at ho
        have e : (fillL xs a x (I - a)).set I x = fillL xs a x (I + 1 - a) := by
          rw [show I + 1 - a = I - a + 1 by omega, fillL, show a + (I - a) = I by omega]
        rw [e] at ho
        exact own_down ho (Nat.le_trans HBS.out HB.out.size)
      have HB2 : Hid (Below w.heap.size w w2) := Below.next HB.out hb
      clear ho hb
      go_wp2
      go_roundw
      case rel => exact ⟨I + 1, by omega, by omega, by go_num, HO2.out, HB2.out⟩
      case measure => simp [intOf]; omega
    · obtain rfl : I = a + n := by omega
      have hl : ¬ ((a + n : Nat) : Int) < (a : Int) + (n : Int) := by omega
      have HO2 : Hid _ := HO.out
      rw [Nat.add_sub_cancel_left] at HO2
      go_wp2
      go_ret
      exact ⟨_, rfl, HO2.out, HB.out⟩

end Go.Proofs.YtgkmgcmppkdbgaaDoor
