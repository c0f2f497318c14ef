/- This text proves that platterholdlaw1.reedFact returns true and lets all old memory be, and what platterholdref1.Set answers: a copy of the list with one number turned, in new memory; the conditions: the slice lies there, and the place is in it. -/
import Derived.Test.YtebjefgdjfjndaaDoorRe5
import Derived.Test.YtebjefgdjfjndaaDoorLj
namespace Go.Proofs.YtebjefgdjfjndaaDoor
open Go.RowKit Go.Deep

theorem ints_lit (w : World) (xs : List Int) (hm : xs.length ≤ maxLen) (cap : Nat) :
    SliceIs (w.alloc (.cells (xs.map fun x => Value.int .i64 x).toArray 3)) (.slice (some ⟨w.heap.size, 0, none⟩) xs.length cap) xs := by
  refine ⟨_, cap, rfl, hm, fun _ => ⟨w.heap.size, 0, rfl, by simp, fun i hi => ?_⟩⟩
  rw [Nat.zero_add, cell_new, nth_lt hi]
  simp [hi]

theorem below_alloc (w : World) (o : Obj) : Below w.heap.size w (w.alloc o) := (Below.refl _ _).alloc (Nat.le_refl _) _

theorem evF_one {f : Nat → Nat} (hf : BytesF f) (x : Nat) : evF f x 1 = f 0 := by rw [evF_succ, evF_zero, gpow_zero, gm_one (hf 0), Nat.zero_xor]

theorem fact_make : makeE [7] 2 = 0 := by decide
theorem fact_againE : againE [-1, -1, 7] (1 : Nat) = 0 := by decide
theorem fact_fst : fst (thereB [-1, -1, 7]) 1 3 = [2] := by decide

theorem fact_one {f : Nat → Nat} (h : Thru 1 (fun i => i) (fun i => (nth [7] i).toNat) f) : fl 3 (fun i => evF f i 1) = [7, 7, 7] := by
  have e := h.2 0 (by omega)
  rw [evF_one h.1] at e
  have e' : f 0 = 7 := e.trans rfl
  have h' : ∀ i, i < 3 → evF f i 1 = (fun _ => 7) i := fun i _ => by rw [evF_one h.1, e']
  rw [fl_congr h']
  rfl
theorem fact_two {f : Nat → Nat} (h : Thru 1 (fun i => [2].getD i 0) (fun i => (nth [-1, -1, 7] ([2].getD i 0)).toNat) f) : fl 3 (fun i => evF f i 1) = [7, 7, 7] ∧ allTold [-1, -1, 7] (fun i => evF f i 1) := by
  have e := h.2 0 (by omega)
  rw [evF_one h.1] at e
  have e' : f 0 = 7 := e.trans rfl
  have h' : ∀ i, i < 3 → evF f i 1 = (fun _ => 7) i := fun i _ => by rw [evF_one h.1, e']
  refine ⟨by rw [fl_congr h']; rfl, fun i hi ht => ?_⟩
  show nth [-1, -1, 7] i = (evF f i 1 : Int)
  rw [evF_one h.1, e']
  have hi' : i < 3 := hi
  rcases (show i = 0 ∨ i = 1 ∨ i = 2 by omega) with rfl | rfl | rfl
  · exact absurd ht (by decide)
  · exact absurd ht (by decide)
  · rfl

theorem eqB_refl (xs : List Int) : eqB xs xs = true := by unfold eqB; simp

set_option maxHeartbeats 2000000 in
theorem rfact_any (w : World) : Calls Tryd.prog 11 #[] w fun e w' => e = .returned (.bool true) ∧ Below w.heap.size w w' := by
  have HL := ints_lit w [7] (by decide) 1
  go_enter Tryd.func11, Tryd.ntmps11
  go_wp2_with fail
  refine (make_ok (w.alloc (.cells #[.int .i64 7] 3)) (.slice (some ⟨w.heap.size, 0, none⟩) 1 1) [7] 2 HL fact_make).mono ?_
  rintro e w1 ⟨v1, f, ht, rfl, hs, hb⟩
  have hs1 : SliceIs w1 v1 [7, 7, 7] := by rw [← fact_one ht]; exact hs
  have HS1 : Hid (SliceIs w1 v1 [7, 7, 7]) := hs1
  have HB1 : Hid (Below w.heap.size w w1) := Below.next (below_alloc w _) hb
  clear hs hs1 hb ht HL
  have HL := ints_lit w1 [-1, -1, 7] (by decide) 3
  go_wp2_with fail
  refine (rag_ok (w1.alloc (.cells #[.int .i64 (-1), .int .i64 (-1), .int .i64 7] 3)) (.slice (some ⟨w1.heap.size, 0, none⟩) 3 3) [-1, -1, 7] 1 HL fact_againE (by rw [show List.length [(-1 : Int), -1, 7] = 3 from rfl, fact_fst]; rfl)).mono ?_
  rintro e w2 ⟨v2, g, ht, rfl, hs, hb⟩
  rw [show List.length [(-1 : Int), -1, 7] = 3 from rfl, fact_fst] at ht
  rw [show List.length [(-1 : Int), -1, 7] = 3 from rfl, (fact_two ht).1] at hs
  have HV : Hid (toldV [-1, -1, 7] (fun i => evF g i 1) v2 = .tuple #[v2, .nilIface]) := by
    show toldV [-1, -1, 7] (fun i => evF g i 1) v2 = .tuple #[v2, .nilIface]
    unfold toldV; rw [if_pos (fact_two ht).2]
  have HS2 : Hid (SliceIs w2 v2 [7, 7, 7]) := hs
  have hb2 : Below w1.heap.size w1 w2 := Below.next (below_alloc w1 _) hb
  have HS3 : Hid (SliceIs w2 v1 [7, 7, 7]) := HS1.out.later hb2
  have HB2 : Hid (Below w.heap.size w w2) := Below.next HB1.out hb2
  clear hs hb hb2 ht HL
  rw [HV.out]
  have HL := ints_lit w2 [7, 7, 7] (by decide) 3
  go_wp2_with fail
  refine (ints_any _ v1 (.slice (some ⟨w2.heap.size, 0, none⟩) 3 3) [7, 7, 7] [7, 7, 7] (HS3.out.later (below_alloc w2 _)) HL).mono ?_
  rintro e w3 ⟨rfl, q, rfl⟩
  rw [eqB_refl]
  have hb3 : Below w2.heap.size w2 ((w2.alloc (.cells #[.int .i64 7, .int .i64 7, .int .i64 7] 3)).drewN q) := Below.next (below_alloc w2 _) (below_drewN _ _ _)
  have HS4 : Hid (SliceIs ((w2.alloc (.cells #[.int .i64 7, .int .i64 7, .int .i64 7] 3)).drewN q) v1 [7, 7, 7]) := HS3.out.later hb3
  have HS5 : Hid (SliceIs ((w2.alloc (.cells #[.int .i64 7, .int .i64 7, .int .i64 7] 3)).drewN q) v2 [7, 7, 7]) := HS2.out.later hb3
  have HB3 : Hid (Below w.heap.size w ((w2.alloc (.cells #[.int .i64 7, .int .i64 7, .int .i64 7] 3)).drewN q)) := Below.next HB2.out hb3
  clear hb3 HL
  go_wp2_with fail
  refine (ints_any _ v2 v1 [7, 7, 7] [7, 7, 7] HS5.out HS4.out).mono ?_
  rintro e w5 ⟨rfl, q2, hw5⟩
  rw [eqB_refl]
  have HB5 : Hid (Below w.heap.size w w5) := by rw [hw5]; exact Below.next HB3.out (below_drewN _ _ _)
  clear hw5
  go_wp2
  go_ret
  exact ⟨rfl, HB5.out⟩

theorem nth_set {xs : List Int} {k : Nat} (hk : k < xs.length) (x : Int) (i : Nat) : nth (xs.set k x) i = if i = k then x else nth xs i := by
  by_cases hi : i < xs.length
  · rw [nth_lt (by simpa using hi), List.getElem_set]
    by_cases e : i = k
    · subst e; simp
    · rw [if_neg (fun h => e h.symm), if_neg e, nth_lt hi]
  · rw [if_neg (by omega)]
    unfold nth
    simp [List.getD, Nat.not_lt.1 hi]

def cellsOf (xs : List Int) : List Value := xs.map fun x => .int .i64 x

theorem cellsOf_len (xs : List Int) : (cellsOf xs).length = xs.length := by simp [cellsOf]
theorem cellsOf_one (xs : List Int) : ∀ u ∈ cellsOf xs, u.oneCell' = true := by
  intro u hu
  obtain ⟨x, _, rfl⟩ := List.mem_map.1 hu
  rfl
theorem cellsOf_get {xs : List Int} {i : Nat} (h : i < xs.length) : (cellsOf xs)[i]? = some (.int .i64 (nth xs i)) := by
  simp [cellsOf, h, nth_lt h]
theorem cellsOf_set (xs : List Int) (k : Nat) (x : Int) : (cellsOf xs).set k (.int .i64 x) = cellsOf (xs.set k x) := by simp [cellsOf, List.map_set]

theorem slice_owned {w : World} {base g n cap : Nat} {xs : List Int} (h : w.ownsRow base 3 1 (.slice (some ⟨g, 0, none⟩) n cap) n (cellsOf xs)) (hm : n ≤ maxLen) (hg : g < w.heap.size) : SliceIs w (.slice (some ⟨g, 0, none⟩) n cap) xs := by
  have hl : xs.length = n := by have := h.1; rw [cellsOf_len] at this; omega
  refine ⟨_, cap, by rw [hl], by rw [hl]; exact hm, fun _ => ⟨g, 0, rfl, hg, fun i hi => ?_⟩⟩
  rw [Nat.zero_add, h.cellAt i (by omega), cellsOf_get hi]

theorem own_where {w : World} {base e n : Nat} {v : Value} {vs : List Value} (h : w.ownsRow base e 1 v n vs) (hn : 0 < n) : ∃ g cap, v = .slice (some ⟨g, 0, none⟩) n cap ∧ base ≤ g ∧ g < w.heap.size := by
  rcases h.2 with ⟨_, h0⟩ | ⟨g, cap, cur, h1, h2, h3, _⟩
  · omega
  · exact ⟨g, cap, h1, h2, (Array.getElem?_eq_some_iff.1 h3).1⟩

set_option maxHeartbeats 2000000 in
theorem set_any (w : World) (v : Value) (xs : List Int) (k : Nat) (x : Int) (hx : SliceIs w v xs) (hk : k < xs.length) (hn : xs.length ≤ 256) :
    Calls Tryd.prog 13 #[v, .int .i64 (k : Int), .int .i64 x] w fun e w' => ∃ v', e = .returned v' ∧ SliceIs w' v' (xs.set k x) ∧ Below w.heap.size w w' := by
  obtain ⟨a, c, b, o, hv, _, ha, hc⟩ := hx.where
  have haa := ha (by omega)
  subst haa
  have HC : Hid (∀ j u, (cellsOf xs)[j]? = some u → w.cell? ((⟨b, o, none⟩ : Addr).add j) = some u) := by
    intro j u hj
    have hl : j < xs.length := by have := (List.getElem?_eq_some_iff.1 hj).1; rwa [cellsOf_len] at this
    rw [cellsOf_get hl] at hj
    have e : (⟨b, o, none⟩ : Addr).add j = ⟨b, o + j, none⟩ := by
      unfold Addr.add
      split
      · simp_all
      · simp
    rw [e, hc j hl]
    exact hj
  have HXL : Hid ((cellsOf xs).length = xs.length * 1) := by show (cellsOf xs).length = xs.length * 1; rw [cellsOf_len, Nat.mul_one]
  obtain ⟨n, hxn⟩ : ∃ n, n = xs.length := ⟨_, rfl⟩
  have HN : Hid (n = xs.length) := hxn
  rw [← hxn] at hv hk hn HXL
  subst hv
  clear hc ha hx hxn
  obtain ⟨ti, hti, hz0, hz1, hz2⟩ := info_parts Tryd.info3
  go_enter Tryd.func13, Tryd.ntmps13
  go_wp2_with (at_builtin; refine wpList_append_own _ rfl (.tmp 8) (.tmp 9) 22 rfl w.heap.size 3 ti (.int .i64 0) 1 8 Tryd.underlying22 hti hz0 hz1 hz2 rfl (by decide) (.slice none 0 0) 0 [] rfl (World.ownsRow_nil _ _ _ _) ⟨b, o, none⟩ n c (cellsOf xs) rfl HXL.out HC.out (cellsOf_one xs) ?q1 ?q2 ?q3 ?q4)
  case q1 => unfold maxLen; omega
  case q2 => omega
  case q3 => exact Nat.le_refl _
  case q4 =>
    intro v1 w1 hown hgr _
    obtain ⟨g, cap, rfl, hg1, hg2⟩ := own_where hown (by omega)
    have HO : Hid (w1.ownsRow w.heap.size 3 1 (.slice (some ⟨g, 0, none⟩) n cap) n (cellsOf xs)) := hown
    have HB : Hid (Below w.heap.size w w1) := (Below.refl _ _).grown hgr (Nat.le_refl _) (fun k e => by cases e)
    have HG : Hid (g < w1.heap.size ∧ w.heap.size ≤ g) := ⟨hg2, hg1⟩
    have hc1 : w1.cell? ⟨g, k, none⟩ = some (.int .i64 (nth xs k)) := by rw [hown.cellAt k (by omega), cellsOf_get (by rw [← HN.out]; exact hk)]
    have hf1 : w1.frozen? ⟨g, k, none⟩ = false := hown.frozenAt k
    have HO2 : Hid ((w1.setCell ⟨g, k, none⟩ (.int .i64 x)).ownsRow w.heap.size 3 1 (.slice (some ⟨g, 0, none⟩) n cap) n (cellsOf (xs.set k x))) := by
      have := hown.stored k (.int .i64 x)
      rw [cellsOf_set] at this
      exact this.1
    have hki : (k : Int) < (n : Int) := by omega
    clear hown hgr hg1 hg2
    go_wp2
    go_ret
    exact ⟨_, rfl, slice_owned HO2.out (by unfold maxLen; omega) (by have := HG.out.1; simpa [World.setCell] using this), HB.out.setCell HG.out.2 _⟩

end Go.Proofs.YtebjefgdjfjndaaDoor
