/- This text proves what extent.isRun, endOf, runHas, setHas and the document's Run answer: whether a run is right, where it ends, and whether a place is one of a run's or of a set's; old memory stays; the only condition is that the slice lies there and its runs are right. -/
import Derived.Test.YtihefpnagdacpaaDoorChecked
import Derived.Test.YtihefpnagdacpaaDoorX0
import Derived.Test.YtihefpnagdacpaaDoorLo
import Derived.Test.YtihefpnagdacpaaDoorAs
import Derived.WalkKit
import Derived.Outline
import Derived.WalkSpells
import Derived.WalkLawsBesides
import Derived.Deep.QuietTactic
import Derived.BigQuiet
namespace Go.Proofs.YtihefpnagdacpaaDoor
open Go.RowKit Go.Deep

theorem Tryd.info24 : (Tryd.prog.info? 24).map (fun i => (i.zero, i.size, i.bytes)) = some (some (.agg #[.int .i64 0, .int .i64 0]), 2, 16) := by kernel_rfl

/-- The cells of runs. -/
def rdc : List Rn → List Value
  | [] => []
  | x :: l => .int .i64 x.1 :: .int .i64 x.2 :: rdc l

theorem rdc_len : ∀ l, (rdc l).length = l.length * 2
  | [] => rfl
  | x :: l => by simp only [rdc, List.length_cons, rdc_len l]; omega
theorem rdc_append : ∀ (a b : List Rn), rdc (a ++ b) = rdc a ++ rdc b
  | [], b => rfl
  | y :: l, b => by simp only [rdc, List.cons_append, rdc_append l b]
theorem rdc_snoc (x : Rn) (l : List Rn) : rdc l ++ [.int .i64 x.1, .int .i64 x.2] = rdc (l ++ [x]) := by rw [rdc_append]; rfl
theorem rdc_one : ∀ l, ∀ u ∈ rdc l, u.oneCell' = true
  | [], u, h => by simp [rdc] at h
  | x :: l, u, h => by
    simp only [rdc, List.mem_cons] at h
    rcases h with rfl | rfl | h
    · rfl
    · rfl
    · exact rdc_one l u h

/-- The run at a place. -/
def rAt (l : List Rn) (i : Nat) : Rn := l.getD i (0, 0)

theorem rAt_lt {l : List Rn} {i : Nat} (h : i < l.length) : rAt l i = l[i] := by unfold rAt; simp [List.getD, h]
theorem rAt_mem {l : List Rn} {i : Nat} (h : i < l.length) : rAt l i ∈ l := by rw [rAt_lt h]; exact List.getElem_mem h
theorem drop_at {l : List Rn} {i : Nat} (h : i < l.length) : l.drop i = rAt l i :: l.drop (i + 1) := by rw [rAt_lt h]; exact (List.drop_eq_getElem_cons h)

theorem rdc_even : ∀ (l : List Rn) (i : Nat), i < l.length → (rdc l)[i * 2]? = some (.int .i64 (rAt l i).1) ∧ (rdc l)[i * 2 + 1]? = some (.int .i64 (rAt l i).2)
  | [], i, h => by simp at h
  | x :: l, 0, _ => by simp [rdc, rAt]
  | x :: l, i + 1, h => by
    have := rdc_even l i (by simpa using h)
    simp only [rdc, show (i + 1) * 2 = i * 2 + 1 + 1 by omega, List.getElem?_cons_succ, rAt, List.getD_cons_succ]
    exact this

/-- The value is a slice that holds these runs. -/
def RunsIs (w : World) (v : Value) (l : List Rn) : Prop :=
  ∃ a cap, v = .slice a l.length cap ∧ l.length ≤ maxLen ∧ (l ≠ [] → ∃ b off, a = some ⟨b, off, none⟩ ∧ b < w.heap.size ∧
    ∀ i, i < l.length → w.cell? ⟨b, off + i * 2, none⟩ = some (.int .i64 (rAt l i).1) ∧ w.cell? ⟨b, off + i * 2 + 1, none⟩ = some (.int .i64 (rAt l i).2))

theorem RunsIs.later {w w' : World} {v : Value} {l : List Rn} (h : RunsIs w v l) (hb : Below w.heap.size w w') : RunsIs w' v l := by
  obtain ⟨a, cap, hv, hl, hx⟩ := h
  refine ⟨a, cap, hv, hl, fun hne => ?_⟩
  obtain ⟨b, off, ha, hlt, hc⟩ := hx hne
  refine ⟨b, off, ha, Nat.lt_of_lt_of_le hlt hb.size, fun i hi => ?_⟩
  have := hc i hi
  exact ⟨by rw [hb.cell (p := ⟨b, off + i * 2, none⟩) hlt]; exact this.1, by rw [hb.cell (p := ⟨b, off + i * 2 + 1, none⟩) hlt]; exact this.2⟩

theorem RunsIs.where {w : World} {v : Value} {l : List Rn} (h : RunsIs w v l) :
    ∃ a c b o, v = .slice a l.length c ∧ l.length ≤ maxLen ∧ (0 < l.length → a = some ⟨b, o, none⟩) ∧ (0 < l.length → b < w.heap.size) ∧
      ∀ i, i < l.length → w.cell? ⟨b, o + i * 2, none⟩ = some (.int .i64 (rAt l i).1) ∧ w.cell? ⟨b, o + i * 2 + 1, none⟩ = some (.int .i64 (rAt l i).2) := by
  obtain ⟨a, c, rfl, hl, hi⟩ := h
  by_cases hx : l = []
  · subst hx
    exact ⟨a, c, 0, 0, rfl, hl, fun h => absurd h (by simp), fun h => absurd h (by simp), fun i h => absurd h (by simp)⟩
  · obtain ⟨b, o, ha, hb, hc⟩ := hi hx
    exact ⟨a, c, b, o, rfl, hl, fun _ => ha, fun _ => hb, hc⟩

/-- Runs that the call itself has laid. -/
theorem runs_own {w : World} {base n : Nat} {v : Value} {l : List Rn} (h : w.ownsRow base 24 2 v n (rdc l)) (hm : n ≤ maxLen) : RunsIs w v l := by
  have hl : l.length = n := by have := h.1; rw [rdc_len] at this; omega
  rcases h.2 with ⟨h0, h1⟩ | ⟨g, cap, cur, h1, h2, h3, _⟩
  · subst h0
    obtain rfl : l = [] := List.length_eq_zero_iff.1 (by omega)
    exact ⟨none, 0, rfl, Nat.zero_le _, fun h => absurd rfl h⟩
  · subst h1
    refine ⟨_, cap, by rw [hl], by omega, fun _ => ⟨g, 0, rfl, (Array.getElem?_eq_some_iff.1 h3).1, fun i hi => ?_⟩⟩
    have k1 := rdc_even l i hi
    have k2 := h.cells (g := g) rfl (i * 2) _ k1.1
    have k3 := h.cells (g := g) rfl (i * 2 + 1) _ k1.2
    rw [addr_at] at k2 k3
    rw [Nat.zero_add]
    exact ⟨k2, k3⟩

theorem below_one (w : World) (o : Obj) : Below w.heap.size w (w.alloc o) := (Below.refl _ _).alloc (Nat.le_refl _) _

set_option maxHeartbeats 1000000 in
theorem isRun_any (f s : Int) (w : World) :
    Calls Tryd.prog 16 #[.agg #[.int .i64 f, .int .i64 s]] w fun e w' => e = .returned (.bool (rB (f, s))) ∧ Below w.heap.size w w' := by
  by_cases h1 : 0 ≤ f
  · by_cases h2 : f < 1000
    · by_cases h3 : 1 ≤ s
      · by_cases h4 : s ≤ 1000 - f
        · rw [show rB (f, s) = true from by simp [rB, h1, h2, h3, h4]]
          go_enter Tryd.func16, Tryd.ntmps16
          go_wp2
          go_ret
          exact ⟨rfl, below_one _ _⟩
        · rw [show rB (f, s) = false from by simp [rB, h4]]
          go_enter Tryd.func16, Tryd.ntmps16
          go_wp2
          go_ret
          exact ⟨rfl, below_one _ _⟩
      · rw [show rB (f, s) = false from by simp [rB, h3]]
        go_enter Tryd.func16, Tryd.ntmps16
        go_wp2
        go_ret
        exact ⟨rfl, below_one _ _⟩
    · rw [show rB (f, s) = false from by simp [rB, h2]]
      go_enter Tryd.func16, Tryd.ntmps16
      go_wp2
      go_ret
      exact ⟨rfl, below_one _ _⟩
  · rw [show rB (f, s) = false from by simp [rB, h1]]
    go_enter Tryd.func16, Tryd.ntmps16
    go_wp2
    go_ret
    exact ⟨rfl, below_one _ _⟩

set_option maxHeartbeats 1000000 in
theorem endOf_any (x : Rn) (w : World) (h : isR x) :
    Calls Tryd.prog 17 #[.agg #[.int .i64 x.1, .int .i64 x.2]] w fun e w' => e = .returned (.int .i64 (x.1 + x.2)) ∧ Below w.heap.size w w' := by
  obtain ⟨f, s⟩ := x
  unfold isR at h
  obtain ⟨h1, h2, h3, h4⟩ := h
  simp only at h1 h2 h3 h4 ⊢
  go_enter Tryd.func17, Tryd.ntmps17
  go_wp2
  go_ret
  exact ⟨rfl, below_one _ _⟩

set_option maxHeartbeats 1000000 in
theorem runHas_any (x : Rn) (p : Int) (w : World) (h : isR x) :
    Calls Tryd.prog 25 #[.agg #[.int .i64 x.1, .int .i64 x.2], .int .i64 p] w fun e w' => e = .returned (.bool (inR x p)) ∧ Below w.heap.size w w' := by
  obtain ⟨f, s⟩ := x
  have HE : Hid _ := fun w => endOf_any (f, s) w h
  have HB : Hid (∀ w', Below (w.heap.size + 1) (w.alloc (.cells #[.int .i64 f, .int .i64 s] 24)) w' → Below w.heap.size w w') := fun w' hb => (below_one w _).trans (hb.mono (by omega))
  by_cases h1 : f ≤ p
  · by_cases h2 : p < f + s
    · rw [show inR (f, s) p = true from (inR_iff _ _).2 ⟨h1, h2⟩]
      simp only at h1 h2 ⊢
      go_enter Tryd.func25, Tryd.ntmps25
      go_wp2_with (go_at_call 17; refine (HE.out _).mono ?_; rintro e w' ⟨rfl, hb⟩)
      go_ret
      exact ⟨rfl, HB.out _ (by simpa using hb)⟩
    · rw [show inR (f, s) p = false from (inR_false _ _).2 (fun h => h2 h.2)]
      simp only at h1 h2 ⊢
      go_enter Tryd.func25, Tryd.ntmps25
      go_wp2_with (go_at_call 17; refine (HE.out _).mono ?_; rintro e w' ⟨rfl, hb⟩)
      go_ret
      exact ⟨congrArg (fun b => Ending.returned (.bool b)) (decide_eq_false (by omega)), HB.out _ (by simpa using hb)⟩
  · rw [show inR (f, s) p = false from (inR_false _ _).2 (fun h => h1 h.1)]
    simp only at h1 ⊢
    go_enter Tryd.func25, Tryd.ntmps25
    go_wp2
    go_ret
    exact ⟨rfl, below_one _ _⟩

theorem Tryd.enter30 : ∀ args w, (callFunc 24 args).run Tryd.prog w = .ok (.enter 24 args) w := fun _ _ => by rfl

set_option maxHeartbeats 1000000 in
/-- The question that setHas hands on. -/
theorem ask_any (x : Rn) (p : Int) (B : Nat) (w : World) (h : isR x) (hp : w.cell? ⟨B, 0, none⟩ = some (.int .i64 p)) :
    Calls Tryd.prog 24 #[.agg #[.int .i64 x.1, .int .i64 x.2], .pointer (some ⟨B, 0, none⟩)] w fun e w' => e = .returned (.bool (inR x p)) ∧ Below w.heap.size w w' := by
  have HE : Hid _ := fun w => runHas_any x p w h
  have hlt : B < w.heap.size := World.block_lt_of_cell? _ _ hp
  obtain ⟨f, s⟩ := x
  have HB : Hid (∀ w', Below (w.heap.size + 1) (w.alloc (.cells #[.int .i64 f, .int .i64 s] 24)) w' → Below w.heap.size w w') := fun w' hb => (below_one w _).trans (hb.mono (by omega))
  have hp2 : (w.alloc (.cells #[.int .i64 f, .int .i64 s] 24)).cell? ⟨B, 0, none⟩ = some (.int .i64 p) := by rw [(below_one w _).cell (p := ⟨B, 0, none⟩) hlt]; exact hp
  go_enter Tryd.func24, Tryd.ntmps24
  go_wp2_with (go_at_call 25; refine (HE.out _).mono ?_; rintro e w' ⟨rfl, hb⟩)
  go_ret
  exact ⟨rfl, HB.out _ (by simpa using hb)⟩

/-- Where the first run is that has the place. -/
def fstR (l : List Rn) (p : Int) (k : Nat) : Prop := k < l.length ∧ inR (rAt l k) p = true
theorem memR_at {l : List Rn} {p : Int} {k : Nat} (hk : k < l.length) (h : inR (rAt l k) p = true) : memR l p = true :=
  List.any_eq_true.2 ⟨_, rAt_mem hk, h⟩
theorem memR_none {l : List Rn} {p : Int} (h : ∀ j, j < l.length → inR (rAt l j) p = false) : memR l p = false := by
  unfold memR
  rw [List.any_eq_false]
  intro x hx
  obtain ⟨j, hj, rfl⟩ := List.mem_iff_getElem.1 hx
  have := h j hj
  rw [rAt_lt hj] at this
  rw [this]
  simp

set_option maxHeartbeats 2000000 in
theorem index_any (w : World) (v : Value) (l : List Rn) (p : Int) (B : Nat) (hx : RunsIs w v l) (hr : ∀ x ∈ l, isR x) (hp : w.cell? ⟨B, 0, none⟩ = some (.int .i64 p)) :
    Calls Tryd.prog 32 #[v, .func (.func 24) #[] #[.pointer (some ⟨B, 0, none⟩)]] w fun e w' => ∃ i : Int, e = .returned (.int .i64 i) ∧ decide (0 ≤ i) = memR l p ∧ Below w.heap.size w w' := by
  obtain ⟨a, c, b, o, rfl, hl, ha, hb, hc⟩ := hx.where
  obtain ⟨n, hxn⟩ : ∃ n, n = l.length := ⟨_, rfl⟩
  have HX : Hid (n = l.length) := hxn
  rw [← hxn] at hl ha hb hc ⊢
  have hlt : B < w.heap.size := World.block_lt_of_cell? _ _ hp
  have HC : Hid (∀ i, i < n → w.cell? ⟨b, o + i * 2, none⟩ = some (.int .i64 (rAt l i).1) ∧ w.cell? ⟨b, o + i * 2 + 1, none⟩ = some (.int .i64 (rAt l i).2)) := hc
  have HP : Hid (∀ w', Below w.heap.size w w' → w'.cell? ⟨B, 0, none⟩ = some (.int .i64 p)) := fun w' hb => by rw [hb.cell (p := ⟨B, 0, none⟩) hlt]; exact hp
  have HR : Hid (∀ i, i < n → isR (rAt l i)) := fun i hi => hr _ (rAt_mem (by omega))
  unfold maxLen at hl
  have e30 := Tryd.enter30
  clear hc hxn hx hp hr
  go_enter Tryd.func32, Tryd.ntmps32
  go_wp2
  go_loopw [5, 8] (fun _ i wr => ∃ k : Nat, k ≤ n ∧ i = .int .i64 k ∧ Below w.heap.size w wr ∧ ∀ j, j < k → inR (rAt l j) p = false) (fun _ i _ => n - (intOf i).toNat)
  case atStart => exact ⟨0, Nat.zero_le _, rfl, Below.refl _ _, fun j hj => absurd hj (Nat.not_lt_zero _)⟩
  case round =>
    obtain ⟨k, hk, rfl, hbr, hall⟩ := hrel
    have HA : Hid (∀ j, j < k → inR (rAt l j) p = false) := hall
    have HBr : Hid (Below w.heap.size w wr) := hbr
    clear hall
    by_cases hlt : k < n
    · have haa := ha (by omega)
      subst haa
      have c0 : wr.cell? ⟨b, o + k * 2, none⟩ = some (.int .i64 (rAt l k).1) := by rw [hbr.cell (p := ⟨b, o + k * 2, none⟩) (hb (by omega))]; exact (HC.out k hlt).1
      have c1 : wr.cell? ⟨b, o + k * 2 + 1, none⟩ = some (.int .i64 (rAt l k).2) := by rw [hbr.cell (p := ⟨b, o + k * 2 + 1, none⟩) (hb (by omega))]; exact (HC.out k hlt).2
      have HK : Hid _ := fun (_ : Nat) => ask_any (rAt l k) p B wr (HR.out k hlt) (HP.out _ hbr)
      clear hbr
      cases hi : inR (rAt l k) p with
      | true =>
        have HI : Hid (inR (rAt l k) p = true) := hi
        clear hi
        go_wp2_with (go_at_call 24; refine (HK.out 0).mono ?_; rintro e w' ⟨rfl, hb2⟩; rw [HI.out])
        go_ret
        exact ⟨_, rfl, by rw [memR_at (by rw [← HX.out]; exact hlt) HI.out]; simp, Below.next HBr.out hb2⟩
      | false =>
        have HI : Hid (inR (rAt l k) p = false) := hi
        clear hi
        go_wp2_with (go_at_call 24; refine (HK.out 0).mono ?_; rintro e w' ⟨rfl, hb2⟩; rw [HI.out])
        have HB2 : Hid (Below w.heap.size w w') := Below.next HBr.out hb2
        clear hb2
        go_roundw
        case rel =>
          refine ⟨k + 1, by omega, by go_num, HB2.out, fun j hj => ?_⟩
          by_cases e : j = k
          · subst e; exact HI.out
          · exact HA.out j (by omega)
        case measure => simp [intOf]; omega
    · have hkn : k = n := by omega
      subst hkn
      clear hbr
      go_wp2
      go_ret
      exact ⟨_, rfl, by rw [memR_none (by rw [← HX.out]; exact HA.out)]; rfl, HBr.out⟩

set_option maxHeartbeats 1000000 in
theorem contains_any (w : World) (v : Value) (l : List Rn) (p : Int) (B : Nat) (hx : RunsIs w v l) (hr : ∀ x ∈ l, isR x) (hp : w.cell? ⟨B, 0, none⟩ = some (.int .i64 p)) :
    Calls Tryd.prog 23 #[v, .func (.func 24) #[] #[.pointer (some ⟨B, 0, none⟩)]] w fun e w' => e = .returned (.bool (memR l p)) ∧ Below w.heap.size w w' := by
  have HK : Hid _ := fun (_ : Nat) => index_any w v l p B hx hr hp
  go_enter Tryd.func23, Tryd.ntmps23
  go_wp2_with (go_at_call 32; refine (HK.out 0).mono ?_; rintro e w' ⟨i, rfl, hi, hb⟩)
  go_ret
  exact ⟨rfl, hb⟩

set_option maxHeartbeats 1000000 in
/-- Is a place one of a set's? -/
theorem setHas_any (w : World) (v : Value) (l : List Rn) (p : Int) (hx : RunsIs w v l) (hr : ∀ x ∈ l, isR x) :
    Calls Tryd.prog 18 #[v, .int .i64 p] w fun e w' => e = .returned (.bool (memR l p)) ∧ Below w.heap.size w w' := by
  have b1 : Below w.heap.size w (w.alloc (.cells #[.int .i64 p] 3)) := below_one w _
  have HK : Hid _ := fun (_ : Nat) => contains_any (w.alloc (.cells #[.int .i64 p] 3)) v l p w.heap.size (hx.later b1) hr (cell_new _ _ _ _)
  have HB : Hid (∀ w', Below (w.alloc (.cells #[.int .i64 p] 3)).heap.size (w.alloc (.cells #[.int .i64 p] 3)) w' → Below w.heap.size w w') := fun w' hb => Below.next b1 hb
  clear b1
  go_enter Tryd.func18, Tryd.ntmps18
  go_wp2_with (go_at_call 23; refine (HK.out 0).mono ?_; rintro e w' ⟨rfl, hb⟩)
  go_ret
  exact ⟨rfl, HB.out _ hb⟩

end Go.Proofs.YtihefpnagdacpaaDoor
