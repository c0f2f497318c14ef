/- This text proves what slices.Backward hands on, one by one: the notes of a slice, from the last to the first; the only condition is that the slice lies there. -/
import Derived.Test.YthgbknfdbobmiaaW3
import Derived.RangeFuncBox
import Derived.RangeFuncLeaves
import Derived.RangeFuncNested
import Derived.RangeFuncBound
import Derived.RangeFuncCalls
import Derived.Shelf.Abstract
import Derived.Shelf.RegionOpen
import Derived.WalkKit
import Derived.OwnWalkIn
import Derived.TacticsInMore
import Derived.LoopNIn
import Derived.LoopIn
namespace Go.Proofs.Ythgbknfdbobmiaa
open Go.RowKit Go.Shelf

attribute [local go_sem] Oper.semAt_some

/-- What is handed on: a place, and a note of a turn and of a block. -/
abbrev ItU := { x : Int × Nt // x.2.t < 20 ∧ x.2.b < 8 }
def ituV (x : ItU) : Array Value := #[.int .i64 x.1.1, .agg #[.int .i64 (x.1.2.t : Int), .int .i64 (x.1.2.b : Int), .int .i64 (x.1.2.w : Int)]]
def itsU (l : List ItU) : List Nt := l.map fun x => x.1.2
theorem itsU_snoc (pre : List ItU) (x : ItU) : itsU (pre ++ [x]) = itsU pre ++ [x.1.2] := by unfold itsU; rw [List.map_append]; rfl

/-- What has come when k rounds are over: f 0, .., f (k - 1). -/
def uptoU {α : Type} (f : Nat → α) (k : Nat) : List α := (List.range k).map f
theorem uptoU_succ {α : Type} (f : Nat → α) (k : Nat) : uptoU f (k + 1) = uptoU f k ++ [f k] := by simp [uptoU, List.range_succ]
theorem uptoU_length {α : Type} (f : Nat → α) (k : Nat) : (uptoU f k).length = k := by simp [uptoU]

theorem ntAt_small {L : List Nt} (h : ∀ x ∈ L, x.t < 20 ∧ x.b < 8) (i : Nat) : (ntAt L i).t < 20 ∧ (ntAt L i).b < 8 := by
  by_cases hi : i < L.length
  · exact h _ (ntAt_mem hi)
  · unfold ntAt; simp [List.getD, Nat.not_lt.1 hi]
def itU (L : List Nt) (h : ∀ i, (ntAt L i).t < 20 ∧ (ntAt L i).b < 8) (j : Nat) : ItU := ⟨((j : Int), ntAt L j), h j⟩
theorem itsU_all (L : List Nt) (h : ∀ i, (ntAt L i).t < 20 ∧ (ntAt L i).b < 8) : itsU (uptoU (fun j => itU L h (L.length - 1 - j)) L.length) = L.reverse := by
  unfold itsU uptoU itU
  rw [List.map_map]
  apply List.ext_getElem
  · simp
  · intro i h1 h2
    simp at h1
    simp [ntAt_lt (show L.length - 1 - i < L.length by omega)]

/-- What a round keeps: the notes' block, and the box of their slice. -/
def KpU (b Bs : Nat) (W W' : World) : Prop := W'.heap[b]? = W.heap[b]? ∧ W'.heap[Bs]? = W.heap[Bs]?
theorem kpu_refl (b Bs : Nat) (W : World) : KpU b Bs W W := ⟨rfl, rfl⟩
theorem kpu_t {b Bs : Nat} {A B C : World} (h : KpU b Bs A B) (k : KpU b Bs B C) : KpU b Bs A C := ⟨k.1.trans h.1, k.2.trans h.2⟩
theorem kpu_b {b Bs : Nat} {w : World} (hb : b < w.heap.size) (hB : Bs < w.heap.size) (W : World) (l : Nat) (o o' : Obj) (hl : w.heap.size ≤ l) (h : W.heap[l]? = some o) (_ : o.isCells = false) (_ : o.isWalk = false) : KpU b Bs W (W.putObj l o') := by
  have hs := (Array.getElem?_eq_some_iff.1 h).1
  exact ⟨(grownBy_putObj' W l o').block b (by omega) (fun e => by cases e; omega), (grownBy_putObj' W l o').block Bs (by omega) (fun e => by cases e; omega)⟩
theorem KpU.boxed {b Bs : Nat} {W W' : World} {t : TypeId} {v : Value} (h : KpU b Bs W W') (k : Boxed W Bs t v) : Boxed W' Bs t v := h.2.trans k

set_option maxRecDepth 100000 in
set_option maxHeartbeats 2000000 in
theorem backu1_in (F : Fence) (n : Nat) (h39 : F.fn 41) (hro : F.round = none) (hn : 1 ≤ n) (l Bs b len cap : Nat) (L : List Nt) (hsm : ∀ i, (ntAt L i).t < 20 ∧ (ntAt L i).b < 8) (hlen : len ≤ 1000000) (hL : L.length = len) (J Jx : List ItU → World → Prop)
    (hY : ∀ pre x W, J pre W → pre.length < len → YieldAt F (n - 1) Try.prog l (ituV x) W fun e W' =>
      (e = .returned (.bool true) ∧ J (pre ++ [x]) W' ∧ KpU b Bs W W') ∨ (e = .returned (.bool false) ∧ Jx (pre ++ [x]) W'))
    (W : World) (hBs : Boxed W Bs 60 (.slice (some ⟨b, 0, none⟩) len cap)) (hc : NtsAt W b L) (h0 : J [] W) :
    CallsIn F n Try.prog 41 #[.func (.yield l) #[] #[], .pointer (some ⟨Bs, 0, none⟩)] W fun e W' => (∃ v, e = .returned v) ∧
      ((∃ ys, ys = uptoU (fun j => itU L hsm (len - 1 - j)) len ∧ J ys W') ∨ (∃ pre, (∃ k, k ≤ len ∧ pre = uptoU (fun j => itU L hsm (len - 1 - j)) k) ∧ Jx pre W')) := by
  have HC : Hid (NtsAt W b L) := hc
  clear hc
  have hcb := hBs.cell
  refine callsIn_of_wp Try.func41 rfl h39 ?_ hro
  simp only [Try.ntmps41, List.size_toArray, List.length_cons, List.length_nil, Nat.reduceAdd, Nat.reduceSub, Array.replicate_succ, Array.replicate_zero, List.push_toArray, List.append_toArray, List.nil_append, List.cons_append]
  gi_wp2
  gi_loopw [3] (fun i wr => ∃ m : Nat, m ≤ len ∧ i = .int .i64 ((m : Int) - 1) ∧ J (uptoU (fun j => itU L hsm (len - 1 - j)) (len - m)) wr ∧ KpU b Bs W wr)
    (fun i _ => (intOf i + 1).toNat)
  case atStart => exact ⟨len, Nat.le_refl _, rfl, by rw [Nat.sub_self]; exact h0, kpu_refl _ _ _⟩
  case round =>
    obtain ⟨m, hm, rfl, hJs, hnx⟩ := hrel
    have hbx := (hnx.boxed hBs).cell
    cases m with
    | zero =>
      gi_wp2
      go_end0
      exact ⟨⟨_, rfl⟩, .inl ⟨_, rfl, by simpa using hJs⟩⟩
    | succ m =>
      have e0 : ((m + 1 : Nat) : Int) - 1 = (m : Int) := by omega
      rw [e0]
      obtain ⟨c0, c1, c2⟩ := (HC.out.block hnx.1) m (by omega)
      have hit : itU L hsm (len - 1 - (len - (m + 1))) = itU L hsm m := by congr 1; omega
      obtain ⟨fn, tmps, assign, body, hy, hR⟩ := hY _ (itU L hsm m) wr hJs (by rw [uptoU_length]; omega)
      dsimp only [ituV, itU] at hy
      clear e0
      gi_wp2
      refine hR.mono ?_
      rintro e W3 (⟨rfl, hJ3, hk3⟩ | ⟨rfl, hJx3⟩)
      · gi_wp2
        go_roundw
        case rel => exact ⟨m, by omega, by simp, by rw [show len - m = (len - (m + 1)) + 1 by omega, uptoU_succ, hit]; exact hJ3, kpu_t hnx hk3⟩
        case measure => simp [intOf]
      · gi_wp2
        refine bodyPost_ret (results_none rfl _ _ _) rfl ?_
        exact ⟨⟨_, rfl⟩, .inr ⟨_, ⟨len - (m + 1) + 1, by omega, by rw [uptoU_succ, hit]⟩, hJx3⟩⟩

set_option maxRecDepth 100000 in
set_option maxHeartbeats 1000000 in
/-- Of no note: no round. -/
theorem backu1_nil_in (F : Fence) (n : Nat) (h39 : F.fn 41) (hro : F.round = none) (l Bs : Nat) (a : Option Addr) (c : Nat) (J : List ItU → World → Prop) (W : World) (hBs : W.cell? ⟨Bs, 0, none⟩ = some (.slice a 0 c)) (h0 : J [] W) :
    CallsIn F n Try.prog 41 #[.func (.yield l) #[] #[], .pointer (some ⟨Bs, 0, none⟩)] W fun e W' => (∃ v, e = .returned v) ∧ J [] W' := by
  refine callsIn_of_wp Try.func41 rfl h39 ?_ hro
  simp only [Try.ntmps41, List.size_toArray, List.length_cons, List.length_nil, Nat.reduceAdd, Nat.reduceSub, Array.replicate_succ, Array.replicate_zero, List.push_toArray, List.append_toArray, List.nil_append, List.cons_append]
  gi_wp2
  gi_loopw [3] (fun i wr => i = .int .i64 (-1) ∧ J [] wr) (fun _ _ => 0)
  case atStart => exact ⟨rfl, h0⟩
  case round =>
    obtain ⟨rfl, hJs⟩ := hrel
    gi_wp2
    go_end0
    exact ⟨⟨_, rfl⟩, hJs⟩

set_option maxHeartbeats 1000000 in
/-- slices.Backward: the slice is boxed; what it hands back captures the box. -/
theorem backu_in (F : Fence) (n : Nat) (h28 : F.fn 34) (hro : F.round = none) (a : Option Addr) (len cap : Nat) (w : World) :
    CallsIn F n Try.prog 34 #[.slice a len cap] w fun e w' => e = .returned (.func (.func 41) #[] #[.pointer (some ⟨w.heap.size, 0, none⟩)]) ∧ w' = w.alloc (.cells #[.slice a len cap] 60) := by
  refine callsIn_of_wp Try.func34 rfl h28 ?_ hro
  simp only [Try.ntmps34, List.size_toArray, List.length_cons, List.length_nil, Nat.reduceAdd, Nat.reduceSub, Array.replicate_succ, Array.replicate_zero, List.push_toArray, List.append_toArray, List.nil_append, List.cons_append]
  gi_wp2
  go_ret
  exact ⟨rfl, rfl⟩

theorem backu_stops (F : Fence) (n : Nat) (h39 : F.fn 41) (hro : F.round = none) (hn : 1 ≤ n) (Bs b : Nat) (a : Option Addr) (c : Nat) (L : List Nt) (hsm : ∀ i, (ntAt L i).t < 20 ∧ (ntAt L i).b < 8) (hlen : L.length ≤ 1000000) (w : World) (hBs : Bs < w.heap.size) (hb : b < w.heap.size)
    (ha : 0 < L.length → a = some ⟨b, 0, none⟩) (hc : Boxed w Bs 60 (.slice a L.length c)) (hI : NtsAt w b L) :
    SeqStopsK F n Try.prog 41 #[.pointer (some ⟨Bs, 0, none⟩)] ituV (KpU b Bs) (fun ys => itsU ys = L.reverse) (fun _ => True) L.length w := fun l J Jx W hW _ _ hY h0 => by
  have hc' : Boxed W Bs 60 (.slice a L.length c) := (hW.block Bs hBs).trans hc
  have hI2 := hI.block (hW.block b hb)
  by_cases h0' : L = []
  · subst h0'
    exact (backu1_nil_in F n h39 hro l Bs a c J W hc'.cell h0).mono fun e W' ⟨he, hj⟩ => ⟨he, .inl ⟨_, rfl, hj⟩⟩
  · have hp : 0 < L.length := List.length_pos_iff.2 h0'
    have haa := ha hp
    subst haa
    refine (backu1_in F n h39 hro hn l Bs b L.length c L hsm hlen rfl J Jx hY W hc' hI2 h0).mono ?_
    rintro e W' ⟨he, ⟨ys, rfl, hj⟩ | ⟨pre, ⟨k, hk, rfl⟩, hj⟩⟩
    · exact ⟨he, .inl ⟨_, itsU_all L hsm, hj⟩⟩
    · exact ⟨he, .inr ⟨_, trivial, hj⟩⟩

end Go.Proofs.Ythgbknfdbobmiaa
