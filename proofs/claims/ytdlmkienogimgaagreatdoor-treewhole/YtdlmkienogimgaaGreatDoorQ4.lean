/- This text proves what slices.Backward hands on, one by one: the texts of a slice, from the last to the first; the only condition is that the slice lies there. -/
import Derived.Test.YtdlmkienogimgaaGreatDoorQ3
import Derived.RangeFuncBox
import Derived.RangeFuncLeaves
import Derived.RangeFuncNested
import Derived.RangeFuncBound
import Derived.RangeFuncCalls
import Derived.Shelf.Abstract
import Derived.Shelf.RegionOpen
import Derived.WalkKit
import Derived.OwnWalkIn
import Derived.TacticsInMore
import Derived.LoopNIn
import Derived.LoopIn
import Derived.Maps.AppendAt
namespace Go.Proofs.YtdlmkienogimgaaGreatDoor
open Go.RowKit Go.Shelf

attribute [local go_sem] Oper.semAt_some

/-- What is handed on: a place, and a text that is not long. -/
abbrev Itm := { x : Int × List UInt8 // x.2.length ≤ 1000 }
def itv (x : Itm) : Array Value := #[.int .i64 x.1.1, .string (bs x.1.2)]
def its (l : List Itm) : List (List UInt8) := l.map fun x => x.1.2

/-- What has come when k rounds are over: f 0, .., f (k - 1). -/
def upto {α : Type} (f : Nat → α) (k : Nat) : List α := (List.range k).map f
theorem upto_succ {α : Type} (f : Nat → α) (k : Nat) : upto f (k + 1) = upto f k ++ [f k] := by simp [upto, List.range_succ]
theorem upto_length {α : Type} (f : Nat → α) (k : Nat) : (upto f k).length = k := by simp [upto]

theorem sth_small {ls : List (List UInt8)} (h : ∀ l ∈ ls, l.length ≤ 1000) (i : Nat) : (sth ls i).length ≤ 1000 := by
  by_cases hi : i < ls.length
  · exact h _ (sth_mem hi)
  · unfold sth; simp [List.getD, Nat.not_lt.1 hi]
def it (ls : List (List UInt8)) (h : ∀ i, (sth ls i).length ≤ 1000) (j : Nat) : Itm := ⟨((j : Int), sth ls j), h j⟩

theorem its_all (ls : List (List UInt8)) (h : ∀ i, (sth ls i).length ≤ 1000) : its (upto (fun j => it ls h (ls.length - 1 - j)) ls.length) = ls.reverse := by
  unfold its upto it
  rw [List.map_map]
  apply List.ext_getElem
  · simp
  · intro i h1 h2
    simp at h1
    simp [sth_lt (show ls.length - 1 - i < ls.length by omega)]

/-- What a round keeps: all that is old, and one block more. -/
def Kp (n₀ Bs : Nat) (W W' : World) : Prop := Below n₀ W W' ∧ W'.heap[Bs]? = W.heap[Bs]?
theorem kp_refl (n₀ Bs : Nat) (W : World) : Kp n₀ Bs W W := ⟨Below.refl _ _, rfl⟩
theorem kp_t {n₀ Bs : Nat} {A B C : World} (h : Kp n₀ Bs A B) (k : Kp n₀ Bs B C) : Kp n₀ Bs A C := ⟨h.1.trans k.1, k.2.trans h.2⟩
theorem kp_b {n₀ Bs : Nat} {w : World} (hn : n₀ ≤ w.heap.size) (hB : Bs < w.heap.size) (W : World) (l : Nat) (o o' : Obj) (hl : w.heap.size ≤ l) (h : W.heap[l]? = some o) (h1 : o.isCells = false) (h2 : o.isWalk = false) : Kp n₀ Bs W (W.putObj l o') :=
  ⟨belowK_b hn W l o o' hl h h1 h2, (grownBy_putObj' W l o').block Bs (by have := (Array.getElem?_eq_some_iff.1 h).1; omega) (fun e => by cases e; omega)⟩
theorem Kp.boxed {n₀ Bs : Nat} {W W' : World} {t : TypeId} {v : Value} (h : Kp n₀ Bs W W') (k : Boxed W Bs t v) : Boxed W' Bs t v := h.2.trans k

set_option maxRecDepth 100000 in
set_option maxHeartbeats 2000000 in
theorem back1_in (F : Fence) (n : Nat) (h39 : F.fn 83) (hro : F.round = none) (hn : 1 ≤ n) (l Bs n₀ b off len cap : Nat) (ls : List (List UInt8)) (hsm : ∀ i, (sth ls i).length ≤ 1000) (hlen : len ≤ 1000000) (hb : b < n₀) (J Jx : List Itm → World → Prop)
    (hY : ∀ pre x W, J pre W → pre.length < len → YieldAt F (n - 1) Tryz.prog l (itv x) W fun e W' =>
      (e = .returned (.bool true) ∧ J (pre ++ [x]) W' ∧ Kp n₀ Bs W W') ∨ (e = .returned (.bool false) ∧ Jx (pre ++ [x]) W'))
    (W : World) (hBs : Boxed W Bs 26 (.slice (some ⟨b, off, none⟩) len cap)) (hc : ∀ j, j < len → W.cell? ⟨b, off + j, none⟩ = some (.string (bs (sth ls j)))) (h0 : J [] W) :
    CallsIn F n Tryz.prog 83 #[.func (.yield l) #[] #[], .pointer (some ⟨Bs, 0, none⟩)] W fun e W' => (∃ v, e = .returned v) ∧
      ((∃ ys, ys = upto (fun j => it ls hsm (len - 1 - j)) len ∧ J ys W') ∨ (∃ pre, (∃ k, k ≤ len ∧ pre = upto (fun j => it ls hsm (len - 1 - j)) k) ∧ Jx pre W')) := by
  have HC : Hid (∀ j, j < len → W.cell? ⟨b, off + j, none⟩ = some (.string (bs (sth ls j)))) := hc
  clear hc
  have hcb := hBs.cell
  refine callsIn_of_wp Tryz.func83 rfl h39 ?_ hro
  simp only [Tryz.ntmps83, List.size_toArray, List.length_cons, List.length_nil, Nat.reduceAdd, Nat.reduceSub, Array.replicate_succ, Array.replicate_zero, List.push_toArray, List.append_toArray, List.nil_append, List.cons_append]
  gi_wp2
  gi_loopw [3] (fun i wr => ∃ m : Nat, m ≤ len ∧ i = .int .i64 ((m : Int) - 1) ∧ J (upto (fun j => it ls hsm (len - 1 - j)) (len - m)) wr ∧ Kp n₀ Bs W wr)
    (fun i _ => (intOf i + 1).toNat)
  case atStart => exact ⟨len, Nat.le_refl _, rfl, by rw [Nat.sub_self]; exact h0, kp_refl _ _ _⟩
  case round =>
    obtain ⟨m, hm, rfl, hJs, hnx⟩ := hrel
    have hbx := (hnx.boxed hBs).cell
    cases m with
    | zero =>
      gi_wp2
      go_end0
      exact ⟨⟨_, rfl⟩, .inl ⟨_, rfl, by simpa using hJs⟩⟩
    | succ m =>
      have e0 : ((m + 1 : Nat) : Int) - 1 = (m : Int) := by omega
      rw [e0]
      have hcx : wr.cell? ⟨b, off + m, none⟩ = some (.string (bs (sth ls m))) := (hnx.1.cell (p := ⟨b, off + m, none⟩) hb).trans (HC.out m (by omega))
      have hit : it ls hsm (len - 1 - (len - (m + 1))) = it ls hsm m := by congr 1; omega
      obtain ⟨fn, tmps, assign, body, hy, hR⟩ := hY _ (it ls hsm m) wr hJs (by rw [upto_length]; omega)
      dsimp only [itv, it] at hy
      clear e0
      gi_wp2
      refine hR.mono ?_
      rintro e W3 (⟨rfl, hJ3, hk3⟩ | ⟨rfl, hJx3⟩)
      · gi_wp2
        go_roundw
        case rel => exact ⟨m, by omega, by simp, by rw [show len - m = (len - (m + 1)) + 1 by omega, upto_succ, hit]; exact hJ3, kp_t hnx hk3⟩
        case measure => simp [intOf]
      · gi_wp2
        refine bodyPost_ret (results_none rfl _ _ _) rfl ?_
        exact ⟨⟨_, rfl⟩, .inr ⟨_, ⟨len - (m + 1) + 1, by omega, by rw [upto_succ, hit]⟩, hJx3⟩⟩

set_option maxRecDepth 100000 in
set_option maxHeartbeats 1000000 in
/-- Of no text: no round. -/
theorem back1_nil_in (F : Fence) (n : Nat) (h39 : F.fn 83) (hro : F.round = none) (l Bs : Nat) (a : Option Addr) (c : Nat) (J : List Itm → World → Prop) (W : World) (hBs : W.cell? ⟨Bs, 0, none⟩ = some (.slice a 0 c)) (h0 : J [] W) :
    CallsIn F n Tryz.prog 83 #[.func (.yield l) #[] #[], .pointer (some ⟨Bs, 0, none⟩)] W fun e W' => (∃ v, e = .returned v) ∧ J [] W' := by
  refine callsIn_of_wp Tryz.func83 rfl h39 ?_ hro
  simp only [Tryz.ntmps83, List.size_toArray, List.length_cons, List.length_nil, Nat.reduceAdd, Nat.reduceSub, Array.replicate_succ, Array.replicate_zero, List.push_toArray, List.append_toArray, List.nil_append, List.cons_append]
  gi_wp2
  gi_loopw [3] (fun i wr => i = .int .i64 (-1) ∧ J [] wr) (fun _ _ => 0)
  case atStart => exact ⟨rfl, h0⟩
  case round =>
    obtain ⟨rfl, hJs⟩ := hrel
    gi_wp2
    go_end0
    exact ⟨⟨_, rfl⟩, hJs⟩

set_option maxHeartbeats 1000000 in
/-- slices.Backward: the slice is boxed; what it hands back captures the box. -/
theorem back_in (F : Fence) (n : Nat) (h28 : F.fn 64) (hro : F.round = none) (a : Option Addr) (len cap : Nat) (w : World) :
    CallsIn F n Tryz.prog 64 #[.slice a len cap] w fun e w' => e = .returned (.func (.func 83) #[] #[.pointer (some ⟨w.heap.size, 0, none⟩)]) ∧ w' = w.alloc (.cells #[.slice a len cap] 26) := by
  refine callsIn_of_wp Tryz.func64 rfl h28 ?_ hro
  simp only [Tryz.ntmps64, List.size_toArray, List.length_cons, List.length_nil, Nat.reduceAdd, Nat.reduceSub, Array.replicate_succ, Array.replicate_zero, List.push_toArray, List.append_toArray, List.nil_append, List.cons_append]
  gi_wp2
  go_ret
  exact ⟨rfl, rfl⟩

theorem back_stops (F : Fence) (n : Nat) (h39 : F.fn 83) (hro : F.round = none) (hn : 1 ≤ n) (Bs n₀ : Nat) (a : Option Addr) (c : Nat) (ls : List (List UInt8)) (hsm : ∀ i, (sth ls i).length ≤ 1000) (hlen : ls.length ≤ 1000000) (w0 w : World) (hBs : Bs < w.heap.size) (hn₀ : n₀ = w0.heap.size) (hle : n₀ ≤ w.heap.size) (hw : Below n₀ w0 w)
    (hc : Boxed w Bs 26 (.slice a ls.length c)) (hI : StrsIs w0 (.slice a ls.length c) ls) :
    SeqStopsK F n Tryz.prog 83 #[.pointer (some ⟨Bs, 0, none⟩)] itv (Kp n₀ Bs) (fun ys => its ys = ls.reverse) (fun _ => True) ls.length w := fun l J Jx W hW _ _ hY h0 => by
  have hc' : Boxed W Bs 26 (.slice a ls.length c) := (hW.block Bs hBs).trans hc
  subst hn₀
  have hI2 := hI.later (Nat.le_refl _) (hw.trans (hW.mono hle))
  by_cases h0' : ls = []
  · subst h0'
    exact (back1_nil_in F n h39 hro l Bs a c J W hc'.cell h0).mono fun e W' ⟨he, hj⟩ => ⟨he, .inl ⟨_, rfl, hj⟩⟩
  · obtain ⟨a', c', hv, _, _, hcells⟩ := hI2
    cases hv
    obtain ⟨b, o, rfl, _, hcs⟩ := hcells h0'
    obtain ⟨_, _, hv2, _, _, hcells2⟩ := hI
    cases hv2
    obtain ⟨b2, o2, e2, hb2, _⟩ := hcells2 h0'
    cases e2
    refine (back1_in F n h39 hro hn l Bs w0.heap.size b o ls.length c ls hsm hlen hb2 J Jx hY W hc' hcs h0).mono ?_
    rintro e W' ⟨he, ⟨ys, rfl, hj⟩ | ⟨pre, ⟨k, hk, rfl⟩, hj⟩⟩
    · exact ⟨he, .inl ⟨_, its_all ls hsm, hj⟩⟩
    · exact ⟨he, .inr ⟨_, trivial, hj⟩⟩

end Go.Proofs.YtdlmkienogimgaaGreatDoor
