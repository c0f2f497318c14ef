/- This text joins 2 parts of a proof. (1) This text proves what slices.Backward hands on, one by one: the texts of a slice, from the last to the first; the only condition is that the slice lies there. (2) This text proves what path.namesLeft answers: the names that no .. takes away; old memory is as it was; the conditions are that the slice lies there, and that it is short. -/
import Derived.Test.YtdlmkienogimgaaGreatDoorMa3
import Derived.RangeFuncBox
import Derived.RangeFuncLeaves
import Derived.RangeFuncNested
import Derived.RangeFuncBound
import Derived.RangeFuncCalls
import Derived.Shelf.Abstract
import Derived.Shelf.RegionOpen
import Derived.WalkKit
import Derived.OwnWalkIn
import Derived.TacticsInMore
import Derived.LoopNIn
import Derived.LoopIn
import Derived.Maps.AppendAt
namespace Go.Proofs.YtdlmkienogimgaaGreatDoor
open Go.RowKit Go.Shelf

attribute [local go_sem] Oper.semAt_some

/-- What is handed on: a place, and a text that is not long. -/
abbrev Itm := { x : Int × List UInt8 // x.2.length ≤ 1000 }
def itv (x : Itm) : Array Value := #[.int .i64 x.1.1, .string (bs x.1.2)]
def its (l : List Itm) : List (List UInt8) := l.map fun x => x.1.2

/-- What has come when k rounds are over: f 0, .., f (k - 1). -/
def upto {α : Type} (f : Nat → α) (k : Nat) : List α := (List.range k).map f
theorem upto_succ {α : Type} (f : Nat → α) (k : Nat) : upto f (k + 1) = upto f k ++ [f k] := by simp [upto, List.range_succ]
theorem upto_length {α : Type} (f : Nat → α) (k : Nat) : (upto f k).length = k := by simp [upto]

theorem sth_small {ls : List (List UInt8)} (h : ∀ l ∈ ls, l.length ≤ 1000) (i : Nat) : (sth ls i).length ≤ 1000 := by
  by_cases hi : i < ls.length
  · exact h _ (sth_mem hi)
  · unfold sth; simp [List.getD, Nat.not_lt.1 hi]
def it (ls : List (List UInt8)) (h : ∀ i, (sth ls i).length ≤ 1000) (j : Nat) : Itm := ⟨((j : Int), sth ls j), h j⟩

theorem its_all (ls : List (List UInt8)) (h : ∀ i, (sth ls i).length ≤ 1000) : its (upto (fun j => it ls h (ls.length - 1 - j)) ls.length) = ls.reverse := by
  unfold its upto it
  rw [List.map_map]
  apply List.ext_getElem
  · simp
  · intro i h1 h2
    simp at h1
    simp [sth_lt (show ls.length - 1 - i < ls.length by omega)]

/-- What a round keeps: all that is old, and one block more. -/
def Kp (n₀ Bs : Nat) (W W' : World) : Prop := Below n₀ W W' ∧ W'.heap[Bs]? = W.heap[Bs]?
theorem kp_refl (n₀ Bs : Nat) (W : World) : Kp n₀ Bs W W := ⟨Below.refl _ _, rfl⟩
theorem kp_t {n₀ Bs : Nat} {A B C : World} (h : Kp n₀ Bs A B) (k : Kp n₀ Bs B C) : Kp n₀ Bs A C := ⟨h.1.trans k.1, k.2.trans h.2⟩
theorem kp_b {n₀ Bs : Nat} {w : World} (hn : n₀ ≤ w.heap.size) (hB : Bs < w.heap.size) (W : World) (l : Nat) (o o' : Obj) (hl : w.heap.size ≤ l) (h : W.heap[l]? = some o) (h1 : o.isCells = false) (h2 : o.isWalk = false) : Kp n₀ Bs W (W.putObj l o') :=
  ⟨belowK_b hn W l o o' hl h h1 h2, (grownBy_putObj' W l o').block Bs (by have := (Array.getElem?_eq_some_iff.1 h).1; omega) (fun e => by cases e; omega)⟩
theorem Kp.boxed {n₀ Bs : Nat} {W W' : World} {t : TypeId} {v : Value} (h : Kp n₀ Bs W W') (k : Boxed W Bs t v) : Boxed W' Bs t v := h.2.trans k

set_option maxRecDepth 100000 in
set_option maxHeartbeats 2000000 in
theorem back1_in (F : Fence) (n : Nat) (h39 : F.fn 83) (hro : F.round = none) (hn : 1 ≤ n) (l Bs n₀ b off len cap : Nat) (ls : List (List UInt8)) (hsm : ∀ i, (sth ls i).length ≤ 1000) (hlen : len ≤ 1000000) (hb : b < n₀) (J Jx : List Itm → World → Prop)
    (hY : ∀ pre x W, J pre W → pre.length < len → YieldAt F (n - 1) Tryz.prog l (itv x) W fun e W' =>
      (e = .returned (.bool true) ∧ J (pre ++ [x]) W' ∧ Kp n₀ Bs W W') ∨ (e = .returned (.bool false) ∧ Jx (pre ++ [x]) W'))
    (W : World) (hBs : Boxed W Bs 26 (.slice (some ⟨b, off, none⟩) len cap)) (hc : ∀ j, j < len → W.cell? ⟨b, off + j, none⟩ = some (.string (bs (sth ls j)))) (h0 : J [] W) :
    CallsIn F n Tryz.prog 83 #[.func (.yield l) #[] #[], .pointer (some ⟨Bs, 0, none⟩)] W fun e W' => (∃ v, e = .returned v) ∧
      ((∃ ys, ys = upto (fun j => it ls hsm (len - 1 - j)) len ∧ J ys W') ∨ (∃ pre, (∃ k, k ≤ len ∧ pre = upto (fun j => it ls hsm (len - 1 - j)) k) ∧ Jx pre W')) := by
  have HC : Hid (∀ j, j < len → W.cell? ⟨b, off + j, none⟩ = some (.string (bs (sth ls j)))) := hc
  clear hc
  have hcb := hBs.cell
  refine callsIn_of_wp Tryz.func83 rfl h39 ?_ hro
  simp only [Tryz.ntmps83, List.size_toArray, List.length_cons, List.length_nil, Nat.reduceAdd, Nat.reduceSub, Array.replicate_succ, Array.replicate_zero, List.push_toArray, List.append_toArray, List.nil_append, List.cons_append]
  gi_wp2
  gi_loopw [3] (fun i wr => ∃ m : Nat, m ≤ len ∧ i = .int .i64 ((m : Int) - 1) ∧ J (upto (fun j => it ls hsm (len - 1 - j)) (len - m)) wr ∧ Kp n₀ Bs W wr)
    (fun i _ => (intOf i + 1).toNat)
  case atStart => exact ⟨len, Nat.le_refl _, rfl, by rw [Nat.sub_self]; exact h0, kp_refl _ _ _⟩
  case round =>
    obtain ⟨m, hm, rfl, hJs, hnx⟩ := hrel
    have hbx := (hnx.boxed hBs).cell
    cases m with
    | zero =>
      gi_wp2
      go_end0
      exact ⟨⟨_, rfl⟩, .inl ⟨_, rfl, by simpa using hJs⟩⟩
    | succ m =>
      have e0 : ((m + 1 : Nat) : Int) - 1 = (m : Int) := by omega
      rw [e0]
      have hcx : wr.cell? ⟨b, off + m, none⟩ = some (.string (bs (sth ls m))) := (hnx.1.cell (p := ⟨b, off + m, none⟩) hb).trans (HC.out m (by omega))
      have hit : it ls hsm (len - 1 - (len - (m + 1))) = it ls hsm m := by congr 1; omega
      obtain ⟨fn, tmps, assign, body, hy, hR⟩ := hY _ (it ls hsm m) wr hJs (by rw [upto_length]; omega)
      dsimp only [itv, it] at hy
      clear e0
      gi_wp2
      refine hR.mono ?_
      rintro e W3 (⟨rfl, hJ3, hk3⟩ | ⟨rfl, hJx3⟩)
      · gi_wp2
        go_roundw
        case rel => exact ⟨m, by omega, by simp, by rw [show len - m = (len - (m + 1)) + 1 by omega, upto_succ, hit]; exact hJ3, kp_t hnx hk3⟩
        case measure => simp [intOf]
      · gi_wp2
        refine bodyPost_ret (results_none rfl _ _ _) rfl ?_
        exact ⟨⟨_, rfl⟩, .inr ⟨_, ⟨len - (m + 1) + 1, by omega, by rw [upto_succ, hit]⟩, hJx3⟩⟩

set_option maxRecDepth 100000 in
set_option maxHeartbeats 1000000 in
/-- Of no text: no round. -/
theorem back1_nil_in (F : Fence) (n : Nat) (h39 : F.fn 83) (hro : F.round = none) (l Bs : Nat) (a : Option Addr) (c : Nat) (J : List Itm → World → Prop) (W : World) (hBs : W.cell? ⟨Bs, 0, none⟩ = some (.slice a 0 c)) (h0 : J [] W) :
    CallsIn F n Tryz.prog 83 #[.func (.yield l) #[] #[], .pointer (some ⟨Bs, 0, none⟩)] W fun e W' => (∃ v, e = .returned v) ∧ J [] W' := by
  refine callsIn_of_wp Tryz.func83 rfl h39 ?_ hro
  simp only [Tryz.ntmps83, List.size_toArray, List.length_cons, List.length_nil, Nat.reduceAdd, Nat.reduceSub, Array.replicate_succ, Array.replicate_zero, List.push_toArray, List.append_toArray, List.nil_append, List.cons_append]
  gi_wp2
  gi_loopw [3] (fun i wr => i = .int .i64 (-1) ∧ J [] wr) (fun _ _ => 0)
  case atStart => exact ⟨rfl, h0⟩
  case round =>
    obtain ⟨rfl, hJs⟩ := hrel
    gi_wp2
    go_end0
    exact ⟨⟨_, rfl⟩, hJs⟩

set_option maxHeartbeats 1000000 in
/-- slices.Backward: the slice is boxed; what it hands back captures the box. -/
theorem back_in (F : Fence) (n : Nat) (h28 : F.fn 64) (hro : F.round = none) (a : Option Addr) (len cap : Nat) (w : World) :
    CallsIn F n Tryz.prog 64 #[.slice a len cap] w fun e w' => e = .returned (.func (.func 83) #[] #[.pointer (some ⟨w.heap.size, 0, none⟩)]) ∧ w' = w.alloc (.cells #[.slice a len cap] 26) := by
  refine callsIn_of_wp Tryz.func64 rfl h28 ?_ hro
  simp only [Tryz.ntmps64, List.size_toArray, List.length_cons, List.length_nil, Nat.reduceAdd, Nat.reduceSub, Array.replicate_succ, Array.replicate_zero, List.push_toArray, List.append_toArray, List.nil_append, List.cons_append]
  gi_wp2
  go_ret
  exact ⟨rfl, rfl⟩

theorem back_stops (F : Fence) (n : Nat) (h39 : F.fn 83) (hro : F.round = none) (hn : 1 ≤ n) (Bs n₀ : Nat) (a : Option Addr) (c : Nat) (ls : List (List UInt8)) (hsm : ∀ i, (sth ls i).length ≤ 1000) (hlen : ls.length ≤ 1000000) (w0 w : World) (hBs : Bs < w.heap.size) (hn₀ : n₀ = w0.heap.size) (hle : n₀ ≤ w.heap.size) (hw : Below n₀ w0 w)
    (hc : Boxed w Bs 26 (.slice a ls.length c)) (hI : StrsIs w0 (.slice a ls.length c) ls) :
    SeqStopsK F n Tryz.prog 83 #[.pointer (some ⟨Bs, 0, none⟩)] itv (Kp n₀ Bs) (fun ys => its ys = ls.reverse) (fun _ => True) ls.length w := fun l J Jx W hW _ _ hY h0 => by
  have hc' : Boxed W Bs 26 (.slice a ls.length c) := (hW.block Bs hBs).trans hc
  subst hn₀
  have hI2 := hI.later (Nat.le_refl _) (hw.trans (hW.mono hle))
  by_cases h0' : ls = []
  · subst h0'
    exact (back1_nil_in F n h39 hro l Bs a c J W hc'.cell h0).mono fun e W' ⟨he, hj⟩ => ⟨he, .inl ⟨_, rfl, hj⟩⟩
  · obtain ⟨a', c', hv, _, _, hcells⟩ := hI2
    cases hv
    obtain ⟨b, o, rfl, _, hcs⟩ := hcells h0'
    obtain ⟨_, _, hv2, _, _, hcells2⟩ := hI
    cases hv2
    obtain ⟨b2, o2, e2, hb2, _⟩ := hcells2 h0'
    cases e2
    refine (back1_in F n h39 hro hn l Bs w0.heap.size b o ls.length c ls hsm hlen hb2 J Jx hY W hc' hcs h0).mono ?_
    rintro e W' ⟨he, ⟨ys, rfl, hj⟩ | ⟨pre, ⟨k, hk, rfl⟩, hj⟩⟩
    · exact ⟨he, .inl ⟨_, its_all ls hsm, hj⟩⟩
    · exact ⟨he, .inr ⟨_, trivial, hj⟩⟩

end Go.Proofs.YtdlmkienogimgaaGreatDoor

namespace Go.Proofs.YtdlmkienogimgaaGreatDoor
open Go.RowKit Go.Shelf

attribute [local go_sem] Oper.semAt_some

/-- Between two rounds: names so far, how many .. wait, and the slice that is gone through. -/
def Inv (w : World) (sv : Value) (pre : List Itm) (W : World) : Prop :=
  ((∃ v, Boxed W w.heap.size 26 v ∧ W.ownsRow w.heap.size 9 1 v (bws (its pre)).2.length (cellsS (bws (its pre)).2) ∧ True) ∧ Boxed W (w.heap.size + 1) 3 (.int .i64 ((bws (its pre)).1 : Int))) ∧ Below w.heap.size w W ∧ Boxed W (w.heap.size + 1 + 1) 26 sv

theorem inv_own (w : World) (sv : Value) (B : Nat) (hB : w.heap.size ≤ B) : OwnFrom B (Inv w sv) :=
  OwnFrom.and (OwnFrom.and (Own.from (holdsRow_own w.heap.size w.heap.size 26 9 1 (fun pre => (bws (its pre)).2.length) (fun pre => cellsS (bws (its pre)).2) (fun _ _ => True)) _) (Own.from (boxed_own (w.heap.size + 1) 3 fun pre => .int .i64 ((bws (its pre)).1 : Int)) _)) (OwnFrom.and (ownFrom_below (Nat.le_refl _) hB) (Own.from (boxed_own (w.heap.size + 1 + 1) 26 fun _ => sv) _))

theorem its_snoc (pre : List Itm) (x : Itm) : bws (its (pre ++ [x])) = bw (bws (its pre)) x.1.2 := by
  unfold its; rw [List.map_append]; exact bws_snoc _ _

theorem own_still {w w' : World} {base e n : Nat} {v : Value} {xs : List Value} (h : w.ownsRow base e 1 v n xs) (hb : Below w.heap.size w w') : w'.ownsRow base e 1 v n xs := by
  refine ⟨h.1, ?_⟩
  rcases h.2 with h0 | ⟨b, cap, cur, h1, h2, h3, h4⟩
  · exact .inl h0
  · exact .inr ⟨b, cap, cur, h1, h2, by rw [hb.block b (Array.getElem?_eq_some_iff.1 h3).1]; exact h3, h4⟩

theorem undrew {B : Nat} {w w' : World} (h : Below B w.drew w') : Below B w w' := ⟨h.os, h.tape, h.output, h.size, h.block⟩

/-- Nothing changes but how many .. wait. -/
theorem Inv.ups {w W : World} (B : Nat) {sv : Value} {pre : List Itm} (h : Inv w sv pre W) (x : Itm) (u : Nat) (z : Int) (hz : (u : Int) = z) (hb : bw (bws (its pre)) x.1.2 = (u, (bws (its pre)).2)) :
    KeepsFrom B W (W.setCell ⟨w.heap.size + 1, 0, none⟩ (.int .i64 z)) ∧ Kp w.heap.size (w.heap.size + 1 + 1) W (W.setCell ⟨w.heap.size + 1, 0, none⟩ (.int .i64 z)) ∧ Inv w sv (pre ++ [x]) (W.setCell ⟨w.heap.size + 1, 0, none⟩ (.int .i64 z)) := by
  subst hz
  obtain ⟨⟨⟨v, hv, hr, _⟩, hu⟩, hB, hs⟩ := h
  have hs' := hs.other (B' := w.heap.size + 1) (by omega) (.int .i64 (u : Int))
  have hb2 : Below w.heap.size W (W.setCell ⟨w.heap.size + 1, 0, none⟩ (.int .i64 (u : Int))) := (Below.refl w.heap.size W).setCell (p := ⟨w.heap.size + 1, 0, none⟩) (by show w.heap.size ≤ w.heap.size + 1; omega) _
  refine ⟨(KeepsOthers.setCell _ _ _).from _, ⟨hb2, hs'.trans hs.symm⟩, ?_⟩
  unfold Inv
  rw [its_snoc, hb]
  exact ⟨⟨⟨v, hv.other (by omega) _, hr.kept (grownBy_setCell' W _ _) (.inr (hu.not_row (by decide) hr).symm), trivial⟩, hu.set _⟩, hB.trans hb2, hs'⟩
theorem Inv.same {w W : World} (B : Nat) {sv : Value} {pre : List Itm} (h : Inv w sv pre W) (x : Itm) (hb : bw (bws (its pre)) x.1.2 = bws (its pre)) :
    KeepsFrom B W W ∧ Kp w.heap.size (w.heap.size + 1 + 1) W W ∧ Inv w sv (pre ++ [x]) W := by
  refine ⟨KeepsFrom.refl _ _, kp_refl _ _ _, ?_⟩
  unfold Inv at h ⊢
  rw [its_snoc, hb]
  exact h

/-- A name more. -/
theorem Inv.more {w W w' w1 : World} (B : Nat) {sv v v' : Value} {pre : List Itm} (h : Inv w sv pre W) (hv : Boxed W w.heap.size 26 v) (x : Itm) (tmp : Obj) (hb : bw (bws (its pre)) x.1.2 = ((bws (its pre)).1, (bws (its pre)).2 ++ [x.1.2])) (hbc : Below W.heap.size W w')
    (hrow : W.ownsRow w.heap.size 9 1 v (bws (its pre)).2.length (cellsS (bws (its pre)).2)) (hown : w1.ownsRow w.heap.size 9 1 v' ((bws (its pre)).2.length + 1) (cellsS (bws (its pre)).2 ++ [.string (bs x.1.2)])) (hgrow : (w'.alloc tmp).grownBy w1 v.ownBlock) :
    (Boxed w1 w.heap.size 26 v) ∧ KeepsFrom B W (w1.setCell ⟨w.heap.size, 0, none⟩ v') ∧ Kp w.heap.size (w.heap.size + 1 + 1) W (w1.setCell ⟨w.heap.size, 0, none⟩ v') ∧ Inv w sv (pre ++ [x]) (w1.setCell ⟨w.heap.size, 0, none⟩ v') := by
  obtain ⟨⟨_, hu⟩, hB, hs⟩ := h
  have hv2 : Boxed w' w.heap.size 26 v := (hbc.block _ hv.lt).trans hv
  have hu2 : Boxed w' (w.heap.size + 1) 3 _ := (hbc.block _ hu.lt).trans hu
  have hs2 : Boxed w' (w.heap.size + 1 + 1) 26 sv := (hbc.block _ hs.lt).trans hs
  have hrow2 := own_still hrow hbc
  obtain ⟨k1, k2, k3, k4, k5⟩ := hv2.appended (by decide) hrow2 (Nat.le_trans hB.size hbc.size) (Nat.le_refl _) hown hgrow
  have hu3 := ((hu2.alloc tmp).kept hgrow (hu2.not_row (by decide) hrow2)).other (B' := w.heap.size) (by omega) v'
  have hs3 := ((hs2.alloc tmp).kept hgrow (hs2.not_row (by decide) hrow2)).other (B' := w.heap.size) (by omega) v'
  have hk : KeepsOthers W w' := ⟨hbc.size, fun i o hi _ => (hbc.block i (Array.getElem?_eq_some_iff.1 hi).1).trans hi⟩
  have hbb : Below w.heap.size W (w1.setCell ⟨w.heap.size, 0, none⟩ v') := (hbc.mono hB.size).trans k5
  refine ⟨k1, (hk.trans k4).from _, ⟨hbb, hs3.trans hs.symm⟩, ?_⟩
  unfold Inv
  rw [its_snoc, hb]
  refine ⟨⟨⟨v', k2, ?_, trivial⟩, hu3⟩, hB.trans hbb, hs3⟩
  rw [List.length_append, ← cellsS_snoc]
  exact k3

/-- append onto a slice of the call's own, as one step of a region that draws, within a fence. -/
theorem stepIn_append_own {F : Fence} {m : Nat} {P : Program} {ops : Array Oper} {o : Oper} {a : Act} {w : World} {K : Act → World → Prop} {Q : Exit → Act → World → Prop} {E : Prop}
    (hg : o.guard = none) (s x : Operand) (t : TypeId) (hop : o.op = Op.call { callee := Callee.builtin Builtin.append, args := #[s, x], argTypes := #[t, t] })
    (base : Nat) (e : TypeId) (i : TypeInfo) (z : Value) (size bytes : Nat) (ht : P.underlying t = some (.slice e)) (hi : P.info? e = some i) (hz : i.zero = some z)
    (hsize : i.size = size) (hby : i.bytes = bytes) (hzs : z.cells.size = size) (hsz : 0 < size)
    (v : Value) (n : Nat) (xs : List Value) (hs : a.eval s = v) (hown : w.ownsRow base e size v n xs)
    (ad : Addr) (k c : Nat) (news : List Value) (hx : a.eval x = .slice (some ad) k c) (hl : news.length = k * size) (hnews : ∀ j u, news[j]? = some u → w.cell? (ad.add j) = some u) (h1 : ∀ u ∈ news, u.oneCell' = true)
    (h63 : n + k ≤ maxLen) (hbytes : (n + k) * bytes ≤ 140737488355328) (hbase : base ≤ w.heap.size)
    (hK : ∀ v' w', w'.ownsRow base e size v' (n + k) (xs ++ news) → w.grownBy w' v.ownBlock → K (a.put o.dst v') w') :
    if Region.wanted o (yielded ops a.tmps) = true then Oper.wpIn F m P o a w K Q else E := by
  have hw : Region.wanted o (yielded ops a.tmps) = true := by simp [Region.wanted, hg]
  rw [if_pos hw]
  obtain ⟨v', w', hrun, r1, r2, _⟩ := run_append_own (P := P) w base t o.type e i z size bytes ht hi hz hsize hby hzs hsz v n xs hown ad k c news hl hnews h1 h63 hbytes hbase
  unfold Oper.wpIn
  refine ⟨?_, ?_⟩
  · simp [Oper.about, hop, resolve, Target.leads, Sem.run_pure]
  · rw [Oper.semAt_plain F _ _ (by rw [hop]; intro c hc'; cases hc')]
    simp [execOp, hop, resolve, invoke, builtin, hs, hx, hrun, Result.andThen]
    exact hK _ _ r1 r2

set_option maxRecDepth 100000 in
set_option maxHeartbeats 2000000 in
theorem left_any (w : World) (a : Option Addr) (len cap : Nat) (ls : List (List UInt8)) (hx : StrsIs w (.slice a len cap) ls) (hsm : ∀ l ∈ ls, l.length ≤ 1000) (hl : ls.length ≤ 1000) :
    Calls Tryz.prog 38 #[.slice a len cap] w fun e w' => ∃ v', e = .returned v' ∧ StrsIs w' v' (fol ls) ∧ Below w.heap.size w w' := by
  have hlen : len = ls.length := by obtain ⟨_, _, h, _⟩ := hx; cases h; rfl
  subst hlen
  obtain ⟨i0, hi, hz0, hz1, hz2⟩ := info_parts Tryz.info9
  refine (callsIn_wide (n := 5)).1 ?_
  refine callsIn_of_wp_marks Tryz.func38 rfl trivial ?_ rfl
  simp only [Tryz.ntmps38, List.size_toArray, List.length_cons, List.length_nil, Nat.reduceAdd, Nat.reduceSub, Array.replicate_succ, Array.replicate_zero, List.push_toArray, List.append_toArray, List.nil_append, List.cons_append]
  gi_wp2_with (refine ⟨trivial, ?_⟩; gi_at_call 64; refine (back_in Fence.wide _ trivial rfl _ _ _ _).mono ?_; rintro e w' ⟨rfl, rfl⟩)
  have bN := Boxed.new w 26 (.slice none 0 0)
  have bU := Boxed.new (w.alloc (.cells #[.slice none 0 0] 26)) 3 (.int .i64 0)
  have bS := Boxed.new ((w.alloc (.cells #[.slice none 0 0] 26)).alloc (.cells #[.int .i64 0] 3)) 26 (.slice a ls.length cap)
  rw [World.size_alloc] at bU
  rw [World.size_alloc, World.size_alloc] at bS
  have hsm' := sth_small hsm
  obtain ⟨W0, hW0⟩ : ∃ W0, ((w.alloc (.cells #[.slice none 0 0] 26)).alloc (.cells #[.int .i64 0] 3)).alloc (.cells #[.slice a ls.length cap] 26) = W0 := ⟨_, rfl⟩
  have hB0 : Below w.heap.size w W0 := by rw [← hW0]; exact (((Below.refl _ w).alloc (Nat.le_refl _) _).alloc (by simp) _).alloc (by simp; omega) _
  have hsz : W0.heap.size = w.heap.size + 1 + 1 + 1 := by rw [← hW0]; simp
  have bN' : Boxed W0 w.heap.size 26 (.slice none 0 0) := by rw [← hW0]; exact (bN.alloc _).alloc _
  have bU' : Boxed W0 (w.heap.size + 1) 3 (.int .i64 0) := by rw [← hW0]; exact bU.alloc _
  rw [hW0] at bS ⊢
  clear bN bU hW0
  refine wpIn_rangeFunc_ownG rfl (by omega) (gf := 83) (lb := #[.pointer (some ⟨w.heap.size + 1 + 1, 0, none⟩)]) rfl trivial (enters_of Tryz.func83 (by kernel_rfl) rfl)
    (back_stops Fence.wide _ trivial rfl (by omega) (w.heap.size + 1 + 1) w.heap.size a cap ls hsm' (by omega) w W0 (by omega) rfl (by omega) hB0 bS hx) kp_t (kp_b (by omega) (by omega)) (Below.refl _ _) (fun _ => rfl)
    (Inv w (.slice a ls.length cap)) (fun _ _ _ => False) (inv_own w _ _ (by omega)) (fun _ _ _ _ _ hs _ _ => hs)
    ⟨⟨⟨_, bN', World.ownsRow_nil _ _ _ _, trivial⟩, bU'⟩, hB0, bS⟩
    (fun x => { tmps := #[.slice a ls.length cap, undef, .slice none 0 0, .pointer (some ⟨w.heap.size, 0, none⟩), .pointer (some ⟨w.heap.size + 1, 0, none⟩), undef, .string (bs x.1.2), .slice a ls.length cap, .func (.func 83) #[] #[.pointer (some ⟨w.heap.size + 1 + 1, 0, none⟩)], .int .i64 x.1.1, .string (bs x.1.2), undef, undef, undef, undef, undef, undef, undef, undef, undef, undef, undef, undef, undef, undef, undef, undef, undef, undef, undef, undef, undef, undef], defers := [] }) ?assign ?body ?done ?stop
  case assign =>
    intro l x W K hK
    unfold itv
    gi_wp2
    exact hK
  case body =>
    rintro l pre x W hI hlt
    have HI : Hid (Inv w (.slice a ls.length cap) pre W) := hI
    obtain ⟨⟨⟨v, hv, hrow, _⟩, hu⟩, hB, hS⟩ := hI
    have hcv := hv.cell
    have hcu := hu.cell
    have hfu := hu.frozen
    have hul : (bws (its pre)).1 ≤ 1000 := by have := (bws_len (its pre)).1; unfold its at this ⊢; rw [List.length_map] at this; omega
    have hnl : (bws (its pre)).2.length ≤ 1000 := by have := (bws_len (its pre)).2; unfold its at this ⊢; rw [List.length_map] at this; omega
    have e3 : (bs x.1.2).toList = x.1.2 := by rw [ByteArray.toList_eq, data_bs]
    have HN : Hid _ := fun (W : World) => name_any W (bs x.1.2) (small_data (Nat.le_trans x.2 (by decide)))
    rw [data_bs] at HN
    obtain ⟨u, hue⟩ : ∃ u, (bws (its pre)).1 = u := ⟨_, rfl⟩
    rw [hue] at hcu hul
    by_cases h1 : x.1.2 = [46, 46]
    · have HU : Hid _ := HI.out.ups W0.heap.size x (u + 1) ((u : Int) + 1) (by simp) (by rw [bw, if_pos h1, hue])
      have e4 : ((bs x.1.2).toList == [46, 46]) = true := by rw [e3, h1]; rfl
      clear e3 HN HI hrow hv hu hS h1
      gi_wp2
      exact HU.out
    · have e4 : ((bs x.1.2).toList == [46, 46]) = false := by rw [e3]; simp [h1]
      clear e3
      cases h2 : isN x.1.2 with
      | false =>
        rw [h2] at HN
        have HU : Hid _ := HI.out.same W0.heap.size x (by rw [bw, if_neg h1, if_neg (by rw [h2]; simp)])
        clear HI hrow hv hu hS h1 h2
        gi_wp2_with (refine ⟨trivial, ?_⟩; gi_at_call 63; refine (CallsIn.inRound l (callsIn_wide.2 (HN.out W))).mono ?_; rintro e w' ⟨rfl, rfl⟩)
        exact HU.out
      | true =>
        rw [h2] at HN
        by_cases h3 : 0 < u
        · have HU : Hid _ := HI.out.ups W0.heap.size x (u - 1) ((u : Int) - 1) (by omega) (by rw [bw, if_neg h1, if_pos h2, hue, if_pos h3])
          clear HI hrow hv hu hS h1 h2
          gi_wp2_with (refine ⟨trivial, ?_⟩; gi_at_call 63; refine (CallsIn.inRound l (callsIn_wide.2 (HN.out W))).mono ?_; rintro e w' ⟨rfl, rfl⟩)
          exact HU.out
        · have hu0 : u = 0 := by omega
          subst hu0
          gi_wp2_with (refine ⟨trivial, ?_⟩; gi_at_call 63; refine (CallsIn.inRound l (callsIn_wide.2 (HN.out W))).mono ?_; rintro e w' ⟨rfl, rfl⟩)
          have hmx : Tryz.prog.follows .mixedOrders = true := by kernel_rfl
          have hxs : (bs x.1.2).size ≤ 1000000 := by rw [Lib.size_eq, data_bs]; exact Nat.le_trans x.2 (by decide)
          have hbw : bw (bws (its pre)) x.1.2 = ((bws (its pre)).1, (bws (its pre)).2 ++ [x.1.2]) := by rw [bw, if_neg h1, if_pos h2, hue]; rfl
          clear h1 h2 h3 HN
          refine wpIn_region_any (by assumption) ?_
          change wpAnyIn _ _ _ _ _ _ _ _ _ (World.drew _)
          refine wpAnyIn_ready (rs := [0, 1]) (by kernel_rfl) (by simp) ?_
          refine AllReadyIn.cons rfl (fun K hK => ?_) ?_
          · go_simp
            refine hK _ _ ?_
            clear hK K
            refine wpAnyIn_ready (rs := [1]) (by kernel_rfl) (by simp) ?_
            refine AllReadyIn.cons rfl (fun K hK => ?_) ?_
            · go_simp
              refine hK _ _ ?_
              clear hK K
              refine wpAnyIn_ready (rs := [2]) (by kernel_rfl) (by simp) ?_
              refine AllReadyIn.cons rfl (fun K hK => ?_) ?_
              · go_simp
                refine ⟨trivial, ?_⟩
                refine (CallsIn.inRound l (callsIn_wide.2 (clone_any _ (bs x.1.2) hxs))).mono ?_
                rintro e w' ⟨rfl, hbc⟩
                replace hbc := undrew hbc
                have hv2 : Boxed w' w.heap.size 26 v := (hbc.block _ hv.lt).trans hv
                have hcv2 := hv2.cell
                have hcv3 := (hv2.alloc (.cells #[.string (bs x.1.2)] 9)).cell
                have hrow2 := own_still hrow hbc
                dsimp only
                refine hK _ _ ?_
                clear hK K
                refine wpAnyIn_ready (rs := [3]) (by kernel_rfl) (by simp) ?_
                refine AllReadyIn.cons rfl (fun K hK => ?_) ?_
                · go_simp
                  refine hK _ _ ?_
                  clear hK K
                  refine wpAnyIn_ready (rs := [4]) (by kernel_rfl) (by simp) ?_
                  refine AllReadyIn.cons rfl (fun K hK => ?_) ?_
                  · refine stepIn_append_own rfl (.tmp 11) (.tmp 14) 26 rfl w.heap.size 9 i0 (.string ByteArray.empty) 1 16 Tryz.underlying26 hi hz0 hz1 hz2 rfl (by decide) v (bws (its pre)).2.length (cellsS (bws (its pre)).2) (by rfl) (hrow2.alloc _) ⟨w'.heap.size, 0, none⟩ 1 1 [.string (bs x.1.2)] (by rfl) rfl (cell_one_new _ _ _) (by simp [Value.oneCell']) (by unfold maxLen; omega) (by omega) (by have := hbc.size; have := hB.size; simp; omega) ?_
                    intro v' w1 hown' hgrow
                    obtain ⟨g', cap', rfl⟩ := ownsRow_succ hown'
                    obtain ⟨k1, k2⟩ := HI.out.more W0.heap.size hv x _ hbw hbc hrow hown' hgrow
                    have HK2 : Hid _ := k2
                    have hc1 := k1.cell
                    have hf1 := k1.frozen
                    clear k2
                    refine hK _ _ ?_
                    clear hK K
                    refine wpAnyIn_ready (rs := [5]) (by kernel_rfl) (by simp) ?_
                    refine AllReadyIn.cons rfl (fun K hK => ?_) ?_
                    · go_simp
                      refine hK _ _ ?_
                      clear hK K
                      refine wpAnyIn_done (by kernel_rfl) ?_ _
                      gi_wp2
                      exact HK2.out
                    exact AllReadyIn.nil
                  exact AllReadyIn.nil
                exact AllReadyIn.nil
              exact AllReadyIn.nil
            exact AllReadyIn.nil
          refine AllReadyIn.cons rfl (fun K hK => ?_) ?_
          · go_simp
            refine hK _ _ ?_
            clear hK K
            refine wpAnyIn_ready (rs := [0, 2]) (by kernel_rfl) (by simp) ?_
            refine AllReadyIn.cons rfl (fun K hK => ?_) ?_
            · go_simp
              refine hK _ _ ?_
              clear hK K
              refine wpAnyIn_ready (rs := [2]) (by kernel_rfl) (by simp) ?_
              refine AllReadyIn.cons rfl (fun K hK => ?_) ?_
              · go_simp
                refine ⟨trivial, ?_⟩
                refine (CallsIn.inRound l (callsIn_wide.2 (clone_any _ (bs x.1.2) hxs))).mono ?_
                rintro e w' ⟨rfl, hbc⟩
                replace hbc := undrew hbc
                have hv2 : Boxed w' w.heap.size 26 v := (hbc.block _ hv.lt).trans hv
                have hcv2 := hv2.cell
                have hcv3 := (hv2.alloc (.cells #[.string (bs x.1.2)] 9)).cell
                have hrow2 := own_still hrow hbc
                dsimp only
                refine hK _ _ ?_
                clear hK K
                refine wpAnyIn_ready (rs := [3]) (by kernel_rfl) (by simp) ?_
                refine AllReadyIn.cons rfl (fun K hK => ?_) ?_
                · go_simp
                  refine hK _ _ ?_
                  clear hK K
                  refine wpAnyIn_ready (rs := [4]) (by kernel_rfl) (by simp) ?_
                  refine AllReadyIn.cons rfl (fun K hK => ?_) ?_
                  · refine stepIn_append_own rfl (.tmp 11) (.tmp 14) 26 rfl w.heap.size 9 i0 (.string ByteArray.empty) 1 16 Tryz.underlying26 hi hz0 hz1 hz2 rfl (by decide) v (bws (its pre)).2.length (cellsS (bws (its pre)).2) (by rfl) (hrow2.alloc _) ⟨w'.heap.size, 0, none⟩ 1 1 [.string (bs x.1.2)] (by rfl) rfl (cell_one_new _ _ _) (by simp [Value.oneCell']) (by unfold maxLen; omega) (by omega) (by have := hbc.size; have := hB.size; simp; omega) ?_
                    intro v' w1 hown' hgrow
                    obtain ⟨g', cap', rfl⟩ := ownsRow_succ hown'
                    obtain ⟨k1, k2⟩ := HI.out.more W0.heap.size hv x _ hbw hbc hrow hown' hgrow
                    have HK2 : Hid _ := k2
                    have hc1 := k1.cell
                    have hf1 := k1.frozen
                    clear k2
                    refine hK _ _ ?_
                    clear hK K
                    refine wpAnyIn_ready (rs := [5]) (by kernel_rfl) (by simp) ?_
                    refine AllReadyIn.cons rfl (fun K hK => ?_) ?_
                    · go_simp
                      refine hK _ _ ?_
                      clear hK K
                      refine wpAnyIn_done (by kernel_rfl) ?_ _
                      gi_wp2
                      exact HK2.out
                    exact AllReadyIn.nil
                  exact AllReadyIn.nil
                exact AllReadyIn.nil
              exact AllReadyIn.nil
            refine AllReadyIn.cons rfl (fun K hK => ?_) ?_
            · go_simp
              refine ⟨trivial, ?_⟩
              refine (CallsIn.inRound l (callsIn_wide.2 (clone_any _ (bs x.1.2) hxs))).mono ?_
              rintro e w' ⟨rfl, hbc⟩
              replace hbc := undrew hbc
              have hv2 : Boxed w' w.heap.size 26 v := (hbc.block _ hv.lt).trans hv
              have hcv2 := hv2.cell
              have hcv3 := (hv2.alloc (.cells #[.string (bs x.1.2)] 9)).cell
              have hrow2 := own_still hrow hbc
              dsimp only
              refine hK _ _ ?_
              clear hK K
              refine wpAnyIn_ready (rs := [0, 3]) (by kernel_rfl) (by simp) ?_
              refine AllReadyIn.cons rfl (fun K hK => ?_) ?_
              · go_simp
                refine hK _ _ ?_
                clear hK K
                refine wpAnyIn_ready (rs := [3]) (by kernel_rfl) (by simp) ?_
                refine AllReadyIn.cons rfl (fun K hK => ?_) ?_
                · go_simp
                  refine hK _ _ ?_
                  clear hK K
                  refine wpAnyIn_ready (rs := [4]) (by kernel_rfl) (by simp) ?_
                  refine AllReadyIn.cons rfl (fun K hK => ?_) ?_
                  · refine stepIn_append_own rfl (.tmp 11) (.tmp 14) 26 rfl w.heap.size 9 i0 (.string ByteArray.empty) 1 16 Tryz.underlying26 hi hz0 hz1 hz2 rfl (by decide) v (bws (its pre)).2.length (cellsS (bws (its pre)).2) (by rfl) (hrow2.alloc _) ⟨w'.heap.size, 0, none⟩ 1 1 [.string (bs x.1.2)] (by rfl) rfl (cell_one_new _ _ _) (by simp [Value.oneCell']) (by unfold maxLen; omega) (by omega) (by have := hbc.size; have := hB.size; simp; omega) ?_
                    intro v' w1 hown' hgrow
                    obtain ⟨g', cap', rfl⟩ := ownsRow_succ hown'
                    obtain ⟨k1, k2⟩ := HI.out.more W0.heap.size hv x _ hbw hbc hrow hown' hgrow
                    have HK2 : Hid _ := k2
                    have hc1 := k1.cell
                    have hf1 := k1.frozen
                    clear k2
                    refine hK _ _ ?_
                    clear hK K
                    refine wpAnyIn_ready (rs := [5]) (by kernel_rfl) (by simp) ?_
                    refine AllReadyIn.cons rfl (fun K hK => ?_) ?_
                    · go_simp
                      refine hK _ _ ?_
                      clear hK K
                      refine wpAnyIn_done (by kernel_rfl) ?_ _
                      gi_wp2
                      exact HK2.out
                    exact AllReadyIn.nil
                  exact AllReadyIn.nil
                exact AllReadyIn.nil
              refine AllReadyIn.cons rfl (fun K hK => ?_) ?_
              · go_simp
                refine hK _ _ ?_
                clear hK K
                refine wpAnyIn_ready (rs := [0]) (by kernel_rfl) (by simp) ?_
                refine AllReadyIn.cons rfl (fun K hK => ?_) ?_
                · go_simp
                  refine hK _ _ ?_
                  clear hK K
                  refine wpAnyIn_ready (rs := [4]) (by kernel_rfl) (by simp) ?_
                  refine AllReadyIn.cons rfl (fun K hK => ?_) ?_
                  · refine stepIn_append_own rfl (.tmp 11) (.tmp 14) 26 rfl w.heap.size 9 i0 (.string ByteArray.empty) 1 16 Tryz.underlying26 hi hz0 hz1 hz2 rfl (by decide) v (bws (its pre)).2.length (cellsS (bws (its pre)).2) (by rfl) (hrow2.alloc _) ⟨w'.heap.size, 0, none⟩ 1 1 [.string (bs x.1.2)] (by rfl) rfl (cell_one_new _ _ _) (by simp [Value.oneCell']) (by unfold maxLen; omega) (by omega) (by have := hbc.size; have := hB.size; simp; omega) ?_
                    intro v' w1 hown' hgrow
                    obtain ⟨g', cap', rfl⟩ := ownsRow_succ hown'
                    obtain ⟨k1, k2⟩ := HI.out.more W0.heap.size hv x _ hbw hbc hrow hown' hgrow
                    have HK2 : Hid _ := k2
                    have hc1 := k1.cell
                    have hf1 := k1.frozen
                    clear k2
                    refine hK _ _ ?_
                    clear hK K
                    refine wpAnyIn_ready (rs := [5]) (by kernel_rfl) (by simp) ?_
                    refine AllReadyIn.cons rfl (fun K hK => ?_) ?_
                    · go_simp
                      refine hK _ _ ?_
                      clear hK K
                      refine wpAnyIn_done (by kernel_rfl) ?_ _
                      gi_wp2
                      exact HK2.out
                    exact AllReadyIn.nil
                  exact AllReadyIn.nil
                exact AllReadyIn.nil
              exact AllReadyIn.nil
            exact AllReadyIn.nil
          exact AllReadyIn.nil
  case done =>
    rintro D ys W hD hys ⟨⟨⟨v, hv, hrow, _⟩, hu⟩, hB, hS⟩ hK
    have hnl : (bws (its ys)).2.length ≤ 1000 := by have := (bws_len (its ys)).2; rw [hys] at this ⊢; simp at this; omega
    rw [hys, bws_back] at hrow hnl
    dsimp only at hrow hnl
    have hc := hv.cell
    have HR : Hid _ := fun (_ : Nat) => rev_any W w.heap.size _ v _ hrow (by omega)
    gi_wp2_with (refine ⟨trivial, ?_⟩; gi_at_call 66; refine (callsIn_wide.2 (HR.out 0)).mono ?_; rintro e w' ⟨rfl, hrow2, hgr⟩; have hv2 := hv.kept hgr (hv.not_row (by decide) hrow); have hc2 := hv2.cell)
    have hK' : w'.heap[D]? = some (.deferred (some [])) := by
      refine (hgr.block D (Array.getElem?_eq_some_iff.1 hK).1 (fun e => ?_)).trans hK
      rcases hrow.2 with ⟨h0, _⟩ | ⟨g, cap, cur, h0, _, hg, _⟩
      · rw [h0] at e; cases e
      · rw [h0] at e
        simp [Value.ownBlock] at e
        subst e
        rw [hK] at hg; cases hg
    have hB2 : Below w.heap.size w w' := hB.grown hgr hB.size (fun k e => (hrow.lt k e).1)
    refine ⟨by simp, .inl ⟨_, _, rfl, run_takeDeferred hK', ?_⟩⟩
    rw [List.reverse_reverse, bk_fol] at hrow2
    exact ⟨_, results_tmp rfl _ _ _, v, rfl, strs_own (ownsRow_putObj hrow2 _ hK' rfl), hB2.trans (belowK_b (w := w) (Nat.le_refl _) w' D _ _ (by omega) hK' rfl rfl)⟩
  case stop =>
    rintro D c pre W _ _ h _
    exact h.elim

end Go.Proofs.YtdlmkienogimgaaGreatDoor
