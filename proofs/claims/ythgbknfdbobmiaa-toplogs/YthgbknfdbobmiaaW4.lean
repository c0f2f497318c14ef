/- This text proves what the library's IndexFunc tells of notes and what DeleteFunc leaves of them, with the question of package undo whether a note is of one turn: those of the others, in their order; nothing is turned but the notes that were handed in; the conditions are that the notes lie there in memory of the caller's own, and the turn's number elsewhere. -/
import Derived.Test.YthgbknfdbobmiaaW3
import Derived.OneCell
import Derived.Lib.SliceRun
import Derived.Laws.IdiomCopy
namespace Go.Proofs.Ythgbknfdbobmiaa
open Go.RowKit Go.Deep

/-- The question that the closure asks: the turn's number lies there. -/
def AskT (w : World) (B : Nat) (t : Int) : Prop := w.cell? ⟨B, 0, none⟩ = some (.int .i64 t)
theorem AskT.lt {w : World} {B : Nat} {t : Int} (h : AskT w B t) : B < w.heap.size := World.block_lt_of_cell? _ _ h
theorem AskT.frame {w w' : World} {B : Nat} {t : Int} (h : AskT w B t) (e1 : w'.heap[B]? = w.heap[B]?) : AskT w' B t := (World.cell?_of_block (w := w) (a := ⟨B, 0, none⟩) e1).trans h
theorem AskT.later {w w' : World} {B : Nat} {t : Int} (h : AskT w B t) (hb : Below w.heap.size w w') : AskT w' B t := h.frame (hb.block B h.lt)

theorem Try.enterAskT : ∀ args w, (callFunc 33 args).run Try.prog w = .ok (.enter 33 args) w := fun _ _ => by rfl

set_option maxHeartbeats 1000000 in
theorem askt_any (w : World) (B : Nat) (t : Int) (h : AskT w B t) (x : Nt) :
    Calls Try.prog 33 #[.agg #[.int .i64 (x.t : Int), .int .i64 (x.b : Int), .int .i64 (x.w : Int)], .pointer (some ⟨B, 0, none⟩)] w fun e w' => e = .returned (.bool (ofT t x)) ∧ Below w.heap.size w w' := by
  obtain ⟨T, b, v⟩ := x
  have h1 : (w.alloc (.cells #[.int .i64 (T : Int), .int .i64 (b : Int), .int .i64 (v : Int)] 69)).cell? ⟨B, 0, none⟩ = some (.int .i64 t) := h.later (below_one _ _)
  have HB : Hid _ := below_one w (.cells #[.int .i64 (T : Int), .int .i64 (b : Int), .int .i64 (v : Int)] 69)
  clear h
  unfold ofT
  by_cases e : (T : Int) = t
  · subst e
    have e2 : decide ((T : Int) = (T : Int)) = true := by simp
    show Calls _ _ _ _ fun e w' => e = .returned (.bool (decide ((T : Int) = (T : Int)))) ∧ _
    rw [e2]
    go_enter Try.func33, Try.ntmps33
    go_wp2
    go_ret
    exact ⟨rfl, HB.out⟩
  · have e2 : decide ((T : Int) = t) = false := by simp [e]
    have e3 : ((T : Int) == t) = false := by simp [e]
    show Calls _ _ _ _ fun e w' => e = .returned (.bool (decide ((T : Int) = t))) ∧ _
    rw [e2]
    go_enter Try.func33, Try.ntmps33
    go_wp2
    go_ret
    exact ⟨rfl, HB.out⟩

set_option maxHeartbeats 2000000 in
set_option maxRecDepth 100000 in
theorem indext_any (w : World) (v : Value) (M : List Nt) (hx : NtsIs w v M) (B : Nat) (t : Int) (hA : AskT w B t) :
    Calls Try.prog 40 #[v, .func (.func 33) #[] #[.pointer (some ⟨B, 0, none⟩)]] w fun e w' => (∃ i : Int, e = .returned (.int .i64 i) ∧
      ((i = -1 ∧ ∀ j, j < M.length → (!ofT t (ntAt M j)) = true) ∨ ∃ k : Nat, i = (k : Int) ∧ k < M.length ∧ (!ofT t (ntAt M k)) = false ∧ ∀ j, j < k → (!ofT t (ntAt M j)) = true)) ∧ Below w.heap.size w w' := by
  obtain ⟨a, c, b, rfl, hm, ha, hb, hc⟩ := hx.where
  obtain ⟨n, hn⟩ : ∃ n, n = M.length := ⟨_, rfl⟩
  have HN : Hid (n = M.length) := hn
  rw [← hn] at hm ha hb ⊢
  unfold maxLen at hm
  have HC : Hid (∀ i, i < n → w.cell? ⟨b, i * 3, none⟩ = some (.int .i64 ((ntAt M i).t : Int)) ∧ w.cell? ⟨b, i * 3 + 1, none⟩ = some (.int .i64 ((ntAt M i).b : Int)) ∧ w.cell? ⟨b, i * 3 + 2, none⟩ = some (.int .i64 ((ntAt M i).w : Int))) := fun i hi => hc i (by omega)
  have HA : Hid (AskT w B t) := hA
  have e30 := Try.enterAskT
  clear hc hn hx hA
  go_enter Try.func40, Try.ntmps40
  go_wp2
  go_loopw [5, 8] (fun _ i wr => ∃ k : Nat, k ≤ n ∧ i = .int .i64 k ∧ Below w.heap.size w wr ∧ ∀ j, j < k → (!ofT t (ntAt M j)) = true) (fun _ i _ => n - (intOf i).toNat)
  case atStart => exact ⟨0, Nat.zero_le _, rfl, Below.refl _ _, fun j hj => absurd hj (Nat.not_lt_zero _)⟩
  case round =>
    obtain ⟨k, hk, rfl, hbr, hall⟩ := hrel
    have HL : Hid (∀ j, j < k → (!ofT t (ntAt M j)) = true) := hall
    have HBr : Hid (Below w.heap.size w wr) := hbr
    clear hall
    by_cases hlt : k < n
    · have haa := ha (by omega)
      subst haa
      obtain ⟨q0, q1, q2⟩ := HC.out k hlt
      have c0 : wr.cell? ⟨b, k * 3, none⟩ = some (.int .i64 ((ntAt M k).t : Int)) := by rw [hbr.cell (p := ⟨b, k * 3, none⟩) (hb (by omega))]; exact q0
      have c1 : wr.cell? ⟨b, k * 3 + 1, none⟩ = some (.int .i64 ((ntAt M k).b : Int)) := by rw [hbr.cell (p := ⟨b, k * 3 + 1, none⟩) (hb (by omega))]; exact q1
      have c2 : wr.cell? ⟨b, k * 3 + 2, none⟩ = some (.int .i64 ((ntAt M k).w : Int)) := by rw [hbr.cell (p := ⟨b, k * 3 + 2, none⟩) (hb (by omega))]; exact q2
      clear q0 q1 q2 hbr
      have HK : Hid _ := fun (_ : Nat) => askt_any wr B t (HA.out.later HBr.out) (ntAt M k)
      obtain ⟨x, hx⟩ : ∃ x, ofT t (ntAt M k) = x := ⟨_, rfl⟩
      rw [hx] at HK
      have HX : Hid (ofT t (ntAt M k) = x) := hx
      clear hx
      generalize ((ntAt M k).t : Int) = T1 at c0 HK
      generalize ((ntAt M k).b : Int) = B1 at c1 HK
      generalize ((ntAt M k).w : Int) = V1 at c2 HK
      cases x with
      | true =>
        go_wp2_with (go_at_call 33; refine (HK.out 0).mono ?_; rintro e w' ⟨rfl, hb2⟩)
        go_ret
        exact ⟨⟨_, rfl, .inr ⟨k, rfl, hlt, by rw [HX.out]; rfl, HL.out⟩⟩, Below.next HBr.out hb2⟩
      | false =>
        go_wp2_with (go_at_call 33; refine (HK.out 0).mono ?_; rintro e w' ⟨rfl, hb2⟩)
        have HB2 : Hid (Below w.heap.size w w') := Below.next HBr.out hb2
        clear hb2
        go_roundw
        case rel =>
          refine ⟨k + 1, by omega, by go_num, HB2.out, fun j hj => ?_⟩
          by_cases e : j = k
          · subst e; rw [HX.out]; rfl
          · exact HL.out j (by omega)
        case measure => simp [intOf]; omega
    · have hkn : k = n := by omega
      subst hkn
      clear hbr
      go_wp2
      go_ret
      exact ⟨⟨_, rfl, .inl ⟨rfl, HL.out⟩⟩, HBr.out⟩

theorem all_nts {M : List Nt} {p : Nt → Bool} (h : ∀ j, j < M.length → p (ntAt M j) = true) : ∀ r ∈ M, p r = true := fun r hr => by
  obtain ⟨j, hj, rfl⟩ := List.mem_iff_getElem.1 hr
  have := h j hj
  rwa [ntAt_lt hj] at this

/-- Notes on the way: what is left of the first j lies ahead, the others as they were. -/
structure MidU (M : List Nt) (p : Nt → Bool) (R : List Nt) (i j : Nat) : Prop where
  len : R.length = M.length
  num : i = ((M.take j).filter p).length
  front : R.take i = (M.take j).filter p
  rest : ∀ q, j ≤ q → q < M.length → ntAt R q = ntAt M q
  lt : i < j
theorem midu_start {M : List Nt} {p : Nt → Bool} {k : Nat} (hk : k < M.length) (hl : ∀ j, j < k → p (ntAt M j) = true) (hn : p (ntAt M k) = false) : MidU M p M k (k + 1) := by
  have h1 : (M.take (k + 1)).filter p = M.take k := by
    rw [List.take_succ_eq_append_getElem hk, List.filter_append, ← ntAt_lt hk]
    have : (M.take k).filter p = M.take k := List.filter_eq_self.2 fun r hr => by
      obtain ⟨j, hj, rfl⟩ := List.mem_iff_getElem.1 hr
      rw [List.length_take] at hj
      have := hl j (by omega)
      rw [ntAt_lt (by omega)] at this
      rw [List.getElem_take]
      exact this
    rw [this, List.filter_cons_of_neg (by rw [hn]; decide), List.filter_nil, List.append_nil]
  exact ⟨rfl, by rw [h1, List.length_take]; omega, h1.symm, fun _ _ _ => rfl, by omega⟩
theorem MidU.no {M R : List Nt} {p : Nt → Bool} {i j : Nat} (h : MidU M p R i j) (hj : j < M.length) (hp : p (ntAt M j) = false) : MidU M p R i (j + 1) := by
  have h1 : (M.take (j + 1)).filter p = (M.take j).filter p := by
    rw [List.take_succ_eq_append_getElem hj, List.filter_append, ← ntAt_lt hj, List.filter_cons_of_neg (by rw [hp]; decide), List.filter_nil, List.append_nil]
  exact ⟨h.len, by rw [h1]; exact h.num, by rw [h1]; exact h.front, fun q hq hl => h.rest q (by omega) hl, by have := h.lt; omega⟩
theorem MidU.yes {M R : List Nt} {p : Nt → Bool} {i j : Nat} (h : MidU M p R i j) (hj : j < M.length) (hp : p (ntAt M j) = true) : MidU M p (R.set i (ntAt M j)) (i + 1) (j + 1) := by
  have hi := h.lt
  have hl := h.len
  have h1 : (M.take (j + 1)).filter p = (M.take j).filter p ++ [ntAt M j] := by
    rw [List.take_succ_eq_append_getElem hj, List.filter_append, ← ntAt_lt hj, List.filter_cons_of_pos hp, List.filter_nil]
  refine ⟨by rw [List.length_set]; exact hl, ?_, ?_, fun q hq hlt => ?_, by omega⟩
  · rw [h1, List.length_append, ← h.num]; rfl
  · rw [h1, ← h.front, List.take_succ_eq_append_getElem (by rw [List.length_set]; omega), List.getElem_set_self, List.take_set_of_le (Nat.le_refl _)]
  · rw [← h.rest q (by omega) hlt]
    unfold ntAt
    simp only [List.getD_eq_getElem?_getD]
    rw [List.getElem?_set_ne (by omega)]
theorem MidU.end' {M R : List Nt} {p : Nt → Bool} {i j : Nat} (h : MidU M p R i j) (hj : j = M.length) : R.take i = M.filter p ∧ i = (M.filter p).length := by
  subst hj
  have h1 := h.front
  have h2 := h.num
  rw [List.take_length] at h1 h2
  exact ⟨h1, h2⟩

theorem ntc_set3 : ∀ (R : List Nt) (i : Nat) (x : Nt), i < R.length → (((ntc R).set (i * 3) (.int .i64 (x.t : Int))).set (i * 3 + 1) (.int .i64 (x.b : Int))).set (i * 3 + 2) (.int .i64 (x.w : Int)) = ntc (R.set i x)
  | [], i, x, h => by simp at h
  | y :: R, 0, x, _ => by simp [ntc]
  | y :: R, i + 1, x, h => by
    have := ntc_set3 R i x (by simpa using h)
    simp only [ntc, show (i + 1) * 3 = i * 3 + 1 + 1 + 1 by omega, List.set_cons_succ, this]

end Go.Proofs.Ythgbknfdbobmiaa
