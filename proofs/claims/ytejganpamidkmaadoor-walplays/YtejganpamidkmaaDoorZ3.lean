/- This text proves what the library's IndexFunc and ContainsFunc tell of records, and what DeleteFunc leaves of them, with the question of package wal whether a record's turn is open; nothing is turned but the records that were handed in; the conditions are that the records lie there, and what the question reads. -/
import Derived.Test.YtejganpamidkmaaDoorZ2
import Derived.OneCell
import Derived.Lib.SliceRun
import Derived.Laws.IdiomCopy
namespace Go.Proofs.YtejganpamidkmaaDoor
open Go.RowKit Go.Deep Go.Maps

set_option maxHeartbeats 2000000 in
set_option maxRecDepth 100000 in
theorem index_any (w : World) (v : Value) (M : List Rc) (hx : RcsIs w v M) (ht : ∀ r ∈ M, r.t < 20) (B G : Nat) (L : List Rc) (hA : Asks w B G L) :
    Calls Tryd.prog 31 #[v, .func (.func 32) #[] #[.pointer (some ⟨B, 0, none⟩)]] w fun e w' => (∃ i : Int, e = .returned (.int .i64 i) ∧
      ((i = -1 ∧ ∀ j, j < M.length → endd L (rcAt M j).t = true) ∨ ∃ k : Nat, i = (k : Int) ∧ k < M.length ∧ endd L (rcAt M k).t = false ∧ ∀ j, j < k → endd L (rcAt M j).t = true)) ∧ Below w.heap.size w w' := by
  obtain ⟨a, c, b, rfl, hm, ha, hb, hc⟩ := hx.where
  obtain ⟨n, hn⟩ : ∃ n, n = M.length := ⟨_, rfl⟩
  have HN : Hid (n = M.length) := hn
  rw [← hn] at hm ha hb hc ⊢
  unfold maxLen at hm
  have HC : Hid (∀ i, i < n → w.cell? ⟨b, i * 4, none⟩ = some (.int .i64 ((rcAt M i).t : Int)) ∧ w.cell? ⟨b, i * 4 + 1, none⟩ = some (.int .i64 ((rcAt M i).b : Int)) ∧ w.cell? ⟨b, i * 4 + 2, none⟩ = some (.int .i64 ((rcAt M i).v : Int)) ∧ w.cell? ⟨b, i * 4 + 3, none⟩ = some (.bool (rcAt M i).e)) := hc
  have HT : Hid (∀ i, i < n → (rcAt M i).t < 20) := fun i hi => ht _ (rcAt_mem (by omega))
  have HA : Hid (Asks w B G L) := hA
  have e30 := Tryd.enterAsk
  clear hc hn hx ht hA
  go_enter Tryd.func31, Tryd.ntmps31
  go_wp2
  go_loopw [5, 8] (fun _ i wr => ∃ k : Nat, k ≤ n ∧ i = .int .i64 k ∧ Below w.heap.size w wr ∧ ∀ j, j < k → endd L (rcAt M j).t = true) (fun _ i _ => n - (intOf i).toNat)
  case atStart => exact ⟨0, Nat.zero_le _, rfl, Below.refl _ _, fun j hj => absurd hj (Nat.not_lt_zero _)⟩
  case round =>
    obtain ⟨k, hk, rfl, hbr, hall⟩ := hrel
    have HL : Hid (∀ j, j < k → endd L (rcAt M j).t = true) := hall
    have HBr : Hid (Below w.heap.size w wr) := hbr
    clear hall
    by_cases hlt : k < n
    · have haa := ha (by omega)
      subst haa
      obtain ⟨q0, q1, q2, q3⟩ := HC.out k hlt
      have c0 : wr.cell? ⟨b, k * 4, none⟩ = some (.int .i64 ((rcAt M k).t : Int)) := by rw [hbr.cell (p := ⟨b, k * 4, none⟩) (hb (by omega))]; exact q0
      have c1 : wr.cell? ⟨b, k * 4 + 1, none⟩ = some (.int .i64 ((rcAt M k).b : Int)) := by rw [hbr.cell (p := ⟨b, k * 4 + 1, none⟩) (hb (by omega))]; exact q1
      have c2 : wr.cell? ⟨b, k * 4 + 2, none⟩ = some (.int .i64 ((rcAt M k).v : Int)) := by rw [hbr.cell (p := ⟨b, k * 4 + 2, none⟩) (hb (by omega))]; exact q2
      have c3 : wr.cell? ⟨b, k * 4 + 3, none⟩ = some (.bool (rcAt M k).e) := by rw [hbr.cell (p := ⟨b, k * 4 + 3, none⟩) (hb (by omega))]; exact q3
      clear q0 q1 q2 q3 hbr
      have HK : Hid _ := fun (_ : Nat) => ask_any wr B G L (HA.out.later HBr.out) (rcAt M k).t ((rcAt M k).b : Int) ((rcAt M k).v : Int) (rcAt M k).e (HT.out k hlt)
      generalize ((rcAt M k).b : Int) = B1 at c1 HK
      generalize ((rcAt M k).v : Int) = V1 at c2 HK
      generalize (rcAt M k).e = E1 at c3 HK
      obtain ⟨x, hx⟩ : ∃ x, endd L (rcAt M k).t = x := ⟨_, rfl⟩
      rw [hx] at HK
      have HX : Hid (endd L (rcAt M k).t = x) := hx
      clear hx
      cases x with
      | false =>
        go_wp2_with (go_at_call 32; refine (HK.out 0).mono ?_; rintro e w' ⟨rfl, hb2⟩)
        go_ret
        exact ⟨⟨_, rfl, .inr ⟨k, rfl, hlt, HX.out, HL.out⟩⟩, Below.next HBr.out hb2⟩
      | true =>
        go_wp2_with (go_at_call 32; refine (HK.out 0).mono ?_; rintro e w' ⟨rfl, hb2⟩)
        have HB2 : Hid (Below w.heap.size w w') := Below.next HBr.out hb2
        clear hb2
        go_roundw
        case rel =>
          refine ⟨k + 1, by omega, by go_num, HB2.out, fun j hj => ?_⟩
          by_cases e : j = k
          · subst e; exact HX.out
          · exact HL.out j (by omega)
        case measure => simp [intOf]; omega
    · have hkn : k = n := by omega
      subst hkn
      clear hbr
      go_wp2
      go_ret
      exact ⟨⟨_, rfl, .inl ⟨rfl, HL.out⟩⟩, HBr.out⟩

theorem opn_yes {L M : List Rc} {k : Nat} (hk : k < M.length) (h : endd L (rcAt M k).t = false) : (M.any fun r => !endd L r.t) = true := List.any_eq_true.2 ⟨_, rcAt_mem hk, by rw [h]; rfl⟩
theorem all_at {M : List Rc} {p : Rc → Bool} (h : ∀ j, j < M.length → p (rcAt M j) = true) : ∀ r ∈ M, p r = true := fun r hr => by
  obtain ⟨j, hj, rfl⟩ := List.mem_iff_getElem.1 hr
  have := h j hj
  rwa [rcAt_lt hj] at this
theorem opn_no {L M : List Rc} (h : ∀ j, j < M.length → endd L (rcAt M j).t = true) : (M.any fun r => !endd L r.t) = false := by
  rw [List.any_eq_false]
  intro r hr
  rw [all_at (p := fun r => endd L r.t) h r hr]
  decide

set_option maxHeartbeats 1000000 in
theorem contains_any (w : World) (v : Value) (M : List Rc) (hx : RcsIs w v M) (ht : ∀ r ∈ M, r.t < 20) (B G : Nat) (L : List Rc) (hA : Asks w B G L) :
    Calls Tryd.prog 25 #[v, .func (.func 32) #[] #[.pointer (some ⟨B, 0, none⟩)]] w fun e w' => e = .returned (.bool (M.any fun r => !endd L r.t)) ∧ Below w.heap.size w w' := by
  have HK : Hid _ := fun (_ : Nat) => index_any w v M hx ht B G L hA
  have HX : Hid (∀ i : Int, ((i = -1 ∧ ∀ j, j < M.length → endd L (rcAt M j).t = true) ∨ ∃ k : Nat, i = (k : Int) ∧ k < M.length ∧ endd L (rcAt M k).t = false ∧ ∀ j, j < k → endd L (rcAt M j).t = true) → decide (0 ≤ i) = (M.any fun r => !endd L r.t)) := by
    rintro i (⟨rfl, h⟩ | ⟨k, rfl, hk, h, _⟩)
    · rw [opn_no h]; rfl
    · rw [opn_yes hk h]; simp
  clear hx ht hA
  go_enter Tryd.func25, Tryd.ntmps25
  go_wp2_with (go_at_call 31; refine (HK.out 0).mono ?_; rintro e w' ⟨⟨i, rfl, hi⟩, hb⟩)
  go_ret
  exact ⟨by rw [← HX.out i hi]; rfl, hb⟩

/-- Records on the way: what is left of the first j lies ahead, the others as they were. -/
structure Mid (M : List Rc) (p : Rc → Bool) (R : List Rc) (i j : Nat) : Prop where
  len : R.length = M.length
  num : i = ((M.take j).filter p).length
  front : R.take i = (M.take j).filter p
  rest : ∀ q, j ≤ q → q < M.length → rcAt R q = rcAt M q
  lt : i < j
theorem mid_start {M : List Rc} {p : Rc → Bool} {k : Nat} (hk : k < M.length) (hl : ∀ j, j < k → p (rcAt M j) = true) (hn : p (rcAt M k) = false) : Mid M p M k (k + 1) := by
  have h1 : (M.take (k + 1)).filter p = M.take k := by
    rw [List.take_succ_eq_append_getElem hk, List.filter_append, ← rcAt_lt hk]
    have : (M.take k).filter p = M.take k := List.filter_eq_self.2 fun r hr => by
      obtain ⟨j, hj, rfl⟩ := List.mem_iff_getElem.1 hr
      rw [List.length_take] at hj
      have := hl j (by omega)
      rw [rcAt_lt (by omega)] at this
      rw [List.getElem_take]
      exact this
    rw [this, List.filter_cons_of_neg (by rw [hn]; decide), List.filter_nil, List.append_nil]
  exact ⟨rfl, by rw [h1, List.length_take]; omega, h1.symm, fun _ _ _ => rfl, by omega⟩
theorem Mid.no {M R : List Rc} {p : Rc → Bool} {i j : Nat} (h : Mid M p R i j) (hj : j < M.length) (hp : p (rcAt M j) = false) : Mid M p R i (j + 1) := by
  have h1 : (M.take (j + 1)).filter p = (M.take j).filter p := by
    rw [List.take_succ_eq_append_getElem hj, List.filter_append, ← rcAt_lt hj, List.filter_cons_of_neg (by rw [hp]; decide), List.filter_nil, List.append_nil]
  exact ⟨h.len, by rw [h1]; exact h.num, by rw [h1]; exact h.front, fun q hq hl => h.rest q (by omega) hl, by have := h.lt; omega⟩
theorem Mid.yes {M R : List Rc} {p : Rc → Bool} {i j : Nat} (h : Mid M p R i j) (hj : j < M.length) (hp : p (rcAt M j) = true) : Mid M p (R.set i (rcAt M j)) (i + 1) (j + 1) := by
  have hi := h.lt
  have hl := h.len
  have h1 : (M.take (j + 1)).filter p = (M.take j).filter p ++ [rcAt M j] := by
    rw [List.take_succ_eq_append_getElem hj, List.filter_append, ← rcAt_lt hj, List.filter_cons_of_pos hp, List.filter_nil]
  refine ⟨by rw [List.length_set]; exact hl, ?_, ?_, fun q hq hlt => ?_, by omega⟩
  · rw [h1, List.length_append, ← h.num]; rfl
  · rw [h1, ← h.front, List.take_succ_eq_append_getElem (by rw [List.length_set]; omega), List.getElem_set_self, List.take_set_of_le (Nat.le_refl _)]
  · rw [← h.rest q (by omega) hlt]
    unfold rcAt
    simp only [List.getD_eq_getElem?_getD]
    rw [List.getElem?_set_ne (by omega)]
theorem Mid.end' {M R : List Rc} {p : Rc → Bool} {i j : Nat} (h : Mid M p R i j) (hj : j = M.length) : R.take i = M.filter p ∧ i = (M.filter p).length := by
  subst hj
  have h1 := h.front
  have h2 := h.num
  rw [List.take_length] at h1 h2
  exact ⟨h1, h2⟩

theorem rcc_set4 : ∀ (R : List Rc) (i : Nat) (x : Rc), i < R.length → ((((rcc R).set (i * 4) (.int .i64 (x.t : Int))).set (i * 4 + 1) (.int .i64 (x.b : Int))).set (i * 4 + 2) (.int .i64 (x.v : Int))).set (i * 4 + 3) (.bool x.e) = rcc (R.set i x)
  | [], i, x, h => by simp at h
  | y :: R, 0, x, _ => by simp [rcc]
  | y :: R, i + 1, x, h => by
    have := rcc_set4 R i x (by simpa using h)
    simp only [rcc, show (i + 1) * 4 = i * 4 + 1 + 1 + 1 + 1 by omega, List.set_cons_succ, this]

end Go.Proofs.YtejganpamidkmaaDoor
