/- This text says what it means that a set of numbers lies in memory as a map, and proves what Add and Has of package set answer, and which turns package wal says have ended in some records; nothing is turned but the set itself; the conditions are that the set lies there, and the records. -/
import Derived.Test.YthgbknfdbobmiaaZT1
import Derived.Test.YthgbknfdbobmiaaWs
import Derived.Maps.OwnSet
import Derived.Maps.Ext
namespace Go.Proofs.Ythgbknfdbobmiaa.Zw
open Go.RowKit Go.Deep Go.Maps

/-- The block is a set with these numbers below 20, and with so many at most. -/
def SetIs (w : World) (b n : Nat) (f : Nat → Bool) : Prop := ∃ D : DataW Value, w.ownsMap Try.prog 3 elE b n D ∧ ∀ k, k < 20 → Maps.has D (kyL k) = f k

theorem SetIs.block {w w' : World} {b n : Nat} {f : Nat → Bool} (h : SetIs w b n f) (e : w'.heap[b]? = w.heap[b]?) : SetIs w' b n f := by
  obtain ⟨D, ⟨es, c, hb, r⟩, hk⟩ := h
  exact ⟨D, ⟨es, c, e.trans hb, r⟩, hk⟩

theorem SetIs.lt {w : World} {b n : Nat} {f : Nat → Bool} (h : SetIs w b n f) : b < w.heap.size := by
  obtain ⟨D, h, _⟩ := h
  exact h.lt

theorem SetIs.later {w w' : World} {b n : Nat} {f : Nat → Bool} (h : SetIs w b n f) (hb : Below w.heap.size w w') : SetIs w' b n f := h.block (hb.block b h.lt)

theorem SetIs.alike {w : World} {b n : Nat} {f g : Nat → Bool} (h : SetIs w b n f) (e : ∀ k, k < 20 → f k = g k) : SetIs w b n g := by
  obtain ⟨D, h1, h2⟩ := h
  exact ⟨D, h1, fun k hk => (h2 k hk).trans (e k hk)⟩

theorem SetIs.made (w : World) : SetIs (w.alloc (.map #[] 0)) w.heap.size 0 (fun _ => false) := ⟨.map [], World.ownsMap_made _ _ _ _, fun _ _ => rfl⟩

theorem SetIs.look {w : World} {b n : Nat} {f : Nat → Bool} (h : SetIs w b n f) {k : Nat} (hk : k < 20) :
    (Instr.lookup 78 (.map (some b)) (.int .i64 (k : Int)) true).run Try.prog w = .ok (.tuple #[.agg #[], .bool (f k)]) w := by
  obtain ⟨D, hD, hk2⟩ := h
  obtain ⟨v, ps, hrun, hv⟩ := hD.look_ok keyed3 Try.underlying78 (zeroE w) (show elE (.agg #[]) = some (.held (.agg #[]), []) from rfl) (keyOf3 (by omega : k ≤ 1000))
  rw [hk2 k hk] at hrun
  rw [elE_form hv] at hrun
  exact hrun

theorem SetIs.put {w : World} {b n : Nat} {f : Nat → Bool} (h : SetIs w b n f) (hn : n ≤ 1000) {k : Nat} (hk : k < 20) :
    ∃ w', (Instr.mapUpdate 78 (.map (some b)) (.int .i64 (k : Int)) (.agg #[])).run Try.prog w = .ok () w' ∧ SetIs w' b (n + 1) (fun j => f j || k == j) ∧ w.mapTurned w' b := by
  obtain ⟨D, hD, hk2⟩ := h
  obtain ⟨w', h1, h2, h3⟩ := hD.store keyed3 Try.underlying78 (by unfold maxLen; omega) (keyOf3 (by omega : k ≤ 1000)) (show elE (.agg #[]) = some (.held (.agg #[]), []) from rfl)
  refine ⟨w', h1, ⟨_, h2, fun j hj => ?_⟩, h3⟩
  by_cases e : j = k
  · subst e
    rw [has_put_same hD.isMap (kyL_is (by omega)) _]
    simp
  · rw [has_put_other (kyL_ne e), hk2 j hj]
    have : (k == j) = false := by simp; omega
    show f j = (f j || k == j)
    rw [this, Bool.or_false]

set_option maxHeartbeats 1000000 in
theorem has_any (w : World) (b n : Nat) (f : Nat → Bool) (h : SetIs w b n f) (k : Nat) (hk : k < 20) :
    Calls Try.prog 39 #[.map (some b), .int .i64 (k : Int)] w fun e w' => e = .returned (.bool (f k)) ∧ Below w.heap.size w w' := by
  have hl := h.look hk
  clear h
  go_enter Try.func39, Try.ntmps39
  go_wp2
  go_ret
  exact ⟨rfl, below_one _ _⟩

set_option maxHeartbeats 1000000 in
theorem add_any (w : World) (b n : Nat) (f : Nat → Bool) (h : SetIs w b n f) (hn : n ≤ 1000) (k : Nat) (hk : k < 20) :
    Calls Try.prog 43 #[.map (some b), .int .i64 (k : Int)] w fun e w' => e = .returned (.tuple #[]) ∧ SetIs w' b (n + 1) (fun j => f j || k == j) ∧ Stay (fun x => x = b) w w' := by
  obtain ⟨w1, u1, u2, u3⟩ := h.put hn hk
  have HZ : Hid _ := And.intro u2 (Stay.map (S := fun x => x = b) u3 rfl)
  clear h u2 u3
  go_enter Try.func43, Try.ntmps43
  go_wp2
  go_end0
  exact ⟨rfl, HZ.out⟩

theorem endd_next {L : List Rc} {k : Nat} (hk : k < L.length) (t : Nat) : endd (L.take (k + 1)) t = (endd (L.take k) t || ((rcAt L k).e && (rcAt L k).t == t)) := by
  rw [List.take_succ_eq_append_getElem hk, endd_append, endd_one, rcAt_lt hk]

set_option maxHeartbeats 2000000 in
set_option maxRecDepth 100000 in
theorem ended_any (w : World) (v : Value) (L : List Rc) (hx : RcsIs w v L) (ht : ∀ r ∈ L, r.t < 20) (hl : L.length ≤ 60) :
    Calls Try.prog 38 #[v] w fun e w' => e = .returned (.map (some w.heap.size)) ∧ (∃ n, n ≤ 60 ∧ SetIs w' w.heap.size n (endd L)) ∧ Below w.heap.size w w' := by
  obtain ⟨a, c, b, rfl, hm, ha, hb, hc⟩ := hx.where
  obtain ⟨n, hn⟩ : ∃ n, n = L.length := ⟨_, rfl⟩
  have HN : Hid (n = L.length) := hn
  rw [← hn] at hm ha hb hc hl ⊢
  have HC : Hid (∀ i, i < n → w.cell? ⟨b, i * 4, none⟩ = some (.int .i64 ((rcAt L i).t : Int)) ∧ w.cell? ⟨b, i * 4 + 1, none⟩ = some (.int .i64 ((rcAt L i).b : Int)) ∧ w.cell? ⟨b, i * 4 + 2, none⟩ = some (.int .i64 ((rcAt L i).v : Int)) ∧ w.cell? ⟨b, i * 4 + 3, none⟩ = some (.bool (rcAt L i).e)) := hc
  have HT : Hid (∀ i, i < n → (rcAt L i).t < 20) := fun i hi => ht _ (rcAt_mem (by omega))
  have hmm := @run_makeMap Try.prog
  obtain ⟨G, hG⟩ : ∃ G, G = w.heap.size := ⟨_, rfl⟩
  have HG : Hid (G = w.heap.size) := hG
  have HM : Hid (SetIs (w.alloc (.map #[] 0)) G 0 (fun _ => false) ∧ Below w.heap.size w (w.alloc (.map #[] 0))) := by rw [hG]; exact ⟨SetIs.made w, below_one _ _⟩
  clear hc hn hx ht
  go_enter Try.func38, Try.ntmps38
  go_wp2
  rw [← HG.out]
  generalize w.alloc (.map #[] 0) = w1 at HM
  clear hG
  go_loopw [9] (fun i wr => ∃ k : Nat, k ≤ n ∧ i = .int .i64 k ∧ (∃ m, m ≤ k ∧ SetIs wr G m (endd (L.take k))) ∧ Below w.heap.size w wr) (fun i _ => n - (intOf i).toNat)
  case atStart => exact ⟨0, Nat.zero_le _, rfl, ⟨0, Nat.le_refl _, HM.out.1⟩, HM.out.2⟩
  case round =>
    obtain ⟨k, hk, rfl, ⟨m, hm2, hs⟩, hbr⟩ := hrel
    have HS : Hid (SetIs wr G m (endd (L.take k))) := hs
    have HBr : Hid (Below w.heap.size w wr) := hbr
    clear HM hs
    by_cases hlt : k < n
    · have haa := ha (by omega)
      subst haa
      obtain ⟨q0, q1, q2, q3⟩ := HC.out k hlt
      have c0 : wr.cell? ⟨b, k * 4, none⟩ = some (.int .i64 ((rcAt L k).t : Int)) := by rw [hbr.cell (p := ⟨b, k * 4, none⟩) (hb (by omega))]; exact q0
      have c1 : wr.cell? ⟨b, k * 4 + 1, none⟩ = some (.int .i64 ((rcAt L k).b : Int)) := by rw [hbr.cell (p := ⟨b, k * 4 + 1, none⟩) (hb (by omega))]; exact q1
      have c2 : wr.cell? ⟨b, k * 4 + 2, none⟩ = some (.int .i64 ((rcAt L k).v : Int)) := by rw [hbr.cell (p := ⟨b, k * 4 + 2, none⟩) (hb (by omega))]; exact q2
      have c3 : wr.cell? ⟨b, k * 4 + 3, none⟩ = some (.bool (rcAt L k).e) := by rw [hbr.cell (p := ⟨b, k * 4 + 3, none⟩) (hb (by omega))]; exact q3
      clear q0 q1 q2 q3 hbr
      have HE : Hid (∀ t, endd (L.take (k + 1)) t = (endd (L.take k) t || ((rcAt L k).e && (rcAt L k).t == t))) := fun t => endd_next (by rw [← HN.out]; exact hlt) t
      have HTk : Hid ((rcAt L k).t < 20) := HT.out k hlt
      obtain ⟨T, hT⟩ : ∃ T, (rcAt L k).t = T := ⟨_, rfl⟩
      obtain ⟨E, hE⟩ : ∃ E, (rcAt L k).e = E := ⟨_, rfl⟩
      rw [hT] at c0 HE HTk
      rw [hE] at c3 HE
      generalize (rcAt L k).b = B1 at c1
      generalize (rcAt L k).v = V1 at c2
      clear hT hE
      cases E with
      | true =>
        have HA : Hid _ := fun (o : Obj) => add_any (wr.alloc o) G m _ (HS.out.later (below_one _ _)) (by omega) T HTk.out
        go_wp2_with (go_at_call 43; refine (HA.out _).mono ?_; rintro e w2 ⟨rfl, hs2, hst⟩)
        have HF : Hid (SetIs w2 G (m + 1) (endd (L.take (k + 1))) ∧ Below w.heap.size w w2) := ⟨hs2.alike fun t _ => by rw [HE.out t, Bool.true_and], (HBr.out.alloc HBr.out.size _).trans (hst.below (by rintro x rfl; rw [HG.out]; exact Nat.le_refl _) (by have := HBr.out.size; simp; omega))⟩
        clear hs2 hst
        go_roundw
        case rel => exact ⟨k + 1, by omega, by go_num, ⟨m + 1, by omega, HF.out.1⟩, HF.out.2⟩
        case measure => simp [intOf]; omega
      | false =>
        go_wp2
        go_roundw
        case rel => exact ⟨k + 1, by omega, by go_num, ⟨m, by omega, (HS.out.later (below_one _ _)).alike fun t _ => by rw [HE.out t, Bool.false_and, Bool.or_false]⟩, HBr.out.alloc HBr.out.size _⟩
        case measure => simp [intOf]; omega
    · have hkn : k = n := by omega
      subst hkn
      have HF : Hid (SetIs wr G m (endd L)) := by have := HS.out; rw [HN.out, List.take_length] at this; exact this
      clear hbr
      go_wp2
      go_ret
      exact ⟨by rw [← HG.out]; rfl, ⟨m, by omega, by rw [← HG.out]; exact HF.out⟩, HBr.out⟩

/-- The question that the closure asks. -/
def Asks (w : World) (B G : Nat) (L : List Rc) : Prop := w.cell? ⟨B, 0, none⟩ = some (.map (some G)) ∧ ∃ n, n ≤ 60 ∧ SetIs w G n (endd L)

theorem Asks.lt {w : World} {B G : Nat} {L : List Rc} (h : Asks w B G L) : B < w.heap.size ∧ G < w.heap.size := by
  obtain ⟨h1, n, _, h2⟩ := h
  exact ⟨World.block_lt_of_cell? _ _ h1, h2.lt⟩

theorem Asks.frame {w w' : World} {B G : Nat} {L : List Rc} (h : Asks w B G L) (e1 : w'.heap[B]? = w.heap[B]?) (e2 : w'.heap[G]? = w.heap[G]?) : Asks w' B G L := by
  obtain ⟨h1, n, hn, h2⟩ := h
  exact ⟨(World.cell?_of_block (w := w) (a := ⟨B, 0, none⟩) e1).trans h1, n, hn, h2.block e2⟩

theorem Asks.later {w w' : World} {B G : Nat} {L : List Rc} (h : Asks w B G L) (hb : Below w.heap.size w w') : Asks w' B G L := h.frame (hb.block B h.lt.1) (hb.block G h.lt.2)

end Go.Proofs.Ythgbknfdbobmiaa.Zw
