/- This text says what it means that a set of numbers lies in memory as a map, and proves what Add and Has of package set answer, and which turns package wal says have ended in some records; nothing is turned but the set itself; the conditions are that the set lies there, and the records. -/
import Derived.Test.YtejganpamidkmaaDoorZ1
import Derived.Maps.OwnSet
import Derived.Maps.Ext
namespace Go.Proofs.YtejganpamidkmaaDoor
open Go.RowKit Go.Deep Go.Maps

/-- Each element is told by itself: it has no parts. -/
def elE : Value → Option (DataW Value × List MemPlace)
  | .agg cs => match cs.toList with
    | [] => some (.held (.agg #[]), [])
    | _ => none
  | _ => none
theorem elE_form {v : Value} {d : DataW Value × List MemPlace} (h : elE v = some d) : v = .agg #[] := by
  unfold elE at h
  split at h
  · rename_i cs
    split at h
    · rename_i e
      obtain ⟨l⟩ := cs
      have e2 : l = [] := e
      subst e2
      rfl
    · cases h
  · cases h
def kyL (k : Nat) : Lit := .int .i64 (k : Int)
theorem kyL_ne {k j : Nat} (h : k ≠ j) : kyL k ≠ kyL j := fun e => h (by unfold kyL at e; cases e; rfl)
theorem keyed3 : Keyed Tryd.prog 3 := int_keyed Tryd.underlying3
theorem kyL_is {k : Nat} (h : k ≤ 1000) : WideAt.IsKeyLit (kyL k) := keyed3.key (keyOf_int_mk Tryd.underlying3 (q := .i64) (a := (k : Int)) (WalkArith.wf_i64 (by omega)))
theorem keyOf3 {k : Nat} (h : k ≤ 1000) : keyOf Tryd.prog 3 (.int .i64 (k : Int)) = some (kyL k) := keyOf_int_mk Tryd.underlying3 (WalkArith.wf_i64 (by omega))
theorem zeroE (w : World) : (zeroValue 74).run Tryd.prog w = .ok (.agg #[]) w := by kernel_rfl

/-- The block is a set with these numbers below 20, and with so many at most. -/
def SetIs (w : World) (b n : Nat) (f : Nat → Bool) : Prop := ∃ D : DataW Value, w.ownsMap Tryd.prog 3 elE b n D ∧ ∀ k, k < 20 → Maps.has D (kyL k) = f k
theorem SetIs.block {w w' : World} {b n : Nat} {f : Nat → Bool} (h : SetIs w b n f) (e : w'.heap[b]? = w.heap[b]?) : SetIs w' b n f := by
  obtain ⟨D, ⟨es, c, hb, r⟩, hk⟩ := h
  exact ⟨D, ⟨es, c, e.trans hb, r⟩, hk⟩
theorem SetIs.lt {w : World} {b n : Nat} {f : Nat → Bool} (h : SetIs w b n f) : b < w.heap.size := by
  obtain ⟨D, h, _⟩ := h
  exact h.lt
theorem SetIs.later {w w' : World} {b n : Nat} {f : Nat → Bool} (h : SetIs w b n f) (hb : Below w.heap.size w w') : SetIs w' b n f := h.block (hb.block b h.lt)
theorem SetIs.alike {w : World} {b n : Nat} {f g : Nat → Bool} (h : SetIs w b n f) (e : ∀ k, k < 20 → f k = g k) : SetIs w b n g := by
  obtain ⟨D, h1, h2⟩ := h
  exact ⟨D, h1, fun k hk => (h2 k hk).trans (e k hk)⟩
theorem SetIs.made (w : World) : SetIs (w.alloc (.map #[] 0)) w.heap.size 0 (fun _ => false) := ⟨.map [], World.ownsMap_made _ _ _ _, fun _ _ => rfl⟩
theorem SetIs.look {w : World} {b n : Nat} {f : Nat → Bool} (h : SetIs w b n f) {k : Nat} (hk : k < 20) :
    (Instr.lookup 67 (.map (some b)) (.int .i64 (k : Int)) true).run Tryd.prog w = .ok (.tuple #[.agg #[], .bool (f k)]) w := by
  obtain ⟨D, hD, hk2⟩ := h
  obtain ⟨v, ps, hrun, hv⟩ := hD.look_ok keyed3 Tryd.underlying67 (zeroE w) (show elE (.agg #[]) = some (.held (.agg #[]), []) from rfl) (keyOf3 (by omega : k ≤ 1000))
  rw [hk2 k hk] at hrun
  rw [elE_form hv] at hrun
  exact hrun
theorem SetIs.put {w : World} {b n : Nat} {f : Nat → Bool} (h : SetIs w b n f) (hn : n ≤ 1000) {k : Nat} (hk : k < 20) :
    ∃ w', (Instr.mapUpdate 67 (.map (some b)) (.int .i64 (k : Int)) (.agg #[])).run Tryd.prog w = .ok () w' ∧ SetIs w' b (n + 1) (fun j => f j || k == j) ∧ w.mapTurned w' b := by
  obtain ⟨D, hD, hk2⟩ := h
  obtain ⟨w', h1, h2, h3⟩ := hD.store keyed3 Tryd.underlying67 (by unfold maxLen; omega) (keyOf3 (by omega : k ≤ 1000)) (show elE (.agg #[]) = some (.held (.agg #[]), []) from rfl)
  refine ⟨w', h1, ⟨_, h2, fun j hj => ?_⟩, h3⟩
  by_cases e : j = k
  · subst e
    rw [has_put_same hD.isMap (kyL_is (by omega)) _]
    simp
  · rw [has_put_other (kyL_ne e), hk2 j hj]
    have : (k == j) = false := by simp; omega
    show f j = (f j || k == j)
    rw [this, Bool.or_false]

theorem Stay.map {S : Nat → Prop} {w w' : World} {b : Nat} (h : w.mapTurned w' b) (hS : S b) : Stay S w w' :=
  have g := h.grown
  ⟨g.os, g.tape, g.output, g.size, fun i hi hn => g.block i hi (fun e => by cases e; exact hn hS)⟩

set_option maxHeartbeats 1000000 in
theorem has_any (w : World) (b n : Nat) (f : Nat → Bool) (h : SetIs w b n f) (k : Nat) (hk : k < 20) :
    Calls Tryd.prog 30 #[.map (some b), .int .i64 (k : Int)] w fun e w' => e = .returned (.bool (f k)) ∧ Below w.heap.size w w' := by
  have hl := h.look hk
  clear h
  go_enter Tryd.func30, Tryd.ntmps30
  go_wp2
  go_ret
  exact ⟨rfl, below_one _ _⟩

set_option maxHeartbeats 1000000 in
theorem add_any (w : World) (b n : Nat) (f : Nat → Bool) (h : SetIs w b n f) (hn : n ≤ 1000) (k : Nat) (hk : k < 20) :
    Calls Tryd.prog 34 #[.map (some b), .int .i64 (k : Int)] w fun e w' => e = .returned (.tuple #[]) ∧ SetIs w' b (n + 1) (fun j => f j || k == j) ∧ Stay (fun x => x = b) w w' := by
  obtain ⟨w1, u1, u2, u3⟩ := h.put hn hk
  have HZ : Hid _ := And.intro u2 (Stay.map (S := fun x => x = b) u3 rfl)
  clear h u2 u3
  go_enter Tryd.func34, Tryd.ntmps34
  go_wp2
  go_end0
  exact ⟨rfl, HZ.out⟩

theorem endd_next {L : List Rc} {k : Nat} (hk : k < L.length) (t : Nat) : endd (L.take (k + 1)) t = (endd (L.take k) t || ((rcAt L k).e && (rcAt L k).t == t)) := by
  rw [List.take_succ_eq_append_getElem hk, endd_append, endd_one, rcAt_lt hk]

set_option maxHeartbeats 2000000 in
set_option maxRecDepth 100000 in
theorem ended_any (w : World) (v : Value) (L : List Rc) (hx : RcsIs w v L) (ht : ∀ r ∈ L, r.t < 20) (hl : L.length ≤ 60) :
    Calls Tryd.prog 29 #[v] w fun e w' => e = .returned (.map (some w.heap.size)) ∧ (∃ n, n ≤ 60 ∧ SetIs w' w.heap.size n (endd L)) ∧ Below w.heap.size w w' := by
  obtain ⟨a, c, b, rfl, hm, ha, hb, hc⟩ := hx.where
  obtain ⟨n, hn⟩ : ∃ n, n = L.length := ⟨_, rfl⟩
  have HN : Hid (n = L.length) := hn
  rw [← hn] at hm ha hb hc hl ⊢
  have HC : Hid (∀ i, i < n → w.cell? ⟨b, i * 4, none⟩ = some (.int .i64 ((rcAt L i).t : Int)) ∧ w.cell? ⟨b, i * 4 + 1, none⟩ = some (.int .i64 ((rcAt L i).b : Int)) ∧ w.cell? ⟨b, i * 4 + 2, none⟩ = some (.int .i64 ((rcAt L i).v : Int)) ∧ w.cell? ⟨b, i * 4 + 3, none⟩ = some (.bool (rcAt L i).e)) := hc
  have HT : Hid (∀ i, i < n → (rcAt L i).t < 20) := fun i hi => ht _ (rcAt_mem (by omega))
  have hmm := @run_makeMap Tryd.prog
  obtain ⟨G, hG⟩ : ∃ G, G = w.heap.size := ⟨_, rfl⟩
  have HG : Hid (G = w.heap.size) := hG
  have HM : Hid (SetIs (w.alloc (.map #[] 0)) G 0 (fun _ => false) ∧ Below w.heap.size w (w.alloc (.map #[] 0))) := by rw [hG]; exact ⟨SetIs.made w, below_one _ _⟩
  clear hc hn hx ht
  go_enter Tryd.func29, Tryd.ntmps29
  go_wp2
  rw [← HG.out]
  generalize w.alloc (.map #[] 0) = w1 at HM
  clear hG
  go_loopw [9] (fun i wr => ∃ k : Nat, k ≤ n ∧ i = .int .i64 k ∧ (∃ m, m ≤ k ∧ SetIs wr G m (endd (L.take k))) ∧ Below w.heap.size w wr) (fun i _ => n - (intOf i).toNat)
  case atStart => exact ⟨0, Nat.zero_le _, rfl, ⟨0, Nat.le_refl _, HM.out.1⟩, HM.out.2⟩
  case round =>
    obtain ⟨k, hk, rfl, ⟨m, hm2, hs⟩, hbr⟩ := hrel
    have HS : Hid (SetIs wr G m (endd (L.take k))) := hs
    have HBr : Hid (Below w.heap.size w wr) := hbr
    clear HM hs
    by_cases hlt : k < n
    · have haa := ha (by omega)
      subst haa
      obtain ⟨q0, q1, q2, q3⟩ := HC.out k hlt
      have c0 : wr.cell? ⟨b, k * 4, none⟩ = some (.int .i64 ((rcAt L k).t : Int)) := by rw [hbr.cell (p := ⟨b, k * 4, none⟩) (hb (by omega))]; exact q0
      have c1 : wr.cell? ⟨b, k * 4 + 1, none⟩ = some (.int .i64 ((rcAt L k).b : Int)) := by rw [hbr.cell (p := ⟨b, k * 4 + 1, none⟩) (hb (by omega))]; exact q1
      have c2 : wr.cell? ⟨b, k * 4 + 2, none⟩ = some (.int .i64 ((rcAt L k).v : Int)) := by rw [hbr.cell (p := ⟨b, k * 4 + 2, none⟩) (hb (by omega))]; exact q2
      have c3 : wr.cell? ⟨b, k * 4 + 3, none⟩ = some (.bool (rcAt L k).e) := by rw [hbr.cell (p := ⟨b, k * 4 + 3, none⟩) (hb (by omega))]; exact q3
      clear q0 q1 q2 q3 hbr
      have HE : Hid (∀ t, endd (L.take (k + 1)) t = (endd (L.take k) t || ((rcAt L k).e && (rcAt L k).t == t))) := fun t => endd_next (by rw [← HN.out]; exact hlt) t
      have HTk : Hid ((rcAt L k).t < 20) := HT.out k hlt
      obtain ⟨T, hT⟩ : ∃ T, (rcAt L k).t = T := ⟨_, rfl⟩
      obtain ⟨E, hE⟩ : ∃ E, (rcAt L k).e = E := ⟨_, rfl⟩
      rw [hT] at c0 HE HTk
      rw [hE] at c3 HE
      generalize (rcAt L k).b = B1 at c1
      generalize (rcAt L k).v = V1 at c2
      clear hT hE
      cases E with
      | true =>
        have HA : Hid _ := fun (o : Obj) => add_any (wr.alloc o) G m _ (HS.out.later (below_one _ _)) (by omega) T HTk.out
        go_wp2_with (go_at_call 34; refine (HA.out _).mono ?_; rintro e w2 ⟨rfl, hs2, hst⟩)
        have HF : Hid (SetIs w2 G (m + 1) (endd (L.take (k + 1))) ∧ Below w.heap.size w w2) := ⟨hs2.alike fun t _ => by rw [HE.out t, Bool.true_and], (HBr.out.alloc HBr.out.size _).trans (hst.below (by rintro x rfl; rw [HG.out]; exact Nat.le_refl _) (by have := HBr.out.size; simp; omega))⟩
        clear hs2 hst
        go_roundw
        case rel => exact ⟨k + 1, by omega, by go_num, ⟨m + 1, by omega, HF.out.1⟩, HF.out.2⟩
        case measure => simp [intOf]; omega
      | false =>
        go_wp2
        go_roundw
        case rel => exact ⟨k + 1, by omega, by go_num, ⟨m, by omega, (HS.out.later (below_one _ _)).alike fun t _ => by rw [HE.out t, Bool.false_and, Bool.or_false]⟩, HBr.out.alloc HBr.out.size _⟩
        case measure => simp [intOf]; omega
    · have hkn : k = n := by omega
      subst hkn
      have HF : Hid (SetIs wr G m (endd L)) := by have := HS.out; rw [HN.out, List.take_length] at this; exact this
      clear hbr
      go_wp2
      go_ret
      exact ⟨by rw [← HG.out]; rfl, ⟨m, by omega, by rw [← HG.out]; exact HF.out⟩, HBr.out⟩

set_option maxHeartbeats 1000000 in
/-- The closure that tells of a record whether its turn is open. -/
theorem isOpen_any (w : World) (v : Value) (L : List Rc) (hx : RcsIs w v L) (ht : ∀ r ∈ L, r.t < 20) (hl : L.length ≤ 60) :
    Calls Tryd.prog 24 #[v] w fun e w' => ∃ B, e = .returned (.func (.func 32) #[] #[.pointer (some ⟨B, 0, none⟩)]) ∧ w.heap.size < B ∧
      w'.cell? ⟨B, 0, none⟩ = some (.map (some w.heap.size)) ∧ (∃ n, n ≤ 60 ∧ SetIs w' w.heap.size n (endd L)) ∧ Below w.heap.size w w' := by
  have HK : Hid _ := fun (_ : Nat) => ended_any w v L hx ht hl
  clear hx ht hl
  go_enter Tryd.func24, Tryd.ntmps24
  go_wp2_with (go_at_call 29; refine (HK.out 0).mono ?_; rintro e w1 ⟨rfl, ⟨m, hm, hs⟩, hb⟩)
  have hlt := hs.lt
  have HF : Hid _ := And.intro hs (And.intro hb hlt)
  clear hs hb
  go_ret
  exact ⟨w1.heap.size, rfl, hlt, cell_new _ _ _ _, ⟨m, hm, HF.out.1.later (below_one _ _)⟩, Below.next HF.out.2.1 (below_one _ _)⟩

/-- The question that the closure asks. -/
def Asks (w : World) (B G : Nat) (L : List Rc) : Prop := w.cell? ⟨B, 0, none⟩ = some (.map (some G)) ∧ ∃ n, n ≤ 60 ∧ SetIs w G n (endd L)
theorem Asks.lt {w : World} {B G : Nat} {L : List Rc} (h : Asks w B G L) : B < w.heap.size ∧ G < w.heap.size := by
  obtain ⟨h1, n, _, h2⟩ := h
  exact ⟨World.block_lt_of_cell? _ _ h1, h2.lt⟩
theorem Asks.frame {w w' : World} {B G : Nat} {L : List Rc} (h : Asks w B G L) (e1 : w'.heap[B]? = w.heap[B]?) (e2 : w'.heap[G]? = w.heap[G]?) : Asks w' B G L := by
  obtain ⟨h1, n, hn, h2⟩ := h
  exact ⟨(World.cell?_of_block (w := w) (a := ⟨B, 0, none⟩) e1).trans h1, n, hn, h2.block e2⟩
theorem Asks.later {w w' : World} {B G : Nat} {L : List Rc} (h : Asks w B G L) (hb : Below w.heap.size w w') : Asks w' B G L := h.frame (hb.block B h.lt.1) (hb.block G h.lt.2)

theorem Tryd.enterAsk : ∀ args w, (callFunc 32 args).run Tryd.prog w = .ok (.enter 32 args) w := fun _ _ => by rfl

set_option maxHeartbeats 1000000 in
theorem ask_any (w : World) (B G : Nat) (L : List Rc) (h : Asks w B G L) (t : Nat) (b v : Int) (E : Bool) (ht : t < 20) :
    Calls Tryd.prog 32 #[.agg #[.int .i64 (t : Int), .int .i64 b, .int .i64 v, .bool E], .pointer (some ⟨B, 0, none⟩)] w fun e w' => e = .returned (.bool (!endd L t)) ∧ Below w.heap.size w w' := by
  have h1 : (w.alloc (.cells #[.int .i64 (t : Int), .int .i64 b, .int .i64 v, .bool E] 57)).cell? ⟨B, 0, none⟩ = some (.map (some G)) := (h.later (below_one _ _)).1
  obtain ⟨_, n, _, hs⟩ := h.later (below_one w (.cells #[.int .i64 (t : Int), .int .i64 b, .int .i64 v, .bool E] 57))
  have HK : Hid _ := fun (_ : Nat) => has_any _ G n _ hs t ht
  have HB : Hid _ := below_one w (.cells #[.int .i64 (t : Int), .int .i64 b, .int .i64 v, .bool E] 57)
  clear h hs
  go_enter Tryd.func32, Tryd.ntmps32
  go_wp2_with (go_at_call 30; refine (HK.out 0).mono ?_; rintro e w2 ⟨rfl, hb⟩)
  go_ret
  exact ⟨rfl, Below.next HB.out hb⟩

end Go.Proofs.YtejganpamidkmaaDoor
