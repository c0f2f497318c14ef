/- This text proves nothing of the program: a law on a region that draws its order, whose last operation waits for all others: it comes up last, so what is held of the world while the others come up need not hold behind it; no condition. -/
import Derived.WalkKit
import Derived.Deep.RegionHeld3
namespace Go.Proofs.Ythgbknfdbobmiaa
open Go.RowKit

section
variable {P : Program} {ops : Array Oper} {Q : Exit → Act → World → Prop} {S : World → Prop}

/-- Does an operation wait for another one? -/
def waitsB (ops : Array Oper) (j i : Nat) : Bool :=
  match ops[j]? with
  | some o => o.after.any fun e => Region.binds .any e && e.on == i
  | none => false
/-- Each operation waits for earlier ones alone. -/
def backB (ops : Array Oper) : Bool :=
  (List.range ops.size).all fun i => match ops[i]? with
    | some o => o.after.all fun e => !Region.binds .any e || decide (e.on < i)
    | none => true
/-- Each but the last one is waited for by a later one. -/
def sunkB (ops : Array Oper) (n : Nat) : Bool :=
  (List.range n).all fun i => (List.range (n + 1)).any fun j => decide (i < j) && waitsB ops j i
def lastB (ops : Array Oper) (n : Nat) : Bool := decide (ops.size = n + 1) && backB ops && sunkB ops n

theorem waits_spec {j i : Nat} (h : waitsB ops j i = true) : ∃ o, ops[j]? = some o ∧ ∃ e ∈ o.after, Region.binds .any e = true ∧ e.on = i := by
  unfold waitsB at h
  split at h
  · rename_i o ho
    obtain ⟨e, he, hb⟩ := Array.any_eq_true'.1 h
    rw [Bool.and_eq_true, beq_iff_eq] at hb
    exact ⟨o, ho, e, he, hb.1, hb.2⟩
  · cases h
theorem back_spec (h : backB ops = true) {i : Nat} {o : Oper} (ho : ops[i]? = some o) {e : _} (he : e ∈ o.after) (hb : Region.binds .any e = true) : e.on < i := by
  have hi : i < ops.size := (Array.getElem?_eq_some_iff.1 ho).1
  have h1 := List.all_eq_true.1 h i (List.mem_range.2 hi)
  rw [ho] at h1
  have h2 := Array.all_eq_true'.1 h1 e he
  rw [hb] at h2
  simpa using h2

/-- Which operations came up: with each one all that it waits for; the last one did not. -/
structure Upto (ops : Array Oper) (n : Nat) (listed : Array Bool) : Prop where
  size : listed.size = ops.size
  closed : ∀ j o, ops[j]? = some o → listed.getD j false = true → ∀ e ∈ o.after, Region.binds .any e = true → listed.getD e.on false = true
  last : listed.getD n true = false

theorem both_false {listed : Array Bool} {i : Nat} (h : listed.getD i true = false) : listed.getD i false = false := by
  rcases Nat.lt_or_ge i listed.size with h' | h'
  · simp [h'] at h ⊢; exact h
  · simp [Array.getElem?_eq_none h'] at h
theorem not_true {listed : Array Bool} {i : Nat} (hi : i < listed.size) (h : ¬ listed.getD i false = true) : listed.getD i true = false := by
  simp [hi] at h ⊢; exact h
theorem set_self {listed : Array Bool} {i : Nat} (hi : i < listed.size) (d : Bool) : (listed.setIfInBounds i true).getD i d = true := by
  simp [hi]
theorem ready_unlisted {i : Nat} {listed : Array Bool} (h : i ∈ Region.ready .any ops listed) : listed.getD i true = false := (mem_ready.1 h).1

theorem Upto.set {n i : Nat} {listed : Array Bool} (h : Upto ops n listed) (hi : i ∈ Region.ready .any ops listed) (hin : i ≠ n) : Upto ops n (listed.setIfInBounds i true) := by
  obtain ⟨_, oi, hoi, hall⟩ := mem_ready.1 hi
  refine ⟨by simp [h.size], fun j o hj hl e he hb => ?_, by rw [getD_set_ne true hin]; exact h.last⟩
  by_cases hij : i = j
  · subst hij
    rw [hoi] at hj
    cases hj
    exact getD_set_true (hall e he hb)
  · rw [getD_set_ne false hij] at hl
    exact getD_set_true (h.closed j o hj hl e he hb)

/-- While another one is to come up the last one may not. -/
theorem last_waits {n : Nat} {listed : Array Bool} (hs : sunkB ops n = true) (h : Upto ops n listed) (hsz : ops.size = n + 1) : ∀ (d i : Nat), n - i = d → i < n → listed.getD i true = false → n ∉ Region.ready .any ops listed := by
  intro d
  induction d using Nat.strongRecOn with
  | _ d ih =>
    intro i hd hi hun hr
    obtain ⟨_, on, hon, hall⟩ := mem_ready.1 hr
    obtain ⟨j, hj, hj2⟩ := List.any_eq_true.1 (List.all_eq_true.1 hs i (List.mem_range.2 hi))
    rw [Bool.and_eq_true, decide_eq_true_eq] at hj2
    obtain ⟨o, ho, e, he, hb, e1⟩ := waits_spec hj2.2
    have hjn := List.mem_range.1 hj
    have hij := hj2.1
    by_cases hjl : listed.getD j false = true
    · have := h.closed j o ho hjl e he hb
      rw [e1, both_false hun] at this
      cases this
    · by_cases ejn : j = n
      · subst ejn
        rw [hon] at ho
        cases ho
        have := hall e he hb
        rw [e1, both_false hun] at this
        cases this
      · exact ih (n - j) (by omega) j rfl (by omega) (not_true (by rw [h.size]; omega) hjl) hr

theorem ready_other {n i : Nat} {listed : Array Bool} (hb : backB ops = true) (hsz : ops.size = n + 1) (hin : i ≠ n) : i ∈ Region.ready .any ops (listed.setIfInBounds n true) ↔ i ∈ Region.ready .any ops listed := by
  rw [mem_ready, mem_ready, getD_set_ne true (Ne.symm hin)]
  constructor
  · rintro ⟨h0, o, ho, hall⟩
    refine ⟨h0, o, ho, fun e he hbe => ?_⟩
    have h1 := back_spec hb ho he hbe
    have hi : i < ops.size := (Array.getElem?_eq_some_iff.1 ho).1
    have h2 := hall e he hbe
    rwa [getD_set_ne false (by omega)] at h2
  · rintro ⟨h0, o, ho, hall⟩
    exact ⟨h0, o, ho, fun e he hbe => getD_set_true (hall e he hbe)⟩

/-- Where no other one may come up all others have. -/
theorem all_listed {n : Nat} {listed : Array Bool} (hb : backB ops = true) (hsz : ops.size = n + 1) (hl : listed.size = ops.size) (h : Region.ready .any ops (listed.setIfInBounds n true) = []) : ∀ i, i < n → listed.getD i false = true := by
  intro i
  induction i using Nat.strongRecOn with
  | _ i ih =>
    intro hi
    refine Classical.byContradiction fun hc => ?_
    have hlt : i < ops.size := by omega
    have ho : ops[i]? = some ops[i] := Array.getElem?_eq_getElem hlt
    have hm : i ∈ Region.ready .any ops (listed.setIfInBounds n true) := by
      rw [ready_other hb hsz (by omega), mem_ready]
      refine ⟨not_true (by omega) hc, _, ho, fun e he hbe => ?_⟩
      have h1 := back_spec hb ho he hbe
      exact ih e.on h1 (Nat.lt_trans h1 hi)
    rw [h] at hm
    cases hm

/-- The post of a region without its last operation. -/
def atLast (P : Program) (ops : Array Oper) (Q : Exit → Act → World → Prop) (n : Nat) : Exit → Act → World → Prop
  | .normal, a, w => wpOp P ops Q n (Q .normal) a w
  | e, a, w => Q e a w

theorem op_turn {n : Nat} {o : Oper} {a : Act} {w : World} {K K' : Act → World → Prop} (hK : ∀ a w, K a w → K' a w) (h : o.wp P a w K (atLast P ops Q n)) : o.wp P a w K' Q := by
  unfold Oper.wp at h ⊢
  generalize (execOp a.eval o).run P w = r at h ⊢
  match r, h with
  | .ok (.value v) w', h => exact hK _ _ h
  | .ok .skip w', h => exact hK _ _ h
  | .ok (.defer d) w', h => exact hK _ _ h
  | .ok (.enter f args) w', h =>
    refine Calls.mono h fun e w'' he => ?_
    match e, he with
    | .returned v, he => exact hK _ _ he
    | .panicked c, he => exact he
    | .outgrown, he =>
      obtain ⟨a1, w1, h1⟩ := he
      exact ⟨a1, w1, h1⟩
  | .ok (.row row args) w', h => exact Rows.mono h fun v w'' hh => hK _ _ hh
  | .halt (.panic v) w', h => exact h
theorem wpOp_turn {n i : Nat} {a : Act} {w : World} {K K' : Act → World → Prop} (hK : ∀ a w, K a w → K' a w) (h : wpOp P ops (atLast P ops Q n) i K a w) : wpOp P ops Q i K' a w := by
  unfold wpOp at h ⊢
  cases ho : ops[i]? with
  | none => rw [ho] at h; exact hK _ _ h
  | some o =>
    rw [ho] at h
    simp only at h ⊢
    split
    · rename_i hw
      rw [if_pos hw] at h
      rcases h with h | ⟨h1, a1, w1, h2⟩
      · exact .inl (op_turn hK h)
      · exact .inr ⟨h1, a1, w1, h2⟩
    · rename_i hw
      rw [if_neg hw] at h
      exact hK _ _ h

theorem any_last {n : Nat} (hB : lastB ops n = true) : ∀ (fuel : Nat) (listed : Array Bool) (a : Act) (w : World), Upto ops n listed → wpAny P .any ops (atLast P ops Q n) fuel (listed.setIfInBounds n true) a w → wpAny P .any ops Q (fuel + 1) listed a w := by
  unfold lastB at hB
  rw [Bool.and_eq_true, Bool.and_eq_true, decide_eq_true_eq] at hB
  obtain ⟨⟨hsz, hb⟩, hs⟩ := hB
  have fin : ∀ (fuel : Nat) (listed : Array Bool) (a : Act) (w : World), Upto ops n listed → Region.ready .any ops (listed.setIfInBounds n true) = [] → wpOp P ops Q n (Q .normal) a w → wpAny P .any ops Q (fuel + 1) listed a w := by
    intro fuel listed a w h hr hq
    have hall := all_listed hb hsz h.size hr
    have hlt : n < ops.size := by omega
    have ho : ops[n]? = some ops[n] := Array.getElem?_eq_getElem hlt
    have hn : n ∈ Region.ready .any ops listed := mem_ready.2 ⟨h.last, _, ho, fun e he hbe => hall e.on (back_spec hb ho he hbe)⟩
    refine ⟨fun h0 => (by rw [h0] at hn; cases hn), fun i hi => ?_⟩
    obtain rfl : i = n := by
      refine Classical.byContradiction fun hin => ?_
      have := (ready_other hb hsz hin).2 hi
      rw [hr] at this
      cases this
    refine wpOp_mono (fun a' w' hQ => ?_) hq
    cases fuel with
    | zero => exact ⟨hr, hQ⟩
    | succ f => exact ⟨fun _ => hQ, fun j hj => by rw [hr] at hj; cases hj⟩
  intro fuel
  induction fuel with
  | zero => intro listed a w h H; exact fin 0 listed a w h H.1 H.2
  | succ fuel ih =>
    intro listed a w h H
    by_cases hr : Region.ready .any ops (listed.setIfInBounds n true) = []
    · exact fin _ listed a w h hr (H.1 hr)
    · obtain ⟨j, hj⟩ := List.exists_mem_of_ne_nil _ hr
      have hjn : j ≠ n := fun e => by
        have h1 := ready_unlisted hj
        rw [e, set_self (by rw [h.size]; omega)] at h1
        cases h1
      have hj' := (ready_other hb hsz hjn).1 hj
      have hjlt : j < n := by
        obtain ⟨_, o, ho, _⟩ := mem_ready.1 hj'
        have := (Array.getElem?_eq_some_iff.1 ho).1
        omega
      have hnn := last_waits hs h hsz _ j rfl hjlt (ready_unlisted hj')
      refine ⟨fun h0 => (by rw [h0] at hj'; cases hj'), fun i hi => ?_⟩
      have hin : i ≠ n := fun e => hnn (e ▸ hi)
      have h2 := H.2 i ((ready_other hb hsz hin).2 hi)
      refine wpOp_turn (fun a' w' hk => ih _ a' w' (h.set hi hin) ?_) h2
      rw [Array.setIfInBounds_comm _ _ hin]
      exact hk

/-- The beginning: what is held need not hold behind the last operation. -/
theorem wp_region_last {id : Nat} {a : Act} {w : World} (n : Nat) (hm : P.follows .mixedOrders = true) (hB : lastB ops n = true) (hS : S w.drew)
    (h : S w.drew → wpAnyH P .any ops (atLast P ops Q n) S n ((Array.replicate (n + 1) false).setIfInBounds n true) a w.drew) : (Code.region id ops true).wp P Q a w := by
  have hsz : ops.size = n + 1 := by
    unfold lastB at hB
    rw [Bool.and_eq_true, Bool.and_eq_true, decide_eq_true_eq] at hB
    exact hB.1.1
  refine wp_region_any hm ?_
  rw [hsz]
  refine any_last hB n _ a _ ⟨by simp [hsz], fun j o _ hl => ?_, ?_⟩ (wpAny_of_held _ _ _ _ (h hS))
  · have : (Array.replicate (n + 1) false).getD j false = false := by
      rcases Nat.lt_or_ge j (n + 1) with h | h <;> simp [h]
    rw [this] at hl
    cases hl
  · simp
/-- The last operation. -/
theorem last_step {n : Nat} {o : Oper} {a : Act} {w : World} (ho : ops[n]? = some o)
    (h : ∀ K : Act → World → Prop, (∀ a w, Q .normal a w → K a w) → if Region.wanted o (yielded ops a.tmps) = true then Oper.wp P o a w K Q else K (a.put o.dst undef) w) : atLast P ops Q n .normal a w :=
  wpOp_step ho h

/-- An operation that yields in each world that is held is taken first; its slot is a letter. -/
theorem held_take {md : Region.Mode} {i d : Nat} {oi : Oper} {v : Value} {fuel : Nat} {listed : Array Bool} {a : Act} {w : World} (hi : ops[i]? = some oi) (hd : oi.dst = some d)
    (hs : Region.noSelect ops = true) (hf : Region.free md ops listed i = true) (hr : (Region.ready md ops listed).contains i = true)
    (hQ : ∀ c a w, Q (.panic c) (a.put oi.dst v) w → Q (.panic c) a w) (hy : YieldsIf P ops S oi v a) (hS : S w)
    (h : wpAnyH P md ops Q S fuel (listed.setIfInBounds i true) (a.put (some d) v) w) : wpAnyH P md ops Q S (fuel + 1) listed a w :=
  wpAnyH_take hi hs hf hr hQ hy hS (by rw [hd]; exact h)

/-- An operation that may come up next; its slot is a letter. -/
theorem held_next {md : Region.Mode} {i d : Nat} {o : Oper} {rs : List Nat} {fuel : Nat} {listed : Array Bool} {a : Act} {w : World} (ho : ops[i]? = some o) (hd : o.dst = some d)
    (h : ∀ K' : Act → World → Prop, Shut (∀ v w', S w' → (S w' → wpAnyH P md ops Q S fuel (listed.setIfInBounds i true) (a.put (some d) v) w') → K' (a.put o.dst v) w') → if Region.wanted o (yielded ops a.tmps) = true then Oper.wp P o a w K' Q else K' (a.put o.dst undef) w)
    (hs : AllReadyH P md ops Q S fuel listed a w rs) : AllReadyH P md ops Q S fuel listed a w (i :: rs) :=
  AllReadyH.cons ho (fun K' hK => h K' (fun v w' hS hW => hK.out (a.put o.dst v) w' hS (by rw [hd]; exact hW))) hs

end
end Go.Proofs.Ythgbknfdbobmiaa
