/- This text says what it means that numbers and files lie in memory, and proves what opened, At, Close, give, Dup, Open and Move of package fds do: what they tell, and which files numbers have behind them; nothing is turned but the numbers and one file; the condition is that the numbers lie there. -/
import Derived.Test.YtepnbkonhaongaaDoorLo
import Derived.Test.YtepnbkonhaongaaDoorJ0
import Derived.Test.YtepnbkonhaongaaDoorAs
import Derived.Below
import Derived.Stop.Asserts
namespace Go.Proofs.YtepnbkonhaongaaDoor
open Go.RowKit Go.Deep

/-- The address of a file, or none. -/
def pO : Option Nat → Value
  | none => .pointer none
  | some b => .pointer (some ⟨b, 0, none⟩)
def tabC (F : Nat → Option Nat) : Array Value := #[pO (F 0), pO (F 1), pO (F 2), pO (F 3), pO (F 4), pO (F 5), pO (F 6), pO (F 7)]

theorem tabC_get (F : Nat → Option Nat) {k : Nat} (h : k < 8) : (tabC F)[k]? = some (pO (F k)) := by
  rcases (show k = 0 ∨ k = 1 ∨ k = 2 ∨ k = 3 ∨ k = 4 ∨ k = 5 ∨ k = 6 ∨ k = 7 by omega) with rfl | rfl | rfl | rfl | rfl | rfl | rfl | rfl <;> rfl
theorem tabC_set (F : Nat → Option Nat) {k : Nat} (h : k < 8) (o : Option Nat) : (tabC F).setIfInBounds k (pO o) = tabC (upd F k o) := by
  rcases (show k = 0 ∨ k = 1 ∨ k = 2 ∨ k = 3 ∨ k = 4 ∨ k = 5 ∨ k = 6 ∨ k = 7 by omega) with rfl | rfl | rfl | rfl | rfl | rfl | rfl | rfl <;> rfl

/-- A file in memory. -/
def FileAt (w : World) (b : Nat) (x : Nat × Nat) : Prop := w.heap[b]? = some (.cells #[.int .i64 (x.1 : Int), .int .i64 (x.2 : Int)] 77 (0, 0))
/-- Numbers in memory, each with its file, or none. -/
structure TabAt (w : World) (base g : Nat) (F : Nat → Option Nat) (Z : Nat → Nat × Nat) : Prop where
  low : base ≤ g
  tab : w.heap[g]? = some (.cells (tabC F) 74 (0, 0))
  file : ∀ i b, i < 8 → F i = some b → FileAt w b (Z b) ∧ base ≤ b
  fits : ∀ i b, i < 8 → F i = some b → (Z b).2 ≤ (Z b).1 ∧ (Z b).1 ≤ 64

/-- Its blocks. -/
def Fp (g : Nat) (F : Nat → Option Nat) (b : Nat) : Prop := b = g ∨ ∃ i, i < 8 ∧ F i = some b

/-- Nothing is turned but some blocks. -/
structure Tch (S : Nat → Prop) (w w' : World) : Prop where
  os : w'.os = w.os
  tape : w'.tape = w.tape
  output : w'.output = w.output
  size : w.heap.size ≤ w'.heap.size
  block : ∀ b, b < w.heap.size → ¬ S b → w'.heap[b]? = w.heap[b]?

theorem Tch.refl (S : Nat → Prop) (w : World) : Tch S w w := ⟨rfl, rfl, rfl, Nat.le_refl _, fun _ _ _ => rfl⟩
theorem Tch.of {S : Nat → Prop} {w w' : World} (h : Below w.heap.size w w') : Tch S w w' := ⟨h.os, h.tape, h.output, h.size, fun b hb _ => h.block b hb⟩
theorem Tch.below {S : Nat → Prop} {B : Nat} {w w' : World} (h : Tch S w w') (hB : ∀ b, S b → B ≤ b) (hs : B ≤ w.heap.size) : Below B w w' :=
  ⟨h.os, h.tape, h.output, h.size, fun b hb => h.block b (by omega) fun hS => by have := hB b hS; omega⟩
theorem Tch.trans {S T : Nat → Prop} {a b c : World} (h : Tch S a b) (k : Tch T b c) (hT : ∀ x, T x → S x ∨ a.heap.size ≤ x) : Tch S a c :=
  ⟨k.os.trans h.os, k.tape.trans h.tape, k.output.trans h.output, Nat.le_trans h.size k.size, fun x hx hS => by
    rw [k.block x (Nat.lt_of_lt_of_le hx h.size) (fun hTx => by rcases hT x hTx with e | e; exact hS e; omega)]
    exact h.block x hx hS⟩
theorem Tch.set {S : Nat → Prop} (w : World) {a : Addr} (u : Value) (h : S a.block) : Tch S w (w.setCell a u) :=
  ⟨rfl, rfl, rfl, by simp [World.setCell], fun b _ hS => Below.heap_setCell w a u b fun e => hS (e ▸ h)⟩

theorem TabAt.lt {w : World} {base g : Nat} {F : Nat → Option Nat} {Z : Nat → Nat × Nat} (h : TabAt w base g F Z) : g < w.heap.size := (Array.getElem?_eq_some_iff.1 h.tab).1
theorem FileAt.lt {w : World} {b : Nat} {x : Nat × Nat} (h : FileAt w b x) : b < w.heap.size := (Array.getElem?_eq_some_iff.1 h).1
theorem TabAt.fp {w : World} {base g : Nat} {F : Nat → Option Nat} {Z : Nat → Nat × Nat} (h : TabAt w base g F Z) {b : Nat} (hb : Fp g F b) : base ≤ b ∧ b < w.heap.size := by
  rcases hb with rfl | ⟨i, hi, e⟩
  · exact ⟨h.low, h.lt⟩
  · exact ⟨(h.file i b hi e).2, (h.file i b hi e).1.lt⟩
theorem TabAt.frame {w w' : World} {base g : Nat} {F : Nat → Option Nat} {Z : Nat → Nat × Nat} (h : TabAt w base g F Z) (hs : ∀ b, Fp g F b → w'.heap[b]? = w.heap[b]?) : TabAt w' base g F Z :=
  ⟨h.low, (hs g (.inl rfl)).trans h.tab, fun i b hi e => ⟨(hs b (.inr ⟨i, hi, e⟩)).trans (h.file i b hi e).1, (h.file i b hi e).2⟩, h.fits⟩
theorem TabAt.later {w w' : World} {base g : Nat} {F : Nat → Option Nat} {Z : Nat → Nat × Nat} (h : TabAt w base g F Z) (hb : Below w.heap.size w w') : TabAt w' base g F Z :=
  h.frame fun b hF => hb.block b (h.fp hF).2
theorem TabAt.apart {w : World} {base g : Nat} {F : Nat → Option Nat} {Z : Nat → Nat × Nat} (h : TabAt w base g F Z) {i b : Nat} (hi : i < 8) (e : F i = some b) : b ≠ g := by
  rintro rfl
  have h1 := (h.file i b hi e).1
  unfold FileAt at h1
  rw [h.tab] at h1
  have := congrArg Array.size (Obj.cells.inj (Option.some.inj h1)).1
  simp [tabC] at this

theorem TabAt.cell {w : World} {base g : Nat} {F : Nat → Option Nat} {Z : Nat → Nat × Nat} (h : TabAt w base g F Z) {k : Nat} (hk : k < 8) : w.cell? ⟨g, k, none⟩ = some (pO (F k)) := by
  simp only [World.cell?, h.tab]
  exact tabC_get F hk
theorem TabAt.loose {w : World} {base g : Nat} {F : Nat → Option Nat} {Z : Nat → Nat × Nat} (h : TabAt w base g F Z) (k : Nat) : w.frozen? ⟨g, k, none⟩ = false := by
  simp [World.frozen?, h.tab]
theorem FileAt.facts {w : World} {b : Nat} {x : Nat × Nat} (h : FileAt w b x) : w.cell? ⟨b, 0, none⟩ = some (.int .i64 (x.1 : Int)) ∧ w.cell? ⟨b, 1, none⟩ = some (.int .i64 (x.2 : Int)) ∧ w.frozen? ⟨b, 0, none⟩ = false ∧ w.frozen? ⟨b, 1, none⟩ = false := by
  unfold FileAt at h
  refine ⟨?_, ?_, ?_, ?_⟩ <;> simp [World.cell?, World.frozen?, h]

/-- Another file at a number. -/
theorem TabAt.set {w : World} {base g : Nat} {F : Nat → Option Nat} {Z : Nat → Nat × Nat} (h : TabAt w base g F Z) {k : Nat} (hk : k < 8) (o : Option Nat)
    (ho : ∀ b, o = some b → FileAt w b (Z b) ∧ base ≤ b ∧ (Z b).2 ≤ (Z b).1 ∧ (Z b).1 ≤ 64) : TabAt (w.setCell ⟨g, k, none⟩ (pO o)) base g (upd F k o) Z := by
  have hb : ∀ b, b ≠ g → (w.setCell ⟨g, k, none⟩ (pO o)).heap[b]? = w.heap[b]? := fun b hne => Below.heap_setCell w ⟨g, k, none⟩ (pO o) b hne
  have hfile : ∀ i b, i < 8 → upd F k o i = some b → FileAt w b (Z b) ∧ base ≤ b ∧ (Z b).2 ≤ (Z b).1 ∧ (Z b).1 ≤ 64 := fun i b hi e => by
    by_cases ei : i = k
    · subst ei
      rw [upd_self] at e
      exact ho b e
    · rw [upd_other ei] at e
      exact ⟨(h.file i b hi e).1, (h.file i b hi e).2, h.fits i b hi e⟩
  refine ⟨h.low, ?_, fun i b hi e => ?_, fun i b hi e => (hfile i b hi e).2.2⟩
  · have e : (w.setCell ⟨g, k, none⟩ (pO o)).heap[g]? = some (.cells ((tabC F).setIfInBounds k (pO o)) 74 (0, 0)) := by
      simp [World.setCell, Array.getElem?_modify, h.tab]
    rw [e, tabC_set F hk]
  · obtain ⟨h1, h2, _⟩ := hfile i b hi e
    refine ⟨(hb b ?_).trans h1, h2⟩
    rintro rfl
    unfold FileAt at h1
    rw [h.tab] at h1
    have := congrArg Array.size (Obj.cells.inj (Option.some.inj h1)).1
    simp [tabC] at this

end Go.Proofs.YtepnbkonhaongaaDoor
