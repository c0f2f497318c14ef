/- This text says what it means that three disks lie in memory beside each other, and that a step on one leaves the others; it speaks of no call; no condition. -/
import Derived.Test.YthgbknfdbobmiaaSTp0
import Derived.Test.YthgbknfdbobmiaaW10
import Derived.Test.YthgbknfdbobmiaaW8
import Derived.Test.YthgbknfdbobmiaaS6
namespace Go.Proofs.Ythgbknfdbobmiaa
open Go.RowKit Go.Deep

theorem VlI.ofAt {w : World} {B : Nat} {H : Nat → Nat} (h : Zw.VlAt w B H) : VlI w B fun i => (H i : Int) := ⟨_, h⟩
theorem VlI.ofU {w : World} {B : Nat} {H : Nat → Nat} (h : VlU w B H) : VlI w B fun i => (H i : Int) := ⟨_, h⟩

/-- Three disks. -/
structure TriM (w0 w : World) (ga : Nat) (va : Value) (D : Zw.Dk) (gb : Nat) (vb : Value) (U : Ud) (gc : Nat) (C : Nat → Int) : Prop where
  a : Zw.DiskM w w0.heap.size ga va D
  b : UndoM w w0.heap.size gb vb U
  c : ShaM w w0.heap.size gc C
  old : Below w0.heap.size w0 w
  ab : ∀ x, Zw.Fp ga va x → ¬ Up gb vb x
  ac : ¬ Zw.Fp ga va gc
  bc : ¬ Up gb vb gc
theorem TriM.later {w0 w w' : World} {ga gb gc : Nat} {va vb : Value} {D : Zw.Dk} {U : Ud} {C : Nat → Int} (h : TriM w0 w ga va D gb vb U gc C) (hb : Below w.heap.size w w') : TriM w0 w' ga va D gb vb U gc C :=
  ⟨h.a.later hb, h.b.later hb, h.c.later hb, h.old.trans (hb.mono h.old.size), h.ab, h.ac, h.bc⟩
theorem TriM.stepA {w0 w w' : World} {ga gb gc : Nat} {va vb va' : Value} {D D' : Zw.Dk} {U : Ud} {C : Nat → Int} (h : TriM w0 w ga va D gb vb U gc C) (s : Zw.Step w w' w0.heap.size ga va va' D') : TriM w0 w' ga va' D' gb vb U gc C :=
  ⟨s.disk, h.b.stay s.stay (fun x hx hf => h.ab x hf hx), h.c.stay s.stay h.ac, h.old.trans (s.stay.below (fun x hx => (h.a.fp hx).1) h.old.size),
    fun x hx hu => by
      rcases s.fp x hx with k | k
      · exact h.ab x k hu
      · have := (h.b.fp hu).2; omega,
    fun hx => by
      rcases s.fp gc hx with k | k
      · exact h.ac k
      · have := h.c.lt; omega,
    h.bc⟩
theorem TriM.stepB {w0 w w' : World} {ga gb gc : Nat} {va vb vb' : Value} {D : Zw.Dk} {U U' : Ud} {C : Nat → Int} (h : TriM w0 w ga va D gb vb U gc C) (s : Turn w w' w0.heap.size gb vb vb' U') : TriM w0 w' ga va D gb vb' U' gc C :=
  ⟨h.a.stay s.stay (fun x hx hf => h.ab x hx hf), s.disk, h.c.stay s.stay h.bc, h.old.trans (s.stay.below (fun x hx => (h.b.fp hx).1) h.old.size),
    fun x hx hu => by
      rcases s.fp x hu with k | k
      · exact h.ab x hx k
      · have := (h.a.fp hx).2; omega,
    h.ac,
    fun hx => by
      rcases s.fp gc hx with k | k
      · exact h.bc k
      · have := h.c.lt; omega⟩
theorem TriM.stepC {w0 w w' : World} {ga gb gc : Nat} {va vb : Value} {D : Zw.Dk} {U : Ud} {C C' : Nat → Int} (h : TriM w0 w ga va D gb vb U gc C) (s : TurnS w w' w0.heap.size gc C') : TriM w0 w' ga va D gb vb U gc C' :=
  ⟨h.a.stay s.stay (fun x hx e => h.ac (by rw [← e]; exact hx)), h.b.stay s.stay (fun x hx e => h.bc (by rw [← e]; exact hx)), s.disk, h.old.trans (s.stay.below (fun x e => by rw [e]; exact h.c.low) h.old.size), h.ab, h.ac, h.bc⟩
/-- A disk that was made behind two others. -/
theorem TriM.make {w0 w1 w2 w3 : World} {ga gb gc : Nat} {va vb : Value} {D : Zw.Dk} {U : Ud} {C : Nat → Int} {p q : Nat} (h1 : Zw.DiskM w1 w0.heap.size ga va D) (b1 : Below w0.heap.size w0 w1)
    (h2 : UndoM w2 p gb vb U) (hp : p = w1.heap.size) (b2 : Below w1.heap.size w1 w2) (h3 : ShaM w3 q gc C) (hq : w2.heap.size ≤ q) (b3 : Below w2.heap.size w2 w3) : TriM w0 w3 ga va D gb vb U gc C := by
  subst hp
  have s1 := b1.size
  have s2 := b2.size
  have hu := h2.later b3
  refine ⟨(h1.later b2).later b3, ⟨hu.cells, ?_, hu.ap, hu.good, by have := hu.low; omega⟩, ⟨h3.cells, h3.good, by have := h3.low; omega⟩, (b1.trans (b2.mono s1)).trans (b3.mono (by omega)), fun x hx k => ?_, fun hx => ?_, fun hx => ?_⟩
  · have := hu.log
    refine ⟨this.1, ?_⟩
    rcases this.2 with k | ⟨b, cap, cur, m1, m2, m3⟩
    · exact .inl k
    · exact .inr ⟨b, cap, cur, m1, by omega, m3⟩
  · have := (h1.fp hx).2
    have := (h2.fp k).1
    omega
  · have := (h1.fp hx).2
    have := h3.low
    omega
  · have := (h2.fp hx).2
    have := h3.low
    omega

end Go.Proofs.Ythgbknfdbobmiaa
