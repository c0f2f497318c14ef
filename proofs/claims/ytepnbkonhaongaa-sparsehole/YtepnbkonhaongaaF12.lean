/- This text proves nothing new of the program: Read of all bytes and Blocks of package sparse, as the laws take them, and a call that leaves the world as it was, as a region takes it; the condition is that the file lies there. -/
import Derived.Test.YtepnbkonhaongaaF10
namespace Go.Proofs.Ytepnbkonhaongaa
open Go.RowKit Go.Deep Go.Maps

theorem quiet_at {P : Program} {f : FuncId} {args : Array Value} {w : World} {q n : Nat} {v : Value}
    (h : Calls P f args (w.drewN (q + n)) fun e w' => e = .returned v ∧ w.drewN (q + n) = w') : Calls P f args (w.drewN (q + n)) fun e w'' => e = .returned v ∧ ∃ m, w'' = w.drewN (q + m) :=
  h.mono fun _ _ ⟨he, hm⟩ => ⟨he, n, hm.symm⟩
theorem quiet0 {P : Program} {f : FuncId} {args : Array Value} {w : World} {n : Nat} {v : Value}
    (h : Calls P f args (w.drewN n) fun e w' => e = .returned v ∧ w.drewN n = w') : Calls P f args (w.drewN n) fun e w'' => e = .returned v ∧ ∃ m, w'' = w.drewN m :=
  h.mono fun _ _ ⟨he, hm⟩ => ⟨he, n, hm.symm⟩

/-- A list of the call's own stays while older blocks are turned. -/
theorem keeps_own {w : World} {base n g b : Nat} {v : Value} {xs : List Int} (h : w.ownsRow base 3 1 v n (cellsOf xs)) (hm : n ≤ maxLen) (hg : g < base) (hb : b < base) : Keeps (Two g b) w v xs := fun w' hs => by
  refine slice_own (w := w') (base := base) (n := n) ⟨h.1, ?_⟩ hm
  rcases h.2 with h0 | ⟨k, cap, cur, h1, h2, h3, h4⟩
  · exact .inl h0
  · exact .inr ⟨k, cap, cur, h1, h2, by rw [hs.block k (Array.getElem?_eq_some_iff.1 h3).1 (by rintro (e | e) <;> omega)]; exact h3, h4⟩

theorem rdE_all : rdE 0 64 = 0 := by decide
theorem rdV_all (f : Fil) : rdV f 0 64 = rdL f 0 64 := if_pos (by decide)

theorem read_all (w : World) (g b : Nat) (f : Fil) (h : FilM w g b f) (hw : Wel f) :
    Calls Try.prog 8 #[ptrF g, .int .i64 0, .int .i64 64] w fun e w' => ∃ v, e = .returned (.tuple #[v, .nilIface]) ∧ Keeps (Two g b) w' v (rdL f 0 64) ∧ Below w.heap.size w w' := by
  refine (sp_read w g b f h hw 0 64).mono ?_
  rintro e w' ⟨v, rfl, h1, h2⟩
  rw [rdE_all, errV_zero]
  rw [rdV_all] at h1
  exact ⟨v, rfl, keeps_own h1 (by rw [rdL_all hw]; have := hw.big; unfold maxLen; omega) h.lt.1 h.lt.2, h2⟩
/-- All bytes, opened: where they lie, whatever is done with the file. -/
theorem read_open (w : World) (g b : Nat) (f : Fil) (h : FilM w g b f) (hw : Wel f) :
    Calls Try.prog 8 #[ptrF g, .int .i64 0, .int .i64 64] w fun e w' => ∃ a c b' o, e = .returned (.tuple #[.slice a f.s c, .nilIface]) ∧ (0 < f.s → a = some ⟨b', o, none⟩) ∧
      (∀ w'', Stay (Two g b) w' w'' → ∀ i, i < f.s → w''.cell? ⟨b', o + i, none⟩ = some (.int .i64 (f.c i))) ∧ Keeps (Two g b) w' (.slice a f.s c) (rdL f 0 64) ∧ Below w.heap.size w w' := by
  refine (read_all w g b f h hw).mono ?_
  rintro e w' ⟨v, rfl, h1, h2⟩
  obtain ⟨a, c, b', o, rfl, _, ha, _⟩ := h1.is.where
  rw [rdL_all hw] at ha h1 ⊢
  refine ⟨a, c, b', o, rfl, ha, fun w'' hs i hi => ?_, h1, h2⟩
  obtain ⟨a', c', hv, _, hx⟩ := h1 w'' hs
  obtain rfl : a = a' := (Value.slice.inj hv).1
  obtain ⟨b2, o2, e2, _, hc⟩ := hx (fun e => by have := rdL_all hw; rw [e] at this; simp at this; omega)
  rw [ha (by omega)] at e2
  cases e2
  rw [hc i (by rw [rdL_all hw]; exact hi), rdL_at hw hi]
theorem blocks_all (w : World) (g b : Nat) (f : Fil) (h : FilM w g b f) (hw : Wel f) :
    Calls Try.prog 12 #[ptrF g] w fun e w' => ∃ v, e = .returned v ∧ SliceIs w' v (blL f) ∧ Below w.heap.size w w' := by
  refine (sp_blocks w g b f h hw).mono ?_
  rintro e w' ⟨v, rfl, h1, h2⟩
  exact ⟨v, rfl, slice_own h1 (by rw [blL_len]; have := blN_le f; unfold maxLen; omega), h2⟩

end Go.Proofs.Ytepnbkonhaongaa
