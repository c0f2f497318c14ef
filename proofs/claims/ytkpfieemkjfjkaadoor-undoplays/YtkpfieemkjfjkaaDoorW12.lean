/- This text says what it means that a disk was made behind a world, and that values which were told lie in memory beside it, and proves that the law's closed fact on undoing holds: undoFact returns true; old memory is as it was; no condition. -/
import Derived.Test.YtkpfieemkjfjkaaDoorW8
import Derived.Test.YtkpfieemkjfjkaaDoorW11
import Derived.Test.YtkpfieemkjfjkaaDoorLj
import Derived.Test.YtkpfieemkjfjkaaDoorIn2
namespace Go.Proofs.YtkpfieemkjfjkaaDoor
open Go.RowKit Go.Deep

theorem eqB_self (xs : List Int) : eqB xs xs = true := by simp [eqB]

/-- A disk in memory that was made behind a world, whose memory is as it was. -/
structure OnU (w wr : World) (g : Nat) (v : Value) (d : Ud) : Prop where
  disk : UndoM wr w.heap.size g v d
  old : Below w.heap.size w wr
theorem OnU.later {w wr w' : World} {g : Nat} {v : Value} {d : Ud} (h : OnU w wr g v d) (hb : Below wr.heap.size wr w') : OnU w w' g v d := ⟨h.disk.later hb, h.old.trans (hb.mono h.old.size)⟩
theorem OnU.step {w wr w' : World} {g : Nat} {v v' : Value} {d d' : Ud} (h : OnU w wr g v d) (hs : Turn wr w' w.heap.size g v v' d') : OnU w w' g v' d' :=
  ⟨hs.disk, h.old.trans (hs.stay.below (fun _ hx => (h.disk.fp hx).1) h.old.size)⟩

/-- Values that were told lie in memory, and the disk elsewhere. -/
structure SeenU (w : World) (g : Nat) (v : Value) (B : Nat) (H : Nat → Nat) : Prop where
  at' : VlU w B H
  ap : ¬ Up g v B
theorem SeenU.step {w w' : World} {base g B : Nat} {v v' : Value} {d : Ud} {H : Nat → Nat} (h : SeenU w g v B H) (hs : Turn w w' base g v v' d) : SeenU w' g v' B H :=
  ⟨h.at'.stay hs.stay h.ap, fun e => by rcases hs.fp B e with k | k; exact h.ap k; have := h.at'.lt; omega⟩
theorem SeenU.later {w w' : World} {g B : Nat} {v : Value} {H : Nat → Nat} (h : SeenU w g v B H) (hb : Below w.heap.size w w') : SeenU w' g v B H := ⟨h.at'.later hb, h.ap⟩
theorem SeenU.new {w w' : World} {base g : Nat} {v : Value} {d : Ud} {H : Nat → Nat} (h : UndoM w base g v d) (hv : VlU w' w.heap.size H) : SeenU w' g v w.heap.size H := ⟨hv, fun e => by have := (h.fp e).2; omega⟩
theorem VlU.is {w : World} {B : Nat} {H : Nat → Nat} (h : VlU w B H) : SliceIs w (.slice (some ⟨B, 0, none⟩) 8 8) (lst H) :=
  ⟨_, 8, by rw [lst_len], by rw [lst_len]; unfold maxLen; omega, fun _ => ⟨B, 0, rfl, h.lt, fun i hi => by rw [lst_len] at hi; rw [Nat.zero_add, h.cell hi, lst_nth hi]⟩⟩
theorem lst_same {H K : Nat → Nat} (e : ∀ i, i < 8 → H i = K i) : lst H = lst K := by
  unfold lst
  refine List.map_congr_left fun i hi => ?_
  rw [e i (List.mem_range.1 hi)]
/-- Two lists of eight numbers that are the same. -/
theorem sameU_any (w : World) (v v' : Value) (H K : Nat → Nat) (hB : SliceIs w v (lst H)) (hC : SliceIs w v' (lst K)) (e : ∀ i, i < 8 → H i = K i) :
    Calls Tryd.prog 18 #[v, v'] w fun e w' => e = .returned (.bool true) ∧ Below w.heap.size w w' := by
  rw [← lst_same e] at hC
  have H1 := ints_any w _ _ _ _ hB hC
  rw [eqB_self] at H1
  refine H1.mono ?_
  rintro e w' ⟨rfl, q, rfl⟩
  exact ⟨rfl, below_drew _ _ _⟩

theorem f_w1 : wrE ud0.L 1 2 9 = 0 := by decide
theorem f_e1 : enE 1 = 0 := by decide
theorem f_v1 : (wrD ud0 1 2 9).H 2 = 9 := by decide
theorem f_v2 : (unD (wrD ud0 1 2 9) 1).H 2 = 0 := by decide

set_option maxHeartbeats 4000000 in
set_option maxRecDepth 100000 in
theorem fact_any (w : World) : Calls Tryd.prog 5 #[] w fun e w' => e = .returned (.bool true) ∧ Below w.heap.size w w' := by
  go_enter Tryd.func5, Tryd.ntmps5
  go_wp2_with fail
  refine (new_any _).mono ?_
  rintro e w1 ⟨rfl, hT, hb⟩
  have S1 : Hid (OnU w w1 w.heap.size (.slice none 0 0) ud0) := ⟨hT, hb⟩
  clear hT hb
  go_wp2_with fail
  refine (write_any w1 _ _ _ _ S1.out.disk 1 2 9).mono ?_
  rintro e w2 ⟨rfl, v2, hst⟩
  rw [f_w1, errV_zero]
  have S2 : Hid (OnU w w2 w.heap.size v2 (wrD ud0 1 2 9)) := S1.out.step hst
  clear hst
  go_wp2_with fail
  refine (values_any w2 _ _ _ _ S2.out.disk).mono ?_
  rintro e w3 ⟨rfl, hv, hb⟩
  have V3 : Hid (SeenU w3 w.heap.size v2 w2.heap.size (wrD ud0 1 2 9).H) := SeenU.new S2.out.disk hv
  have S3 : Hid (OnU w w3 w.heap.size v2 (wrD ud0 1 2 9)) := S2.out.later hb
  clear hv hb
  go_wp2_with fail
  refine (undo_any w3 _ _ _ _ S3.out.disk 1).mono ?_
  rintro e w4 ⟨rfl, v4, hst⟩
  rw [f_e1, errV_zero]
  have V4 : Hid (SeenU w4 w.heap.size v4 w2.heap.size (wrD ud0 1 2 9).H) := V3.out.step hst
  have S4 : Hid (OnU w w4 w.heap.size v4 (unD (wrD ud0 1 2 9) 1)) := S3.out.step hst
  clear hst
  go_wp2_with fail
  refine (values_any w4 _ _ _ _ S4.out.disk).mono ?_
  rintro e w5 ⟨rfl, hv, hb⟩
  have m2 : w5.cell? ⟨w4.heap.size, 2, none⟩ = some (.int .i64 0) := by have := hv.cell (i := 2) (by decide); rw [f_v2] at this; exact this
  have l2 : w5.cell? ⟨w2.heap.size, 2, none⟩ = some (.int .i64 9) := by have := (V4.out.later hb).at'.cell (i := 2) (by decide); rw [f_v1] at this; exact this
  have S5 : Hid (OnU w w5 w.heap.size v4 (unD (wrD ud0 1 2 9) 1)) := S4.out.later hb
  clear hv hb
  go_wp2
  go_ret
  exact ⟨rfl, S5.out.old⟩

end Go.Proofs.YtkpfieemkjfjkaaDoor
