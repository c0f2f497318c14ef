/- This text proves the closed fact of the laws on files with holes: it holds; old memory stays; no condition. -/
import Derived.Test.YtepnbkonhaongaaF9
namespace Go.Proofs.Ytepnbkonhaongaa
open Go.RowKit Go.Deep Go.Maps

theorem slice_block {w w' : World} {B n cap : Nat} {xs : List Int} (h : SliceIs w (.slice (some ⟨B, 0, none⟩) n cap) xs) (e : w'.heap[B]? = w.heap[B]?) (hs : w.heap.size ≤ w'.heap.size) : SliceIs w' (.slice (some ⟨B, 0, none⟩) n cap) xs := by
  obtain ⟨a, c, hv, hl, hx⟩ := h
  refine ⟨a, c, hv, hl, fun hne => ?_⟩
  obtain ⟨b, o, h1, h2, h3⟩ := hx hne
  cases hv
  cases h1
  exact ⟨B, 0, rfl, Nat.lt_of_lt_of_le h2 hs, fun i hi => by rw [World.cell?_of_block e]; exact h3 i hi⟩
/-- A list that the call has just laid stays while a file's blocks are turned. -/
theorem keeps_lit {w : World} {g b : Nat} (hg : g < w.heap.size) (hb : b < w.heap.size) (xs : List Int) (hm : xs.length ≤ maxLen) (cap : Nat) :
    Keeps (Two g b) (w.alloc (.cells (xs.map fun x => Value.int .i64 x).toArray 3)) (.slice (some ⟨w.heap.size, 0, none⟩) xs.length cap) xs := fun w' hs =>
  slice_block (ints_lit w xs hm cap) (hs.block _ (by simp) (by rintro (e | e) <;> omega)) hs.size

theorem fact_e : wrE 9 [7] = 0 := by decide
theorem fact_s : (wroF fil0 9 [7]).s = 10 := by decide +kernel
theorem fact_r : rdE 8 9 = 0 := by decide
theorem fact_v : rdV (wroF fil0 9 [7]) 8 9 = [0, 7] := by decide +kernel
theorem fact_b : blL (wroF fil0 9 [7]) = [2] := by decide +kernel
theorem eqB_self (xs : List Int) : eqB xs xs = true := by simp [eqB]

set_option maxHeartbeats 4000000 in
set_option maxRecDepth 100000 in
theorem spFact_any (w : World) : Calls Try.prog 6 #[] w fun e w' => e = .returned (.bool true) ∧ Below w.heap.size w w' := by
  have hw1 : Wel (wroF fil0 9 [7]) := wroF_wel wel0 9 [7]
  go_enter Try.func6, Try.ntmps6
  go_wp2_with fail
  refine (sp_new _).mono ?_
  rintro e w1 ⟨g, b, rfl, hF, hg, hb, hB⟩
  have ST : Hid (OnF w w1 g b fil0) := ⟨hF, wel0, ⟨hg, hb⟩, hB⟩
  clear hF hg hb hB
  have HW : Hid _ := fun (_ : Nat) => sp_write _ g b fil0 (ST.out.fil.later (below_alloc w1 (.cells ([7].map fun x => Value.int .i64 x).toArray 3))) 9 _ [7] (keeps_lit ST.out.fil.lt.1 ST.out.fil.lt.2 [7] (by unfold maxLen; simp) 1)
  rw [fact_e, errV_zero] at HW
  unfold ptrF at HW ⊢
  go_wp2_with (go_at_call 10; refine (HW.out 0).mono ?_; rintro e w2 ⟨rfl, hF2, hS2⟩)
  have ST2 : Hid (OnF w w2 g b (wroF fil0 9 [7])) := (ST.out.later (below_alloc _ _)).step hF2 hw1 hS2
  clear hF2 hS2 HW
  have HR : Hid _ := fun (_ : Nat) => sp_read w2 g b _ ST2.out.fil ST2.out.wel 8 9
  rw [fact_r, fact_v, errV_zero] at HR
  unfold ptrF at HR
  go_wp2_with (go_at_call 8; refine (HR.out 0).mono ?_; rintro e w3 ⟨v3, rfl, hr3, hb3⟩)
  have ST3 : Hid (OnF w w3 g b (wroF fil0 9 [7])) := ST2.out.later hb3
  have HV : Hid (SliceIs w3 v3 [0, 7]) := slice_own hr3 (by unfold maxLen; simp)
  clear hr3 hb3 HR
  have HZ : Hid _ := fun (_ : Nat) => sp_size w3 g b _ ST3.out.fil
  rw [fact_s] at HZ
  have HI : Hid _ := fun (_ : Nat) => ints_any (w3.alloc (.cells ([0, 7].map fun x => Value.int .i64 x).toArray 3)) v3 _ [0, 7] [0, 7] (HV.out.later (below_alloc _ _)) (ints_lit w3 [0, 7] (by unfold maxLen; simp) 2)
  rw [eqB_self] at HI
  have HB : Hid (∀ q, Calls Try.prog 12 #[ptrF g] ((w3.alloc (.cells ([0, 7].map fun x => Value.int .i64 x).toArray 3)).drewN q) fun e w' => ∃ v, e = .returned v ∧ SliceIs w' v [2] ∧ Below w3.heap.size w3 w') := fun q => by
    have hb := (below_alloc w3 (.cells ([0, 7].map fun x => Value.int .i64 x).toArray 3)).trans (below_drewN (w3.alloc (.cells ([0, 7].map fun x => Value.int .i64 x).toArray 3)) w3.heap.size q)
    have ST4 := ST3.out.later hb
    refine (sp_blocks _ g b _ ST4.fil ST4.wel).mono ?_
    rintro e w' ⟨v, rfl, h1, h2⟩
    rw [fact_b] at h1
    exact ⟨v, rfl, slice_own h1 (by unfold maxLen; simp), Below.next hb h2⟩
  have HJ : Hid (∀ (w4 : World) (v4 : Value), SliceIs w4 v4 [2] → Calls Try.prog 11 #[v4, .slice (some ⟨w4.heap.size, 0, none⟩) 1 1] (w4.alloc (.cells ([2].map fun x => Value.int .i64 x).toArray 3)) fun e w' => e = .returned (.bool true) ∧ ∃ q, w' = (w4.alloc (.cells ([2].map fun x => Value.int .i64 x).toArray 3)).drewN q) := fun w4 v4 h4 => by
    have := ints_any (w4.alloc (.cells ([2].map fun x => Value.int .i64 x).toArray 3)) v4 _ [2] [2] (h4.later (below_alloc _ _)) (ints_lit w4 [2] (by unfold maxLen; simp) 1)
    rwa [eqB_self] at this
  have HF : Hid (Below w.heap.size w w3) := ST3.out.old
  unfold ptrF at HZ HB
  go_wp2_with (first
    | (go_at_call 9; refine (HZ.out 0).mono ?_; rintro e w4 ⟨rfl, rfl⟩)
    | (go_at_call_of 11 v3; refine (HI.out 0).mono ?_; rintro e w4 ⟨rfl, q, rfl⟩)
    | (go_at_call 12; refine (HB.out _).mono ?_; rintro e w5 ⟨v5, rfl, hv5, hb5⟩; have HV5 : Hid (SliceIs w5 v5 [2]) := hv5; have HB5 : Hid (Below w3.heap.size w3 w5) := hb5; clear hv5 hb5)
    | (go_at_call_of 11 v5; refine (HJ.out _ _ HV5.out).mono ?_; rintro e w6 ⟨rfl, q2, rfl⟩))
  go_ret
  exact ⟨rfl, Below.next (Below.next (Below.next HF.out HB5.out) (below_alloc _ _)) (below_drewN _ _ _)⟩

end Go.Proofs.Ytepnbkonhaongaa
