/- This text proves what redo of package wal leaves in the blocks that it is handed: all that a turn wrote, in its order; nothing else is turned; the conditions are that the blocks lie there, and the records. -/
import Derived.Test.YthgbknfdbobmiaaZT2
import Derived.OneCell
import Derived.Lib.SliceRun
import Derived.Laws.IdiomCopy
import Derived.BigQuiet
import Derived.Deep.RegionHeld3
import Derived.Stop.Asserts
namespace Go.Proofs.Ythgbknfdbobmiaa.Zw
open Go.RowKit Go.Deep Go.Maps

/-- What is in the blocks, in a block of memory. -/
def VlAt (w : World) (B : Nat) (H : Nat → Nat) : Prop := w.heap[B]? = some (.cells (celN H 8) 56 (0, 0))

theorem VlAt.lt {w : World} {B : Nat} {H : Nat → Nat} (h : VlAt w B H) : B < w.heap.size := (Array.getElem?_eq_some_iff.1 h).1

theorem VlAt.later {w w' : World} {B : Nat} {H : Nat → Nat} (h : VlAt w B H) (hb : Below w.heap.size w w') : VlAt w' B H := (hb.block B h.lt).trans h

theorem VlAt.stay {S : Nat → Prop} {w w' : World} {B : Nat} {H : Nat → Nat} (h : VlAt w B H) (hs : Stay S w w') (hn : ¬ S B) : VlAt w' B H := (hs.block B h.lt hn).trans h

theorem VlAt.cell {w : World} {B : Nat} {H : Nat → Nat} (h : VlAt w B H) {i : Nat} (hi : i < 8) : w.cell? ⟨B, i, none⟩ = some (.int .i64 (H i : Int)) := (cell_in h i).1.trans (celN_get hi)

theorem VlAt.put {w : World} {B : Nat} {H : Nat → Nat} (h : VlAt w B H) (b v : Nat) : VlAt (w.setCell ⟨B, b, none⟩ (.int .i64 (v : Int))) B (putV H b v) := by
  unfold VlAt
  rw [heap_set h, celN_set]

theorem redo_next {L : List Rc} {k : Nat} (hk : k < L.length) (t : Nat) (H : Nat → Nat) : redo (L.take (k + 1)) t H = stp t (redo (L.take k) t H) (rcAt L k) := by
  rw [List.take_succ_eq_append_getElem hk, redo_append, redo_one, rcAt_lt hk]

set_option maxHeartbeats 4000000 in
set_option maxRecDepth 100000 in
theorem redo_any (w : World) (B : Nat) (H : Nat → Nat) (hB : VlAt w B H) (v : Value) (L : List Rc) (hx : RcsIs w v L) (h1 : ∀ r ∈ L, r.b < 8) (hv : v.ownBlock ≠ some B) (t : Nat) :
    Calls Try.prog 36 #[.pointer (some ⟨B, 0, none⟩), v, .int .i64 (t : Int)] w fun e w' => e = .returned (.tuple #[]) ∧ VlAt w' B (redo L t H) ∧ Stay (fun x => x = B) w w' := by
  obtain ⟨a, c, b, rfl, hm, ha, hb, hc⟩ := hx.where
  obtain ⟨n, hn⟩ : ∃ n, n = L.length := ⟨_, rfl⟩
  have HN : Hid (n = L.length) := hn
  rw [← hn] at hm ha hb hc hv ⊢
  unfold maxLen at hm
  have HC : Hid (∀ i, i < n → w.cell? ⟨b, i * 4, none⟩ = some (.int .i64 ((rcAt L i).t : Int)) ∧ w.cell? ⟨b, i * 4 + 1, none⟩ = some (.int .i64 ((rcAt L i).b : Int)) ∧ w.cell? ⟨b, i * 4 + 2, none⟩ = some (.int .i64 ((rcAt L i).v : Int)) ∧ w.cell? ⟨b, i * 4 + 3, none⟩ = some (.bool (rcAt L i).e)) := hc
  have H1 : Hid (∀ i, i < n → (rcAt L i).b < 8) := fun i hi => h1 _ (rcAt_mem (by omega))
  have HV : Hid (VlAt w B H) := hB
  have HNe : Hid (0 < n → b ≠ B) := fun h e => hv (by rw [ha h, e]; rfl)
  have HBl : Hid (B < w.heap.size) := hB.lt
  clear hc hn hx h1 hB hv
  go_enter Try.func36, Try.ntmps36
  go_wp2
  go_loopw [10] (fun i wr => ∃ k : Nat, k ≤ n ∧ i = .int .i64 k ∧ VlAt wr B (redo (L.take k) t H) ∧ Stay (fun x => x = B) w wr) (fun i _ => n - (intOf i).toNat)
  case atStart => exact ⟨0, Nat.zero_le _, rfl, HV.out, Stay.refl _ _⟩
  case round =>
    obtain ⟨k, hk, rfl, hvl, hst⟩ := hrel
    have VR : Hid (VlAt wr B (redo (L.take k) t H)) := hvl
    have SR : Hid (Stay (fun x => x = B) w wr) := hst
    clear hvl
    by_cases hlt : k < n
    · have haa := ha (by omega)
      subst haa
      have hbe : wr.heap[b]? = w.heap[b]? := hst.block b (hb (by omega)) (HNe.out (by omega))
      obtain ⟨q0, q1, q2, q3⟩ := HC.out k hlt
      have c0 : wr.cell? ⟨b, k * 4, none⟩ = some (.int .i64 ((rcAt L k).t : Int)) := (World.cell?_of_block (w := w) (a := ⟨b, k * 4, none⟩) hbe).trans q0
      have c1 : wr.cell? ⟨b, k * 4 + 1, none⟩ = some (.int .i64 ((rcAt L k).b : Int)) := (World.cell?_of_block (w := w) (a := ⟨b, k * 4 + 1, none⟩) hbe).trans q1
      have c2 : wr.cell? ⟨b, k * 4 + 2, none⟩ = some (.int .i64 ((rcAt L k).v : Int)) := (World.cell?_of_block (w := w) (a := ⟨b, k * 4 + 2, none⟩) hbe).trans q2
      have c3 : wr.cell? ⟨b, k * 4 + 3, none⟩ = some (.bool (rcAt L k).e) := (World.cell?_of_block (w := w) (a := ⟨b, k * 4 + 3, none⟩) hbe).trans q3
      have HX : Hid (redo (L.take (k + 1)) t H = stp t (redo (L.take k) t H) (rcAt L k)) := redo_next (by rw [← HN.out]; exact hlt) t H
      have hb8 : (rcAt L k).b < 8 := H1.out k hlt
      clear q0 q1 q2 q3 hbe hst
      generalize hX : rcAt L k = X at c0 c1 c2 c3 HX hb8
      clear hX
      obtain ⟨T, B1, V1, E⟩ := X
      have hb8 : B1 < 8 := hb8
      have c0 : wr.cell? ⟨b, k * 4, none⟩ = some (.int .i64 (T : Int)) := c0
      have c1 : wr.cell? ⟨b, k * 4 + 1, none⟩ = some (.int .i64 (B1 : Int)) := c1
      have c2 : wr.cell? ⟨b, k * 4 + 2, none⟩ = some (.int .i64 (V1 : Int)) := c2
      have c3 : wr.cell? ⟨b, k * 4 + 3, none⟩ = some (.bool E) := c3
      generalize redo (L.take k) t H = Hk at VR HX
      have HAl : Hid (∀ o, VlAt (wr.alloc o) B Hk ∧ Stay (fun x => x = B) w (wr.alloc o)) := fun o => ⟨VR.out.later (below_one _ _), SR.out.trans (Stay.of (below_one _ _))⟩
      cases E with
      | true =>
        have HX2 : Hid (redo (L.take (k + 1)) t H = Hk) := by have := HX.out; unfold stp at this; rw [if_neg (by simp)] at this; exact this
        go_wp2
        go_roundw
        case rel => exact ⟨k + 1, by omega, by go_num, by rw [HX2.out]; exact (HAl.out _).1, (HAl.out _).2⟩
        case measure => simp [intOf]; omega
      | false =>
        by_cases hT : T = t
        · subst hT
          have HX2 : Hid (redo (L.take (k + 1)) T H = putV Hk B1 V1) := by have := HX.out; unfold stp at this; rw [if_pos ⟨rfl, rfl⟩] at this; exact this
          have hbB : B < wr.heap.size := VR.out.lt
          have f1 : wr.cell? ⟨B, B1, none⟩ = some (.int .i64 (Hk B1 : Int)) := VR.out.cell hb8
          have f2 : wr.frozen? ⟨B, B1, none⟩ = false := (cell_in VR.out B1).2
          have HP : Hid (∀ w2, VlAt w2 B Hk → VlAt (w2.setCell ⟨B, B1, none⟩ (.int .i64 (V1 : Int))) B (putV Hk B1 V1)) := fun w2 h => h.put B1 V1
          generalize ((Hk B1 : Nat) : Int) = y at f1
          go_wp2
          go_region
          go_wp2
          go_roundw
          case rel => exact ⟨k + 1, by omega, by go_num, by rw [HX2.out]; exact ((HP.out _ VR.out).later (below_one _ _)).later (below_drew1 _ _), ((SR.out.trans (Stay.set _ _ rfl)).trans (Stay.of (below_one _ _))).trans (Stay.drew _ _)⟩
          case measure => simp [intOf]; omega
        · have HX2 : Hid (redo (L.take (k + 1)) t H = Hk) := by have := HX.out; unfold stp at this; rw [if_neg (fun h => hT h.2)] at this; exact this
          have hTt : ((T : Int) == (t : Int)) = false := by simp; omega
          go_wp2
          go_roundw
          case rel => exact ⟨k + 1, by omega, by go_num, by rw [HX2.out]; exact (HAl.out _).1, (HAl.out _).2⟩
          case measure => simp [intOf]; omega
    · have hkn : k = n := by omega
      subst hkn
      have HF : Hid (VlAt wr B (redo L t H)) := by have := VR.out; rw [HN.out, List.take_length] at this; exact this
      clear hst
      go_wp2
      go_end0
      exact ⟨rfl, HF.out, SR.out⟩

end Go.Proofs.Ythgbknfdbobmiaa.Zw
