/- This text proves what ranges.put tells and leaves: an owner's places are so, unless there would be too many locks; nothing is turned but the table; the conditions: the table lies there, its places are free, shared or alone, and the lock may be. -/
import Derived.Test.YtigoacnbbichoaaDoorL5
namespace Go.Proofs.YtigoacnbbichoaaDoor
open Go.RowKit Go.Deep

theorem up_step (S : Nat → Nat) {a b s : Nat} (h : a ≤ b) : upS (upS S a b s) b (b + 1) s = upS S a (b + 1) s := by
  funext p
  unfold upS
  by_cases h1 : b ≤ p ∧ p < b + 1
  · rw [if_pos h1, if_pos (by omega)]
  · rw [if_neg h1]
    by_cases h2 : a ≤ p ∧ p < b
    · rw [if_pos h2, if_pos (by omega)]
    · rw [if_neg h2, if_neg (by omega)]
theorem up_none (S : Nat → Nat) (a s : Nat) : upS S a a s = S := by
  funext p; unfold upS; rw [if_neg (by omega)]
theorem Tch.row {g : Nat} (w : World) (cs : Array Value) : Tch g w (w.setRow g cs) :=
  ⟨rfl, rfl, rfl, by simp, fun b _ h => setRow_other w g b cs h⟩
theorem pu_full {S : Nat → Nat} (h : ¬ (lsN S 256).length ≤ 24) : puE S = 4 := if_pos (by omega)
theorem pu_room {S : Nat → Nat} (h : (lsN S 256).length ≤ 24) : puE S = 0 := if_neg (by omega)

set_option maxHeartbeats 8000000 in
set_option maxRecDepth 100000 in
theorem put_any (w : World) (g : Nat) (S : Nat → Nat) (o f z : Int) (a : Bool) (s : Nat) (hT : TabAt w g S) (hS : Bd S) (hk : okK o f z = true) (hs : s ≤ 2) :
    Calls Tryd.prog 23 #[.pointer (some ⟨g, 0, none⟩), lkV o f z a, .int .i64 (s : Int)] w fun e w' => e = .returned (errV (puE (puS S o f z s))) ∧ TabAt w' g (puR S (puS S o f z s)) ∧ Tch g w w' := by
  obtain ⟨k1, k2, k3, k4, k5⟩ := okK_iff.1 hk
  obtain ⟨o, rfl⟩ : ∃ n : Nat, o = (n : Int) := ⟨o.toNat, by omega⟩
  obtain ⟨f, rfl⟩ : ∃ n : Nat, f = (n : Int) := ⟨f.toNat, by omega⟩
  obtain ⟨z, rfl⟩ : ∃ n : Nat, z = (n : Int) := ⟨z.toNat, by omega⟩
  have HP : Hid (puS S (o : Int) (f : Int) (z : Int) s = upS S (o * 64 + f) (o * 64 + (f + z)) s) := by
    show upS S (o * 64 + f) (o * 64 + f + z) s = _
    rw [Nat.add_assoc]
  have HBd : Hid (Bd (puS S (o : Int) (f : Int) (z : Int) s)) := bd_up hS _ _ hs
  have HT : Hid (TabAt w g S) := hT
  have ho4 : (o : Int) < 4 := by omega
  have hf64 : f + z ≤ 64 := by omega
  have hz0 := (zero_of_info (P := Tryd.prog) info_tab).1
  have HZ : Hid ((List.replicate 256 (Value.int .i64 0)).toArray.size = 256) := by show Array.size _ = _; simp
  generalize (List.replicate 256 (Value.int .i64 0)).toArray = Z at hz0 HZ
  have HSI : Hid ((Tryd.prog.info? 52).map (·.size) = some 256) := by show _ = _; kernel_rfl
  have HSz : Hid (∀ S, (celN S 256).size = 256 ∧ (celN S 256).all (·.oneCell') = true) := fun S => ⟨celN_size _ _, celN_one _ _⟩
  unfold lkV
  obtain ⟨W, hW⟩ : ∃ W, W = w.alloc (.cells #[.int .i64 (o : Int), .int .i64 (f : Int), .int .i64 (z : Int), .bool a] 29) := ⟨_, rfl⟩
  have HL : Hid (∀ w', Below W.heap.size W w' → w'.cell? ⟨w.heap.size, 0, none⟩ = some (.int .i64 (o : Int)) ∧ w'.cell? ⟨w.heap.size, 1, none⟩ = some (.int .i64 (f : Int)) ∧ w'.cell? ⟨w.heap.size, 2, none⟩ = some (.int .i64 (z : Int)) ∧ w'.cell? ⟨w.heap.size, 3, none⟩ = some (.bool a)) := fun w' h => by
    have hl : w.heap.size < W.heap.size := by rw [hW]; simp
    exact ⟨by rw [h.cell (p := ⟨w.heap.size, 0, none⟩) hl, hW, cell_new]; rfl, by rw [h.cell (p := ⟨w.heap.size, 1, none⟩) hl, hW, cell_new]; rfl, by rw [h.cell (p := ⟨w.heap.size, 2, none⟩) hl, hW, cell_new]; rfl, by rw [h.cell (p := ⟨w.heap.size, 3, none⟩) hl, hW, cell_new]; rfl⟩
  have HW : Hid (Below w.heap.size w W) := by rw [hW]; exact below_one _ _
  have HG : Hid (∀ w', Below W.heap.size W w' → w'.heap[g]? = some (.cells (celN S 256) 52 (0, 0))) := fun w' hb => HT.out.later (Below.next HW.out hb)
  obtain ⟨d0, d1, d2, d3⟩ := HL.out (W.alloc (.cells (celN S 256) 52)) (below_one _ _)
  have H1 : Hid (TabAt (W.alloc (.cells (celN S 256) 52)) W.heap.size S) := heap_alloc_new _ _
  have HWe : Hid (W = w.alloc (.cells #[.int .i64 (o : Int), .int .i64 (f : Int), .int .i64 (z : Int), .bool a] 29)) := hW
  clear hT hk hS k1 k2 k3 k5 hW
  go_enter Tryd.func23, Tryd.ntmps23
  go_wp2_with (first
    | (rw [← HWe.out]; refine wpList_load_row rfl 52 (.tmp 10) rfl g rfl 52 (celN S 256) (0, 0) _ (HG.out W (Below.refl _ _)) Tryd.underlying52 rfl (by rw [(HSz.out S).1]; exact HSI.out) ?_)
    | (refine store_new rfl 52 (.tmp 7) (.tmp 11) rfl W Z 52 (celN S 256) rfl rfl rfl (by rw [(HSz.out S).1]; exact HSI.out) (by rw [(HSz.out S).1]; exact HZ.out) (HSz.out S).2 ?_))
  have HB0 : Hid (Below W.heap.size W (W.alloc (.cells (celN S 256) 52))) := below_one _ _
  generalize W.alloc (.cells (celN S 256) 52) = W1 at H1 HB0
  clear d0 d1 d2 d3
  go_loopw [8] (fun i wr => ∃ p : Nat, f ≤ p ∧ p ≤ f + z ∧ i = .int .i64 p ∧ TabAt wr W.heap.size (upS S (o * 64 + f) (o * 64 + p) s) ∧ Below W.heap.size W wr) (fun i _ => f + z - (intOf i).toNat)
  case atStart => exact ⟨f, Nat.le_refl _, by omega, rfl, by rw [up_none]; exact H1.out, HB0.out⟩
  case round =>
    obtain ⟨p, hp1, hp2, rfl, hTp, hBp⟩ := hrel
    have HTp : Hid _ := hTp
    have HBp : Hid (Below W.heap.size W wr) := hBp
    obtain ⟨d0, d1, d2, d3⟩ := HL.out wr hBp
    clear hTp hBp H1 HB0
    by_cases hlt : p < f + z
    · have hlt' : (p : Int) < (f : Int) + (z : Int) := by omega
      have e1 : wr.cell? ⟨W.heap.size, o * 64 + p, none⟩ = some (.int .i64 ((upS S (o * 64 + f) (o * 64 + p) s (o * 64 + p) : Nat) : Int)) := by
        rw [cell_of_row wr _ _ _ _ _ HTp.out]; exact celN_get (by omega)
      have e2 : wr.frozen? ⟨W.heap.size, o * 64 + p, none⟩ = false := frozen_of_row wr _ _ _ _ HTp.out
      have HN : Hid (TabAt (wr.setCell ⟨W.heap.size, o * 64 + p, none⟩ (.int .i64 (s : Int))) W.heap.size (upS S (o * 64 + f) (o * 64 + (p + 1)) s)) := by
        have h1 := heap_setCell_same wr W.heap.size (o * 64 + p) _ _ (.int .i64 (s : Int)) HTp.out
        rw [celN_set, up_step S (by omega)] at h1
        exact h1
      generalize upS S (o * 64 + f) (o * 64 + p) s (o * 64 + p) = old at e1
      have hp64 : (p : Int) < 64 := by omega
      go_wp2
      go_roundw
      case rel => exact ⟨p + 1, by omega, by omega, by go_num, HN.out, HBp.out.setCell (p := ⟨W.heap.size, o * 64 + p, none⟩) (Nat.le_refl _) _⟩
      case measure => simp [intOf]; omega
    · have hpe : p = f + z := by omega
      subst hpe
      rw [← HP.out] at HTp
      have HLi : Hid _ := fun (_ : Nat) => list_any wr W.heap.size _ HTp.out HBd.out
      obtain ⟨S', hS'⟩ : ∃ S', S' = puS S (o : Int) (f : Int) (z : Int) s := ⟨_, rfl⟩
      rw [← hS'] at HTp HBd HLi
      have HE : Hid (S' = puS S (o : Int) (f : Int) (z : Int) s) := hS'
      have HF : Hid (¬ (lsN S' 256).length ≤ 24 → puE S' = 4 ∧ puR S S' = S) := fun h => by
        have h1 := pu_full h
        exact ⟨h1, if_neg (by rw [h1]; decide)⟩
      have HRm : Hid ((lsN S' 256).length ≤ 24 → puE S' = 0 ∧ puR S S' = S') := fun h => by
        have h1 := pu_room h
        exact ⟨h1, if_pos h1⟩
      have HLi2 : Hid (Calls Tryd.prog 9 #[.pointer (some ⟨W.heap.size, 0, none⟩)] wr fun e w' => ∃ va vc, e = .returned (.slice va (lsN S' 256).length vc) ∧ Below wr.heap.size wr w') :=
        (HLi.out 0).mono fun e w' ⟨v, he, hso⟩ => by
          obtain ⟨va, vc, rfl⟩ := rown_form hso.1
          exact ⟨va, vc, he, hso.2⟩
      obtain ⟨N, hN⟩ : ∃ N, (lsN S' 256).length = N := ⟨_, rfl⟩
      rw [hN] at HF HRm HLi2
      clear hN hS' HP HLi
      by_cases h24 : N ≤ 24
      · have h24' : ¬ (24 : Int) < (N : Int) := by omega
        obtain ⟨hE, hR⟩ := HRm.out h24
        have HER : Hid (puE S' = 0 ∧ puR S S' = S') := ⟨hE, hR⟩
        clear hE hR HF HRm
        go_wp2_with (first
          | (go_at_call 9; refine HLi2.out.mono ?_; rintro e w2 ⟨va, vc, rfl, hb2⟩; have HB2 : Hid (Below wr.heap.size wr w2) := hb2; clear hb2)
          | (refine wpList_load_row rfl 52 (.tmp 7) rfl W.heap.size rfl 52 (celN S' 256) (0, 0) _ (TabAt.later HTp.out HB2.out) Tryd.underlying52 rfl (by rw [(HSz.out S').1]; exact HSI.out) ?_)
          | (refine wpList_store_row rfl 52 (.tmp 36) (.tmp 35) rfl g (celN S' 256) rfl rfl 52 (celN S 256) (HG.out _ (Below.next HBp.out HB2.out)) (by rw [(HSz.out S').1]; exact HSI.out) (by rw [(HSz.out S').1]; exact (HSz.out S).1) (HSz.out S').2 ?_))
        go_ret
        rw [← HE.out, HER.out.1, HER.out.2, errV_zero]
        exact ⟨rfl, setRow_heap _ _ _ _ _ _ (HG.out _ (Below.next HBp.out HB2.out)), Tch.next (Below.next HW.out (Below.next HBp.out HB2.out)) (Tch.row _ _)⟩
      · have h24' : (24 : Int) < (N : Int) := by omega
        obtain ⟨hE, hR⟩ := HF.out h24
        have HER : Hid (puE S' = 4 ∧ puR S S' = S) := ⟨hE, hR⟩
        clear hE hR HF HRm
        go_wp2_with (go_at_call 9; refine HLi2.out.mono ?_; rintro e w2 ⟨va, vc, rfl, hb2⟩; have HB2 : Hid (Below wr.heap.size wr w2) := hb2; clear hb2)
        go_ret
        rw [← HE.out, HER.out.1, HER.out.2, errV_pos (by decide)]
        exact ⟨rfl, HG.out _ (Below.next HBp.out HB2.out), Tch.of (Below.next HW.out (Below.next HBp.out HB2.out))⟩

end Go.Proofs.YtigoacnbbichoaaDoor
