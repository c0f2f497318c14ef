/- This text proves what New lays, and what Values, mayGoOn, Log and Sync of package wal tell; old memory is as it was, but for what Sync writes down; the condition is that the disk lies there. -/
import Derived.Test.YthgbknfdbobmiaaZT5
import Derived.Deep.WholeRow
import Derived.Deep.RegionLaw
namespace Go.Proofs.Ythgbknfdbobmiaa.Zw
open Go.RowKit Go.Deep Go.Maps

theorem new_any (w : World) : Calls Try.prog 16 #[] w fun e w' => e = .returned (ptrD w.heap.size) ∧ DiskM w' w.heap.size w.heap.size (.slice none 0 0) dk0 ∧ Below w.heap.size w w' := by
  have HF : Hid (DiskM (w.alloc (.cells (dkC dk0 (.slice none 0 0)) 59)) w.heap.size w.heap.size (.slice none 0 0) dk0) :=
    ⟨blk_alloc_new _ _, World.ownsRow_nil _ _ _ _, (fun e => by cases e), fine0, Nat.le_refl _⟩
  go_enter Try.func16, Try.ntmps16
  go_wp2
  go_ret
  exact ⟨rfl, HF.out, below_one _ _⟩

theorem valO_next {L : List Rc} {k : Nat} (hk : k < L.length) (H : Nat → Nat) : valO (L.take (k + 1)) L H = vst L (valO (L.take k) L H) (rcAt L k) := by
  rw [List.take_succ_eq_append_getElem hk, valO_append, rcAt_lt hk]
  rfl

set_option maxHeartbeats 2000000 in
theorem may_any (w : World) (base g : Nat) (v : Value) (d : Dk) (h : DiskM w base g v d) (t : Int) :
    Calls Try.prog 28 #[ptrD g, .int .i64 t] w fun e w' => e = .returned (errV (mayE d.L t)) ∧ Below w.heap.size w w' := by
  obtain ⟨c8, c9, f8, f9⟩ := h.facts
  have HE : Hid _ := fun (_ : Nat) => ended_any w v d.L h.recs (fun r hr => (h.fine.one r hr).1) h.fine.len
  clear h c9 f8 f9
  unfold mayE ptrD
  by_cases h1 : t < 0
  · rw [if_neg (by omega)]
    go_enter Try.func28, Try.ntmps28
    go_wp2
    go_ret
    exact ⟨rfl, Below.refl _ _⟩
  · by_cases h2 : t < 20
    · rw [if_pos (by omega)]
      obtain ⟨T, rfl⟩ : ∃ T : Nat, t = (T : Int) := ⟨t.toNat, by omega⟩
      rw [Int.toNat_natCast]
      have HH : Hid (∀ w2 n, SetIs w2 w.heap.size n (endd d.L) → Calls Try.prog 39 #[.map (some w.heap.size), .int .i64 (T : Int)] w2 fun e w' => e = .returned (.bool (endd d.L T)) ∧ Below w2.heap.size w2 w') := fun w2 n hs => has_any w2 w.heap.size n _ hs T (by omega)
      generalize endd d.L T = x at HH ⊢
      cases x with
      | true =>
        go_enter Try.func28, Try.ntmps28
        go_wp2_with (first
          | (go_at_call 38; refine (HE.out 0).mono ?_; rintro e w2 ⟨rfl, ⟨m, _, hs2⟩, hb2⟩)
          | (go_at_call 39; refine (HH.out w2 m hs2).mono ?_; rintro e w3 ⟨rfl, hb3⟩))
        go_ret
        exact ⟨rfl, Below.next hb2 hb3⟩
      | false =>
        go_enter Try.func28, Try.ntmps28
        go_wp2_with (first
          | (go_at_call 38; refine (HE.out 0).mono ?_; rintro e w2 ⟨rfl, ⟨m, _, hs2⟩, hb2⟩)
          | (go_at_call 39; refine (HH.out w2 m hs2).mono ?_; rintro e w3 ⟨rfl, hb3⟩))
        go_ret
        exact ⟨rfl, Below.next hb2 hb3⟩
    · rw [if_neg (by omega)]
      go_enter Try.func28, Try.ntmps28
      go_wp2
      go_ret
      exact ⟨rfl, Below.refl _ _⟩

set_option maxHeartbeats 1000000 in
set_option maxRecDepth 100000 in
theorem values_any (w : World) (base g : Nat) (v : Value) (d : Dk) (h : DiskM w base g v d) :
    Calls Try.prog 24 #[ptrD g] w fun e w' => e = .returned (.slice (some ⟨w.heap.size, 0, none⟩) 8 8) ∧ VlAt w' w.heap.size (vals d.L d.H) ∧ Below w.heap.size w w' := by
  obtain ⟨c8, c9, f8, f9⟩ := h.facts
  have k0 : w.cell? ⟨g, 0, none⟩ = some (.int .i64 (d.H 0 : Int)) := (cell_in h.cells 0).1.trans (dkC_val d v (by decide))
  have k1 : w.cell? ⟨g, 1, none⟩ = some (.int .i64 (d.H 1 : Int)) := (cell_in h.cells 1).1.trans (dkC_val d v (by decide))
  have k2 : w.cell? ⟨g, 2, none⟩ = some (.int .i64 (d.H 2 : Int)) := (cell_in h.cells 2).1.trans (dkC_val d v (by decide))
  have k3 : w.cell? ⟨g, 3, none⟩ = some (.int .i64 (d.H 3 : Int)) := (cell_in h.cells 3).1.trans (dkC_val d v (by decide))
  have k4 : w.cell? ⟨g, 4, none⟩ = some (.int .i64 (d.H 4 : Int)) := (cell_in h.cells 4).1.trans (dkC_val d v (by decide))
  have k5 : w.cell? ⟨g, 5, none⟩ = some (.int .i64 (d.H 5 : Int)) := (cell_in h.cells 5).1.trans (dkC_val d v (by decide))
  have k6 : w.cell? ⟨g, 6, none⟩ = some (.int .i64 (d.H 6 : Int)) := (cell_in h.cells 6).1.trans (dkC_val d v (by decide))
  have k7 : w.cell? ⟨g, 7, none⟩ = some (.int .i64 (d.H 7 : Int)) := (cell_in h.cells 7).1.trans (dkC_val d v (by decide))
  have HM : Hid (DiskM w base g v d) := h
  have HV : Hid (∀ q0 q1 q2 q3 q4 q5 q6 q7, q0 = (d.H 0 : Int) → q1 = (d.H 1 : Int) → q2 = (d.H 2 : Int) → q3 = (d.H 3 : Int) → q4 = (d.H 4 : Int) → q5 = (d.H 5 : Int) → q6 = (d.H 6 : Int) → q7 = (d.H 7 : Int) →
      VlAt (w.alloc (.cells #[.int .i64 q0, .int .i64 q1, .int .i64 q2, .int .i64 q3, .int .i64 q4, .int .i64 q5, .int .i64 q6, .int .i64 q7] 56)) w.heap.size d.H) := by
    rintro _ _ _ _ _ _ _ _ rfl rfl rfl rfl rfl rfl rfl rfl
    unfold VlAt
    rw [celN8]
    exact blk_alloc_new _ _
  obtain ⟨a, c, b, rfl, hm, ha, hb, hc⟩ := h.recs.where
  obtain ⟨n, hn⟩ : ∃ n, n = d.L.length := ⟨_, rfl⟩
  have HN : Hid (n = d.L.length) := hn
  rw [← hn] at hm ha hb hc HM c8
  have h60 := h.fine.len
  have HC : Hid (∀ i, i < n → w.cell? ⟨b, i * 4, none⟩ = some (.int .i64 ((rcAt d.L i).t : Int)) ∧ w.cell? ⟨b, i * 4 + 1, none⟩ = some (.int .i64 ((rcAt d.L i).b : Int)) ∧ w.cell? ⟨b, i * 4 + 2, none⟩ = some (.int .i64 ((rcAt d.L i).v : Int)) ∧ w.cell? ⟨b, i * 4 + 3, none⟩ = some (.bool (rcAt d.L i).e)) := hc
  have hgl := h.lt
  unfold maxLen at hm
  clear h c9 f8 f9 hc h60 hn
  unfold ptrD
  go_enter Try.func24, Try.ntmps24
  go_wp2
  have HV1 : Hid _ := HV.out _ _ _ _ _ _ _ _ rfl rfl rfl rfl rfl rfl rfl rfl
  have HB1 : Hid _ := below_one w (.cells #[.int .i64 (d.H 0 : Int), .int .i64 (d.H 1 : Int), .int .i64 (d.H 2 : Int), .int .i64 (d.H 3 : Int), .int .i64 (d.H 4 : Int), .int .i64 (d.H 5 : Int), .int .i64 (d.H 6 : Int), .int .i64 (d.H 7 : Int)] 56)
  generalize w.alloc _ = w1 at HV1 HB1 ⊢
  generalize (d.H 0 : Int) = q0 at *
  generalize (d.H 1 : Int) = q1 at *
  generalize (d.H 2 : Int) = q2 at *
  generalize (d.H 3 : Int) = q3 at *
  generalize (d.H 4 : Int) = q4 at *
  generalize (d.H 5 : Int) = q5 at *
  generalize (d.H 6 : Int) = q6 at *
  generalize (d.H 7 : Int) = q7 at *
  obtain ⟨B, hB⟩ : ∃ B, B = w.heap.size := ⟨_, rfl⟩
  have HB : Hid (B = w.heap.size) := hB
  rw [← hB] at HV1 ⊢
  clear hB HV k0 k1 k2 k3 k4 k5 k6 k7
  go_loopw [15] (fun i wr => ∃ k : Nat, k ≤ n ∧ i = .int .i64 k ∧ VlAt wr B (valO (d.L.take k) d.L d.H) ∧ Below w.heap.size w wr) (fun i _ => n - (Go.RowKit.intOf i).toNat)
  case atStart => exact ⟨0, Nat.zero_le _, rfl, HV1.out, HB1.out⟩
  case round =>
    obtain ⟨k, hk, rfl, hvl, hbr⟩ := hrel
    have VR : Hid (VlAt wr B (valO (d.L.take k) d.L d.H)) := hvl
    have BR : Hid (Below w.heap.size w wr) := hbr
    clear hvl HV1 HB1
    by_cases hlt : k < n
    · have haa := ha (by omega)
      subst haa
      obtain ⟨q0, q1, q2, q3⟩ := HC.out k hlt
      have c0 : wr.cell? ⟨b, k * 4, none⟩ = some (.int .i64 ((rcAt d.L k).t : Int)) := by rw [hbr.cell (p := ⟨b, k * 4, none⟩) (hb (by omega))]; exact q0
      have c1 : wr.cell? ⟨b, k * 4 + 1, none⟩ = some (.int .i64 ((rcAt d.L k).b : Int)) := by rw [hbr.cell (p := ⟨b, k * 4 + 1, none⟩) (hb (by omega))]; exact q1
      have c2 : wr.cell? ⟨b, k * 4 + 2, none⟩ = some (.int .i64 ((rcAt d.L k).v : Int)) := by rw [hbr.cell (p := ⟨b, k * 4 + 2, none⟩) (hb (by omega))]; exact q2
      have c3 : wr.cell? ⟨b, k * 4 + 3, none⟩ = some (.bool (rcAt d.L k).e) := by rw [hbr.cell (p := ⟨b, k * 4 + 3, none⟩) (hb (by omega))]; exact q3
      have HX : Hid (valO (d.L.take (k + 1)) d.L d.H = vst d.L (valO (d.L.take k) d.L d.H) (rcAt d.L k)) := valO_next (by rw [← HN.out]; exact hlt) d.H
      clear q0 q1 q2 q3 hbr
      generalize hX : rcAt d.L k = X at c0 c1 c2 c3 HX
      clear hX
      obtain ⟨T, B1, V1, E⟩ := X
      have c0 : wr.cell? ⟨b, k * 4, none⟩ = some (.int .i64 (T : Int)) := c0
      have c1 : wr.cell? ⟨b, k * 4 + 1, none⟩ = some (.int .i64 (B1 : Int)) := c1
      have c2 : wr.cell? ⟨b, k * 4 + 2, none⟩ = some (.int .i64 (V1 : Int)) := c2
      have c3 : wr.cell? ⟨b, k * 4 + 3, none⟩ = some (.bool E) := c3
      generalize valO (d.L.take k) d.L d.H = Hk at VR HX
      cases E with
      | false =>
        have HX2 : Hid (valO (d.L.take (k + 1)) d.L d.H = Hk) := by have := HX.out; unfold vst at this; rw [if_neg (by simp)] at this; exact this
        go_wp2
        go_roundw
        case rel => exact ⟨k + 1, by omega, by go_num, by rw [HX2.out]; exact VR.out.later (below_one _ _), BR.out.alloc BR.out.size _⟩
        case measure => simp [Go.RowKit.intOf]; omega
      | true =>
        have HX2 : Hid (valO (d.L.take (k + 1)) d.L d.H = redo d.L T Hk) := by have := HX.out; unfold vst at this; rw [if_pos rfl] at this; exact this
        have hBl : B < wr.heap.size := VR.out.lt
        have hgB : g ≠ B := by rw [HB.out]; omega
        have hgr : g < wr.heap.size := Nat.lt_of_lt_of_le hgl BR.out.size
        have HDr : Hid (DiskM wr base g (.slice (some ⟨b, 0, none⟩) n c) d) := HM.out.later BR.out
        have HSR : Hid (∀ o w2, Stay (fun x => x = B) (wr.alloc o).drew w2 → Below w.heap.size w w2) := fun o w2 hs =>
          ((BR.out.alloc BR.out.size o).trans (below_drew1 _ _)).trans (hs.below (by rintro x rfl; rw [HB.out]; exact Nat.le_refl _) (by have := BR.out.size; show w.heap.size ≤ (wr.alloc o).heap.size; simp; omega))
        have HRe : Hid _ := fun (o : Obj) => redo_any (wr.alloc o).drew B Hk ((VR.out.later (below_one _ _)).later (below_drew1 _ _)) (.slice (some ⟨b, 0, none⟩) n c) d.L ((HDr.out.later (below_one _ _)).later (below_drew1 _ _)).recs (fun r hr => (HDr.out.fine.one r hr).2.1) (fun e => by have e2 : b = B := Option.some.inj e; have := hb (by omega); rw [e2, HB.out] at this; omega) T
        have d8 : ∀ o, (wr.alloc o).cell? ⟨g, 8, none⟩ = some (.slice (some ⟨b, 0, none⟩) n c) := fun o => by rw [(below_one wr o).cell (p := ⟨g, 8, none⟩) hgr]; exact HDr.out.facts.1
        have dP : ∀ x y, (wr.alloc (.cells #[.int .i64 (T : Int), x, y, .bool true] 65)).cell? ⟨wr.heap.size, 0, none⟩ = some (.int .i64 (T : Int)) := fun x y => cell_new _ _ _ _
        go_wp2_with fail
        have HRe1 : Hid _ := fun (_ : Nat) => HRe.out (.cells #[.int .i64 (T : Int), .int .i64 (B1 : Int), .int .i64 (V1 : Int), .bool true] 65)
        have HSR1 : Hid _ := fun (_ : Nat) => HSR.out (.cells #[.int .i64 (T : Int), .int .i64 (B1 : Int), .int .i64 (V1 : Int), .bool true] 65)
        have d81 := d8 (.cells #[.int .i64 (T : Int), .int .i64 (B1 : Int), .int .i64 (V1 : Int), .bool true] 65)
        have dP1 := dP (.int .i64 (B1 : Int)) (.int .i64 (V1 : Int))
        have hz1 : wr.heap.size < (wr.alloc (.cells #[.int .i64 (T : Int), .int .i64 (B1 : Int), .int .i64 (V1 : Int), .bool true] 65)).heap.size := by simp
        have hz2 : B ≠ wr.heap.size := by omega
        clear HRe HSR d8 dP
        generalize wr.alloc _ = W1 at HRe1 HSR1 d81 dP1 hz1 ⊢
        generalize wr.heap.size = P at HRe1 HSR1 dP1 hz1 hz2 hgr hBl ⊢
        go_region_law
          (first
            | (go_simp; go_at_call 36; refine (HRe1.out 0).mono ?_; rintro e w2 ⟨rfl, hv2, hs2⟩; have HS2 : Hid (Stay (fun x => x = B) W1.drew w2) := hs2))
        all_goals
          have HF : Hid (VlAt w2 B (redo d.L T Hk) ∧ Below w.heap.size w w2) := ⟨hv2, HSR1.out 0 _ HS2.out⟩
          clear hv2 hs2 HS2
          go_wp2
          go_roundw
          case rel => exact ⟨k + 1, by omega, by go_num, by rw [HX2.out]; exact HF.out.1, HF.out.2⟩
          case measure => simp [Go.RowKit.intOf]; omega
    · have hkn : k = n := by omega
      subst hkn
      have HF : Hid (VlAt wr B (vals d.L d.H)) := by have := VR.out; rw [HN.out, List.take_length] at this; exact this
      clear hbr
      go_wp2
      go_ret
      exact ⟨by rw [← HB.out]; rfl, by rw [← HB.out]; exact HF.out, BR.out⟩

end Go.Proofs.Ythgbknfdbobmiaa.Zw
