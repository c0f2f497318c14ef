/- This text proves what Home of package wal tells, and what the disk is behind it; nothing is turned but the disk's block; the condition is that the disk lies there. -/
import Derived.Test.YtejganpamidkmaaDoorZ9
namespace Go.Proofs.YtejganpamidkmaaDoor
open Go.RowKit Go.Deep Go.Maps

theorem DiskM.ten {w2 : World} {base g : Nat} {v : Value} {d : Dk} (h : DiskM w2 base g v d) : (w2.cell? ⟨g, 0, none⟩ = some (.int .i64 (d.H 0 : Int)) ∧ w2.cell? ⟨g, 1, none⟩ = some (.int .i64 (d.H 1 : Int)) ∧ w2.cell? ⟨g, 2, none⟩ = some (.int .i64 (d.H 2 : Int)) ∧ w2.cell? ⟨g, 3, none⟩ = some (.int .i64 (d.H 3 : Int)) ∧ w2.cell? ⟨g, 4, none⟩ = some (.int .i64 (d.H 4 : Int)) ∧ w2.cell? ⟨g, 5, none⟩ = some (.int .i64 (d.H 5 : Int)) ∧ w2.cell? ⟨g, 6, none⟩ = some (.int .i64 (d.H 6 : Int)) ∧ w2.cell? ⟨g, 7, none⟩ = some (.int .i64 (d.H 7 : Int)) ∧ w2.cell? ⟨g, 8, none⟩ = some v ∧ w2.cell? ⟨g, 9, none⟩ = some (.int .i64 (d.s : Int))) ∧ ∀ q, w2.frozen? ⟨g, q, none⟩ = false :=
  ⟨⟨(cell_in h.cells 0).1.trans (dkC_val d v (by decide)), (cell_in h.cells 1).1.trans (dkC_val d v (by decide)), (cell_in h.cells 2).1.trans (dkC_val d v (by decide)), (cell_in h.cells 3).1.trans (dkC_val d v (by decide)), (cell_in h.cells 4).1.trans (dkC_val d v (by decide)), (cell_in h.cells 5).1.trans (dkC_val d v (by decide)), (cell_in h.cells 6).1.trans (dkC_val d v (by decide)), (cell_in h.cells 7).1.trans (dkC_val d v (by decide)), (cell_in h.cells 8).1.trans (dkC_log d v), (cell_in h.cells 9).1.trans (dkC_syn d v)⟩, fun q => (cell_in h.cells q).2⟩
theorem VlAt.eight {w : World} {B : Nat} {H : Nat → Nat} (h : VlAt w B H) : w.cell? ⟨B, 0, none⟩ = some (.int .i64 (H 0 : Int)) ∧ w.cell? ⟨B, 1, none⟩ = some (.int .i64 (H 1 : Int)) ∧ w.cell? ⟨B, 2, none⟩ = some (.int .i64 (H 2 : Int)) ∧ w.cell? ⟨B, 3, none⟩ = some (.int .i64 (H 3 : Int)) ∧ w.cell? ⟨B, 4, none⟩ = some (.int .i64 (H 4 : Int)) ∧ w.cell? ⟨B, 5, none⟩ = some (.int .i64 (H 5 : Int)) ∧ w.cell? ⟨B, 6, none⟩ = some (.int .i64 (H 6 : Int)) ∧ w.cell? ⟨B, 7, none⟩ = some (.int .i64 (H 7 : Int)) :=
  ⟨h.cell (by decide), h.cell (by decide), h.cell (by decide), h.cell (by decide), h.cell (by decide), h.cell (by decide), h.cell (by decide), h.cell (by decide)⟩

theorem dkC_lit (d : Dk) (v : Value) : dkC d v = #[.int .i64 (d.H 0 : Int), .int .i64 (d.H 1 : Int), .int .i64 (d.H 2 : Int), .int .i64 (d.H 3 : Int), .int .i64 (d.H 4 : Int), .int .i64 (d.H 5 : Int), .int .i64 (d.H 6 : Int), .int .i64 (d.H 7 : Int), v, .int .i64 (d.s : Int)] := rfl

theorem set_ten (c0 c1 c2 c3 c4 c5 c6 c7 c8 c9 u0 u1 u2 u3 u4 u5 u6 u7 u8 u9 : Value) : (((((((((((#[c0, c1, c2, c3, c4, c5, c6, c7, c8, c9] : Array Value).setIfInBounds 0 u0).setIfInBounds 1 u1).setIfInBounds 2 u2).setIfInBounds 3 u3).setIfInBounds 4 u4).setIfInBounds 5 u5).setIfInBounds 6 u6).setIfInBounds 7 u7).setIfInBounds 8 u8).setIfInBounds 9 u9) = #[u0, u1, u2, u3, u4, u5, u6, u7, u8, u9] := by
  simp only [List.setIfInBounds_toArray, List.set_cons_zero, List.set_cons_succ]
theorem array_at (B : Nat) (W : World) : (Instr.arrayAt 49 (.slice (some ⟨B, 0, none⟩) 8 8)).run Tryd.prog W = .ok (.pointer (some ⟨B, 0, none⟩)) W := by
  have hu : (underlying 49).run Tryd.prog W = .ok (.array 8 3) W := run_underlying Tryd.underlying49 W
  unfold Instr.arrayAt
  rw [Sem.run_bind, hu]
  rfl

/-- All ten cells of a disk are stored. -/
theorem home_mem {w2 : World} {base g : Nat} {v : Value} {d : Dk} (h : DiskM w2 base g v d) (H' : Nat → Nat) :
    DiskM ((((((((((w2.setCell ⟨g, 0, none⟩ (.int .i64 (H' 0 : Int))).setCell ⟨g, 1, none⟩ (.int .i64 (H' 1 : Int))).setCell ⟨g, 2, none⟩ (.int .i64 (H' 2 : Int))).setCell ⟨g, 3, none⟩ (.int .i64 (H' 3 : Int))).setCell ⟨g, 4, none⟩ (.int .i64 (H' 4 : Int))).setCell ⟨g, 5, none⟩ (.int .i64 (H' 5 : Int))).setCell ⟨g, 6, none⟩ (.int .i64 (H' 6 : Int))).setCell ⟨g, 7, none⟩ (.int .i64 (H' 7 : Int))).setCell ⟨g, 8, none⟩ (.slice none 0 0)).setCell ⟨g, 9, none⟩ (.int .i64 0)) base g (.slice none 0 0) ⟨H', [], 0⟩ ∧ Stay (fun x => x = g) w2 ((((((((((w2.setCell ⟨g, 0, none⟩ (.int .i64 (H' 0 : Int))).setCell ⟨g, 1, none⟩ (.int .i64 (H' 1 : Int))).setCell ⟨g, 2, none⟩ (.int .i64 (H' 2 : Int))).setCell ⟨g, 3, none⟩ (.int .i64 (H' 3 : Int))).setCell ⟨g, 4, none⟩ (.int .i64 (H' 4 : Int))).setCell ⟨g, 5, none⟩ (.int .i64 (H' 5 : Int))).setCell ⟨g, 6, none⟩ (.int .i64 (H' 6 : Int))).setCell ⟨g, 7, none⟩ (.int .i64 (H' 7 : Int))).setCell ⟨g, 8, none⟩ (.slice none 0 0)).setCell ⟨g, 9, none⟩ (.int .i64 0)) := by
  have hS : ∀ (w : World) (i : Nat) (u : Value), Stay (fun x => x = g) w (w.setCell ⟨g, i, none⟩ u) := fun w i u => Stay.set (S := fun x => x = g) w (a := ⟨g, i, none⟩) u rfl
  refine ⟨⟨?_, World.ownsRow_nil _ _ _ _, (fun e => by cases e), ⟨fun _ h => absurd h (by simp), List.Pairwise.nil, by simp⟩, h.low⟩, ?_⟩
  · have h0 := h.cells
    have h1 := heap_set h0 0 (.int .i64 (H' 0 : Int))
    have h2 := heap_set h1 1 (.int .i64 (H' 1 : Int))
    have h3 := heap_set h2 2 (.int .i64 (H' 2 : Int))
    have h4 := heap_set h3 3 (.int .i64 (H' 3 : Int))
    have h5 := heap_set h4 4 (.int .i64 (H' 4 : Int))
    have h6 := heap_set h5 5 (.int .i64 (H' 5 : Int))
    have h7 := heap_set h6 6 (.int .i64 (H' 6 : Int))
    have h8 := heap_set h7 7 (.int .i64 (H' 7 : Int))
    have h9 := heap_set h8 8 (.slice none 0 0)
    have h10 := heap_set h9 9 (.int .i64 0)
    rw [dkC_lit, set_ten] at h10
    exact h10
  · exact ((((((((((hS _ _ _).trans (hS _ _ _)).trans (hS _ _ _)).trans (hS _ _ _)).trans (hS _ _ _)).trans (hS _ _ _)).trans (hS _ _ _)).trans (hS _ _ _)).trans (hS _ _ _)).trans (hS _ _ _))

set_option maxHeartbeats 4000000 in
set_option maxRecDepth 100000 in
theorem home_any (w : World) (base g : Nat) (v : Value) (d : Dk) (h : DiskM w base g v d) :
    Calls Tryd.prog 13 #[ptrD g] w fun e w' => e = .returned (errV (hoE d.L)) ∧ ∃ v', Step w w' base g v v' (hoD d) := by
  have c8 := h.facts.1
  have HM : Hid (DiskM w base g v d) := h
  have h20 : ∀ r ∈ d.L, r.t < 20 := fun r hr => (h.fine.one r hr).1
  have HO1 : Hid _ := fun (_ : Nat) => isOpen_any w.drew v d.L (h.later (below_drew1 _ _)).recs h20 h.fine.len
  have HK : Hid (∀ w2, Below w.heap.size w.drew w2 → w2.cell? ⟨g, 8, none⟩ = some v ∧ Below w.heap.size w w2 ∧ RcsIs w2 v d.L) := fun w2 hb => ⟨by rw [(undrew1 hb).cell (p := ⟨g, 8, none⟩) h.lt]; exact c8, undrew1 hb, (h.later (undrew1 hb)).recs⟩
  have HCo : Hid _ := fun (w2 : World) (B : Nat) (hx : RcsIs w2 v d.L) (hA : Asks w2 B w.heap.size d.L) => contains_any w2 v d.L hx h20 B w.heap.size d.L hA
  have hgl := h.lt
  have har := array_at
  obtain ⟨x, hx⟩ : ∃ x, (d.L.any fun r => !endd d.L r.t) = x := ⟨_, rfl⟩
  rw [hx] at HCo
  have hop : opn d.L = x := hx
  clear h h20 hx
  cases x with
  | true =>
    have he : hoE d.L = 7 := if_pos hop
    have hd : hoD d = d := if_neg (by rw [he]; decide)
    rw [he, hd]
    clear he hd hop
    unfold ptrD
    go_enter Tryd.func13, Tryd.ntmps13
    go_wp2_with fail
    go_region_law
      (first
        | (go_simp; go_at_call 24; refine (HO1.out 0).mono ?_; rintro e w2 ⟨B, rfl, hB, hcB, hsB, hb2⟩; obtain ⟨k8, hb2', hr2⟩ := HK.out w2 hb2; have HB2 : Hid (Below w.heap.size w w2) := hb2'; have HR2 : Hid (RcsIs w2 v d.L) := hr2; have HA2 : Hid (Asks w2 B w.heap.size d.L) := ⟨hcB, hsB⟩; clear hb2 hb2' hr2 hcB hsB)
        | (go_simp; go_at_call 25; refine (HCo.out w2 B HR2.out HA2.out).mono ?_; rintro e w3 ⟨rfl, hb3⟩; have HB3 : Hid (Below w.heap.size w w3) := Below.next HB2.out hb3; clear hb3))
    all_goals
      go_wp2
      go_ret
      exact ⟨rfl, v, Step.none' HM.out HB3.out⟩
  | false =>
    have he : hoE d.L = 0 := if_neg (by rw [hop]; decide)
    have hd : hoD d = ⟨vals d.L d.H, [], 0⟩ := if_pos he
    rw [he, hd]
    have HVa : Hid _ := fun (w2 : World) (hb : Below w.heap.size w w2) => values_any w2 base g v d (HM.out.later hb)
    have HTen : Hid _ := fun (w2 : World) (hb : Below w.heap.size w w2) => (HM.out.later hb).ten
    have HHo : Hid _ := fun (w2 : World) (hb : Below w.heap.size w w2) => home_mem (HM.out.later hb) (vals d.L d.H)
    have HEi : Hid (∀ (w2 : World) (B : Nat), VlAt w2 B (vals d.L d.H) → _) := fun w2 B hv => VlAt.eight hv
    generalize vals d.L d.H = H' at *
    clear he hd hop
    unfold ptrD at HVa ⊢
    go_enter Tryd.func13, Tryd.ntmps13
    go_wp2_with fail
    go_region_law
      (first
        | (go_simp; go_at_call 24; refine (HO1.out 0).mono ?_; rintro e w2 ⟨B, rfl, hB, hcB, hsB, hb2⟩; obtain ⟨k8, hb2', hr2⟩ := HK.out w2 hb2; have HB2 : Hid (Below w.heap.size w w2) := hb2'; have HR2 : Hid (RcsIs w2 v d.L) := hr2; have HA2 : Hid (Asks w2 B w.heap.size d.L) := ⟨hcB, hsB⟩; clear hb2 hb2' hr2 hcB hsB)
        | (go_simp; go_at_call 25; refine (HCo.out w2 B HR2.out HA2.out).mono ?_; rintro e w3 ⟨rfl, hb3⟩; have HB3 : Hid (Below w.heap.size w w3) := Below.next HB2.out hb3; clear hb3))
    all_goals
      go_wp2_with (go_at_call 17; refine (HVa.out w3 HB3.out).mono ?_; rintro e w4 ⟨rfl, hv4, hb4⟩; have HB4 : Hid (Below w.heap.size w w4) := Below.next HB3.out hb4; obtain ⟨u0, u1, u2, u3, u4, u5, u6, u7⟩ := HEi.out w4 _ hv4; obtain ⟨⟨y0, y1, y2, y3, y4, y5, y6, y7, y8, y9⟩, yf⟩ := HTen.out w4 HB4.out; obtain ⟨hm5, hs5⟩ := HHo.out w4 HB4.out; have HM5 : Hid _ := fun (_ : Nat) => hm5; have HS5 : Hid _ := fun (_ : Nat) => hs5; clear hv4 hb4 hm5 hs5)
      go_ret
      exact ⟨rfl, _, HM5.out 0, (Stay.of HB4.out).trans ((HS5.out 0).sub fun x e => .inl e), fun x e => by cases e⟩

end Go.Proofs.YtejganpamidkmaaDoor
