/- This text proves what extent.edgesOf answers: where a run of the set, or the other run, begins or ends, rising and each once, in new memory; the only condition is that the slice lies there and the runs are right. -/
import Derived.Test.YtihefpnagdacpaaDoorX2
import Derived.Test.YtihefpnagdacpaaDoorXm
import Derived.Test.YtihefpnagdacpaaDoorSp
import Derived.Laws.OwnMore
namespace Go.Proofs.YtihefpnagdacpaaDoor
open Go.RowKit Go.Deep

theorem news_twoI (w : World) (u v : Value) (t : TypeId) : ∀ (j : Nat) (x : Value), [u, v][j]? = some x → (w.alloc (.cells #[u, v] t)).cell? ((⟨w.heap.size, 0, none⟩ : Addr).add j) = some x := by
  intro j x hx
  rw [addr_at, cell_new]
  simpa using hx
theorem ones_two (x y : Int) : ∀ u ∈ [Value.int .i64 x, .int .i64 y], u.oneCell' = true := fun u hu => by
  simp only [List.mem_cons, List.not_mem_nil, or_false] at hu
  rcases hu with rfl | rfl <;> rfl
theorem xgrown_cell {w w' : World} {row : Option Nat} {b j : Nat} (h : w.grownBy w' row) (hb : b < w.heap.size) (hr : row ≠ some b) : w'.cell? ⟨b, j, none⟩ = w.cell? ⟨b, j, none⟩ :=
  World.cell?_of_block (w := w) (h.block b hb (fun e => hr e.symm))
theorem xown_later {w w' : World} {base e s n : Nat} {v : Value} {xs : List Value} (h : w.ownsRow base e s v n xs) (hb : Below w.heap.size w w') : w'.ownsRow base e s v n xs :=
  h.kept (row := none) ⟨hb.os, hb.tape, hb.output, hb.size, fun k hk _ => hb.block k hk⟩ (by cases v.ownBlock <;> simp)

set_option maxHeartbeats 4000000 in
set_option maxRecDepth 100000 in
theorem edgesOf_any (w : World) (v : Value) (l : List Rn) (r : Rn) (hx : RunsIs w v l) (hl : ∀ x ∈ l, isR x) (hr : isR r) (h16 : l.length ≤ 16) :
    Calls Tryd.prog 26 #[v, .agg #[.int .i64 r.1, .int .i64 r.2]] w fun e w' => ∃ v', e = .returned v' ∧ w'.ownsRow w.heap.size 3 1 v' (edg l r).length (cellsOf (edg l r)) ∧ Below w.heap.size w w' := by
  obtain ⟨a, c, b, o, rfl, _, ha, hb, hc⟩ := hx.where
  obtain ⟨n, hxn⟩ : ∃ n, n = l.length := ⟨_, rfl⟩
  have HX : Hid (n = l.length) := hxn
  rw [← hxn] at ha hb hc h16 ⊢
  have HC : Hid (∀ i, i < n → w.cell? ⟨b, o + i * 2, none⟩ = some (.int .i64 (rAt l i).1) ∧ w.cell? ⟨b, o + i * 2 + 1, none⟩ = some (.int .i64 (rAt l i).2)) := hc
  have HL : Hid (∀ i, i < n → isR (rAt l i)) := fun i hi => hl _ (rAt_mem (by omega))
  have HE : Hid _ := fun w => endOf_any r w hr
  obtain ⟨ti, hti, hz0, hz1, hz2⟩ := info_parts Tryd.info3
  obtain ⟨F, T⟩ := r
  have d0 : (w.alloc (.cells #[.int .i64 F, .int .i64 T] 24)).cell? ⟨w.heap.size, 0, none⟩ = some (.int .i64 F) := cell_new _ _ _ _
  have d1 : (w.alloc (.cells #[.int .i64 F, .int .i64 T] 24)).cell? ⟨w.heap.size, 1, none⟩ = some (.int .i64 T) := cell_new _ _ _ _
  have HK1 : Hid (∀ w2, Below (w.alloc (.cells #[.int .i64 F, .int .i64 T] 24)).heap.size (w.alloc (.cells #[.int .i64 F, .int .i64 T] 24)) w2 → w2.cell? ⟨w.heap.size, 0, none⟩ = some (.int .i64 F) ∧ w2.cell? ⟨w.heap.size, 1, none⟩ = some (.int .i64 T)) := fun w2 h => by
    exact ⟨by rw [h.cell (p := ⟨w.heap.size, 0, none⟩) (by simp)]; exact d0, by rw [h.cell (p := ⟨w.heap.size, 1, none⟩) (by simp)]; exact d1⟩
  have HB0 : Hid (Below w.heap.size w (w.alloc (.cells #[.int .i64 F, .int .i64 T] 24))) := below_one _ _
  clear hc hxn hx hl hr
  go_enter Tryd.func26, Tryd.ntmps26
  go_wp2_with fail
  go_region_held3 (fun w' => w'.cell? ⟨w.heap.size, 0, none⟩ = some (.int .i64 F) ∧ w'.cell? ⟨w.heap.size, 1, none⟩ = some (.int .i64 T))
    (first | go_keep | (go_split_ands; exact HK1.out _ HB1.out) | (go_split_ands; exact HK1.out _ (Below.next HB1.out (below_one _ _))))
    (first | (go_at_call 17; refine (HE.out _).mono ?_; rintro e w1 ⟨rfl, hb1⟩; have HB1 : Hid (Below (w.alloc (.cells #[.int .i64 F, .int .i64 T] 24)).heap.size (w.alloc (.cells #[.int .i64 F, .int .i64 T] 24)) w1) := undrew1 hb1))
  have HO1 : Hid ((w1.alloc (.cells #[.int .i64 F, .int .i64 (F + T)] 3)).ownsRow w.heap.size 3 1 (.slice (some ⟨w1.heap.size, 0, none⟩) 2 2) 2 (cellsOf [F, F + T])) :=
    World.ownsRow_lit w1 #[.int .i64 F, .int .i64 (F + T)] 2 (by have := (Below.next HB0.out HB1.out).size; omega) (by decide) (by rfl)
  have HBW : Hid (Below w.heap.size w (w1.alloc (.cells #[.int .i64 F, .int .i64 (F + T)] 3))) := Below.next (Below.next HB0.out HB1.out) (below_one _ _)
  clear hb1 d0 d1
  go_wp2
  go_loopw [5, 7, 15] (fun ed _ i wr => ∃ k : Nat, k ≤ n ∧ i = .int .i64 k ∧ wr.ownsRow w.heap.size 3 1 ed (2 + 2 * k) (cellsOf (F :: (F + T) :: edL (l.take k))) ∧ Below w.heap.size w wr) (fun _ _ i _ => n - (intOf i).toNat)
  case atStart => exact ⟨0, Nat.zero_le _, rfl, HO1.out, HBW.out⟩
  case round =>
    obtain ⟨k, hk, rfl, hO, hbr⟩ := hrel
    have HO : Hid (wr.ownsRow w.heap.size 3 1 u5 (2 + 2 * k) (cellsOf (F :: (F + T) :: edL (l.take k)))) := hO
    have HBr : Hid (Below w.heap.size w wr) := hbr
    clear hO HO1 HBW HB1 HK1
    by_cases hlt : k < n
    · have haa := ha (by omega)
      subst haa
      have hbw : b < wr.heap.size := Nat.lt_of_lt_of_le (hb (by omega)) hbr.size
      have c0 : wr.cell? ⟨b, o + k * 2, none⟩ = some (.int .i64 (rAt l k).1) := by rw [hbr.cell (p := ⟨b, o + k * 2, none⟩) (hb (by omega))]; exact (HC.out k hlt).1
      have c1 : wr.cell? ⟨b, o + k * 2 + 1, none⟩ = some (.int .i64 (rAt l k).2) := by rw [hbr.cell (p := ⟨b, o + k * 2 + 1, none⟩) (hb (by omega))]; exact (HC.out k hlt).2
      have HEk : Hid _ := fun w => endOf_any (rAt l k) w (HL.out k hlt)
      have HS : Hid (cellsOf (F :: (F + T) :: edL (l.take k)) ++ [.int .i64 (rAt l k).1, .int .i64 ((rAt l k).1 + (rAt l k).2)] = cellsOf (F :: (F + T) :: edL (l.take (k + 1)))) := by
        show cellsOf _ ++ _ = _
        rw [List.take_succ_eq_append_getElem (by rw [← HX.out]; exact hlt), edL_append, ← rAt_lt (by rw [← HX.out]; exact hlt)]
        simp [cellsOf, edL]
      clear hbr
      have hsz := HBr.out.size
      generalize (rAt l k).1 = f at c0 HEk HS
      generalize (rAt l k).2 = s at c1 HEk HS
      have e0 : (wr.alloc (.cells #[.int .i64 f, .int .i64 s] 24)).cell? ⟨wr.heap.size, 0, none⟩ = some (.int .i64 f) := cell_new _ _ _ _
      have e1 : (wr.alloc (.cells #[.int .i64 f, .int .i64 s] 24)).cell? ⟨wr.heap.size, 1, none⟩ = some (.int .i64 s) := cell_new _ _ _ _
      have HK2 : Hid (∀ w2, Below (wr.alloc (.cells #[.int .i64 f, .int .i64 s] 24)).heap.size (wr.alloc (.cells #[.int .i64 f, .int .i64 s] 24)) w2 → w2.cell? ⟨wr.heap.size, 0, none⟩ = some (.int .i64 f) ∧ w2.cell? ⟨wr.heap.size, 1, none⟩ = some (.int .i64 s)) := fun w2 h => by
        exact ⟨by rw [h.cell (p := ⟨wr.heap.size, 0, none⟩) (by simp)]; exact e0, by rw [h.cell (p := ⟨wr.heap.size, 1, none⟩) (by simp)]; exact e1⟩
      have HO2 : Hid (∀ w2, Below (wr.alloc (.cells #[.int .i64 f, .int .i64 s] 24)).heap.size (wr.alloc (.cells #[.int .i64 f, .int .i64 s] 24)) w2 → ∀ o, (w2.alloc o).ownsRow w.heap.size 3 1 u5 (2 + 2 * k) (cellsOf (F :: (F + T) :: edL (l.take k))) ∧ w.heap.size ≤ (w2.alloc o).heap.size ∧ wr.heap.size < (w2.alloc o).heap.size) := fun w2 h o => by
        have h1 := h.size
        simp at h1
        exact ⟨(xown_later (xown_later HO.out (below_one _ _)) h).alloc _, by simp; omega, by simp; omega⟩
      have HV : Hid (u5.ownBlock ≠ some wr.heap.size) := fun e => by have := (HO.out.lt _ e).2; omega
      go_wp2_with fail
      go_region_held3 (fun w' => w'.cell? ⟨wr.heap.size, 0, none⟩ = some (.int .i64 f) ∧ w'.cell? ⟨wr.heap.size, 1, none⟩ = some (.int .i64 s))
        (first | go_keep | (go_split_ands; exact HK2.out _ HB2.out) | (go_split_ands; exact HK2.out _ (Below.next HB2.out (below_one _ _))) | (go_split_ands; exact ⟨by rw [xgrown_cell hgr (HO2.out _ HB2.out _).2.2 HV.out]; exact (HK2.out _ (Below.next HB2.out (below_one _ _))).1, by rw [xgrown_cell hgr (HO2.out _ HB2.out _).2.2 HV.out]; exact (HK2.out _ (Below.next HB2.out (below_one _ _))).2⟩))
        (first
          | (refine step_append_own (by rfl) (.tmp 19) (.tmp 24) 51 (by rfl) w.heap.size 3 ti (.int .i64 0) 1 8 Tryd.underlying51 hti hz0 hz1 hz2 rfl (by decide) u5 (2 + 2 * k) (cellsOf (F :: (F + T) :: edL (l.take k))) (by rfl) (HO2.out _ HB2.out _).1 ⟨w2.heap.size, 0, none⟩ 2 2 [.int .i64 f, .int .i64 (f + s)] (by rfl) rfl (news_twoI w2 _ _ 3) (ones_two _ _) (by unfold maxLen; omega) (by omega) (HO2.out _ HB2.out _).2.1 ?_; intro v' w3 hown hgr)
          | (go_at_call 17; refine (HEk.out _).mono ?_; rintro e w2 ⟨rfl, hb2⟩; have HB2 : Hid (Below (wr.alloc (.cells #[.int .i64 f, .int .i64 s] 24)).heap.size (wr.alloc (.cells #[.int .i64 f, .int .i64 s] 24)) w2) := undrew1 hb2))
      have HO3 : Hid (w3.ownsRow w.heap.size 3 1 v' (2 + 2 * (k + 1)) (cellsOf (F :: (F + T) :: edL (l.take (k + 1))))) := by
        rw [HS.out] at hown
        exact hown
      have HB3 : Hid (Below w.heap.size w w3) := by
        have hq : Below w.heap.size w (w2.alloc (.cells #[.int .i64 f, .int .i64 (f + s)] 3)) := Below.next (Below.next (Below.next HBr.out (below_one _ _)) HB2.out) (below_one _ _)
        exact hq.grown hgr hq.size (fun k e => (HO.out.lt k e).1)
      clear hown hgr hb2 c0 c1 e0 e1
      go_wp2
      go_roundw
      case rel => exact ⟨k + 1, by omega, by go_num, HO3.out, HB3.out⟩
      case measure => simp [intOf]; omega
    · have hkn : k = n := by omega
      subst hkn
      have HT : Hid (edL (l.take k) = edL l) := by show edL (l.take k) = edL l; rw [HX.out, List.take_length]
      rw [HT.out] at HO
      obtain ⟨g, cap, rfl, hg1, hg2⟩ := own_where HO.out (by omega)
      have HSo : Hid _ := fun (w' : World) (h : w'.ownsRow w.heap.size 3 1 (.slice (some ⟨g, 0, none⟩) (2 + 2 * k) cap) (2 + 2 * k) (cellsOf (F :: (F + T) :: edL l))) => sort_any w' w.heap.size g (2 + 2 * k) cap _ h (by omega)
      have HCo : Hid _ := fun (w' : World) (h : w'.ownsRow w.heap.size 3 1 (.slice (some ⟨g, 0, none⟩) (2 + 2 * k) cap) (2 + 2 * k) (cellsOf (sortI (F :: (F + T) :: edL l)))) => compact_any w' w.heap.size g (2 + 2 * k) cap _ h (by omega)
      have HBs : Hid (∀ w1 w2 : World, Below w.heap.size w w1 → w1.grownBy w2 (some g) → Below w.heap.size w w2) := fun w1 w2 h1 h2 => h1.grown h2 h1.size (fun k e => by cases e; exact hg1)
      clear hbr hg2
      go_wp2_with (first | (go_at_call 33; refine (HSo.out _ HO.out).mono ?_; rintro e w2 ⟨rfl, ho2, hgr2⟩) | (go_at_call 34; refine (HCo.out _ ho2).mono ?_; rintro e w3 ⟨rfl, ho3, hgr3⟩))
      go_ret
      exact ⟨_, rfl, ho3, HBs.out _ _ (HBs.out _ _ HBr.out hgr2) hgr3⟩

end Go.Proofs.YtihefpnagdacpaaDoor
