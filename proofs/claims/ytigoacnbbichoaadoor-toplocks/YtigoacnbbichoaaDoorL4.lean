/- This text proves what ranges.Test tells: the least owner who stands against a lock, or none, and what is wrong; old memory is as it was; the conditions: the table lies there, and the lock's places fit their kind of number. -/
import Derived.Test.YtigoacnbbichoaaDoorL3
namespace Go.Proofs.YtigoacnbbichoaaDoor
open Go.RowKit Go.Deep

section
variable {P : Program}
/-- A whole row into the block that was made last. -/
theorem store_new {ops : Array Oper} {rest : List Oper} {o : Oper} {a : Act} {w : World} {Q : Exit → Act → World → Prop} (hgd : o.guard = none) (ty : TypeId) (x y : Operand) (ho : o.op = .store ty x y)
    (w0 : World) (old : Array Value) (t : TypeId) (cells : Array Value) (hx : a.eval x = .pointer (some ⟨w0.heap.size, 0, none⟩)) (hy : a.eval y = .agg cells) (hw : w = w0.alloc (.cells old t))
    (hi : (P.info? ty).map (·.size) = some cells.size) (hold : old.size = cells.size) (h1 : cells.all (·.oneCell') = true)
    (h : wpList P ops Q rest (a.put o.dst undef) (w0.alloc (.cells cells t))) : wpList P ops Q (o :: rest) a w := by
  subst hw
  refine wpList_store_row hgd ty x y ho w0.heap.size cells hx hy t old (heap_alloc_new _ _) hi hold h1 ?_
  rw [World.setRow_alloc_new]
  exact h
/-- A whole row out of the block that was made last, where a guard lets it. -/
theorem load_new {ops : Array Oper} {rest : List Oper} {o : Oper} {a : Act} {w : World} {Q : Exit → Act → World → Prop} (hwt : Region.wanted o (yielded ops a.tmps) = true) (ty : TypeId) (x : Operand) (ho : o.op = .load ty x)
    (w0 : World) (t : TypeId) (cells : Array Value) (d : TypeDesc) (hx : a.eval x = .pointer (some ⟨w0.heap.size, 0, none⟩)) (hw : w = w0.alloc (.cells cells t))
    (hu : P.underlying ty = some d) (hd : (match d with | .struct _ | .array _ _ => true | _ => false) = true) (hi : (P.info? ty).map (·.size) = some cells.size)
    (h : wpList P ops Q rest (a.put o.dst (.agg cells)) (w0.alloc (.cells cells t))) : wpList P ops Q (o :: rest) a w := by
  subst hw
  exact wpList_step fun K hK => by
    rw [if_pos hwt]
    exact wp_load_row ty x ho w0.heap.size hx t cells (0, 0) d (heap_alloc_new _ _) hu hd hi (hK _ _ h)
end

/-- An owner's places out of all. -/
theorem index_rows (S : Nat → Nat) {k : Nat} (hk : k < 4) (W : World) : (Instr.index 50 (.agg (celN S 256)) (.int .i64 (k : Int))).run Tryd.prog W = .ok (.agg (celN (row S k) 64)) W := by
  have hu : (underlying 50).run Tryd.prog W = .ok (.array 4 49) W := run_underlying Tryd.underlying50 W
  have hv : (underlying 49).run Tryd.prog W = .ok (.array 64 47) W := run_underlying Tryd.underlying49 W
  have hs := size_run (t := 49) (n := 64) (by kernel_rfl) W
  have h1 : (0 : Int) ≤ (k : Int) ∧ (k : Int) < ((4 : Nat) : Int) := by omega
  unfold Instr.index
  simp only [asIntOf, Sem.run_bind, Sem.run_pure, Result.andThen_ok, hu, if_pos h1, Int.toNat_natCast, hs, part, isAgg, hv, if_true, celN_part S hk]

theorem ts_out {S : Nat → Nat} {o f z : Int} {a : Bool} (h : okK o f z = false) : tsN S o f z a = 0 ∧ tsE o f z = 1 := by
  unfold tsN tsE; rw [h]; exact ⟨rfl, rfl⟩
theorem ts_in {S : Nat → Nat} {o f z : Nat} {a : Bool} (h : okK (o : Int) (f : Int) (z : Int) = true) : tsN S (o : Int) (f : Int) (z : Int) a = tsF S o f z a 0 4 ∧ tsE (o : Int) (f : Int) (z : Int) = 0 := by
  unfold tsN tsE; rw [h]; exact ⟨rfl, rfl⟩
theorem tsF_hit {S : Nat → Nat} {o f z k n : Nat} {a : Bool} (h : k ≠ o) (h2 : ag (row S k) a f z = true) : tsF S o f z a k (n + 1) = (k : Int) := by
  unfold tsF; rw [if_pos ⟨h, h2⟩]
theorem tsF_self {S : Nat → Nat} {f z k n : Nat} {a : Bool} : tsF S k f z a k (n + 1) = tsF S k f z a (k + 1) n := by
  conv => lhs; unfold tsF
  rw [if_neg (fun h => h.1 rfl)]
theorem tsF_miss {S : Nat → Nat} {o f z k n : Nat} {a : Bool} (h2 : ag (row S k) a f z = false) : tsF S o f z a k (n + 1) = tsF S o f z a (k + 1) n := by
  conv => lhs; unfold tsF
  rw [if_neg (fun h => by rw [h2] at h; cases h.2)]

set_option maxHeartbeats 4000000 in
set_option maxRecDepth 100000 in
theorem test_any (w : World) (g : Nat) (S : Nat → Nat) (o f z : Int) (a : Bool) (hT : TabAt w g S) (hf : Fit f) :
    Calls Tryd.prog 13 #[.pointer (some ⟨g, 0, none⟩), lkV o f z a] w fun e w' => e = .returned (.tuple #[.int .i64 (tsN S o f z a), errV (tsE o f z)]) ∧ Below w.heap.size w w' := by
  have HI : Hid _ := fun w => isLock_any o f z a w hf
  cases hk : okK o f z with
  | false =>
    rw [hk] at HI
    rw [(ts_out (S := S) (a := a) hk).1, (ts_out (S := S) (a := a) hk).2, errV_pos (by decide)]
    unfold lkV at HI ⊢
    clear hT hf hk
    go_enter Tryd.func13, Tryd.ntmps13
    go_wp2_with (go_at_call 22; refine (HI.out _).mono ?_; rintro e w1 ⟨rfl, hb1⟩)
    go_ret2
    exact ⟨rfl, Below.next (below_one _ _) hb1⟩
  | true =>
    rw [hk] at HI
    obtain ⟨k1, k2, k3, k4, k5⟩ := okK_iff.1 hk
    obtain ⟨o, rfl⟩ : ∃ n : Nat, o = (n : Int) := ⟨o.toNat, by omega⟩
    obtain ⟨f, rfl⟩ : ∃ n : Nat, f = (n : Int) := ⟨f.toNat, by omega⟩
    obtain ⟨z, rfl⟩ : ∃ n : Nat, z = (n : Int) := ⟨z.toNat, by omega⟩
    have HT : Hid (TabAt w g S) := hT
    rw [(ts_in (S := S) (a := a) hk).1, (ts_in (S := S) (a := a) hk).2, errV_zero]
    have HA : Hid _ := fun (k : Nat) (w : World) => against_any (row S k) (o : Int) f z a w (by omega) (by omega)
    have HX : Hid _ := fun (k : Nat) (hk : k < 4) => index_rows S hk
    have HS : Hid (∀ k, (celN (row S k) 64).size = 64 ∧ (celN (row S k) 64).all (·.oneCell') = true) := fun k => ⟨celN_size _ _, celN_one _ _⟩
    have HSz : Hid ((celN S 256).size = 256) := celN_size _ _
    have HG : Hid (∀ w', Below w.heap.size w w' → w'.heap[g]? = some (.cells (celN S 256) 52 (0, 0))) := fun w' hb => HT.out.later hb
    unfold lkV at HI HA ⊢
    generalize celN S 256 = C at HX HSz HG
    clear hT hf hk k1 k2 k3 k4 k5
    go_enter Tryd.func13, Tryd.ntmps13
    go_wp2_with (first
      | (go_at_call 22; refine (HI.out _).mono ?_; rintro e w1 ⟨rfl, hb1⟩; have HB1 : Hid (Below w.heap.size w w1) := Below.next (below_one _ _) hb1)
      | (refine wpList_load_row rfl 50 (.tmp 14) rfl g rfl 52 C (0, 0) (.array 4 49) (HG.out w1 HB1.out) Tryd.underlying50 rfl (by rw [HSz.out]; kernel_rfl) ?_))
    obtain ⟨W, hW⟩ : ∃ W, W = w.alloc (.cells #[.int .i64 (o : Int), .int .i64 (f : Int), .int .i64 (z : Int), .bool a] 29) := ⟨_, rfl⟩
    rw [← hW] at hb1
    have HL : Hid (∀ w', Below W.heap.size W w' → w'.cell? ⟨w.heap.size, 0, none⟩ = some (.int .i64 (o : Int)) ∧ w'.cell? ⟨w.heap.size, 1, none⟩ = some (.int .i64 (f : Int)) ∧ w'.cell? ⟨w.heap.size, 2, none⟩ = some (.int .i64 (z : Int)) ∧ w'.cell? ⟨w.heap.size, 3, none⟩ = some (.bool a)) := fun w' h => by
      have hl : w.heap.size < W.heap.size := by rw [hW]; simp
      exact ⟨by rw [h.cell (p := ⟨w.heap.size, 0, none⟩) hl, hW, cell_new]; rfl, by rw [h.cell (p := ⟨w.heap.size, 1, none⟩) hl, hW, cell_new]; rfl, by rw [h.cell (p := ⟨w.heap.size, 2, none⟩) hl, hW, cell_new]; rfl, by rw [h.cell (p := ⟨w.heap.size, 3, none⟩) hl, hW, cell_new]; rfl⟩
    have HW : Hid (Below w.heap.size w W) := by rw [hW]; exact below_one _ _
    have HBW : Hid (Below W.heap.size W w1) := hb1
    have hz0 := (zero_of_info (P := Tryd.prog) info_row).1
    have HZ : Hid ((List.replicate 64 (Value.int .i64 0)).toArray.size = 64) := by show Array.size _ = _; simp
    generalize (List.replicate 64 (Value.int .i64 0)).toArray = Z at hz0 HZ
    have HSI : Hid ((Tryd.prog.info? 49).map (·.size) = some 64) := by show _ = _; kernel_rfl
    clear hb1 hW HI
    go_loopw [6, 16] (fun _ i wr => ∃ k : Nat, k ≤ 4 ∧ i = .int .i64 k ∧ tsF S o f z a 0 4 = tsF S o f z a k (4 - k) ∧ Below W.heap.size W wr) (fun _ i _ => 4 - (intOf i).toNat)
    case atStart => exact ⟨0, Nat.zero_le _, rfl, rfl, HBW.out⟩
    case round =>
      obtain ⟨k, hk, rfl, htk, hbr⟩ := hrel
      have HR : Hid (Below W.heap.size W wr) := hbr
      have HTk : Hid (tsF S o f z a 0 4 = tsF S o f z a k (4 - k)) := htk
      clear hbr htk HBW HB1
      by_cases hlt : k < 4
      · have hlt' : (k : Int) < 4 := by omega
        obtain ⟨n, hn⟩ : ∃ n, 4 - k = n + 1 := ⟨3 - k, by omega⟩
        have HN : Hid (4 - (k + 1) = n) := by show _ = _; omega
        rw [hn] at HTk
        have hx := HX.out k hlt
        have HAk := HA.out k
        have HSk : Hid _ := HS.out k
        have HRow : Hid (celN (row S k) 64 = celN (row S k) 64) := rfl
        generalize celN (row S k) 64 = R at hx HAk HSk HRow
        clear hn
        obtain ⟨c0, c1, c2, c3⟩ := HL.out (wr.alloc (.cells R 49)) (Below.next HR.out (below_one _ _))
        by_cases hko : k = o
        · subst hko
          have HTn : Hid (tsF S k f z a 0 4 = tsF S k f z a (k + 1) n) := HTk.out.trans tsF_self
          go_wp2_with (refine store_new rfl 49 (.tmp 7) (.tmp 19) rfl wr Z 49 R rfl rfl rfl (by rw [HSk.out.1]; exact HSI.out) (by rw [HSk.out.1]; exact HZ.out) HSk.out.2 ?_)
          go_roundw
          case rel => exact ⟨k + 1, by omega, by go_num, by rw [HN.out]; exact HTn.out, Below.next HR.out (below_one _ _)⟩
          case measure => simp [intOf]; omega
        · have hkb : ((k : Int) != (o : Int)) = true := by simp; omega
          cases hag : ag (row S k) a f z with
          | true =>
            have HTn : Hid (tsF S o f z a 0 4 = (k : Int)) := HTk.out.trans (tsF_hit hko hag)
            rw [hag] at HAk
            clear hag hko
            go_wp2_with (first
              | (refine store_new rfl 49 (.tmp 7) (.tmp 19) rfl wr Z 49 R rfl rfl rfl (by rw [HSk.out.1]; exact HSI.out) (by rw [HSk.out.1]; exact HZ.out) HSk.out.2 ?_)
              | (refine load_new (by rfl) 49 (.tmp 7) rfl wr 49 R (.array 64 47) rfl rfl Tryd.underlying49 rfl (by rw [HSk.out.1]; exact HSI.out) ?_)
              | (go_at_call 24; refine (HAk _).mono ?_; rintro e w2 ⟨rfl, hb2⟩))
            go_ret2
            exact ⟨by rw [HTn.out]; rfl, Below.next HW.out (Below.next HR.out (Below.next (below_one _ _) hb2))⟩
          | false =>
            have HTn : Hid (tsF S o f z a 0 4 = tsF S o f z a (k + 1) n) := HTk.out.trans (tsF_miss hag)
            rw [hag] at HAk
            clear hag hko
            go_wp2_with (first
              | (refine store_new rfl 49 (.tmp 7) (.tmp 19) rfl wr Z 49 R rfl rfl rfl (by rw [HSk.out.1]; exact HSI.out) (by rw [HSk.out.1]; exact HZ.out) HSk.out.2 ?_)
              | (refine load_new (by rfl) 49 (.tmp 7) rfl wr 49 R (.array 64 47) rfl rfl Tryd.underlying49 rfl (by rw [HSk.out.1]; exact HSI.out) ?_)
              | (go_at_call 24; refine (HAk _).mono ?_; rintro e w2 ⟨rfl, hb2⟩))
            go_roundw
            case rel => exact ⟨k + 1, by omega, by go_num, by rw [HN.out]; exact HTn.out, Below.next HR.out (Below.next (below_one _ _) hb2)⟩
            case measure => simp [intOf]; omega
      · have hk4 : k = 4 := by omega
        subst hk4
        have HTn : Hid (tsF S o f z a 0 4 = -1) := HTk.out
        go_wp2
        go_ret2
        exact ⟨by rw [HTn.out]; rfl, Below.next HW.out HR.out⟩

end Go.Proofs.YtigoacnbbichoaaDoor
