/- This text proves what ranges.List tells: all locks, by owner, then by place, in new memory; old memory is as it was; the conditions: the table lies there, and its places are free, shared or alone. -/
import Derived.Test.YtigoacnbbichoaaDoorL4
import Derived.OwnWalk
import Derived.OneCell
namespace Go.Proofs.YtigoacnbbichoaaDoor
open Go.RowKit Go.Deep

theorem Tryd.info29 : (Tryd.prog.info? 29).map (fun i => (i.zero, i.size, i.bytes)) = some (some (.agg #[.int .i64 0, .int .i64 0, .int .i64 0, .bool false]), 4, 32) := by kernel_rfl

/-- A place out of an owner's. -/
theorem index_row (R : Nat → Nat) {j : Nat} (hj : j < 64) (W : World) : (Instr.index 49 (.agg (celN R 64)) (.int .i64 (j : Int))).run Tryd.prog W = .ok (.int .i64 (R j : Int)) W := by
  have hu : (underlying 49).run Tryd.prog W = .ok (.array 64 47) W := run_underlying Tryd.underlying49 W
  have hv : (underlying 47).run Tryd.prog W = .ok (.int .i64) W := run_underlying Tryd.underlying47 W
  have hs := size_run size_state W
  have h1 : (0 : Int) ≤ (j : Int) ∧ (j : Int) < ((64 : Nat) : Int) := by omega
  unfold Instr.index
  simp only [asIntOf, Sem.run_bind, Sem.run_pure, Result.andThen_ok, hu, if_pos h1, Int.toNat_natCast, hs, part, isAgg, hv, Nat.mul_one, celN_get hj]
  rfl

/-- What is ahead of a place of the k-th owner's. -/
def ah (S : Nat → Nat) (k j : Nat) : Nat := if j = 0 then 0 else S (k * 64 + j - 1)
theorem ah_is (S : Nat → Nat) {k j : Nat} (hj : j < 64) : ahd S (k * 64 + j) = ah S k j := by
  unfold ahd ah
  by_cases h : j = 0
  · subst h; rw [if_pos rfl, if_pos (by omega)]
  · rw [if_neg h, if_neg (by omega)]
theorem ah_next (S : Nat → Nat) (k j : Nat) : ah S k (j + 1) = S (k * 64 + j) := by
  unfold ah; rw [if_neg (by omega)]; rfl

/-- The locks so far, in memory of the call's own. -/
def Soc (w wr : World) (v : Value) (S : Nat → Nat) (p : Nat) : Prop := wr.ownsRow w.heap.size 29 4 v (lsN S p).length (lkc (lsN S p)) ∧ Below w.heap.size w wr
theorem Soc.later {w wr w' : World} {v : Value} {S : Nat → Nat} {p : Nat} (h : Soc w wr v S p) (hb : Below wr.heap.size wr w') : Soc w w' v S p := ⟨xown_later h.1 hb, Below.next h.2 hb⟩

set_option maxHeartbeats 8000000 in
set_option maxRecDepth 100000 in
theorem list_any (w : World) (g : Nat) (S : Nat → Nat) (hT : TabAt w g S) (hS : Bd S) :
    Calls Tryd.prog 9 #[.pointer (some ⟨g, 0, none⟩)] w fun e w' => ∃ v, e = .returned v ∧ Soc w w' v S 256 := by
  have HT : Hid (TabAt w g S) := hT
  have HX : Hid _ := fun (k : Nat) (hk : k < 4) => index_rows S hk
  have HJ : Hid _ := fun (k j : Nat) (hj : j < 64) => index_row (row S k) hj
  have HC : Hid (∀ k, (celN (row S k) 64).size = 64 ∧ (celN (row S k) 64).all (·.oneCell') = true) := fun k => ⟨celN_size _ _, celN_one _ _⟩
  have HSz : Hid ((celN S 256).size = 256) := celN_size _ _
  have HG : Hid (∀ w', Below w.heap.size w w' → w'.heap[g]? = some (.cells (celN S 256) 52 (0, 0))) := fun w' hb => HT.out.later hb
  have HBd : Hid (Bd S) := hS
  generalize celN S 256 = C at HX HSz HG
  have hz0 := (zero_of_info (P := Tryd.prog) info_row).1
  have HZ : Hid ((List.replicate 64 (Value.int .i64 0)).toArray.size = 64) := by show Array.size _ = _; simp
  generalize (List.replicate 64 (Value.int .i64 0)).toArray = Z at hz0 HZ
  have HSI : Hid ((Tryd.prog.info? 49).map (·.size) = some 64) := by show _ = _; kernel_rfl
  obtain ⟨ti, hti, hy0, hy1, hy2⟩ := info_parts Tryd.info29
  clear hT hS
  go_enter Tryd.func9, Tryd.ntmps9
  go_wp2_with (refine wpList_load_row rfl 50 (.tmp 11) rfl g rfl 52 C (0, 0) (.array 4 49) (HG.out w (Below.refl _ _)) Tryd.underlying50 rfl (by rw [HSz.out]; kernel_rfl) ?_)
  go_loopw [3, 13] (fun l i wr => ∃ k : Nat, k ≤ 4 ∧ i = .int .i64 k ∧ Soc w wr l S (k * 64)) (fun _ i _ => 4 - (intOf i).toNat)
  case atStart => exact ⟨0, Nat.zero_le _, rfl, ⟨rfl, .inl ⟨rfl, rfl⟩⟩, Below.refl _ _⟩
  case round =>
    obtain ⟨k, hk, rfl, hso⟩ := hrel
    have HSo : Hid (Soc w wr u3 S (k * 64)) := hso
    clear hso
    by_cases hlt : k < 4
    · have hlt' : (k : Int) < 4 := by omega
      have hx := HX.out k hlt
      have HJk : Hid _ := fun (_ : Nat) => HJ.out k
      have HSk : Hid _ := HC.out k
      have HRf : Hid (∀ j, row S k j = S (k * 64 + j)) := fun j => rfl
      generalize celN (row S k) 64 = R at hx HJk HSk
      have HSo1 : Hid (Soc w (wr.alloc (.cells R 49)) u3 S (k * 64)) := HSo.out.later (below_one _ _)
      go_wp2_with (first
        | (refine store_new rfl 49 (.tmp 5) (.tmp 16) rfl wr Z 49 R rfl rfl rfl (by rw [HSk.out.1]; exact HSI.out) (by rw [HSk.out.1]; exact HZ.out) HSk.out.2 ?_)
        | (refine load_new (by rfl) 49 (.tmp 5) rfl wr 49 R (.array 64 47) rfl rfl Tryd.underlying49 rfl (by rw [HSk.out.1]; exact HSI.out) ?_))
      generalize wr.alloc (.cells R 49) = W1 at HSo1
      go_loopw [3, 6, 18] (fun l b i wr => ∃ j : Nat, j ≤ 64 ∧ i = .int .i64 j ∧ b = .int .i64 ((ah S k j : Nat) : Int) ∧ Soc w wr l S (k * 64 + j)) (fun _ _ i _ => 64 - (intOf i).toNat)
      case atStart => exact ⟨0, Nat.zero_le _, rfl, rfl, HSo1.out⟩
      case round =>
        obtain ⟨j, hj, rfl, rfl, hso2⟩ := hrel
        have HS2 : Hid _ := hso2
        clear hso2 HSo HSo1
        by_cases hjl : j < 64
        · have hjl' : (j : Int) < 64 := by omega
          have hy := HJk.out 0 j hjl
          rw [HRf.out] at hy
          have HAh : Hid (ahd S (k * 64 + j) = ah S k j) := ah_is S hjl
          have HAn : Hid (ah S k (j + 1) = S (k * 64 + j)) := ah_next S k j
          have HLn : Hid ((lsN S (k * 64 + j)).length ≤ 256) := Nat.le_trans (lsN_le S _) (by omega)
          have HLod : Hid (Lod S (k * 64 + j) (lsN S (k * 64 + j))) := lod S HBd.out _
          have HLF : Hid _ := fun h => lsN_free (S := S) (p := k * 64 + j) h
          have HLS : Hid _ := fun h h2 => lsN_same (S := S) (p := k * 64 + j) h h2
          have HLN : Hid _ := fun h h2 => lsN_new (S := S) (p := k * 64 + j) h h2
          have HDiv : Hid ((k * 64 + j) / 64 = k ∧ (k * 64 + j) % 64 = j) := by show _ ∧ _; omega
          have HBs : Hid (S (k * 64 + j) ≤ 2) := HBd.out _
          obtain ⟨s, hs⟩ : ∃ s, S (k * 64 + j) = s := ⟨_, rfl⟩
          rw [hs] at hy HAn HBs
          have HSs : Hid (S (k * 64 + j) = s) := hs
          clear hs
          by_cases h0 : s = 0
          · subst h0
            have hy : ∀ (W : World), (Instr.index 49 (.agg R) (.int .i64 (j : Int))).run Tryd.prog W = .ok (.int .i64 0) W := hy
            go_wp2
            go_roundw
            case rel => exact ⟨j + 1, by omega, by go_num, by rw [HAn.out]; rfl, by rw [show k * 64 + (j + 1) = k * 64 + j + 1 from rfl]; unfold Soc; rw [HLF.out HSs.out]; exact HS2.out⟩
            case measure => simp [intOf]; omega
          · have hb0 : ((s : Int) == 0) = false := by simp; omega
            by_cases h1 : s = ah S k j
            · have HLe : Hid (lsN S (k * 64 + j + 1) = bump (lsN S (k * 64 + j))) := HLS.out (by rw [HSs.out]; exact h0) (by rw [HSs.out, HAh.out]; exact h1)
              obtain ⟨jj, hjj⟩ : ∃ jj, j = jj + 1 := ⟨j - 1, by have : ¬ j = 0 := fun e => h0 (by rw [h1, e]; rfl); omega⟩
              obtain ⟨A, x, hA, hAx⟩ := HLod.out.last (k * 64 + jj) (by omega) (by have := h1; unfold ah at this; rw [if_neg (by omega), show k * 64 + j - 1 = k * 64 + jj by omega] at this; omega)
              have hx2 : x.z ≤ 64 := by have := (HLod.out.one x (by rw [hA]; simp)).2.2.1; omega
              have ho := HS2.out.1
              rw [hA] at ho HLe
              rw [bump_snoc] at HLe
              have hn : A.length + 1 ≤ 256 := by have := HLn.out; rw [hA] at this; simpa using this
              rw [show (A ++ [x]).length = A.length + 1 by simp] at ho
              obtain ⟨G, cap, rfl, hg1, hg2⟩ := rown_where ho (by omega)
              have c2 : wr.cell? ⟨G, A.length * 4 + 2, none⟩ = some (.int .i64 (x.z : Int)) := by
                have := (lkc_at (A ++ [x]) A.length (by simp)).2.2.1
                rw [lAt_last] at this
                rw [ho.cellAt (A.length * 4 + 2) (by omega)]; exact this
              have c3 : wr.frozen? ⟨G, A.length * 4 + 2, none⟩ = false := ho.frozenAt _
              have HST : Hid (Soc w (wr.setCell ⟨G, A.length * 4 + 2, none⟩ (.int .i64 ((x.z + 1 : Nat) : Int))) (.slice (some ⟨G, 0, none⟩) (A.length + 1) cap) S (k * 64 + j + 1)) := by
                have h2 := (ho.stored (A.length * 4 + 2) (.int .i64 ((x.z + 1 : Nat) : Int))).1
                rw [lkc_set] at h2
                refine ⟨?_, HS2.out.2.setCell (p := ⟨G, A.length * 4 + 2, none⟩) hg1 _⟩
                rw [HLe.out, show (A ++ [(⟨x.p, x.z + 1, x.a⟩ : Lk)]).length = A.length + 1 by simp]
                exact h2
              have hb1 : ((s : Int) == ((ah S k j : Nat) : Int)) = true := by simp; omega
              rw [show ((x.z + 1 : Nat) : Int) = (x.z : Int) + 1 by omega] at HST
              clear ho hjj hA hAx hg1 hg2 HLe h1
              generalize A.length = m at hn c2 c3 HST
              generalize x.z = Y at hx2 c2 HST
              generalize ah S k j = ahv at hb1 HAh
              go_wp2
              go_roundw
              case rel => exact ⟨j + 1, by omega, by go_num, by rw [HAn.out], HST.out⟩
              case measure => simp [intOf]; omega
            · have HLe : Hid (lsN S (k * 64 + j + 1) = lsN S (k * 64 + j) ++ [⟨k * 64 + j, 1, S (k * 64 + j) == 2⟩]) := HLN.out (by rw [HSs.out]; exact h0) (by rw [HSs.out, HAh.out]; exact h1)
              have hb1 : ((s : Int) == ((ah S k j : Nat) : Int)) = false := by simp; omega
              obtain ⟨B, hB⟩ : ∃ B, ((s : Int) == 2) = B := ⟨_, rfl⟩
              have hB2 : (S (k * 64 + j) == 2) = B := by
                rw [← hB, HSs.out]
                rcases (show s = 1 ∨ s = 2 by have := HBs.out; omega) with rfl | rfl <;> rfl
              have HR : Hid (lkc (lsN S (k * 64 + j)) ++ [.int .i64 (k : Int), .int .i64 (j : Int), .int .i64 1, .bool B] = lkc (lsN S (k * 64 + j + 1))) := by
                have h2 := lkc_snoc ⟨k * 64 + j, 1, S (k * 64 + j) == 2⟩ (lsN S (k * 64 + j))
                show _ = _
                rw [HLe.out, ← h2, hB2]
                show _ = lkc _ ++ [.int .i64 (((k * 64 + j) / 64 : Nat) : Int), .int .i64 (((k * 64 + j) % 64 : Nat) : Int), .int .i64 1, .bool B]
                rw [HDiv.out.1, HDiv.out.2]
              have HLe2 : Hid ((lsN S (k * 64 + j + 1)).length = (lsN S (k * 64 + j)).length + 1) := by show List.length _ = _; rw [HLe.out]; simp
              obtain ⟨N, hN⟩ : ∃ N, (lsN S (k * 64 + j)).length = N := ⟨_, rfl⟩
              have HO : Hid (wr.ownsRow w.heap.size 29 4 u3 N (lkc (lsN S (k * 64 + j))) ∧ Below w.heap.size w wr) := by rw [← hN]; exact HS2.out
              rw [hN] at HLn HLe2
              have HLT : Hid (∀ q, u3.ownBlock = some q → w.heap.size ≤ q) := fun q e => (HO.out.1.lt q e).1
              clear hN HS2 h1 hB2 HLe
              generalize ah S k j = ahv at hb1 HAh
              go_wp2_with (at_builtin; refine wpList_append_own _ rfl (.tmp 22) (.tmp 28) 24 rfl w.heap.size 29 ti (.agg #[.int .i64 0, .int .i64 0, .int .i64 0, .bool false]) 4 32 Tryd.underlying24 hti hy0 hy1 hy2 rfl (by decide) u3 N (lkc (lsN S (k * 64 + j))) rfl (HO.out.1.alloc _) ⟨wr.heap.size, 0, none⟩ 1 1 [.int .i64 (k : Int), .int .i64 (j : Int), .int .i64 1, .bool B] rfl rfl (news_four wr _ _ _ _ 29) (ones_four _ _ _ _) ?q1 ?q2 ?q3 ?q4)
              case q1 => have := HLn.out; unfold maxLen; omega
              case q2 => have := HLn.out; omega
              case q3 => have := HO.out.2.size; simp; omega
              case q4 =>
                intro v1 w2 hown hgr _
                have HO2 : Hid (Soc w w2 v1 S (k * 64 + j + 1)) := by
                  rw [HR.out] at hown
                  refine ⟨by rw [HLe2.out]; exact hown, ?_⟩
                  have hq : Below w.heap.size w (wr.alloc (.cells #[.int .i64 (k : Int), .int .i64 (j : Int), .int .i64 1, .bool B] 29)) := Below.next HO.out.2 (below_one _ _)
                  exact hq.grown hgr hq.size HLT.out
                clear hown hgr
                go_wp2
                go_roundw
                case rel => exact ⟨j + 1, by omega, by go_num, by rw [HAn.out], HO2.out⟩
                case measure => simp [intOf]; omega
        · have hj6 : j = 64 := by omega
          subst hj6
          have HS3 : Hid (Soc w wr u3 S ((k + 1) * 64)) := by rw [show (k + 1) * 64 = k * 64 + 64 by omega]; exact HS2.out
          clear HS2
          go_wp2
          go_roundw
          case rel => exact ⟨k + 1, by omega, by go_num, HS3.out⟩
          case measure => simp [intOf]; omega
    · have hk4 : k = 4 := by omega
      subst hk4
      go_wp2
      go_ret
      exact ⟨_, rfl, HSo.out⟩

end Go.Proofs.YtigoacnbbichoaaDoor
