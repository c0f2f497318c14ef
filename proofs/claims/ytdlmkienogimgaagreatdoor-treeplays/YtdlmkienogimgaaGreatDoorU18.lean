/- This text proves what the document's Sorted answers: the texts as they rise; old memory is as it was; the conditions are that the texts lie there, are few, and that no two are one. -/
import Derived.Test.YtdlmkienogimgaaGreatDoorMb3
import Derived.Deep.RegionHeld3
import Derived.Deep.QuietTactic
import Derived.Deep.DeepCutAuto
import Derived.BigQuiet
namespace Go.Proofs.YtdlmkienogimgaaGreatDoor
open Go.RowKit Go.Deep Go.Shelf

/-- Which texts were taken. -/
def uB (l : List (List UInt8)) (n : Nat) : List Bool := l.map fun x => decide (x ∈ (srt l).take n)
theorem uB_len (l : List (List UInt8)) (n : Nat) : (uB l n).length = l.length := by simp [uB]
theorem uB_get {l : List (List UInt8)} {n i : Nat} (h : i < l.length) : (uB l n).getD i false = decide (sth l i ∈ (srt l).take n) := by
  unfold uB
  rw [sth_lt h]
  simp [List.getD, h]
theorem uB_at {l : List (List UInt8)} (n : Nat) {i : Nat} (h : i < l.length) {h' : i < (uB l n).length} : (uB l n)[i] = decide (l[i] ∈ (srt l).take n) := by simp [uB]
theorem nodup_inj {l : List (List UInt8)} (h : l.Nodup) {i j : Nat} (hi : i < l.length) (hj : j < l.length) (e : l[i] = l[j]) : i = j := by
  have hp := List.pairwise_iff_getElem.1 (List.nodup_iff_pairwise_ne.1 h)
  rcases Nat.lt_trichotomy i j with h1 | h1 | h1
  · exact absurd e (hp i j hi hj h1)
  · exact h1
  · exact absurd e.symm (hp j i hj hi h1)
theorem uB_zero (l : List (List UInt8)) : uB l 0 = List.replicate l.length false := by
  unfold uB
  rw [List.eq_replicate_iff]
  simp
theorem take_one' {α : Type} {D : List α} {k : Nat} (h : k < D.length) : D.take (k + 1) = D.take k ++ [D[k]] := by
  rw [List.take_add_one, List.getElem?_eq_getElem h]; rfl
theorem uB_next {l : List (List UInt8)} (hl : l.Nodup) {n b : Nat} (hn : n < l.length) (hb : b < l.length) (e : sth l b = sth (srt l) n) : (uB l n).set b true = uB l (n + 1) := by
  have hs : n < (srt l).length := by rw [srt_len]; exact hn
  refine List.ext_getElem (by simp [uB]) fun i h1 h2 => ?_
  have hi : i < l.length := by simpa [uB] using h2
  rw [List.getElem_set]
  have hT : (srt l).take (n + 1) = (srt l).take n ++ [sth l b] := by rw [take_one' hs, e, sth_lt hs]
  rw [uB_at _ hi, uB_at _ hi, hT]
  by_cases hbi : b = i
  · subst hbi
    rw [if_pos rfl, sth_lt hb]
    simp
  · rw [if_neg hbi]
    have hne : l[i] ≠ sth l b := fun e2 => by
      rw [sth_lt hb] at e2
      exact hbi (nodup_inj hl hb hi e2.symm)
    simp [hne]
theorem bools_made (w : World) (n : Nat) (h : n ≤ maxLen) : (w.alloc (.cells (madeCells #[.bool false] n) 4)).ownsRow w.heap.size 4 1 (.slice (some ⟨w.heap.size, 0, none⟩) n n) n (bcs (List.replicate n false)) :=
  ⟨by simp [bcs], .inr ⟨w.heap.size, n, madeCells #[.bool false] n, rfl, Nat.le_refl _, blk_alloc_new _ _, Nat.le_refl _, h, by rw [size_madeCells, Nat.mul_one], by rw [toList_madeCells_one]; simp [bcs]⟩⟩
theorem row_keep {w w' : World} {base e z n B : Nat} {v : Value} {xs : List Value} (h : w.ownsRow base e z v n xs) (hb : Below B w w') (hB : ∀ k, v.ownBlock = some k → k < B) : w'.ownsRow base e z v n xs := by
  refine ⟨h.1, ?_⟩
  rcases h.2 with h0 | ⟨b, cap, cur, h1, h2, h3, h4⟩
  · exact .inl h0
  · exact .inr ⟨b, cap, cur, h1, h2, by rw [hb.block b (hB b (by rw [h1]; rfl))]; exact h3, h4⟩
theorem bcs_set (l : List Bool) (k : Nat) (b : Bool) : (bcs l).set k (.bool b) = bcs (l.set k b) := by simp [bcs, List.map_set]

theorem own_off1 {w : World} {base e z n : Nat} {v : Value} {xs : List Value} (h : w.ownsRow base e z v n xs) {p : Addr} (hp : p.block < base) (u : Value) : (w.setCell p u).ownsRow base e z v n xs := by
  refine ⟨h.1, ?_⟩
  rcases h.2 with h0 | ⟨g, cap, cur, h1, h2, h3, h4⟩
  · exact .inl h0
  · refine .inr ⟨g, cap, cur, h1, h2, ?_, h4⟩
    rw [Below.heap_setCell w p u g (by omega)]; exact h3
theorem row_still8 {w w' : World} {base e z n : Nat} {v : Value} {xs : List Value} (h : w.ownsRow base e z v n xs) (hb : Below w.heap.size w w') : w'.ownsRow base e z v n xs := by
  refine ⟨h.1, ?_⟩
  rcases h.2 with h0 | ⟨b, cap, cur, h1, h2, h3, h4⟩
  · exact .inl h0
  · exact .inr ⟨b, cap, cur, h1, h2, by rw [hb.block b (Array.getElem?_eq_some_iff.1 h3).1]; exact h3, h4⟩
theorem belowN (w : World) (B q : Nat) : Below B w (w.drewN q) := ⟨rfl, rfl, rfl, Nat.le_refl _, fun _ _ => rfl⟩
theorem lft_some {l : List (List UInt8)} {n : Nat} {x : List UInt8} (h : lft l n x) : ∃ j, j < l.length ∧ sth l j = x := by
  obtain ⟨j, hj, e⟩ := List.getElem_of_mem h.1
  exact ⟨j, hj, by rw [sth_lt hj, e]⟩

set_option maxHeartbeats 8000000 in
set_option maxRecDepth 100000 in
theorem sorted_any (w : World) (v : Value) (l : List (List UInt8)) (hv : StrsIs w v l) (hn : l.Nodup) (hf : l.length ≤ 100) :
    Calls Tryz.prog 53 #[v] w fun e w' => ∃ v', e = .returned v' ∧ StrsIs w' v' (srt l) ∧ Below w.heap.size w w' := by
  obtain ⟨a, c, b, o, rfl, hlc, hlm, ha, hc⟩ := hv.where
  obtain ⟨N, hN⟩ : ∃ N, l.length = N := ⟨_, rfl⟩
  have HN : Hid (l.length = N) := hN
  have HNo : Hid l.Nodup := hn
  rw [hN] at hlc hlm ha hc hf ⊢
  have HA : Hid (0 < N → a = some ⟨b, o, none⟩) := fun h => (ha h).1
  have HC : Hid (∀ w', Below w.heap.size w w' → ∀ i, i < N → w'.cell? ⟨b, o + i, none⟩ = some (.string (bs (sth l i)))) := fun w' hb i hi => keepU hb (hc i hi)
  have hmk : ∀ w, (Instr.makeSlice 40 (.int .i64 (N : Int)) (.int .i64 (N : Int))).run Tryz.prog w = .ok (.slice (some ⟨w.heap.size, 0, none⟩) N N) (w.alloc (.cells (madeCells #[.bool false] N) 4)) :=
    run_make_row' (P := Tryz.prog) 40 4 (.bool false) 1 Tryz.underlying40 Tryz.info4 rfl .i64 .i64 N (by omega) (by omega)
  obtain ⟨G, hG⟩ : ∃ G, w.heap.size = G := ⟨_, rfl⟩
  have HM : Hid ((w.alloc (.cells (madeCells #[.bool false] N) 4)).ownsRow G 4 1 (.slice (some ⟨G, 0, none⟩) N N) N (bcs (uB l 0))) := by
    show World.ownsRow _ G 4 1 _ N (bcs (uB l 0))
    rw [uB_zero, hN, ← hG]
    exact bools_made w N hlm
  have HB0 : Hid (Below G w (w.alloc (.cells (madeCells #[.bool false] N) 4))) := by rw [← hG]; exact below_alloc _ _
  have HZ0 : Hid ((w.alloc (.cells (madeCells #[.bool false] N) 4)).heap.size = G + 1) := by
    show _ = G + 1
    rw [← hG]; simp
  clear hv hn ha hc hN
  go_enter Tryz.func53, Tryz.ntmps53
  go_upto_region 4 with fail
  have HRS : Hid (∀ m, Value.ownBlock (.slice (some ⟨G, 0, none⟩) N N) = some m → m < G + 1) := fun m e => by
    simp [Value.ownBlock] at e
    omega
  generalize w.alloc (.cells (madeCells #[.bool false] N) 4) = w1 at *
  have HSz : Hid (w.heap.size = G) := hG
  clear hmk hG
  go_loopw [3, 5] (fun vo i wr => ∃ n : Nat, n ≤ N ∧ i = .int .i64 n ∧ Hid (wr.ownsRow G 4 1 (.slice (some ⟨G, 0, none⟩) N N) N (bcs (uB l n))) ∧ Hid (wr.ownsRow (G + 1) 9 1 vo n (cellsS ((srt l).take n))) ∧ Hid (Below G w wr) ∧ G + 1 ≤ wr.heap.size) (fun _ i _ => N - (intOf i).toNat)
  case atStart => exact ⟨0, Nat.zero_le _, rfl, HM, World.ownsRow_nil _ _ _ _, HB0, Nat.le_of_eq HZ0.out.symm⟩
  case round =>
    obtain ⟨n, hnN, rfl, HU, HO, HB, hsz⟩ := hrel
    have hbw : w.heap.size = G := HSz.out
    by_cases hlt : n < N
    · have haa := HA.out (by omega)
      subst haa
      have hnl : n < l.length := by rw [HN.out]; exact hlt
      go_upto_region 8 with fail
      go_loopw [6, 7] (fun bst i wi => ∃ (k : Nat), k ≤ N ∧ i = .int .i64 k ∧ Hid (Below wr.heap.size wr wi) ∧ ((bst = .int .i64 (-1) ∧ Hid (∀ j, j < k → ¬ lft l n (sth l j))) ∨ ∃ p : Nat, p < k ∧ bst = .int .i64 p ∧ Hid (lft l n (sth l p) ∧ ∀ j, j < k → lft l n (sth l j) → ¬ sth l j < sth l p))) (fun _ i _ => N - (intOf i).toNat)
      case atStart => exact ⟨0, Nat.zero_le _, rfl, Below.refl _ _, .inl ⟨rfl, fun j hj => absurd hj (Nat.not_lt_zero _)⟩⟩
      case round =>
        rename World => wi
        obtain ⟨k, hk, rfl, HBi, hbst⟩ := hrel
        have HBst : Hid _ := hbst
        have HUi := row_still8 HU.out HBi.out
        have hBw : Below w.heap.size w wi := by rw [hbw]; exact HB.out.trans (HBi.out.mono (by omega))
        have HBw : Hid (Below w.heap.size w wi) := hBw
        by_cases hklt : k < N
        · have hkl : k < l.length := by rw [HN.out]; exact hklt
          have cu : wi.cell? ⟨G, k, none⟩ = some (.bool (decide (sth l k ∈ (srt l).take n))) := by
            rw [HUi.cellAt k (by omega), bcs_get (by rw [uB_len]; exact hkl), uB_get hkl]
          have ck := HC.out wi hBw k hklt
          have hki : (k : Int) < (N : Int) := by omega
          have hkS : Hid (lft l n (sth l k) ↔ ¬ sth l k ∈ (srt l).take n) := ⟨fun h => h.2, fun h => ⟨sth_mem hkl, h⟩⟩
          clear hbst HUi hBw
          by_cases hmem : sth l k ∈ (srt l).take n
          · rw [decide_eq_true hmem] at cu
            have HRel : Hid ((u6 = .int .i64 (-1) ∧ Hid (∀ j, j < k + 1 → ¬ lft l n (sth l j))) ∨ ∃ p : Nat, p < k + 1 ∧ u6 = .int .i64 p ∧ Hid (lft l n (sth l p) ∧ ∀ j, j < k + 1 → lft l n (sth l j) → ¬ sth l j < sth l p)) := by
              rcases HBst.out with ⟨e, h⟩ | ⟨p, hp, e, h⟩
              · refine .inl ⟨e, fun j hj => ?_⟩
                by_cases ej : j = k
                · subst ej; exact fun hc => hkS.out.1 hc hmem
                · exact h.out j (by omega)
              · refine .inr ⟨p, by omega, e, h.out.1, fun j hj => ?_⟩
                by_cases ej : j = k
                · subst ej; exact fun hc => absurd hmem (hkS.out.1 hc)
                · exact h.out.2 j (by omega)
            clear HBst hmem hkl
            generalize bs (sth l k) = x at *
            go_wp2_with fail
            go_quiet (fail)
            have HBq : Hid (Below wr.heap.size wr (wi.drewN nq)) := HBi.out.trans ((belowN wi _ nq).mono HBi.out.size)
            go_wp2_with fail
            go_roundw
            case rel => exact ⟨k + 1, by omega, by go_num, HBq, HRel.out⟩
            case measure => simp [intOf]; omega
          · rw [decide_eq_false hmem] at cu
            have HL : Hid (lft l n (sth l k)) := hkS.out.2 hmem
            rcases HBst.out with ⟨e, h⟩ | ⟨p, hp, e, h⟩
            · subst e
              have HRel : Hid (∀ j, j < k + 1 → lft l n (sth l j) → ¬ sth l j < sth l k) := fun j hj hc => by
                by_cases ej : j = k
                · subst ej; exact List.lt_irrefl _
                · exact absurd hc (h.out j (by omega))
              clear HBst hmem hkl
              generalize bs (sth l k) = x at *
              go_wp2_with fail
              go_quiet (fail)
              have HBq : Hid (Below wr.heap.size wr (wi.drewN nq)) := HBi.out.trans ((belowN wi _ nq).mono HBi.out.size)
              go_wp2_with fail
              go_roundw
              case rel => exact ⟨k + 1, by omega, by go_num, HBq, .inr ⟨k, by omega, rfl, HL.out, HRel.out⟩⟩
              case measure => simp [intOf]; omega
            · subst e
              have cp := HC.out wi HBw.out p (by omega)
              have hpi : (p : Int) < (N : Int) := by omega
              by_cases hless : sth l k < sth l p
              · have hLs : Op.bytesLess (bs (sth l k)).toList (bs (sth l p)).toList = true := by
                  rw [bs_list, bs_list, Go.Proofs.bytesLess_eq]; simpa using hless
                have HRel : Hid (∀ j, j < k + 1 → lft l n (sth l j) → ¬ sth l j < sth l k) := fun j hj hc => by
                  by_cases ej : j = k
                  · subst ej; exact List.lt_irrefl _
                  · exact fun h2 => h.out.2 j (by omega) hc (List.lt_trans h2 hless)
                clear HBst hmem hkl hless
                generalize bs (sth l k) = x at *
                generalize bs (sth l p) = y at *
                go_wp2_with fail
                go_quiet (fail)
                have HBq : Hid (Below wr.heap.size wr (wi.drewN nq)) := HBi.out.trans ((belowN wi _ nq).mono HBi.out.size)
                go_wp2_with fail
                go_roundw
                case rel => exact ⟨k + 1, by omega, by go_num, HBq, .inr ⟨k, by omega, rfl, HL.out, HRel.out⟩⟩
                case measure => simp [intOf]; omega
              · have hLs : Op.bytesLess (bs (sth l k)).toList (bs (sth l p)).toList = false := by
                  rw [bs_list, bs_list, Go.Proofs.bytesLess_eq]; simpa using hless
                have HRel : Hid (lft l n (sth l p) ∧ ∀ j, j < k + 1 → lft l n (sth l j) → ¬ sth l j < sth l p) := ⟨h.out.1, fun j hj hc => by
                  by_cases ej : j = k
                  · subst ej; exact hless
                  · exact h.out.2 j (by omega) hc⟩
                clear HBst hmem hkl hless
                generalize bs (sth l k) = x at *
                generalize bs (sth l p) = y at *
                go_wp2_with fail
                go_quiet (fail)
                have HBq : Hid (Below wr.heap.size wr (wi.drewN nq)) := HBi.out.trans ((belowN wi _ nq).mono HBi.out.size)
                go_wp2_with fail
                go_roundw
                case rel => exact ⟨k + 1, by omega, by go_num, HBq, .inr ⟨p, by omega, rfl, HRel⟩⟩
                case measure => simp [intOf]; omega
        · have hkN : k = N := by omega
          have HP : Hid (∃ p : Nat, p < N ∧ u6 = .int .i64 p ∧ sth l p = sth (srt l) n) := by
            obtain ⟨j0, hj0, ej0⟩ := lft_some (lft_at HNo.out hnl)
            rw [HN.out] at hj0
            rcases HBst.out with ⟨e, h⟩ | ⟨p, hp, e, h⟩
            · exact absurd (by rw [ej0]; exact lft_at HNo.out hnl) (h.out j0 (by omega))
            · refine ⟨p, by omega, e, lft_least HNo.out hnl h.out.1 fun y hy => ?_⟩
              obtain ⟨j, hj, ej⟩ := lft_some hy
              rw [HN.out] at hj
              have := h.out.2 j (by omega) (by rw [ej]; exact hy)
              rw [ej] at this
              exact this
          obtain ⟨p, hpN, rfl, hpe⟩ := HP.out
          have hpl : p < l.length := by rw [HN.out]; exact hpN
          have HNx : Hid ((uB l n).set p true = uB l (n + 1) ∧ (srt l).take n ++ [sth l p] = (srt l).take (n + 1)) := by
            refine ⟨uB_next HNo.out hnl hpl hpe, ?_⟩
            have hs : n < (srt l).length := by rw [srt_len]; exact hnl
            rw [take_one' hs, hpe, sth_lt hs]
          have cu : wi.cell? ⟨G, p, none⟩ = some (.bool (decide (sth l p ∈ (srt l).take n))) := by
            rw [HUi.cellAt p (by omega), bcs_get (by rw [uB_len]; exact hpl), uB_get hpl]
          have fu : wi.frozen? ⟨G, p, none⟩ = false := HUi.frozenAt p
          have hpi : (p : Int) < (N : Int) := by omega
          generalize decide (sth l p ∈ (srt l).take n) = ub at cu
          have HN1 : Hid (∀ w : World, StrsIs (w.alloc (.cells #[.string (bs (sth l p))] 9)) (.slice (some ⟨w.heap.size, 0, none⟩) 1 1) [sth l p]) := fun w => strs_one w _
          have HU8 : Hid ((wi.setCell ⟨G, p, none⟩ (.bool true)).ownsRow G 4 1 (.slice (some ⟨G, 0, none⟩) N N) N (bcs (uB l (n + 1)))) := by
            have := (HUi.stored p (.bool true)).1
            rw [bcs_set, HNx.out.1] at this
            exact this
          have HO8 : Hid ((wi.setCell ⟨G, p, none⟩ (.bool true)).ownsRow (G + 1) 9 1 u3 n (cellsS ((srt l).take n))) := own_off1 (row_still8 HO.out HBi.out) (by show G < G + 1; omega) _
          have HB8 : Hid (Below G w (wi.setCell ⟨G, p, none⟩ (.bool true))) := (HB.out.trans (HBi.out.mono (by omega))).setCell (p := ⟨G, p, none⟩) (Nat.le_refl _) _
          have HC8 : Hid (∀ w', Below G w w' → w'.cell? ⟨b, o + p, none⟩ = some (.string (bs (sth l p)))) := fun w' hb => HC.out w' (by rw [HSz.out]; exact hb) p hpN
          have HZ8 : Hid (G + 1 ≤ (wi.setCell ⟨G, p, none⟩ (.bool true)).heap.size) := by
            show G + 1 ≤ (wi.setCell ⟨G, p, none⟩ (.bool true)).heap.size
            have := HBi.out.size
            simp [World.setCell]; omega
          clear hkN HP hpe HBst hbst HUi hpl
          generalize bs (sth l p) = x at *
          go_upto_region 13 with fail
          generalize wi.setCell ⟨G, p, none⟩ (.bool true) = w8 at *
          have c8 := HC8.out w8 HB8.out
          go_wp2_with (at_builtin; refine wpList_append_strs rfl (.tmp 47) (.tmp 52) rfl (G + 1) u3 n ((srt l).take n) rfl (HO8.out.alloc _) _ [sth l p] rfl (HN1.out w8) ?q1 ?q2 ?q3)
          case q1 => first | omega | (simp; omega)
          case q2 => have := HZ8.out; first | omega | (simp; omega)
          case q3 =>
            intro v1 w9 hown hb9
            have HO9 : Hid (w9.ownsRow (G + 1) 9 1 v1 (n + 1) (cellsS ((srt l).take (n + 1)))) := by rw [← HNx.out.2]; exact hown
            have HU9 : Hid (w9.ownsRow G 4 1 (.slice (some ⟨G, 0, none⟩) N N) N (bcs (uB l (n + 1)))) := row_keep (HU8.out.alloc _) hb9 HRS.out
            have HB9 : Hid (Below G w w9) := HB8.out.trans (((below_alloc w8 _).mono (by have := HZ8.out; omega)).trans (hb9.mono (by omega)))
            have hz9 : G + 1 ≤ w9.heap.size := by
              have := hb9.size
              have := HZ8.out
              simp at *
              omega
            clear hown hb9
            go_wp2_with fail
            go_roundw
            case rel => exact ⟨n + 1, by omega, by go_num, HU9, HO9, HB9, hz9⟩
            case measure => simp [intOf]; omega
    · have hnn : n = N := by omega
      have HE : Hid (srt l = (srt l).take n) := by
        show srt l = _
        rw [List.take_of_length_le]
        rw [srt_len, HN.out]; omega
      go_wp2_with fail
      go_ret
      refine ⟨_, rfl, ?_, by rw [hbw]; exact HB.out⟩
      rw [HE.out]
      exact strs_own HO.out

end Go.Proofs.YtdlmkienogimgaaGreatDoor
