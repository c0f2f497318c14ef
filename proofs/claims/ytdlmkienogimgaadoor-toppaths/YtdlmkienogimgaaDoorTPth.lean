/- This text proves that platterholdtop.TopPaths returns true: each path of a tree is what it is when it is cleaned, and leads to what it names; old memory is as it was; the conditions are that the steps' texts lie there, and that the library's variable internal/bytealg.MaxLen holds some number. -/
import Derived.Test.YtdlmkienogimgaaDoorT22
import Derived.Test.YtdlmkienogimgaaDoorQ7c
namespace Go.Proofs.YtdlmkienogimgaaDoor
open Go.RowKit Go.Deep Go.Shelf Go.Maps

theorem path_facts {L : List Ent} {M : Nat → Option Nat} (hG : Good L M) {x : Ent} (hx : x ∈ wka L) :
    pE (tx M x) = 0 ∧ cln (tx M x) = shw x.1 ∧ (tx M x).length ≤ 42 ∧ (shw x.1).length ≤ 41 ∧ atS L M (shw x.1) = (0, some x.2) ∧ ((M x.2).isSome = true → tx M x = shw x.1 ++ [47] ∧ nmN L M (shw x.1) = 0) ∧ (M x.2 = none → tx M x = shw x.1 ∧ 0 < nmN L M (shw x.1)) := by
  obtain ⟨h1, h2⟩ := (wka_mem hG x).1 hx
  obtain ⟨hl, hn⟩ := hG.nam x.1 x.2 h1
  obtain ⟨a1, a2, a3⟩ := shw_path hl hn
  obtain ⟨b1, b2, b3⟩ := shw_slash hl hn
  have hat : atS L M (shw x.1) = (0, some x.2) := atS_good hG a1 (by rw [a2]; exact hG.uni.look.2 h1)
  have hth : thing L M (shw x.1) = x.2 := by unfold thing; rw [hat]; rfl
  cases hM : M x.2 with
  | some m =>
    have e : tx M x = shw x.1 ++ [47] := by unfold tx; rw [hM]; rfl
    rw [e]
    refine ⟨b1, by unfold cln; rw [if_pos b1, b2], b3, a3, hat, fun _ => ⟨rfl, ?_⟩, fun h => by simp at h⟩
    unfold nmN
    rw [hth, if_neg (fun h => by rw [hM] at h; cases h.2)]
  | none =>
    have e : tx M x = shw x.1 := by unfold tx; rw [hM]; simp
    rw [e]
    refine ⟨a1, by unfold cln; rw [if_pos a1, a2], by omega, a3, hat, fun h => by simp at h, fun _ => ⟨rfl, ?_⟩⟩
    unfold nmN
    rw [hat, hth, if_pos ⟨rfl, hM⟩]
    exact List.countP_pos_iff.2 ⟨x, hx, by simp⟩

theorem strs_form {w : World} {v : Value} {ls : List (List UInt8)} (h : StrsIs w v ls) : ∃ a c, v = .slice a ls.length c := by
  obtain ⟨a, c, rfl, _⟩ := h
  exact ⟨a, c, rfl⟩
theorem txs_one {r i : Nat} {M : Nat → Option Nat} (hG : Good [([], r), ([[97]], i)] M) (hi : (M i).isSome = true) : txs [([], r), ([[97]], i)] M = [[47, 97, 47]] := by
  have hp := wka_perm hG
  refine rise_one (R := fun a b : List UInt8 => a < b) (fun a => List.lt_irrefl _) (fun a b c => List.lt_trans) (txs_rise hG) (by simp) fun x => ?_
  unfold txs
  rw [(hp.map _).mem_iff]
  simp [tx, hi, shw, Lib.join]

set_option maxHeartbeats 16000000 in
set_option maxRecDepth 100000 in
theorem topPaths_any (w : World) (v : Value) (ls : List (List (List UInt8))) (hv : TxtsIs w v ls) (hm : Mx w) :
    Calls Tryd.prog 5 #[v] w fun e w' => e = .returned (.bool true) ∧ Below w.heap.size w w' := by
  obtain ⟨a, c, b, o, rfl, hlm, ha, hc⟩ := hv.where
  have HC : Hid (∀ i, i < ls.length → ∃ u, w.cell? ⟨b, o + i, none⟩ = some u ∧ StrsIs w u (tat ls i) ∧ ∀ x ∈ tat ls i, x.length ≤ maxLen) := hc
  have HA : Hid (0 < ls.length → a = some ⟨b, o, none⟩ ∧ b < w.heap.size) := ha
  have HM : Hid (Mx w) := hm
  unfold maxLen at hlm
  have H1 : Hid _ := fun (w1 : World) (t r : Nat) (M : Nat → Option Nat) (h : TreeAt w1 w.heap.size t [([], r)] M) (hb : Turned w.heap.size w w1) => dir_any w1 w.heap.size t _ M h ⟨#[47, 97]⟩ (by decide) (hm.turned hb) hb.below.size
  unfold ptr at H1
  clear ha hc hv hm
  go_enter Tryd.func5, Tryd.ntmps5
  go_wp2_with fail
  refine Calls.mono (new_any w w.heap.size (Nat.le_refl _)) ?_
  unfold ptr
  rintro e w1 ⟨t, r, M0, rfl, hr, hT1, hb1⟩
  have k1 : Turned w.heap.size w w1 := Turned.of_below hb1 (Nat.le_refl _)
  go_wp2_with fail
  refine Calls.mono (H1.out w1 t r M0 hT1 k1) ?_
  rintro e w2 ⟨n1, L1, M1, rfl, g1, hT2, k2⟩
  obtain ⟨rfl, i, rfl, hi, hri, hir⟩ := fact_one hr g1
  rw [errV_zero]
  have k2' := k1.trans k2
  have ht1 := txs_one hT2.good hi
  go_wp2_with fail
  refine Calls.mono (treeWalk_any w2 w.heap.size t _ M1 hT2) ?_
  rintro e w3 ⟨v3, rfl, hv3, hb3⟩
  rw [ht1] at hv3
  have hs3 := strs_own hv3
  go_wp2_with fail
  refine Calls.mono (texts_any _ _ _ _ [[47, 97, 47]] (hs3.later (Nat.le_refl _) (below_alloc _ _)) (strs_one w3 [47, 97, 47])) ?_
  rw [eqS_self]
  rintro e w4 ⟨rfl, hb4⟩
  have z2 := k2'.below.size
  have hb34 : Below w.heap.size w w4 := k2'.below.trans ((hb3.mono z2).trans (((below_alloc w3 _).trans (hb4.mono (by simp))).mono (Nat.le_trans z2 hb3.size)))
  have HB4 : Hid (Below w.heap.size w w4) := hb34
  clear hv3 hs3 ht1 g1 hT2 hT1 hb3 hb4 hb34 k1 k2 k2' hi hri hir hr hb1 z2
  go_wp2_with fail
  refine Calls.mono (new_any w4 w.heap.size HB4.out.size) ?_
  unfold ptr
  rintro e w5 ⟨t5, r5, M5, rfl, _, hT5, hb5⟩
  have HT5 : Hid (TreeAt w5 w.heap.size t5 [([], r5)] M5) := hT5
  have HB5 : Hid (Turned w.heap.size w w5) := Turned.of_below (HB4.out.trans (hb5.mono HB4.out.size)) (Nat.le_refl _)
  clear hT5 hb5
  go_wp2_with fail
  go_loopw [4, 5] (fun s _ wr => ∃ (k : Nat) (L : List Ent) (M : Nat → Option Nat), k ≤ 40 ∧ k ≤ ls.length ∧ s = .int .i64 k ∧ Hid (TreeAt wr w.heap.size t5 L M) ∧ Hid (Turned w.heap.size w wr)) (fun s _ _ => 40 - (intOf s).toNat)
  case atStart => exact ⟨0, _, _, by omega, by omega, rfl, HT5, HB5⟩
  case round =>
    obtain ⟨k, L, M, hk, hkl, rfl, HT, HB⟩ := hrel
    by_cases hlt : k < ls.length
    · by_cases h40 : k < 40
      · obtain ⟨haa, hbl⟩ := HA.out (by omega)
        subst haa
        obtain ⟨u, hu, hs0, hsm⟩ := HC.out k hlt
        have hcu : wr.cell? ⟨b, o + k, none⟩ = some u := HB.out.cell hu
        have hs := hs0.later (Nat.le_refl _) HB.out.below
        have hmk := HM.out.turned HB.out
        obtain ⟨a2, c2, b2, o2, rfl, _, hlm2, ha2, hc2⟩ := hs.where
        unfold maxLen at hlm2
        clear hu hs0
        by_cases h2 : (tat ls k).length = 2
        · obtain ⟨haa, _⟩ := ha2 (by omega)
          subst haa
          have h0 := hc2 0 (by omega)
          have h1 := hc2 1 (by omega)
          rw [Nat.add_zero] at h0
          have hs1 : (bs (sth (tat ls k) 1)).size ≤ maxLen := bs_size (hsm _ (sth_mem (by omega)))
          have ed := bs_list (sth (tat ls k) 0)
          rw [h2] at hcu
          clear ha2 hc2 h2
          by_cases e100 : sth (tat ls k) 0 = [100]
          · have q100 : ((bs (sth (tat ls k) 0)).toList == [100]) = true := by rw [ed, e100]; rfl
            have q102 : ((bs (sth (tat ls k) 0)).toList == [102]) = false := by rw [ed, e100]; rfl
            have q120 : ((bs (sth (tat ls k) 0)).toList == [120]) = false := by rw [ed, e100]; rfl
            have HD : Hid _ := fun (_ : Nat) => dir_any wr w.heap.size t5 L M HT.out (bs (sth (tat ls k) 1)) hs1 hmk HB.out.below.size
            generalize hx0 : bs (sth (tat ls k) 0) = x at *
            generalize hy0 : bs (sth (tat ls k) 1) = y at *
            unfold ptr at HD
            clear ed hsm hs e100 hmk
            go_wp2_with fail
            refine Calls.mono (HD.out 0) ?_
            rintro e w2 ⟨n, L', M', rfl, kk1, kk2, kk3⟩
            have h0' := kk3.cell h0
            have HT2 : Hid (TreeAt w2 w.heap.size t5 _ _) := kk2
            have HB2 : Hid (Turned w.heap.size w w2) := HB.out.trans kk3
            clear kk1 kk2 kk3 HT HB HD
            go_wp2_with fail
            go_roundw
            case rel => exact ⟨k + 1, _, _, by omega, by omega, by go_num, HT2, HB2⟩
            case measure => simp [intOf]; omega
          · by_cases e102 : sth (tat ls k) 0 = [102]
            · have q102 : ((bs (sth (tat ls k) 0)).toList == [102]) = true := by rw [ed, e102]; rfl
              have q100 : ((bs (sth (tat ls k) 0)).toList == [100]) = false := by rw [ed, e102]; rfl
              have q120 : ((bs (sth (tat ls k) 0)).toList == [120]) = false := by rw [ed, e102]; rfl
              have HD : Hid _ := fun (_ : Nat) => file_any wr w.heap.size t5 L M HT.out (bs (sth (tat ls k) 1)) hs1 hmk HB.out.below.size
              generalize hx0 : bs (sth (tat ls k) 0) = x at *
              generalize hy0 : bs (sth (tat ls k) 1) = y at *
              unfold ptr at HD
              clear ed hsm hs e100 e102 hmk
              go_wp2_with fail
              refine Calls.mono (HD.out 0) ?_
              rintro e w2 ⟨n, L', M', rfl, kk1, kk2, kk3⟩
              have h0' := kk3.cell h0
              have HT2 : Hid (TreeAt w2 w.heap.size t5 _ _) := kk2
              have HB2 : Hid (Turned w.heap.size w w2) := HB.out.trans kk3
              clear kk1 kk2 kk3 HT HB HD
              go_wp2_with fail
              go_roundw
              case rel => exact ⟨k + 1, _, _, by omega, by omega, by go_num, HT2, HB2⟩
              case measure => simp [intOf]; omega
            · by_cases e120 : sth (tat ls k) 0 = [120]
              · have q120 : ((bs (sth (tat ls k) 0)).toList == [120]) = true := by rw [ed, e120]; rfl
                have q100 : ((bs (sth (tat ls k) 0)).toList == [100]) = false := by rw [ed, e120]; rfl
                have q102 : ((bs (sth (tat ls k) 0)).toList == [102]) = false := by rw [ed, e120]; rfl
                have HD : Hid _ := fun (_ : Nat) => drop_any wr w.heap.size t5 L M HT.out (bs (sth (tat ls k) 1)) hs1 hmk HB.out.below.size
                generalize hx0 : bs (sth (tat ls k) 0) = x at *
                generalize hy0 : bs (sth (tat ls k) 1) = y at *
                unfold ptr at HD
                clear ed hsm hs e100 e102 e120 hmk
                go_wp2_with fail
                refine Calls.mono (HD.out 0) ?_
                rintro e w2 ⟨rfl, kk2, kk3⟩
                have h0' := kk3.cell h0
                have HT2 : Hid (TreeAt w2 w.heap.size t5 _ _) := kk2
                have HB2 : Hid (Turned w.heap.size w w2) := HB.out.trans kk3
                clear kk2 kk3 HT HB HD
                go_wp2_with fail
                go_roundw
                case rel => exact ⟨k + 1, _, _, by omega, by omega, by go_num, HT2, HB2⟩
                case measure => simp [intOf]; omega
              · have q100 : ((bs (sth (tat ls k) 0)).toList == [100]) = false := by rw [ed]; simp [e100]
                have q102 : ((bs (sth (tat ls k) 0)).toList == [102]) = false := by rw [ed]; simp [e102]
                have q120 : ((bs (sth (tat ls k) 0)).toList == [120]) = false := by rw [ed]; simp [e120]
                generalize hx0 : bs (sth (tat ls k) 0) = x at *
                clear ed hsm hs e100 e102 e120 hmk
                have HT2 := HT
                have HB2 := HB
                go_wp2_with fail
                go_roundw
                case rel => exact ⟨k + 1, _, _, by omega, by omega, by go_num, HT2, HB2⟩
                case measure => simp [intOf]; omega
        · by_cases h3 : (tat ls k).length = 3
          · obtain ⟨haa, _⟩ := ha2 (by omega)
            subst haa
            have h0 := hc2 0 (by omega)
            have h1 := hc2 1 (by omega)
            have h22 := hc2 2 (by omega)
            rw [Nat.add_zero] at h0
            have hs1 : (bs (sth (tat ls k) 1)).size ≤ maxLen := bs_size (hsm _ (sth_mem (by omega)))
            have hs2 : (bs (sth (tat ls k) 2)).size ≤ maxLen := bs_size (hsm _ (sth_mem (by omega)))
            have ed := bs_list (sth (tat ls k) 0)
            rw [h3] at hcu
            clear ha2 hc2 h2 h3
            by_cases e108 : sth (tat ls k) 0 = [108]
            · have q108 : ((bs (sth (tat ls k) 0)).toList == [108]) = true := by rw [ed, e108]; rfl
              have q109 : ((bs (sth (tat ls k) 0)).toList == [109]) = false := by rw [ed, e108]; rfl
              have HD : Hid _ := fun (w1 : World) (hb : Below wr.heap.size wr w1) => link_any w1 w.heap.size t5 L M (HT.out.later hb) (bs (sth (tat ls k) 1)) (bs (sth (tat ls k) 2)) hs1 hs2 (hmk.later hb) (Nat.le_trans HB.out.below.size hb.size)
              generalize hx0 : bs (sth (tat ls k) 0) = x at *
              generalize hy0 : bs (sth (tat ls k) 1) = y at *
              generalize hz0 : bs (sth (tat ls k) 2) = z at *
              unfold ptr at HD
              clear ed hsm hs e108 hmk
              go_wp2_with fail
              have HK : Hid (∀ w1, Turned w.heap.size wr w1 → w1.cell? ⟨b2, o2 + 1, none⟩ = some (.string y) ∧ w1.cell? ⟨b2, o2 + 2, none⟩ = some (.string z)) := fun w1 hT => ⟨hT.cell h1, hT.cell h22⟩
              go_region_held3 (fun w' => w'.cell? ⟨b2, o2 + 1, none⟩ = some (.string y) ∧ w'.cell? ⟨b2, o2 + 2, none⟩ = some (.string z))
                (first | go_keep | (go_split_ands; exact HK.out _ HB1.out))
                (first | (go_at_call 10; refine (HD.out _ (below_draw _ _)).mono ?_; rintro e w2 ⟨rfl, kk2, kk3⟩; have HB1 : Hid (Turned w.heap.size wr w2) := undrewT kk3))
              have h0' := HB1.out.cell h0
              have HT2 : Hid (TreeAt w2 w.heap.size t5 _ _) := kk2
              have HB2 : Hid (Turned w.heap.size w w2) := HB.out.trans HB1.out
              clear kk2 kk3 HT HB HD HB1 HK
              go_wp2_with fail
              go_roundw
              case rel => exact ⟨k + 1, _, _, by omega, by omega, by go_num, HT2, HB2⟩
              case measure => simp [intOf]; omega
            · by_cases e109 : sth (tat ls k) 0 = [109]
              · have q109 : ((bs (sth (tat ls k) 0)).toList == [109]) = true := by rw [ed, e109]; rfl
                have q108 : ((bs (sth (tat ls k) 0)).toList == [108]) = false := by rw [ed, e109]; rfl
                have HD : Hid _ := fun (w1 : World) (hb : Below wr.heap.size wr w1) => move_any w1 w.heap.size t5 L M (HT.out.later hb) (bs (sth (tat ls k) 1)) (bs (sth (tat ls k) 2)) hs1 hs2 (hmk.later hb) (Nat.le_trans HB.out.below.size hb.size)
                generalize hx0 : bs (sth (tat ls k) 0) = x at *
                generalize hy0 : bs (sth (tat ls k) 1) = y at *
                generalize hz0 : bs (sth (tat ls k) 2) = z at *
                unfold ptr at HD
                clear ed hsm hs e108 e109 hmk
                go_wp2_with fail
                have HK : Hid (∀ w1, Turned w.heap.size wr w1 → w1.cell? ⟨b2, o2 + 1, none⟩ = some (.string y) ∧ w1.cell? ⟨b2, o2 + 2, none⟩ = some (.string z)) := fun w1 hT => ⟨hT.cell h1, hT.cell h22⟩
                go_region_held3 (fun w' => w'.cell? ⟨b2, o2 + 1, none⟩ = some (.string y) ∧ w'.cell? ⟨b2, o2 + 2, none⟩ = some (.string z))
                  (first | go_keep | (go_split_ands; exact HK.out _ HB1.out))
                  (first | (go_at_call 12; refine (HD.out _ (below_draw _ _)).mono ?_; rintro e w2 ⟨rfl, kk2, kk3⟩; have HB1 : Hid (Turned w.heap.size wr w2) := undrewT kk3))
                have h0' := HB1.out.cell h0
                have HT2 : Hid (TreeAt w2 w.heap.size t5 _ _) := kk2
                have HB2 : Hid (Turned w.heap.size w w2) := HB.out.trans HB1.out
                clear kk2 kk3 HT HB HD HB1 HK
                go_wp2_with fail
                go_roundw
                case rel => exact ⟨k + 1, _, _, by omega, by omega, by go_num, HT2, HB2⟩
                case measure => simp [intOf]; omega
              · have q108 : ((bs (sth (tat ls k) 0)).toList == [108]) = false := by rw [ed]; simp [e108]
                have q109 : ((bs (sth (tat ls k) 0)).toList == [109]) = false := by rw [ed]; simp [e109]
                generalize hx0 : bs (sth (tat ls k) 0) = x at *
                clear ed hsm hs e108 e109 hmk
                have HT2 := HT
                have HB2 := HB
                go_wp2_with fail
                go_roundw
                case rel => exact ⟨k + 1, _, _, by omega, by omega, by go_num, HT2, HB2⟩
                case measure => simp [intOf]; omega
          · have q1 : (((tat ls k).length : Int) == 2) = false := by simp; omega
            have q2 : (((tat ls k).length : Int) == 3) = false := by simp; omega
            clear ha2 hc2 h2 h3 hs hsm hmk
            generalize (tat ls k).length = n2 at *
            have HT2 := HT
            have HB2 := HB
            go_wp2_with fail
            go_roundw
            case rel => exact ⟨k + 1, _, _, by omega, by omega, by go_num, HT2, HB2⟩
            case measure => simp [intOf]; omega
      · go_wp2_with fail
        refine Calls.mono (treeWalk_any wr w.heap.size t5 L M HT.out) ?_
        rintro e w6 ⟨v6, rfl, hv6, hb6⟩
        have hs6 := strs_own hv6
        have HT6 : Hid (TreeAt w6 w.heap.size t5 L M) := HT.out.later hb6
        have HB6 : Hid (Turned w.heap.size w w6) := HB.out.trans (Turned.of_below hb6 HB.out.below.size)
        have hln : (txs L M).length ≤ 25 := by have := txs_len HT6.out.good; have := HT6.out.good.few; omega
        obtain ⟨a6, c6, b6, o6, rfl, _, _, ha6, hc6⟩ := hs6.where
        have HA6 : Hid (0 < (txs L M).length → a6 = some ⟨b6, o6, none⟩ ∧ b6 < w6.heap.size) := ha6
        have HC6 : Hid (∀ i, i < (txs L M).length → w6.cell? ⟨b6, o6 + i, none⟩ = some (.string (bs (sth (txs L M) i)))) := hc6
        obtain ⟨N, hN⟩ : ∃ N, (txs L M).length = N := ⟨_, rfl⟩
        have HN : Hid ((txs L M).length = N) := hN
        rw [hN] at hln HA6 HC6 ⊢
        clear hv6 hs6 hb6 ha6 hc6 HT HB hN
        go_wp2_with fail
        go_loopw [7, 8, 9, 10, 11] (fun q _ _ _ _ wq => ∃ k : Nat, k ≤ N ∧ q = .int .i64 k ∧ Hid (Below w6.heap.size w6 wq)) (fun q _ _ _ _ _ => N - (intOf q).toNat)
        case atStart => exact ⟨0, Nat.zero_le _, rfl, Below.refl _ _⟩
        case round =>
          obtain ⟨k6, hk6, rfl, HQ⟩ := hrel
          by_cases hl6 : k6 < N
          · obtain ⟨haa, hbl⟩ := HA6.out (by omega)
            subst haa
            have hck : wr.cell? ⟨b6, o6 + k6, none⟩ = some (.string (bs (sth (txs L M) k6))) := by
              rw [HQ.out.cell (p := ⟨b6, o6 + k6, none⟩) hbl]; exact HC6.out k6 hl6
            obtain ⟨x, hx, hxe⟩ : ∃ x, x ∈ wka L ∧ tx M x = sth (txs L M) k6 := by
              have := sth_mem (ls := txs L M) (i := k6) (by rw [HN.out]; exact hl6)
              exact List.mem_map.1 this
            rw [← hxe] at hck
            obtain ⟨p1, p2, p3, p4, p5, p6, p7⟩ := path_facts HT6.out.good hx
            have hkq : Turned w.heap.size w wr := HB6.out.trans (Turned.of_below HQ.out HB6.out.below.size)
            have hTq : TreeAt wr w.heap.size t5 L M := HT6.out.later HQ.out
            have HCl : Hid _ := fun (_ : Nat) => clean_any wr (bs (tx M x)) (bs_size (by unfold maxLen; omega)) (HM.out.turned hkq)
            rw [data_bs, p1, p2, errV_zero] at HCl
            have HNm : Hid _ := fun (w' : World) (hb : Below wr.heap.size wr w') => names_any w' w.heap.size t5 L M (hTq.later hb) (bs (shw x.1)) (bs_size (by unfold maxLen; omega)) ((HM.out.turned hkq).later hb)
            rw [data_bs, p5, errV_zero] at HNm
            have hS4 : (bs (shw x.1)).size ≤ 41 := bs_size p4
            have hso := size_one
            clear hkq hTq p1 p2 p3 p4 p5 hxe
            cases hMx : M x.2 with
            | some m =>
              obtain ⟨r1, r2⟩ := p6 (by rw [hMx]; rfl)
              rw [r1] at hck HCl
              rw [r2] at HNm
              have HX : Hid (bs (shw x.1) ++ ⟨#[47]⟩ = bs (shw x.1 ++ [47])) := by show bs (shw x.1) ++ (⟨#[47]⟩ : ByteArray) = bs (shw x.1 ++ [47]); rw [app_bs, data_bs]
              clear p6 p7 r1 r2 hMx hx
              generalize bs (shw x.1 ++ [47]) = T at *
              generalize bs (shw x.1) = S at *
              generalize hB : S ++ (⟨#[47]⟩ : ByteArray) = B at *
              obtain rfl : B = T := HX.out
              unfold ptr at HNm
              go_wp2_with fail
              refine Calls.mono (HCl.out 0) ?_
              rintro e w7 ⟨rfl, hb7⟩
              have hck7 : w7.cell? ⟨b6, o6 + k6, none⟩ = some (.string B) := by rw [hb7.cell (p := ⟨b6, o6 + k6, none⟩) (World.block_lt_of_cell? _ _ hck)]; exact hck
              go_wp2_with fail
              refine Calls.mono (HNm.out w7 hb7) ?_
              rintro e w8 ⟨rfl, hb8⟩
              have HQ8 : Hid (Below w6.heap.size w6 w8) := HQ.out.trans ((hb7.trans (hb8.mono hb7.size)).mono HQ.out.size)
              clear HNm HCl HQ hb7 hb8 hck hck7
              go_wp2_with fail
              go_roundw
              case rel => exact ⟨k6 + 1, by omega, by go_num, HQ8⟩
              case measure => simp [intOf]; omega
            | none =>
              obtain ⟨r1, r2⟩ := p7 hMx
              rw [r1] at hck HCl
              have hq : ((bs (shw x.1)).toList == (bs (shw x.1) ++ (⟨#[47]⟩ : ByteArray)).toList) = false := by
                rw [app_bs, bs_list, bs_list, data_bs]
                simp
              generalize nmN L M (shw x.1) = nn at *
              have hnn : ((nn : Int) == 0) = false := by simp; omega
              clear p6 p7 r1 r2 hMx hx
              generalize bs (shw x.1) = S at *
              generalize hB : S ++ (⟨#[47]⟩ : ByteArray) = B at *
              unfold ptr at HNm
              go_wp2_with fail
              refine Calls.mono (HCl.out 0) ?_
              rintro e w7 ⟨rfl, hb7⟩
              have hck7 : w7.cell? ⟨b6, o6 + k6, none⟩ = some (.string S) := by rw [hb7.cell (p := ⟨b6, o6 + k6, none⟩) (World.block_lt_of_cell? _ _ hck)]; exact hck
              go_wp2_with fail
              refine Calls.mono (HNm.out w7 hb7) ?_
              rintro e w8 ⟨rfl, hb8⟩
              have HQ8 : Hid (Below w6.heap.size w6 w8) := HQ.out.trans ((hb7.trans (hb8.mono hb7.size)).mono HQ.out.size)
              clear HNm HCl HQ hb7 hb8 hck hck7
              go_wp2_with fail
              go_roundw
              case rel => exact ⟨k6 + 1, by omega, by go_num, HQ8⟩
              case measure => simp [intOf]; omega
          · go_wp2_with fail
            go_ret
            exact ⟨rfl, HB6.out.below.trans (HQ.out.mono HB6.out.below.size)⟩
    · go_wp2_with fail
      refine Calls.mono (treeWalk_any wr w.heap.size t5 L M HT.out) ?_
      rintro e w6 ⟨v6, rfl, hv6, hb6⟩
      have hs6 := strs_own hv6
      have HT6 : Hid (TreeAt w6 w.heap.size t5 L M) := HT.out.later hb6
      have HB6 : Hid (Turned w.heap.size w w6) := HB.out.trans (Turned.of_below hb6 HB.out.below.size)
      have hln : (txs L M).length ≤ 25 := by have := txs_len HT6.out.good; have := HT6.out.good.few; omega
      obtain ⟨a6, c6, b6, o6, rfl, _, _, ha6, hc6⟩ := hs6.where
      have HA6 : Hid (0 < (txs L M).length → a6 = some ⟨b6, o6, none⟩ ∧ b6 < w6.heap.size) := ha6
      have HC6 : Hid (∀ i, i < (txs L M).length → w6.cell? ⟨b6, o6 + i, none⟩ = some (.string (bs (sth (txs L M) i)))) := hc6
      obtain ⟨N, hN⟩ : ∃ N, (txs L M).length = N := ⟨_, rfl⟩
      have HN : Hid ((txs L M).length = N) := hN
      rw [hN] at hln HA6 HC6 ⊢
      clear hv6 hs6 hb6 ha6 hc6 HT HB hN
      go_wp2_with fail
      go_loopw [7, 8, 9, 10, 11] (fun q _ _ _ _ wq => ∃ k : Nat, k ≤ N ∧ q = .int .i64 k ∧ Hid (Below w6.heap.size w6 wq)) (fun q _ _ _ _ _ => N - (intOf q).toNat)
      case atStart => exact ⟨0, Nat.zero_le _, rfl, Below.refl _ _⟩
      case round =>
        obtain ⟨k6, hk6, rfl, HQ⟩ := hrel
        by_cases hl6 : k6 < N
        · obtain ⟨haa, hbl⟩ := HA6.out (by omega)
          subst haa
          have hck : wr.cell? ⟨b6, o6 + k6, none⟩ = some (.string (bs (sth (txs L M) k6))) := by
            rw [HQ.out.cell (p := ⟨b6, o6 + k6, none⟩) hbl]; exact HC6.out k6 hl6
          obtain ⟨x, hx, hxe⟩ : ∃ x, x ∈ wka L ∧ tx M x = sth (txs L M) k6 := by
            have := sth_mem (ls := txs L M) (i := k6) (by rw [HN.out]; exact hl6)
            exact List.mem_map.1 this
          rw [← hxe] at hck
          obtain ⟨p1, p2, p3, p4, p5, p6, p7⟩ := path_facts HT6.out.good hx
          have hkq : Turned w.heap.size w wr := HB6.out.trans (Turned.of_below HQ.out HB6.out.below.size)
          have hTq : TreeAt wr w.heap.size t5 L M := HT6.out.later HQ.out
          have HCl : Hid _ := fun (_ : Nat) => clean_any wr (bs (tx M x)) (bs_size (by unfold maxLen; omega)) (HM.out.turned hkq)
          rw [data_bs, p1, p2, errV_zero] at HCl
          have HNm : Hid _ := fun (w' : World) (hb : Below wr.heap.size wr w') => names_any w' w.heap.size t5 L M (hTq.later hb) (bs (shw x.1)) (bs_size (by unfold maxLen; omega)) ((HM.out.turned hkq).later hb)
          rw [data_bs, p5, errV_zero] at HNm
          have hS4 : (bs (shw x.1)).size ≤ 41 := bs_size p4
          have hso := size_one
          clear hkq hTq p1 p2 p3 p4 p5 hxe
          cases hMx : M x.2 with
          | some m =>
            obtain ⟨r1, r2⟩ := p6 (by rw [hMx]; rfl)
            rw [r1] at hck HCl
            rw [r2] at HNm
            have HX : Hid (bs (shw x.1) ++ ⟨#[47]⟩ = bs (shw x.1 ++ [47])) := by show bs (shw x.1) ++ (⟨#[47]⟩ : ByteArray) = bs (shw x.1 ++ [47]); rw [app_bs, data_bs]
            clear p6 p7 r1 r2 hMx hx
            generalize bs (shw x.1 ++ [47]) = T at *
            generalize bs (shw x.1) = S at *
            generalize hB : S ++ (⟨#[47]⟩ : ByteArray) = B at *
            obtain rfl : B = T := HX.out
            unfold ptr at HNm
            go_wp2_with fail
            refine Calls.mono (HCl.out 0) ?_
            rintro e w7 ⟨rfl, hb7⟩
            have hck7 : w7.cell? ⟨b6, o6 + k6, none⟩ = some (.string B) := by rw [hb7.cell (p := ⟨b6, o6 + k6, none⟩) (World.block_lt_of_cell? _ _ hck)]; exact hck
            go_wp2_with fail
            refine Calls.mono (HNm.out w7 hb7) ?_
            rintro e w8 ⟨rfl, hb8⟩
            have HQ8 : Hid (Below w6.heap.size w6 w8) := HQ.out.trans ((hb7.trans (hb8.mono hb7.size)).mono HQ.out.size)
            clear HNm HCl HQ hb7 hb8 hck hck7
            go_wp2_with fail
            go_roundw
            case rel => exact ⟨k6 + 1, by omega, by go_num, HQ8⟩
            case measure => simp [intOf]; omega
          | none =>
            obtain ⟨r1, r2⟩ := p7 hMx
            rw [r1] at hck HCl
            have hq : ((bs (shw x.1)).toList == (bs (shw x.1) ++ (⟨#[47]⟩ : ByteArray)).toList) = false := by
              rw [app_bs, bs_list, bs_list, data_bs]
              simp
            generalize nmN L M (shw x.1) = nn at *
            have hnn : ((nn : Int) == 0) = false := by simp; omega
            clear p6 p7 r1 r2 hMx hx
            generalize bs (shw x.1) = S at *
            generalize hB : S ++ (⟨#[47]⟩ : ByteArray) = B at *
            unfold ptr at HNm
            go_wp2_with fail
            refine Calls.mono (HCl.out 0) ?_
            rintro e w7 ⟨rfl, hb7⟩
            have hck7 : w7.cell? ⟨b6, o6 + k6, none⟩ = some (.string S) := by rw [hb7.cell (p := ⟨b6, o6 + k6, none⟩) (World.block_lt_of_cell? _ _ hck)]; exact hck
            go_wp2_with fail
            refine Calls.mono (HNm.out w7 hb7) ?_
            rintro e w8 ⟨rfl, hb8⟩
            have HQ8 : Hid (Below w6.heap.size w6 w8) := HQ.out.trans ((hb7.trans (hb8.mono hb7.size)).mono HQ.out.size)
            clear HNm HCl HQ hb7 hb8 hck hck7
            go_wp2_with fail
            go_roundw
            case rel => exact ⟨k6 + 1, by omega, by go_num, HQ8⟩
            case measure => simp [intOf]; omega
        · go_wp2_with fail
          go_ret
          exact ⟨rfl, HB6.out.below.trans (HQ.out.mono HB6.out.below.size)⟩

end Go.Proofs.YtdlmkienogimgaaDoor
