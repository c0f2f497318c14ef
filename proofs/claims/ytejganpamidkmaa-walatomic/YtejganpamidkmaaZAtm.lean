/- This text proves that platterholdlaw2.WalAtomic returns true: wherever it crashes, all is as those turns leave it that had ended first; old memory is as it was; the condition is that the steps' rows lie there. -/
import Derived.Test.YtejganpamidkmaaZ12
namespace Go.Proofs.Ytejganpamidkmaa
open Go.RowKit Go.Deep Go.Maps

theorem step_longer (L : List Rc) (row : List Int) : L <+: stepL L row := by
  unfold stepL enL wrL
  split
  · split
    · exact List.prefix_append _ _
    · exact List.prefix_rfl
  · split
    · split
      · exact List.prefix_append _ _
      · exact List.prefix_rfl
    · exact List.prefix_rfl
theorem lgd_longer (rs : List (List Int)) : ∀ (k j : Nat), lgd rs k <+: lgd rs (k + j)
  | _, 0 => List.prefix_rfl
  | k, j + 1 => (lgd_longer rs k j).trans (step_longer _ _)
/-- The first so many records are those of the first steps. -/
theorem lgd_take {rs : List (List Int)} {k m : Nat} (h : k ≤ m) : (lgd rs m).take (lgd rs k).length = lgd rs k := by
  obtain ⟨j, rfl⟩ : ∃ j, m = k + j := ⟨m - k, by omega⟩
  exact (List.prefix_iff_eq_take.1 (lgd_longer rs k j)).symm
theorem vals_wr (L : List Rc) (t b x : Int) : vals (wrL L t b x) nV = vals L nV := by
  unfold wrL
  by_cases h : wrE L t b x = 0
  · rw [if_pos h]
    obtain ⟨h1, _, _⟩ := wrE_zero h
    obtain ⟨T, rfl, _, hn⟩ := mayE_zero h1
    exact vals_write rfl (by rw [Int.toNat_natCast]; exact hn) nV
  · rw [if_neg h]
theorem wr_len {L : List Rc} {t b x : Int} (h : wrE L t b x = 0) : (wrL L t b x).length = L.length + 1 := by unfold wrL; rw [if_pos h, List.length_append]; rfl
theorem wr_not {L : List Rc} {t b x : Int} (h : ¬ wrE L t b x = 0) : wrL L t b x = L := if_neg h
theorem en_len {L : List Rc} {t : Int} (h : enE L t = 0) : (enL L t).length = L.length + 1 := by unfold enL; rw [if_pos h, List.length_append]; rfl
theorem en_not {L : List Rc} {t : Int} (h : ¬ enE L t = 0) : enL L t = L := if_neg h

set_option maxHeartbeats 8000000 in
set_option maxRecDepth 100000 in
theorem walAtomic_any (w : World) (v : Value) (rs : List (List Int)) (hr : RowsIs w v rs) (n : Int) :
    Calls Try.prog 3 #[v, .int .i64 n] w fun e w' => e = .returned (.bool true) ∧ Below w.heap.size w w' := by
  go_enter Try.func3, Try.ntmps3
  go_wp2_with fail
  refine (fact_any w).mono ?_
  rintro e w1 ⟨rfl, hb⟩
  have HB : Hid (Below w.heap.size w w1) := hb
  have HR1 : Hid (RowsIs w1 v rs) := hr.later hb
  go_wp2_with fail
  refine (logged_any w1 v rs HR1.out).mono ?_
  rintro e w2 ⟨g, v2, s, rfl, hT⟩
  have S2 : Hid (OnD w1 w2 g v2 ⟨nV, lgd rs (min rs.length 80), s⟩) := hT
  clear hT hb hr
  have HLm : Hid (∀ k, k ≤ min rs.length 80 → (lgd rs (min rs.length 80)).take (lgd rs k).length = lgd rs k) := fun k hk => lgd_take hk
  obtain ⟨m, hm⟩ : ∃ m, m = min rs.length 80 := ⟨_, rfl⟩
  have HMm : Hid (m = min rs.length 80) := hm
  rw [← hm] at S2 HLm
  clear hm
  go_wp2_with fail
  refine (log_any w2 _ _ _ _ S2.out.disk).mono ?_
  rintro e w3 ⟨rfl, hb⟩
  have S3 : Hid (OnD w1 w3 g v2 ⟨nV, lgd rs m, s⟩) := S2.out.later hb
  clear hb
  rw [show (⟨nV, lgd rs m, s⟩ : Dk).L.length = (lgd rs m).length from rfl, show (⟨nV, lgd rs m, s⟩ : Dk).s = s from rfl]
  go_wp2_with fail
  refine (crash_any w3 _ _ _ _ S3.out.disk n).mono ?_
  rintro e w4 ⟨rfl, v4, hst⟩
  by_cases he : crE ⟨nV, lgd rs m, s⟩ n = 0
  · have hd : crD ⟨nV, lgd rs m, s⟩ n = ⟨nV, lft ((lgd rs m).take n.toNat), (lft ((lgd rs m).take n.toNat)).length⟩ := if_pos he
    rw [hd] at hst
    have hn : 0 ≤ n ∧ n ≤ ((lgd rs m).length : Int) := by
      by_cases h : ((s : Nat) : Int) ≤ n ∧ n ≤ ((lgd rs m).length : Int)
      · omega
      · have : crE ⟨nV, lgd rs m, s⟩ n = 1 := if_neg h
        rw [this] at he
        cases he
    obtain ⟨K, rfl⟩ : ∃ K : Nat, n = (K : Int) := ⟨n.toNat, by omega⟩
    rw [Int.toNat_natCast] at hst
    have HKm : Hid (K ≤ (lgd rs m).length) := by show K ≤ _; omega
    have HFi : Hid ((lgd rs m).length ≤ 60) := S3.out.disk.fine.len
    rw [he, errV_zero]
    have S4 : Hid (OnD w1 w4 g v4 ⟨nV, lft ((lgd rs m).take K), (lft ((lgd rs m).take K)).length⟩) := S3.out.step hst
    clear hst hd he hn
    go_wp2_with fail
    refine (values_any w4 _ _ _ _ S4.out.disk).mono ?_
    rintro e w5 ⟨rfl, hv, hb⟩
    have I5 : Hid (VlAt w5 w4.heap.size (vals ((lgd rs m).take K) nV)) := by
      have : vals (lft ((lgd rs m).take K)) nV = vals ((lgd rs m).take K) nV := vals_lft _ _
      show VlAt _ _ _
      rw [← this]
      exact hv
    have O5 : Hid (Below w1.heap.size w1 w5) := S4.out.old.trans (hb.mono S4.out.old.size)
    clear hv hb S2 S3 S4
    generalize w4.heap.size = BI at I5 ⊢
    go_wp2_with fail
    refine (new_any _).mono ?_
    rintro e w6 ⟨rfl, hT, hb⟩
    have X6 : Hid (OnD w5 w6 w5.heap.size (.slice none 0 0) ⟨nV, lgd rs 0, 0⟩) := ⟨hT, hb⟩
    clear hT hb
    go_wp2_with fail
    refine (values_any w6 _ _ _ _ X6.out.disk).mono ?_
    rintro e w7 ⟨rfl, hv, hb⟩
    have V7 : Hid (Seen w7 w5.heap.size (.slice none 0 0) w6.heap.size (vals (lgd rs 0) nV)) := Seen.new X6.out.disk hv
    have X7 : Hid (OnD w5 w7 w5.heap.size (.slice none 0 0) ⟨nV, lgd rs 0, 0⟩) := X6.out.later hb
    clear hv hb X6
    unfold ptrD
    generalize w6.heap.size = BW0 at V7 ⊢
    have HX0 : Hid (∃ v, OnD w5 w7 w5.heap.size v ⟨nV, lgd rs 0, 0⟩ ∧ Seen w7 w5.heap.size v BW0 (vals (lgd rs 0) nV)) := ⟨_, X7.out, V7.out⟩
    clear X7 V7
    obtain ⟨gx, hgx⟩ : ∃ gx, gx = w5.heap.size := ⟨_, rfl⟩
    rw [← hgx] at HX0 ⊢
    clear hgx
    have HRw : Hid (RowsIs w1 v rs) := HR1.out
    obtain ⟨a, c, hv, hl, _⟩ := HR1.out
    obtain ⟨N, hN⟩ : ∃ N, N = rs.length := ⟨_, rfl⟩
    have HN : Hid (N = rs.length) := hN
    rw [← hN] at hv hl
    unfold maxLen at hl
    subst hv
    clear hN HR1
    go_wp2
    go_loopw [11, 12, 13] (fun want had i wr => ∃ k vx BW, k ≤ N ∧ k ≤ 80 ∧ i = .int .i64 ((k : Nat) : Int) ∧ had = .int .i64 ((lgd rs k).length : Int) ∧ want = .slice (some ⟨BW, 0, none⟩) 8 8 ∧ (lgd rs k).length ≤ K ∧ OnD w5 wr gx vx ⟨nV, lgd rs k, 0⟩ ∧ Seen wr gx vx BW (vals (lgd rs k) nV)) (fun _ _ i _ => 80 - (Go.RowKit.intOf i).toNat)
    case atStart =>
      obtain ⟨v, h1, h2⟩ := HX0.out
      exact ⟨0, v, BW0, Nat.zero_le _, by omega, rfl, rfl, rfl, Nat.zero_le _, h1, h2⟩
    case round =>
      obtain ⟨k, vx, BW, hkN, hk, rfl, rfl, rfl, hle, hx, hse⟩ := hrel
      have ST : Hid (OnD w5 wr gx vx ⟨nV, lgd rs k, 0⟩) := hx
      have SE : Hid (Seen wr gx vx BW (vals (lgd rs k) nV)) := hse
      clear hx hse HX0
      obtain ⟨h, hh⟩ : ∃ h, (lgd rs k).length = h := ⟨_, rfl⟩
      have HH : Hid ((lgd rs k).length = h) := hh
      rw [hh] at hle ⊢
      clear hh
      have HEnd : Hid (h = K → Calls Try.prog 15 #[.slice (some ⟨BI, 0, none⟩) 8 8, .slice (some ⟨BW, 0, none⟩) 8 8] wr fun e w' => e = .returned (.bool true) ∧ Below wr.heap.size wr w') := fun e => by
        refine same_any wr _ _ _ _ (I5.out.later ST.out.old) SE.out.at' ?_
        have := HLm.out k (by have h1 := HMm.out; have h2 := HN.out; omega)
        rw [HH.out, e] at this
        rw [this]
      by_cases hlt : k < N
      · have hl1 : (k : Int) < (N : Int) := by omega
        by_cases hs : k < 80
        · have hs1 : (k : Int) < 80 := by omega
          by_cases hhK : h < K
          · have hh1 : (h : Int) < (K : Int) := by omega
            have h60 : h ≤ 60 := by have := HKm.out; have := HFi.out; omega
            obtain ⟨b, o, vk, ha, hbs, hck, hsk⟩ := HRw.out.row k hlt
            subst ha
            have HOl : Hid (Below w1.heap.size w1 wr) := Below.next O5.out ST.out.old
            have hc0 : wr.cell? ⟨b, o + k, none⟩ = some vk := by rw [HOl.out.cell (p := ⟨b, o + k, none⟩) hbs]; exact hck
            clear hck HEnd
            obtain ⟨z, hz⟩ : ∃ z, (rowAt rs k).length = z := ⟨_, rfl⟩
            by_cases h3 : z = 3
            · subst h3
              obtain ⟨b1, o1, c1, rfl, hb1, hx⟩ := row_cells hsk hz (by omega)
              have HXs : Hid (∀ w2, Below w1.heap.size w1 w2 → w2.cell? ⟨b1, o1, none⟩ = some (.int .i64 (nth (rowAt rs k) 0)) ∧ w2.cell? ⟨b1, o1 + 1, none⟩ = some (.int .i64 (nth (rowAt rs k) 1)) ∧ w2.cell? ⟨b1, o1 + 2, none⟩ = some (.int .i64 (nth (rowAt rs k) 2))) := fun w2 h =>
                ⟨by rw [h.cell (p := ⟨b1, o1, none⟩) hb1]; exact hx 0 (by omega), by rw [h.cell (p := ⟨b1, o1 + 1, none⟩) hb1]; exact hx 1 (by omega), by rw [h.cell (p := ⟨b1, o1 + 2, none⟩) hb1]; exact hx 2 (by omega)⟩
              have HL : Hid (lgd rs (k + 1) = wrL (lgd rs k) (nth (rowAt rs k) 0) (nth (rowAt rs k) 1) (nth (rowAt rs k) 2)) := lgd_three hz
              have STd : Hid (OnD w5 wr.drew gx vx ⟨nV, lgd rs k, 0⟩) := ST.out.later (below_drew1 _ _)
              have SEd : Hid (Seen wr.drew gx vx BW (vals (lgd rs k) nV)) := SE.out.later (below_drew1 _ _)
              have HWr : Hid _ := fun (_ : Nat) => write_any wr.drew w5.heap.size gx vx _ STd.out.disk (nth (rowAt rs k) 0) (nth (rowAt rs k) 1) (nth (rowAt rs k) 2)
              unfold ptrD at HWr
              generalize nth (rowAt rs k) 0 = X0 at HXs HL HWr
              generalize nth (rowAt rs k) 1 = X1 at HXs HL HWr
              generalize nth (rowAt rs k) 2 = X2 at HXs HL HWr
              obtain ⟨x0, x1, x2⟩ := HXs.out wr HOl.out
              clear hx hsk hz
              by_cases hw : wrE (lgd rs k) X0 X1 X2 = 0
              · have hwD : wrE (⟨nV, lgd rs k, 0⟩ : Dk).L X0 X1 X2 = 0 := hw
                rw [hwD, errV_zero] at HWr
                have HLn : Hid ((lgd rs (k + 1)).length = h + 1) := by show _ = _; rw [HL.out, wr_len hw, HH.out]
                clear hw hwD
                go_wp2_with fail
                go_region_held3 (fun w' => w'.cell? ⟨b1, o1, none⟩ = some (.int .i64 X0) ∧ w'.cell? ⟨b1, o1 + 1, none⟩ = some (.int .i64 X1) ∧ w'.cell? ⟨b1, o1 + 2, none⟩ = some (.int .i64 X2))
                  (first | (go_split_ands; exact HXs.out _ (Below.next O5.out ST2.out.old)) | go_keep)
                  (first | (go_at_call 13; refine (HWr.out 0).mono ?_; rintro e w2 ⟨rfl, v2, hst2⟩; have ST2 : Hid (OnD w5 w2 gx v2 (wrD ⟨nV, lgd rs k, 0⟩ X0 X1 X2)) := STd.out.step hst2; have SE2 : Hid (Seen w2 gx v2 BW (vals (lgd rs k) nV)) := SEd.out.step hst2; clear hst2))
                go_wp2
                go_roundw
                case rel => exact ⟨k + 1, v2, BW, by omega, by omega, by go_num, by rw [HLn.out]; go_num, rfl, by rw [HLn.out]; omega, by rw [HL.out]; exact ST2.out, by rw [HL.out, vals_wr]; exact SE2.out⟩
                case measure => simp [Go.RowKit.intOf]; omega
              · have hwD : ¬ wrE (⟨nV, lgd rs k, 0⟩ : Dk).L X0 X1 X2 = 0 := hw
                rw [errV_pos hwD] at HWr
                have HLn : Hid ((lgd rs (k + 1)).length = h) := by show _ = _; rw [HL.out, wr_not hw, HH.out]
                generalize ((wrE (⟨nV, lgd rs k, 0⟩ : Dk).L X0 X1 X2 : Nat) : Int) = en at HWr
                clear hw hwD
                go_wp2_with fail
                go_region_held3 (fun w' => w'.cell? ⟨b1, o1, none⟩ = some (.int .i64 X0) ∧ w'.cell? ⟨b1, o1 + 1, none⟩ = some (.int .i64 X1) ∧ w'.cell? ⟨b1, o1 + 2, none⟩ = some (.int .i64 X2))
                  (first | (go_split_ands; exact HXs.out _ (Below.next O5.out ST2.out.old)) | go_keep)
                  (first | (go_at_call 13; refine (HWr.out 0).mono ?_; rintro e w2 ⟨rfl, v2, hst2⟩; have ST2 : Hid (OnD w5 w2 gx v2 (wrD ⟨nV, lgd rs k, 0⟩ X0 X1 X2)) := STd.out.step hst2; have SE2 : Hid (Seen w2 gx v2 BW (vals (lgd rs k) nV)) := SEd.out.step hst2; clear hst2))
                go_wp2
                go_roundw
                case rel => exact ⟨k + 1, v2, BW, by omega, by omega, by go_num, by rw [HLn.out], rfl, by rw [HLn.out]; omega, by rw [HL.out]; exact ST2.out, by rw [HL.out, vals_wr]; exact SE2.out⟩
                case measure => simp [Go.RowKit.intOf]; omega
            · have b3 : ((z : Int) == 3) = false := by simp; omega
              by_cases h1 : z = 1
              · subst h1
                obtain ⟨b1, o1, c1, rfl, hb1, hx⟩ := row_cells hsk hz (by omega)
                have HXs : Hid (∀ w2, Below w1.heap.size w1 w2 → w2.cell? ⟨b1, o1, none⟩ = some (.int .i64 (nth (rowAt rs k) 0))) := fun w2 h => by rw [h.cell (p := ⟨b1, o1, none⟩) hb1]; exact hx 0 (by omega)
                have HL : Hid (lgd rs (k + 1) = enL (lgd rs k) (nth (rowAt rs k) 0)) := lgd_one hz
                generalize nth (rowAt rs k) 0 = X0 at HXs HL
                clear hx hsk hz
                go_wp2_with fail
                go_quiet (fail)
                have ST1 : Hid (OnD w5 (wr.drewN nq) gx vx ⟨nV, lgd rs k, 0⟩) := ST.out.later (below_drew _ _ _)
                have SE1 : Hid (Seen (wr.drewN nq) gx vx BW (vals (lgd rs k) nV)) := SE.out.later (below_drew _ _ _)
                generalize wr.drewN nq = wq at ST1 SE1 ⊢
                have x0 := HXs.out wq (Below.next O5.out ST1.out.old)
                have HEn : Hid _ := fun (_ : Nat) => end_any wq w5.heap.size gx vx _ ST1.out.disk X0
                unfold ptrD at HEn
                by_cases hw : enE (lgd rs k) X0 = 0
                · have hwD : enE (⟨nV, lgd rs k, 0⟩ : Dk).L X0 = 0 := hw
                  rw [hwD, errV_zero] at HEn
                  have HLn : Hid ((lgd rs (k + 1)).length = h + 1) := by show _ = _; rw [HL.out, en_len hw, HH.out]
                  have HVa : Hid (∀ w2 v2, OnD w5 w2 gx v2 (enD ⟨nV, lgd rs k, 0⟩ X0) → Calls Try.prog 11 #[.pointer (some ⟨gx, 0, none⟩)] w2 fun e w' => e = .returned (.slice (some ⟨w2.heap.size, 0, none⟩) 8 8) ∧ VlAt w' w2.heap.size (vals (lgd rs (k + 1)) nV) ∧ Below w2.heap.size w2 w') := fun w2 v2 h => by
                    have := values_any w2 _ _ _ _ h.disk
                    rw [HL.out]
                    exact this
                  clear hw hwD
                  go_wp2_with (first
                    | (go_at_call 14; refine (HEn.out 0).mono ?_; rintro e w2 ⟨rfl, v2, hst2⟩; have ST2 : Hid (OnD w5 w2 gx v2 (enD ⟨nV, lgd rs k, 0⟩ X0)) := ST1.out.step hst2; clear hst2)
                    | (go_at_call 11; refine (HVa.out w2 v2 ST2.out).mono ?_; rintro e w3 ⟨rfl, hv3, hb3⟩; have SE3 : Hid (Seen w3 gx v2 w2.heap.size (vals (lgd rs (k + 1)) nV)) := Seen.new ST2.out.disk hv3; have ST3 : Hid (OnD w5 w3 gx v2 (enD ⟨nV, lgd rs k, 0⟩ X0)) := ST2.out.later hb3; clear hv3 hb3))
                  go_roundw
                  case rel => exact ⟨k + 1, v2, _, by omega, by omega, by go_num, by rw [HLn.out]; go_num, rfl, by rw [HLn.out]; omega, by rw [HL.out]; exact ST3.out, SE3.out⟩
                  case measure => simp [Go.RowKit.intOf]; omega
                · have hwD : ¬ enE (⟨nV, lgd rs k, 0⟩ : Dk).L X0 = 0 := hw
                  rw [errV_pos hwD] at HEn
                  have HLn : Hid ((lgd rs (k + 1)).length = h ∧ lgd rs (k + 1) = lgd rs k) := ⟨by rw [HL.out, en_not hw, HH.out], by rw [HL.out, en_not hw]⟩
                  generalize ((enE (⟨nV, lgd rs k, 0⟩ : Dk).L X0 : Nat) : Int) = en at HEn
                  clear hw hwD
                  go_wp2_with (first
                    | (go_at_call 14; refine (HEn.out 0).mono ?_; rintro e w2 ⟨rfl, v2, hst2⟩; have ST2 : Hid (OnD w5 w2 gx v2 (enD ⟨nV, lgd rs k, 0⟩ X0)) := ST1.out.step hst2; have SE2 : Hid (Seen w2 gx v2 BW (vals (lgd rs k) nV)) := SE1.out.step hst2; clear hst2))
                  go_roundw
                  case rel => exact ⟨k + 1, v2, BW, by omega, by omega, by go_num, by rw [HLn.out.1], rfl, by rw [HLn.out.1]; omega, by rw [HL.out]; exact ST2.out, by rw [HLn.out.2]; exact SE2.out⟩
                  case measure => simp [Go.RowKit.intOf]; omega
              · have b1 : ((z : Int) == 1) = false := by simp; omega
                have HL : Hid (lgd rs (k + 1) = lgd rs k) := lgd_other (by omega) (by omega)
                obtain ⟨a1, c1, hv1, _, _⟩ := hsk
                rw [hz] at hv1
                subst hv1
                clear hz
                go_wp2_with fail
                go_quiet (fail)
                have ST1 : Hid (OnD w5 (wr.drewN nq) gx vx ⟨nV, lgd rs k, 0⟩) := ST.out.later (below_drew _ _ _)
                have SE1 : Hid (Seen (wr.drewN nq) gx vx BW (vals (lgd rs k) nV)) := SE.out.later (below_drew _ _ _)
                generalize wr.drewN nq = wq at ST1 SE1 ⊢
                go_wp2
                go_roundw
                case rel => exact ⟨k + 1, vx, BW, by omega, by omega, by go_num, by rw [HL.out, HH.out], rfl, by rw [HL.out, HH.out]; omega, by rw [HL.out]; exact ST1.out, by rw [HL.out]; exact SE1.out⟩
                case measure => simp [Go.RowKit.intOf]; omega
          · have hh1 : ¬ (h : Int) < (K : Int) := by omega
            have hhe : h = K := by omega
            have HEn2 : Hid _ := fun (_ : Nat) => HEnd.out hhe
            have hq : ((h : Int) == (K : Int)) = true := by simp; omega
            clear hle hhK hhe
            go_wp2_with (go_at_call 15; refine (HEn2.out 0).mono ?_; rintro e w2 ⟨rfl, hb2⟩; have ST2 : Hid (OnD w5 w2 gx vx ⟨nV, lgd rs k, 0⟩) := ST.out.later hb2; clear hb2)
            go_ret
            exact ⟨rfl, Below.next HB.out (Below.next O5.out ST2.out.old)⟩
        · have hs1 : ¬ (k : Int) < 80 := by omega
          have hkm : k = m := by have := HMm.out; have := HN.out; omega
          have hhe : h = K := by have h1 := HH.out; rw [hkm] at h1; have := HKm.out; omega
          have HEn2 : Hid _ := fun (_ : Nat) => HEnd.out hhe
          have hq : ((h : Int) == (K : Int)) = true := by simp; omega
          clear hle hhe hkm
          go_wp2_with (go_at_call 15; refine (HEn2.out 0).mono ?_; rintro e w2 ⟨rfl, hb2⟩; have ST2 : Hid (OnD w5 w2 gx vx ⟨nV, lgd rs k, 0⟩) := ST.out.later hb2; clear hb2)
          go_ret
          exact ⟨rfl, Below.next HB.out (Below.next O5.out ST2.out.old)⟩
      · have hl1 : ¬ (k : Int) < (N : Int) := by omega
        have hkm : k = m := by have := HMm.out; have := HN.out; omega
        have hhe : h = K := by have h1 := HH.out; rw [hkm] at h1; have := HKm.out; omega
        have HEn2 : Hid _ := fun (_ : Nat) => HEnd.out hhe
        have hq : ((h : Int) == (K : Int)) = true := by simp; omega
        clear hle hhe hkm
        go_wp2_with (go_at_call 15; refine (HEn2.out 0).mono ?_; rintro e w2 ⟨rfl, hb2⟩; have ST2 : Hid (OnD w5 w2 gx vx ⟨nV, lgd rs k, 0⟩) := ST.out.later hb2; clear hb2)
        go_ret
        exact ⟨rfl, Below.next HB.out (Below.next O5.out ST2.out.old)⟩
  · rw [errV_pos he]
    have S4 : Hid (OnD w1 w4 g v4 _) := S3.out.step hst
    have hin := in_any n (s : Int) ((lgd rs m).length : Int) w4
    rw [show decide (((s : Nat) : Int) ≤ n ∧ n ≤ ((lgd rs m).length : Int)) = false from decide_eq_false (fun h => he (if_pos h))] at hin
    have HIn : Hid _ := fun (_ : Nat) => hin
    clear hst hin
    generalize ((crE ⟨nV, lgd rs m, s⟩ n : Nat) : Int) = en
    go_wp2_with (go_at_call 10; refine (HIn.out 0).mono ?_; rintro e w5 ⟨rfl, rfl⟩)
    go_ret
    exact ⟨rfl, Below.next HB.out S4.out.old⟩

end Go.Proofs.Ytejganpamidkmaa
