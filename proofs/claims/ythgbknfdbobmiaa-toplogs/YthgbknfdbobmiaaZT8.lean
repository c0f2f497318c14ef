/- This text proves what Write and End of package wal tell, and what the disk is behind them; nothing is turned but the disk's blocks and its log's; the condition is that the disk lies there. -/
import Derived.Test.YthgbknfdbobmiaaZT7
namespace Go.Proofs.Ythgbknfdbobmiaa.Zw
open Go.RowKit Go.Deep Go.Maps

theorem wr_may {L : List Rc} {t b v : Int} (h : mayE L t ≠ 0) : wrE L t b v = mayE L t := if_neg h

theorem wr_bad {L : List Rc} {t b v : Int} (h : mayE L t = 0) (h2 : ¬ (0 ≤ b ∧ b < 8 ∧ 0 ≤ v ∧ v ≤ 1000)) : wrE L t b v = 1 := by
  unfold wrE
  rw [if_pos h, if_neg (fun e => h2 (okB_iff.1 e))]

theorem wr_full {L : List Rc} {t b v : Int} (h : mayE L t = 0) (h2 : 0 ≤ b ∧ b < 8 ∧ 0 ≤ v ∧ v ≤ 1000) (h3 : L.length = 60) : wrE L t b v = 4 := by
  unfold wrE
  rw [if_pos h, if_pos (okB_iff.2 h2), if_pos h3]

theorem wr_good {L : List Rc} {t b v : Int} (h : mayE L t = 0) (h2 : 0 ≤ b ∧ b < 8 ∧ 0 ≤ v ∧ v ≤ 1000) (h3 : L.length ≠ 60) : wrE L t b v = 0 := by
  unfold wrE
  rw [if_pos h, if_pos (okB_iff.2 h2), if_neg h3]

theorem wrD_same {d : Dk} {t b v : Int} (h : wrE d.L t b v ≠ 0) : wrD d t b v = d := by
  unfold wrD wrL
  rw [if_neg h]

theorem wrD_more {d : Dk} {T B V : Nat} (h : wrE d.L (T : Int) (B : Int) (V : Int) = 0) : wrD d (T : Int) (B : Int) (V : Int) = ⟨d.H, d.L ++ [⟨T, B, V, false⟩], d.s⟩ := by
  unfold wrD wrL
  rw [if_pos h, Int.toNat_natCast, Int.toNat_natCast, Int.toNat_natCast]

theorem enD_same {d : Dk} {t : Int} (h : enE d.L t ≠ 0) : enD d t = d := by
  unfold enD enL
  rw [if_neg h]

theorem enD_more {d : Dk} {T : Nat} (h : enE d.L (T : Int) = 0) : enD d (T : Int) = ⟨d.H, d.L ++ [⟨T, 0, 0, true⟩], d.s⟩ := by
  unfold enD enL
  rw [if_pos h, Int.toNat_natCast]

set_option maxHeartbeats 4000000 in
set_option maxRecDepth 100000 in
theorem write_any (w : World) (base g : Nat) (v : Value) (d : Dk) (h : DiskM w base g v d) (t b x : Int) :
    Calls Try.prog 19 #[ptrD g, .agg #[.int .i64 t, .int .i64 b, .int .i64 x]] w fun e w' => e = .returned (errV (wrE d.L t b x)) ∧ ∃ v', Step w w' base g v v' (wrD d t b x) := by
  have hbo := below_one w (.cells #[.int .i64 t, .int .i64 b, .int .i64 x] 46)
  have HB1 : Hid (Below w.heap.size w (w.alloc (.cells #[.int .i64 t, .int .i64 b, .int .i64 x] 46))) := hbo
  have HMy : Hid _ := fun (_ : Nat) => may_any _ base g v d (h.later hbo) t
  have HM : Hid (DiskM w base g v d) := h
  have HP : Hid (∀ w2, Below (w.alloc (.cells #[.int .i64 t, .int .i64 b, .int .i64 x] 46)).heap.size (w.alloc (.cells #[.int .i64 t, .int .i64 b, .int .i64 x] 46)) w2 → w2.cell? ⟨w.heap.size, 0, none⟩ = some (.int .i64 t) ∧ w2.cell? ⟨w.heap.size, 1, none⟩ = some (.int .i64 b) ∧ w2.cell? ⟨w.heap.size, 2, none⟩ = some (.int .i64 x)) := fun w2 hb =>
    ⟨by rw [hb.cell (p := ⟨w.heap.size, 0, none⟩) (by simp)]; exact cell_new _ _ _ _, by rw [hb.cell (p := ⟨w.heap.size, 1, none⟩) (by simp)]; exact cell_new _ _ _ _, by rw [hb.cell (p := ⟨w.heap.size, 2, none⟩) (by simp)]; exact cell_new _ _ _ _⟩
  by_cases hm : mayE d.L t = 0
  · rw [hm, errV_zero] at HMy
    obtain ⟨T, rfl, hT, hn⟩ := mayE_zero hm
    by_cases h1 : b < 0
    · rw [wr_bad hm (by omega), wrD_same (by rw [wr_bad hm (by omega)]; decide)]
      clear h hm hn hbo
      go_enter Try.func19, Try.ntmps19
      go_wp2_with (first
        | (go_at_call 28; refine (HMy.out 0).mono ?_; rintro e w2 ⟨rfl, hb2⟩; obtain ⟨p0, p1, p2⟩ := HP.out w2 hb2; have HB2 : Hid (Below w.heap.size w w2) := Below.next HB1.out hb2; clear hb2))
      go_ret
      exact ⟨rfl, v, Step.none' HM.out HB2.out⟩
    · by_cases h2 : b < 8
      · by_cases h3 : x < 0
        · rw [wr_bad hm (by omega), wrD_same (by rw [wr_bad hm (by omega)]; decide)]
          clear h hm hn hbo
          go_enter Try.func19, Try.ntmps19
          go_wp2_with (first
            | (go_at_call 28; refine (HMy.out 0).mono ?_; rintro e w2 ⟨rfl, hb2⟩; obtain ⟨p0, p1, p2⟩ := HP.out w2 hb2; have HB2 : Hid (Below w.heap.size w w2) := Below.next HB1.out hb2; clear hb2))
          go_ret
          exact ⟨rfl, v, Step.none' HM.out HB2.out⟩
        · by_cases h4 : x ≤ 1000
          · obtain ⟨B, rfl⟩ : ∃ B : Nat, b = (B : Int) := ⟨b.toNat, by omega⟩
            obtain ⟨X, rfl⟩ : ∃ X : Nat, x = (X : Int) := ⟨x.toNat, by omega⟩
            by_cases h5 : d.L.length = 60
            · rw [wr_full hm (by omega) h5, wrD_same (by rw [wr_full hm (by omega) h5]; decide)]
              have HNo : Hid _ := fun (w2 : World) (hb : Below w.heap.size w w2) => note_full w2 base g v d (HM.out.later hb) ⟨T, B, X, false⟩ h5
              clear h hm hn h5 hbo
              go_enter Try.func19, Try.ntmps19
              go_wp2_with (first
                | (go_at_call 28; refine (HMy.out 0).mono ?_; rintro e w2 ⟨rfl, hb2⟩; obtain ⟨p0, p1, p2⟩ := HP.out w2 hb2; have HB2 : Hid (Below w.heap.size w w2) := Below.next HB1.out hb2; clear hb2)
                | (go_at_call 29; refine (HNo.out w2 HB2.out).mono ?_; rintro e w3 ⟨rfl, hb3⟩; have HB3 : Hid (Below w.heap.size w w3) := Below.next HB2.out hb3; clear hb3))
              go_ret
              exact ⟨rfl, v, Step.none' HM.out HB3.out⟩
            · have hz := wr_good hm (show 0 ≤ (B : Int) ∧ (B : Int) < 8 ∧ 0 ≤ (X : Int) ∧ (X : Int) ≤ 1000 by omega) h5
              rw [hz, wrD_more hz]
              have hfi : Fine ⟨d.H, d.L ++ [⟨T, B, X, false⟩], d.s⟩ := fine_snoc h.fine ⟨hT, by show B < 8; omega, by show X ≤ 1000; omega⟩ hn h5
              have HNo : Hid _ := fun (w2 : World) (hb : Below w.heap.size w w2) => note_more w2 base g v d (HM.out.later hb) ⟨T, B, X, false⟩ hfi h5
              clear h hm hn h5 hbo hz hfi
              go_enter Try.func19, Try.ntmps19
              go_wp2_with (first
                | (go_at_call 28; refine (HMy.out 0).mono ?_; rintro e w2 ⟨rfl, hb2⟩; obtain ⟨p0, p1, p2⟩ := HP.out w2 hb2; have HB2 : Hid (Below w.heap.size w w2) := Below.next HB1.out hb2; clear hb2)
                | (go_at_call 29; refine (HNo.out w2 HB2.out).mono ?_; rintro e w3 ⟨rfl, v3, hst⟩; have HST : Hid _ := fun (_ : Nat) => Step.ahead HB2.out hst; clear hst))
              go_ret
              exact ⟨rfl, v3, HST.out 0⟩
          · rw [wr_bad hm (by omega), wrD_same (by rw [wr_bad hm (by omega)]; decide)]
            clear h hm hn hbo
            go_enter Try.func19, Try.ntmps19
            go_wp2_with (first
              | (go_at_call 28; refine (HMy.out 0).mono ?_; rintro e w2 ⟨rfl, hb2⟩; obtain ⟨p0, p1, p2⟩ := HP.out w2 hb2; have HB2 : Hid (Below w.heap.size w w2) := Below.next HB1.out hb2; clear hb2))
            go_ret
            exact ⟨rfl, v, Step.none' HM.out HB2.out⟩
      · rw [wr_bad hm (by omega), wrD_same (by rw [wr_bad hm (by omega)]; decide)]
        clear h hm hn hbo
        go_enter Try.func19, Try.ntmps19
        go_wp2_with (first
          | (go_at_call 28; refine (HMy.out 0).mono ?_; rintro e w2 ⟨rfl, hb2⟩; obtain ⟨p0, p1, p2⟩ := HP.out w2 hb2; have HB2 : Hid (Below w.heap.size w w2) := Below.next HB1.out hb2; clear hb2))
        go_ret
        exact ⟨rfl, v, Step.none' HM.out HB2.out⟩
  · rw [wr_may hm, wrD_same (by rw [wr_may hm]; exact hm)]
    rw [errV_pos hm] at HMy
    rw [errV_pos hm]
    generalize ((mayE d.L t : Nat) : Int) = en at HMy ⊢
    clear h hm hbo
    go_enter Try.func19, Try.ntmps19
    go_wp2_with (first
      | (go_at_call 28; refine (HMy.out 0).mono ?_; rintro e w2 ⟨rfl, hb2⟩; have HB2 : Hid (Below w.heap.size w w2) := Below.next HB1.out hb2; clear hb2))
    go_ret
    exact ⟨rfl, v, Step.none' HM.out HB2.out⟩

set_option maxHeartbeats 4000000 in
set_option maxRecDepth 100000 in
theorem end_any (w : World) (base g : Nat) (v : Value) (d : Dk) (h : DiskM w base g v d) (t : Int) :
    Calls Try.prog 21 #[ptrD g, .int .i64 t] w fun e w' => e = .returned (errV (enE d.L t)) ∧ ∃ v', Step w w' base g v v' (enD d t) := by
  have HMy : Hid _ := fun (_ : Nat) => may_any _ base g v d h t
  have HM : Hid (DiskM w base g v d) := h
  by_cases hm : mayE d.L t = 0
  · rw [hm, errV_zero] at HMy
    obtain ⟨T, rfl, hT, hn⟩ := mayE_zero hm
    by_cases h5 : d.L.length = 60
    · have hz : enE d.L (T : Int) = 4 := by unfold enE; rw [if_pos hm, if_pos h5]
      rw [hz, enD_same (by rw [hz]; decide)]
      have HNo : Hid _ := fun (w2 : World) (hb : Below w.heap.size w w2) => note_full w2 base g v d (HM.out.later hb) ⟨T, 0, 0, true⟩ h5
      clear h hm hn h5 hz
      go_enter Try.func21, Try.ntmps21
      go_wp2_with (first
        | (go_at_call 28; refine (HMy.out 0).mono ?_; rintro e w2 ⟨rfl, hb2⟩; have HB2 : Hid (Below w.heap.size w w2) := hb2; clear hb2)
        | (go_at_call 29; refine (HNo.out w2 HB2.out).mono ?_; rintro e w3 ⟨rfl, hb3⟩; have HB3 : Hid (Below w.heap.size w w3) := Below.next HB2.out hb3; clear hb3))
      go_ret
      exact ⟨rfl, v, Step.none' HM.out HB3.out⟩
    · have hz : enE d.L (T : Int) = 0 := by unfold enE; rw [if_pos hm, if_neg h5]
      rw [hz, enD_more hz]
      have hfi : Fine ⟨d.H, d.L ++ [⟨T, 0, 0, true⟩], d.s⟩ := fine_snoc h.fine ⟨hT, by show 0 < 8; omega, by show 0 ≤ 1000; omega⟩ hn h5
      have HNo : Hid _ := fun (w2 : World) (hb : Below w.heap.size w w2) => note_more w2 base g v d (HM.out.later hb) ⟨T, 0, 0, true⟩ hfi h5
      clear h hm hn h5 hz hfi
      go_enter Try.func21, Try.ntmps21
      go_wp2_with (first
        | (go_at_call 28; refine (HMy.out 0).mono ?_; rintro e w2 ⟨rfl, hb2⟩; have HB2 : Hid (Below w.heap.size w w2) := hb2; clear hb2)
        | (go_at_call 29; refine (HNo.out w2 HB2.out).mono ?_; rintro e w3 ⟨rfl, v3, hst⟩; have HST : Hid _ := fun (_ : Nat) => Step.ahead HB2.out hst; clear hst))
      go_ret
      exact ⟨rfl, v3, HST.out 0⟩
  · have hz : enE d.L t = mayE d.L t := if_neg hm
    rw [enD_same (by rw [hz]; exact hm), hz]
    rw [errV_pos hm] at HMy
    rw [errV_pos hm]
    generalize ((mayE d.L t : Nat) : Int) = en at HMy ⊢
    clear h hm hz
    go_enter Try.func21, Try.ntmps21
    go_wp2_with (first
      | (go_at_call 28; refine (HMy.out 0).mono ?_; rintro e w2 ⟨rfl, hb2⟩; have HB2 : Hid (Below w.heap.size w w2) := hb2; clear hb2))
    go_ret
    exact ⟨rfl, v, Step.none' HM.out HB2.out⟩

end Go.Proofs.Ythgbknfdbobmiaa.Zw
