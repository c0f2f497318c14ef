/- This text proves that platterholdlaw2.UndoAlone returns true: two turns do not write one block till the one has ended; old memory is as it was; the conditions: the steps' rows lie there, and the library's variable errors.errorType holds what the program's own text lays. -/
import Derived.Test.YtkpfieemkjfjkaaDoorW12
import Derived.Deep.RegionWith
namespace Go.Proofs.YtkpfieemkjfjkaaDoor
open Go.RowKit Go.Deep

/-- What a write, and others behind it, tell. -/
theorem al_own {d : Ud} {a b v : Int} (h : wrE d.L a b v = 0) : ownI (wrD d a b v).L b = a := by
  obtain ⟨T, B, V, rfl, rfl, rfl, _, _, _, ho, _⟩ := wr_nat h
  rw [wrD_yes h, ownI_nat]
  simp only [Int.toNat_natCast]
  rw [own_snoc]
  rcases ho with e | e
  · rw [if_pos e, if_pos rfl]
  · rw [if_neg (by omega), e]
theorem al_len {d : Ud} {t b v : Int} : (wrD d t b v).L.length ≤ d.L.length + 1 := by
  by_cases e : wrE d.L t b v = 0
  · rw [wrD_yes e]; simp
  · rw [wrD_no e]; omega
theorem al_same {d : Ud} {a b v : Int} (h : wrE d.L a b v = 0) (hl : d.L.length ≤ 40) : wrE (wrD d a b v).L a b v = 0 := by
  have h1 := al_own h
  obtain ⟨T, B, V, rfl, rfl, rfl, _, _, _, _, _⟩ := wr_nat h
  refine wrE_nul (wrE_zero h).1 (.inr ?_) ?_
  · rw [Int.toNat_natCast, ← ownI_nat]; exact h1
  · have := @al_len d (T : Int) (B : Int) (V : Int); omega
theorem al_out {L : List Nt} {t b v : Int} (h : ¬ (0 ≤ t ∧ t ≤ 19)) : wrE L t b v = 1 := if_neg fun k => h (by have := (okP_iff.1 k).1; omega)
theorem al_clash {d : Ud} {a b v c : Int} (h : wrE d.L a b v = 0) (hc : 0 ≤ c ∧ c ≤ 19) (hne : a ≠ c) : wrE (wrD d a b v).L c b v = 6 := by
  have h1 := al_own h
  obtain ⟨T, B, V, rfl, rfl, rfl, _, _, _, _, _⟩ := wr_nat h
  rw [ownI_nat] at h1
  have hk := okP_iff.1 (wrE_zero h).1
  unfold wrE
  rw [if_pos (okP_iff.2 (by omega)), if_pos (by rw [Int.toNat_natCast, h1]; omega)]
theorem al_free {d : Ud} (hg : GoodU d) {a b v c : Int} (h : wrE d.L a b v = 0) (hc : 0 ≤ c ∧ c ≤ 19) (hl : d.L.length ≤ 40) : wrE (enD (wrD d a b v) a).L c b v = 0 := by
  have h1 := al_own h
  obtain ⟨T, B, V, rfl, rfl, rfl, _, _, _, _, _⟩ := wr_nat h
  rw [ownI_nat] at h1
  have hk := okP_iff.1 (wrE_zero h).1
  refine wrE_nul (okP_iff.2 (by omega)) (.inl ?_) ?_
  · rw [Int.toNat_natCast]
    show own (cut (T : Int) _) B = -1
    rw [own_cut (good_wr hg _ _ _).sole, if_pos h1]
  · have := @al_len d (T : Int) (B : Int) (V : Int)
    have : (cut (T : Int) (wrD d (T : Int) (B : Int) (V : Int)).L).length ≤ (wrD d (T : Int) (B : Int) (V : Int)).L.length := List.length_filter_le _ _
    show (cut (T : Int) (wrD d (T : Int) (B : Int) (V : Int)).L).length ≠ 60
    omega
theorem al_end {d : Ud} {a b v : Int} (h : wrE d.L a b v = 0) : enE a = 0 := by
  obtain ⟨T, B, V, rfl, rfl, rfl, _, _, _, _, _⟩ := wr_nat h
  exact if_pos (by omega)

set_option maxHeartbeats 1000000 in
set_option maxRecDepth 100000 in
theorem undoAlone_any (w : World) (v : Value) (rs : List (List Int)) (hr : RowsIs w v rs) (a b x y : Int) (hL : Laid w) :
    Calls Tryd.prog 3 #[v, .int .i64 a, .int .i64 b, .int .i64 x, .int .i64 y] w fun e w' => e = .returned (.bool true) ∧ Below w.heap.size w w' := by
  have HR : Hid (RowsIs w v rs) := hr
  have HL : Hid (Laid w) := hL
  obtain ⟨ad, c, hv, hl, _⟩ := hr
  obtain ⟨n, hn⟩ : ∃ n, n = rs.length := ⟨_, rfl⟩
  rw [← hn] at hv hl
  have HN : Hid (n = rs.length) := hn
  unfold maxLen at hl
  subst hv
  clear hn hL
  go_enter Tryd.func3, Tryd.ntmps3
  go_wp2_with fail
  refine (fact_any w).mono ?_
  rintro e w0 ⟨rfl, hb⟩
  have HB0 : Hid (Below w.heap.size w w0) := hb
  have HR0 : Hid (RowsIs w0 (.slice ad n c) rs) := HR.out.later hb
  have HL0 : Hid (Laid w0) := HL.out.later hb
  clear hb HR HL
  go_wp2_with fail
  refine (new_any _).mono ?_
  rintro e w1 ⟨rfl, hT, hb⟩
  have HS1 : Hid (OnU w0 w1 w0.heap.size (.slice none 0 0) ud0) := ⟨hT, hb⟩
  clear hT hb
  unfold ptrU
  obtain ⟨g, hG⟩ : ∃ g, g = w0.heap.size := ⟨_, rfl⟩
  rw [← hG] at HS1 ⊢
  clear hG
  go_wp2
  go_loopw [13] (fun i wr => ∃ k v d, k ≤ n ∧ k ≤ 40 ∧ i = .int .i64 ((k : Nat) : Int) ∧ OnU w0 wr g v d ∧ d.L.length ≤ k) (fun i _ => 40 - (Go.RowKit.intOf i).toNat)
  case atStart => exact ⟨0, _, _, Nat.zero_le _, by omega, rfl, HS1.out, Nat.le_refl _⟩
  case round =>
    obtain ⟨k, v, d, hkn, hk, rfl, hst, hln⟩ := hrel
    have ST : Hid (OnU w0 wr g v d) := hst
    have LN : Hid (d.L.length ≤ k) := hln
    clear hst HS1 hln
    by_cases hlt : k < n
    · have hl1 : (k : Int) < (n : Int) := by omega
      by_cases hs : k < 40
      · have hs1 : (k : Int) < 40 := by omega
        obtain ⟨bb, o, vk, ha, hbs, hck, hsk⟩ := HR0.out.row k hlt
        subst ha
        have hc0 : wr.cell? ⟨bb, o + k, none⟩ = some vk := by rw [ST.out.old.cell (p := ⟨bb, o + k, none⟩) hbs]; exact hck
        clear hck
        obtain ⟨q, hq⟩ : ∃ q, (rowAt rs k).length = q := ⟨_, rfl⟩
        by_cases h3 : q = 3
        · subst h3
          obtain ⟨b1, o1, c1, rfl, hb1, hx⟩ := row_cells hsk hq (by omega)
          have HXs : Hid (∀ w2, Below w0.heap.size w0 w2 → w2.cell? ⟨b1, o1, none⟩ = some (.int .i64 (nth (rowAt rs k) 0)) ∧ w2.cell? ⟨b1, o1 + 1, none⟩ = some (.int .i64 (nth (rowAt rs k) 1)) ∧ w2.cell? ⟨b1, o1 + 2, none⟩ = some (.int .i64 (nth (rowAt rs k) 2))) := fun w2 h =>
            ⟨by rw [h.cell (p := ⟨b1, o1, none⟩) hb1]; exact hx 0 (by omega), by rw [h.cell (p := ⟨b1, o1 + 1, none⟩) hb1]; exact hx 1 (by omega), by rw [h.cell (p := ⟨b1, o1 + 2, none⟩) hb1]; exact hx 2 (by omega)⟩
          generalize nth (rowAt rs k) 0 = X0 at HXs
          generalize nth (rowAt rs k) 1 = X1 at HXs
          generalize nth (rowAt rs k) 2 = X2 at HXs
          clear hx hsk hq
          have STd : Hid (OnU w0 wr.drew g v d) := ST.out.later (below_drew1 _ _)
          have HWr : Hid _ := fun (_ : Nat) => write_any wr.drew w0.heap.size g v _ STd.out.disk X0 X1 X2
          unfold ptrU at HWr
          obtain ⟨x0, x1, x2⟩ := HXs.out wr ST.out.old
          go_wp2_with fail
          go_region_held3 (fun w' => w'.cell? ⟨b1, o1, none⟩ = some (.int .i64 X0) ∧ w'.cell? ⟨b1, o1 + 1, none⟩ = some (.int .i64 X1) ∧ w'.cell? ⟨b1, o1 + 2, none⟩ = some (.int .i64 X2))
            (first | (go_split_ands; exact HXs.out _ S2.out.old) | go_keep)
            (first | (go_at_call 7; refine (HWr.out 0).mono ?_; rintro e w2 ⟨rfl, v2, hst2⟩; have S2 : Hid (OnU w0 w2 g v2 (wrD d X0 X1 X2)) := STd.out.step hst2; clear hst2))
          have LN2 : Hid ((wrD d X0 X1 X2).L.length ≤ k + 1) := Nat.le_trans al_len (Nat.succ_le_succ LN.out)
          clear x0 x1 x2
          go_wp2
          go_roundw
          case rel => exact ⟨k + 1, v2, _, by omega, by omega, by go_num, S2.out, LN2.out⟩
          case measure => simp [Go.RowKit.intOf]; omega
        · obtain ⟨a1, c1, hv1, _, _⟩ := hsk
          rw [hq] at hv1
          subst hv1
          have b3 : ((q : Int) == 3) = false := by simp; omega
          clear hq
          go_wp2
          go_roundw
          case rel => exact ⟨k + 1, v, d, by omega, by omega, by go_num, ST.out, Nat.le_succ_of_le LN.out⟩
          case measure => simp [Go.RowKit.intOf]; omega
      · have hs1 : ¬ (k : Int) < 40 := by omega
        have LN4 : Hid (d.L.length ≤ 40) := Nat.le_trans LN.out (by omega)
        have HWa : Hid _ := fun (_ : Nat) => write_any wr w0.heap.size g v d ST.out.disk a x y
        unfold ptrU at HWa
        by_cases e0 : wrE d.L a x y = 0
        · rw [e0, errV_zero] at HWa
          have E0 : Hid (wrE d.L a x y = 0) := e0
          clear e0
          go_wp2_with fail
          refine (HWa.out 0).mono ?_
          rintro e w2 ⟨rfl, v2, hst⟩
          have S2 : Hid (OnU w0 w2 g v2 (wrD d a x y)) := ST.out.step hst
          clear hst HWa
          have HBu : Hid _ := fun (_ : Nat) => busy_any w2 w0.heap.size g v2 _ S2.out.disk x
          rw [al_own E0.out] at HBu
          unfold ptrU at HBu
          go_wp2_with fail
          refine (HBu.out 0).mono ?_
          rintro e w3 ⟨rfl, hb⟩
          have S3 : Hid (OnU w0 w3 g v2 (wrD d a x y)) := S2.out.later hb
          clear hb HBu
          have HWb : Hid _ := fun (_ : Nat) => write_any w3 w0.heap.size g v2 _ S3.out.disk b x y
          unfold ptrU at HWb
          by_cases hab : a = b
          · rw [← hab, al_same E0.out LN4.out, errV_zero] at HWb
            subst hab
            go_wp2_with fail
            refine (HWb.out 0).mono ?_
            rintro e w4 ⟨rfl, v4, hst⟩
            have S4 : Hid (OnU w0 w4 g v4 _) := S3.out.step hst
            clear hst HWb
            go_wp2
            go_ret
            exact ⟨rfl, Below.next HB0.out S4.out.old⟩
          · have habf : (a == b) = false := by simp; exact hab
            by_cases hbr : 0 ≤ b ∧ b ≤ 19
            · rw [al_clash E0.out hbr hab] at HWb
              have HIn : Hid _ := fun (W : World) => in_yes b 0 19 W hbr
              have HEr : Hid _ := fun (W : World) (h : Below w0.heap.size w0 W) => error_any 6 6 W (HL0.out.later h)
              rw [show (((6 : Nat) : Int) == (6 : Int)) = true from rfl] at HEr
              have HNe : Hid (wrD (wrD d a x y) b x y = wrD d a x y) := wrD_no (by rw [al_clash E0.out hbr hab]; decide)
              have HFr : Hid _ := al_free ST.out.disk.good E0.out hbr LN4.out
              have HOw : Hid (ownI (wrD (enD (wrD d a x y) a) b x y).L x = b) := al_own HFr.out
              clear hab hbr
              rw [HNe.out] at HWb
              generalize errV 6 = EV at HWb HEr
              go_wp2_with fail
              refine (HWb.out 0).mono ?_
              rintro e w4 ⟨rfl, v4, hst⟩
              have S4 : Hid (OnU w0 w4 g v4 (wrD d a x y)) := S3.out.step hst
              clear hst HWb
              go_wp2_with fail
              refine (HIn.out w4).mono ?_
              rintro e w5 ⟨rfl, rfl⟩
              go_wp2_with fail
              refine (HEr.out w4 S4.out.old).mono ?_
              rintro e w5 ⟨rfl, hb⟩
              have S5 : Hid (OnU w0 w5 g v4 (wrD d a x y)) := S4.out.later hb
              clear hb HEr
              have HEn : Hid _ := fun (_ : Nat) => end_any w5 w0.heap.size g v4 _ S5.out.disk a
              rw [al_end E0.out, errV_zero] at HEn
              unfold ptrU at HEn
              go_wp2_with fail
              refine (HEn.out 0).mono ?_
              rintro e w6 ⟨rfl, v6, hst⟩
              have S6 : Hid (OnU w0 w6 g v6 (enD (wrD d a x y) a)) := S5.out.step hst
              clear hst HEn
              have HWc : Hid _ := fun (_ : Nat) => write_any w6 w0.heap.size g v6 _ S6.out.disk b x y
              rw [HFr.out, errV_zero] at HWc
              unfold ptrU at HWc
              go_wp2_with fail
              refine (HWc.out 0).mono ?_
              rintro e w7 ⟨rfl, v7, hst⟩
              have S7 : Hid (OnU w0 w7 g v7 (wrD (enD (wrD d a x y) a) b x y)) := S6.out.step hst
              clear hst HWc
              have HBc : Hid _ := fun (_ : Nat) => busy_any w7 w0.heap.size g v7 _ S7.out.disk x
              rw [HOw.out] at HBc
              unfold ptrU at HBc
              go_wp2_with fail
              refine (HBc.out 0).mono ?_
              rintro e w8 ⟨rfl, hb⟩
              have S8 : Hid (OnU w0 w8 g v7 (wrD (enD (wrD d a x y) a) b x y)) := S7.out.later hb
              clear hb HBc
              go_wp2
              go_ret
              exact ⟨rfl, Below.next HB0.out S8.out.old⟩
            · rw [al_out hbr] at HWb
              have HIn : Hid _ := fun (W : World) => in_no b 0 19 W hbr
              have HEr : Hid _ := fun (W : World) (h : Below w0.heap.size w0 W) => error_any 1 1 W (HL0.out.later h)
              rw [show (((1 : Nat) : Int) == (1 : Int)) = true from rfl] at HEr
              clear hab hbr
              generalize errV 1 = EV at HWb HEr
              go_wp2_with fail
              refine (HWb.out 0).mono ?_
              rintro e w4 ⟨rfl, v4, hst⟩
              have S4 : Hid (OnU w0 w4 g v4 _) := S3.out.step hst
              clear hst HWb
              go_wp2_with fail
              refine (HIn.out w4).mono ?_
              rintro e w5 ⟨rfl, rfl⟩
              go_wp2_with fail
              refine (HEr.out w4 S4.out.old).mono ?_
              rintro e w5 ⟨rfl, hb⟩
              have S5 : Hid (OnU w0 w5 g v4 _) := S4.out.later hb
              clear hb HEr
              go_wp2
              go_ret
              exact ⟨rfl, Below.next HB0.out S5.out.old⟩
        · rw [errV_pos e0, wrD_no e0] at HWa
          clear e0
          generalize ((wrE d.L a x y : Nat) : Int) = en at HWa
          go_wp2_with fail
          refine (HWa.out 0).mono ?_
          rintro e w2 ⟨rfl, v2, hst⟩
          have S2 : Hid (OnU w0 w2 g v2 d) := ST.out.step hst
          clear hst HWa
          go_wp2
          go_ret
          exact ⟨rfl, Below.next HB0.out S2.out.old⟩
    · have hl1 : ¬ (k : Int) < (n : Int) := by omega
      have LN4 : Hid (d.L.length ≤ 40) := Nat.le_trans LN.out (by omega)
      have HWa : Hid _ := fun (_ : Nat) => write_any wr w0.heap.size g v d ST.out.disk a x y
      unfold ptrU at HWa
      by_cases e0 : wrE d.L a x y = 0
      · rw [e0, errV_zero] at HWa
        have E0 : Hid (wrE d.L a x y = 0) := e0
        clear e0
        go_wp2_with fail
        refine (HWa.out 0).mono ?_
        rintro e w2 ⟨rfl, v2, hst⟩
        have S2 : Hid (OnU w0 w2 g v2 (wrD d a x y)) := ST.out.step hst
        clear hst HWa
        have HBu : Hid _ := fun (_ : Nat) => busy_any w2 w0.heap.size g v2 _ S2.out.disk x
        rw [al_own E0.out] at HBu
        unfold ptrU at HBu
        go_wp2_with fail
        refine (HBu.out 0).mono ?_
        rintro e w3 ⟨rfl, hb⟩
        have S3 : Hid (OnU w0 w3 g v2 (wrD d a x y)) := S2.out.later hb
        clear hb HBu
        have HWb : Hid _ := fun (_ : Nat) => write_any w3 w0.heap.size g v2 _ S3.out.disk b x y
        unfold ptrU at HWb
        by_cases hab : a = b
        · rw [← hab, al_same E0.out LN4.out, errV_zero] at HWb
          subst hab
          go_wp2_with fail
          refine (HWb.out 0).mono ?_
          rintro e w4 ⟨rfl, v4, hst⟩
          have S4 : Hid (OnU w0 w4 g v4 _) := S3.out.step hst
          clear hst HWb
          go_wp2
          go_ret
          exact ⟨rfl, Below.next HB0.out S4.out.old⟩
        · have habf : (a == b) = false := by simp; exact hab
          by_cases hbr : 0 ≤ b ∧ b ≤ 19
          · rw [al_clash E0.out hbr hab] at HWb
            have HIn : Hid _ := fun (W : World) => in_yes b 0 19 W hbr
            have HEr : Hid _ := fun (W : World) (h : Below w0.heap.size w0 W) => error_any 6 6 W (HL0.out.later h)
            rw [show (((6 : Nat) : Int) == (6 : Int)) = true from rfl] at HEr
            have HNe : Hid (wrD (wrD d a x y) b x y = wrD d a x y) := wrD_no (by rw [al_clash E0.out hbr hab]; decide)
            have HFr : Hid _ := al_free ST.out.disk.good E0.out hbr LN4.out
            have HOw : Hid (ownI (wrD (enD (wrD d a x y) a) b x y).L x = b) := al_own HFr.out
            clear hab hbr
            rw [HNe.out] at HWb
            generalize errV 6 = EV at HWb HEr
            go_wp2_with fail
            refine (HWb.out 0).mono ?_
            rintro e w4 ⟨rfl, v4, hst⟩
            have S4 : Hid (OnU w0 w4 g v4 (wrD d a x y)) := S3.out.step hst
            clear hst HWb
            go_wp2_with fail
            refine (HIn.out w4).mono ?_
            rintro e w5 ⟨rfl, rfl⟩
            go_wp2_with fail
            refine (HEr.out w4 S4.out.old).mono ?_
            rintro e w5 ⟨rfl, hb⟩
            have S5 : Hid (OnU w0 w5 g v4 (wrD d a x y)) := S4.out.later hb
            clear hb HEr
            have HEn : Hid _ := fun (_ : Nat) => end_any w5 w0.heap.size g v4 _ S5.out.disk a
            rw [al_end E0.out, errV_zero] at HEn
            unfold ptrU at HEn
            go_wp2_with fail
            refine (HEn.out 0).mono ?_
            rintro e w6 ⟨rfl, v6, hst⟩
            have S6 : Hid (OnU w0 w6 g v6 (enD (wrD d a x y) a)) := S5.out.step hst
            clear hst HEn
            have HWc : Hid _ := fun (_ : Nat) => write_any w6 w0.heap.size g v6 _ S6.out.disk b x y
            rw [HFr.out, errV_zero] at HWc
            unfold ptrU at HWc
            go_wp2_with fail
            refine (HWc.out 0).mono ?_
            rintro e w7 ⟨rfl, v7, hst⟩
            have S7 : Hid (OnU w0 w7 g v7 (wrD (enD (wrD d a x y) a) b x y)) := S6.out.step hst
            clear hst HWc
            have HBc : Hid _ := fun (_ : Nat) => busy_any w7 w0.heap.size g v7 _ S7.out.disk x
            rw [HOw.out] at HBc
            unfold ptrU at HBc
            go_wp2_with fail
            refine (HBc.out 0).mono ?_
            rintro e w8 ⟨rfl, hb⟩
            have S8 : Hid (OnU w0 w8 g v7 (wrD (enD (wrD d a x y) a) b x y)) := S7.out.later hb
            clear hb HBc
            go_wp2
            go_ret
            exact ⟨rfl, Below.next HB0.out S8.out.old⟩
          · rw [al_out hbr] at HWb
            have HIn : Hid _ := fun (W : World) => in_no b 0 19 W hbr
            have HEr : Hid _ := fun (W : World) (h : Below w0.heap.size w0 W) => error_any 1 1 W (HL0.out.later h)
            rw [show (((1 : Nat) : Int) == (1 : Int)) = true from rfl] at HEr
            clear hab hbr
            generalize errV 1 = EV at HWb HEr
            go_wp2_with fail
            refine (HWb.out 0).mono ?_
            rintro e w4 ⟨rfl, v4, hst⟩
            have S4 : Hid (OnU w0 w4 g v4 _) := S3.out.step hst
            clear hst HWb
            go_wp2_with fail
            refine (HIn.out w4).mono ?_
            rintro e w5 ⟨rfl, rfl⟩
            go_wp2_with fail
            refine (HEr.out w4 S4.out.old).mono ?_
            rintro e w5 ⟨rfl, hb⟩
            have S5 : Hid (OnU w0 w5 g v4 _) := S4.out.later hb
            clear hb HEr
            go_wp2
            go_ret
            exact ⟨rfl, Below.next HB0.out S5.out.old⟩
      · rw [errV_pos e0, wrD_no e0] at HWa
        clear e0
        generalize ((wrE d.L a x y : Nat) : Int) = en at HWa
        go_wp2_with fail
        refine (HWa.out 0).mono ?_
        rintro e w2 ⟨rfl, v2, hst⟩
        have S2 : Hid (OnU w0 w2 g v2 d) := ST.out.step hst
        clear hst HWa
        go_wp2
        go_ret
        exact ⟨rfl, Below.next HB0.out S2.out.old⟩

end Go.Proofs.YtkpfieemkjfjkaaDoor
