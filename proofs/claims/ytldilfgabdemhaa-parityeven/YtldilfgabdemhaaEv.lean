/- This text proves that platterholdlaw1.ParityEven returns true for all rows that lie in memory, and writes into nothing that was there; the only condition is that the slices lie there. -/
import Derived.Test.YtldilfgabdemhaaSm
import Derived.Test.YtldilfgabdemhaaMb
namespace Go.Proofs.Ytldilfgabdemhaa
open Go.RowKit Go.Deep

/-- The values' list turned round. -/
theorem rows_reverse {w : World} {rs : List (List Int)} {vs : List Value} (hl : vs.length = rs.length) (h : ∀ i (hi : i < vs.length), SliceIs w vs[i] (rowAt rs i)) :
    ∀ i (hi : i < vs.reverse.length), SliceIs w vs.reverse[i] (rowAt rs.reverse i) := by
  intro i hi
  have hi' : i < vs.length := by simpa using hi
  rw [List.getElem_reverse, rowAt_lt (by simpa [← hl] using hi'), List.getElem_reverse]
  have := h (vs.length - 1 - i) (by omega)
  rw [rowAt_lt (by omega)] at this
  simpa [hl] using this

theorem take_reverse {vs : List Value} {k : Nat} {v : Value} (hk : k < vs.length) (hv : vs[vs.length - 1 - k]? = some v) : vs.reverse.take k ++ [v] = vs.reverse.take (k + 1) := by
  obtain ⟨h1, rfl⟩ := List.getElem?_eq_some_iff.1 hv
  rw [List.take_succ_eq_append_getElem (by simpa using hk), List.getElem_reverse]

theorem own_later {w w' : World} {base e s n : Nat} {v : Value} {xs : List Value} (h : w.ownsRow base e s v n xs) (hb : Below w.heap.size w w') : w'.ownsRow base e s v n xs :=
  h.kept (row := none) ⟨hb.os, hb.tape, hb.output, hb.size, fun k hk _ => hb.block k hk⟩ (by cases v.ownBlock <;> simp)

theorem rows_snoc {w : World} {rs : List (List Int)} {vs : List Value} {v : Value} {x : List Int} (hl : vs.length = rs.length) (hx : SliceIs w v x) (h : ∀ i (hi : i < vs.length), SliceIs w vs[i] (rowAt rs i)) :
    ∀ i (hi : i < (vs ++ [v]).length), SliceIs w (vs ++ [v])[i] (rowAt (rs ++ [x]) i) := by
  intro i hi
  by_cases e : i < vs.length
  · rw [List.getElem_append_left e, rowAt_lt (by simp; omega), List.getElem_append_left (by omega)]
    have := h i e
    rwa [rowAt_lt (by omega)] at this
  · have e' : i = vs.length := by simp at hi; omega
    subst e'
    rw [rowAt_lt (by simp; omega)]
    simpa [hl] using hx

set_option maxHeartbeats 4000000 in
theorem even_walk (w : World) (vr : Value) (rs : List (List Int)) (hr : RowsIs w vr rs) :
    Calls Try.prog 5 #[vr] w fun e w' => e = .returned (.bool true) ∧ Below w.heap.size w w' := by
  obtain ⟨i, hi, hz0, hz1, hz2⟩ := info_parts Try.info27
  by_cases he : checkE rs = 0
  · have hg := checkE_zero.1 he
    obtain ⟨n, hn⟩ : ∃ n, n = (rowAt rs 0).length := ⟨_, rfl⟩
    rw [← hn] at hg
    clear hn
    obtain ⟨ar, capr, rfl, hlr, hxr⟩ := hr
    have hr : RowsIs w (.slice ar rs.length capr) rs := ⟨ar, capr, rfl, hlr, hxr⟩
    clear hxr
    have hm8 : rs.length ≤ 8 := hg.2.1
    have h0m : 0 < rs.length := hg.1
    obtain ⟨m, hm⟩ : ∃ m, m = rs.length := ⟨_, rfl⟩
    have HM : Hid (m = rs.length) := hm
    have HG : Hid (GoodRows n rs) := hg
    have HE : Hid (checkE rs = 0) := he
    rw [← hm] at hr hm8 h0m ⊢
    clear hm hlr hg he
    go_enter Try.func5, Try.ntmps5
    go_wp2_with fail
    refine (fact_any _).mono ?_
    rintro e w1 ⟨rfl, hb1⟩
    have hr1 := hr.later hb1
    go_wp2_with fail
    refine (of_ok _ _ _ hr1 HE.out).mono ?_
    rintro e w2 ⟨v2, rfl, hs2, hb2⟩
    obtain ⟨a2, c2, rfl, hl2, hi2⟩ := hs2
    have hs2 : SliceIs w2 (.slice a2 (parity rs).length c2) (parity rs) := ⟨a2, c2, rfl, hl2, hi2⟩
    clear hl2 hi2
    have hr2 := hr1.later hb2
    have hbb : Below w.heap.size w w2 := hb1.trans (hb2.mono hb1.size)
    clear hr hr1 hb1 hb2
    obtain ⟨ar', capr', b, off, vs, hv, _, hvl, ha, hbw, hcs⟩ := hr2.parts
    rw [← HM.out] at hv hvl ha hbw
    cases hv
    have haa := ha h0m
    subst haa
    have HV : Hid (vs.length = m) := hvl
    have HCS : Hid (∀ i (hi : i < vs.length), w2.cell? ⟨b, off + i, none⟩ = some vs[i] ∧ SliceIs w2 vs[i] (rowAt rs i)) := hcs
    have hbw := hbw h0m
    clear hvl hcs ha
    go_wp2
    go_loopw [6, 7] (fun t i wr => ∃ j : Nat, j ≤ m ∧ i = .int .i64 ((j : Int) - 1) ∧ wr.ownsRow w2.heap.size 27 1 t (m - j) (vs.reverse.take (m - j)) ∧ Below w2.heap.size w2 wr) (fun _ i _ => (intOf i + 1).toNat)
    case atStart => exact ⟨m, Nat.le_refl _, rfl, by rw [Nat.sub_self]; exact World.ownsRow_nil _ _ _ _, Below.refl _ _⟩
    case round =>
      obtain ⟨j, hj, rfl, hown, hbel⟩ := hrel
      have HO : Hid (wr.ownsRow w2.heap.size 27 1 u6 (m - j) (vs.reverse.take (m - j))) := hown
      have HB : Hid (Below w2.heap.size w2 wr) := hbel
      clear hown hbel
      cases j with
      | succ j =>
        rw [show (((j + 1 : Nat) : Int) - 1) = (j : Int) from by omega]
        have hjm : j < m := by omega
        obtain ⟨vj, hvj, hcj, hsj⟩ : ∃ vj, vs[j]? = some vj ∧ w2.cell? ⟨b, off + j, none⟩ = some vj ∧ SliceIs w2 vj (rowAt rs j) := by
          have hl : j < vs.length := by rw [HV.out]; exact hjm
          exact ⟨vs[j], List.getElem?_eq_getElem hl, (HCS.out j hl).1, (HCS.out j hl).2⟩
        have hcell : wr.cell? ⟨b, off + j, none⟩ = some vj := by rw [HB.out.cell (p := ⟨b, off + j, none⟩) hbw]; exact hcj
        have HT : Hid (vs.reverse.take (m - (j + 1)) ++ [vj] = vs.reverse.take (m - j)) := by
          have hh := take_reverse (vs := vs) (k := m - (j + 1)) (v := vj) (by rw [HV.out]; omega) (by rw [HV.out, show m - 1 - (m - (j + 1)) = j by omega]; exact hvj)
          rw [show m - (j + 1) + 1 = m - j by omega] at hh
          exact hh
        obtain ⟨aj, cj, hvj2, _, _⟩ := id hsj
        subst hvj2
        have hsz : w2.heap.size ≤ wr.heap.size := HB.out.size
        clear hvj hcj
        go_wp2_with (at_builtin; refine wpList_append_own _ rfl (.tmp 30) (.tmp 35) 26 rfl w2.heap.size 27 i (.slice none 0 0) 1 24 Try.underlying26 hi hz0 hz1 hz2 rfl (by decide) u6 (m - (j + 1)) (vs.reverse.take (m - (j + 1))) rfl (HO.out.alloc _) ⟨wr.heap.size, 0, none⟩ 1 1 [.slice aj (rowAt rs j).length cj] rfl ?q1 ?q2 ?q3 ?q4 ?q5 ?q6 ?q7)
        case q1 => rfl
        case q2 => exact cell_one_new _ _ _
        case q3 =>
          intro u hu
          rw [List.mem_singleton.1 hu]; rfl
        case q4 => unfold maxLen; omega
        case q5 => omega
        case q6 => simp; omega
        case q7 =>
          intro v3 w3 hown hgr _
          rw [HT.out, show m - (j + 1) + 1 = m - j by omega] at hown
          have HO3 : Hid (w3.ownsRow w2.heap.size 27 1 v3 (m - j) (vs.reverse.take (m - j))) := hown
          have HB3 : Hid (Below w2.heap.size w2 w3) := (HB.out.alloc hsz _).grown hgr (by simp; omega) (fun k e => (HO.out.lt k e).1)
          clear hown hgr
          go_wp2
          go_roundw
          case rel => exact ⟨j, by omega, by go_num, HO3.out, HB3.out⟩
          case measure => simp [intOf]
      | zero =>
        have hown := HO.out
        rw [Nat.sub_zero, List.take_of_length_le (by rw [List.length_reverse, HV.out]; omega)] at hown
        obtain ⟨g, cap3, hv3, hg1, hg2⟩ := own_slice hown h0m
        subst hv3
        have HO3 : Hid (wr.ownsRow w2.heap.size 27 1 (.slice (some ⟨g, 0, none⟩) m cap3) m vs.reverse) := hown
        clear hown HO
        have hr3 : RowsIs wr (.slice (some ⟨g, 0, none⟩) m cap3) rs.reverse :=
          rows_own HO3.out hg2 (by unfold maxLen; omega) (by simpa using HV.out) (by simpa using HM.out.symm) (rows_reverse (by rw [HV.out, HM.out]) (fun i hi => (HCS.out i hi).2.later HB.out))
        have hs3 := hs2.later HB.out
        have HE3 : Hid (checkE rs.reverse = 0) := checkE_of (reverse_good HG.out)
        have HEQ : Hid (eqB (parity rs.reverse) (parity rs) = true) := by
          show eqB _ _ = true
          rw [parity_reverse HG.out]
          exact decide_eq_true rfl
        go_wp2_with fail
        refine (of_ok _ _ _ hr3 HE3.out).mono ?_
        rintro e w4 ⟨v4, rfl, hs4, hb4⟩
        have hs34 := hs3.later hb4
        go_wp2_with fail
        refine (ints_any _ _ _ _ _ hs4 hs34).mono ?_
        rintro e w5 ⟨rfl, q, rfl⟩
        rw [HEQ.out]
        by_cases h8 : m = 8
        · have h8' : ((m : Int) == 8) = true := by simp; omega
          clear h8
          go_wp2
          go_ret
          exact ⟨rfl, (hbb.trans ((HB.out.trans (hb4.mono HB.out.size)).mono hbb.size)).trans (below_drewN _ _ _)⟩
        · have h8' : ((m : Int) == 8) = false := by simp; omega
          have H8 : Hid (¬ m = 8) := h8
          clear h8
          have HO4 : Hid ((w4.drewN q).ownsRow w2.heap.size 27 1 (.slice (some ⟨g, 0, none⟩) m cap3) m vs.reverse) := own_later HO3.out (hb4.trans (below_drewN _ _ _))
          have hz4 : w2.heap.size ≤ w4.heap.size := Nat.le_trans HB.out.size hb4.size
          go_wp2_with (at_builtin; refine wpList_append_own _ rfl (.tmp 54) (.tmp 56) 26 rfl w2.heap.size 27 i (.slice none 0 0) 1 24 Try.underlying26 hi hz0 hz1 hz2 rfl (by decide) (.slice (some ⟨g, 0, none⟩) m cap3) m vs.reverse rfl (HO4.out.alloc _) ⟨w4.heap.size, 0, none⟩ 1 1 [.slice a2 (parity rs).length c2] rfl ?q1 ?q2 ?q3 ?q4 ?q5 ?q6 ?q7)
          case q1 => rfl
          case q2 => exact cell_one_new _ _ _
          case q3 =>
            intro u hu
            rw [List.mem_singleton.1 hu]; rfl
          case q4 => unfold maxLen; omega
          case q5 => omega
          case q6 => simp; omega
          case q7 =>
            intro v6 w6 hown hgr _
            obtain ⟨g6, cap6, hv6, hg61, hg62⟩ := own_slice hown (by omega)
            have HB6 : Hid (Below w2.heap.size w2 w6) := ((((HB.out.trans (hb4.mono HB.out.size)).trans (below_drewN _ _ _)).alloc (by simpa using hz4) _).grown hgr (by simp; omega) (fun k e => by cases e; exact hg1))
            rw [hv6] at hown ⊢
            clear hv6
            have hr6 : RowsIs w6 (.slice (some ⟨g6, 0, none⟩) (m + 1) cap6) (rs.reverse ++ [parity rs]) :=
              rows_own hown hg62 (by unfold maxLen; omega) (by simpa using HV.out) (by simpa using HM.out.symm)
                (rows_snoc (by simpa using (HV.out.trans HM.out)) (hs2.later HB6.out) (rows_reverse (by rw [HV.out, HM.out]) (fun i hi => (HCS.out i hi).2.later HB6.out)))
            have hg6 : GoodRows n (rs.reverse ++ [parity rs]) := snoc_good (reverse_good HG.out) (parity_good HG.out) (by rw [List.length_reverse, ← HM.out]; exact H8.out)
            have HE6 : Hid (checkE (rs.reverse ++ [parity rs]) = 0) := checkE_of hg6
            have HZ6 : Hid (∀ i, i < n → nth (parity (rs.reverse ++ [parity rs])) i = 0) := fun i hi => even_zero HG.out (by rw [← HM.out]; exact H8.out) hi
            have HL6 : Hid ((parity (rs.reverse ++ [parity rs])).length = n) := by show List.length _ = n; rw [parity_length, good_len hg6]
            have HLP : Hid ((parity rs).length = n) := (parity_good HG.out).2.1
            clear hown hgr hg6
            go_wp2_with fail
            refine (of_ok _ _ _ hr6 HE6.out).mono ?_
            rintro e w7 ⟨v7, rfl, hs7, hb7⟩
            obtain ⟨a7, c7, b7, o7, rfl, hl7, ha7, _, hc7⟩ := hs7.parts
            have hq : (((parity (rs.reverse ++ [parity rs])).length : Int) == ((parity rs).length : Int)) = true := by rw [HL6.out, HLP.out]; simp
            have HC7 : Hid (∀ i, i < n → w7.cell? ⟨b7, o7 + i, none⟩ = some (.int .i64 0)) := fun i hi => by rw [hc7 i (by rw [HL6.out]; exact hi), HZ6.out i hi]
            rw [HL6.out] at ha7 hl7 hq ⊢
            have hn63 : n ≤ maxLen := hl7
            unfold maxLen at hn63
            clear hc7 hs7 hl7
            have HF : Hid (Below w.heap.size w w7) := (hbb.trans (HB6.out.mono hbb.size)).trans (hb7.mono (Nat.le_trans hbb.size HB6.out.size))
            clear hr6 hb7 hs3 hr3 hr2 hs2 hs4 hs34
            go_wp2
            go_loop [9] (fun i => ∃ k : Nat, k ≤ n ∧ i = .int .i64 k) (fun i => n - (intOf i).toNat)
            case atStart => exact ⟨0, Nat.zero_le _, rfl⟩
            case round =>
              obtain ⟨k, hk, rfl⟩ := hrel
              by_cases hlt : k < n
              · have haa := ha7 (by omega)
                subst haa
                have hc := HC7.out k hlt
                go_wp2
                go_round
                case rel => exact ⟨k + 1, by omega, by go_num⟩
                case measure => simp [intOf]; omega
              · go_wp2
                go_ret
                exact ⟨rfl, HF.out⟩
  · go_enter Try.func5, Try.ntmps5
    go_wp2_with fail
    refine (fact_any _).mono ?_
    rintro e w1 ⟨rfl, hb1⟩
    have hr1 := hr.later hb1
    go_wp2_with fail
    refine (of_err _ _ _ hr1 he).mono ?_
    rintro e w2 ⟨rfl, rfl⟩
    go_wp2
    go_ret
    exact ⟨rfl, hb1⟩

end Go.Proofs.Ytldilfgabdemhaa
