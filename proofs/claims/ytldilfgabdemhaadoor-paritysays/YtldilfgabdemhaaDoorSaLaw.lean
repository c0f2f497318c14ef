/- This text proves that platterholdlaw1.ParitySays returns true for all rows, each list and each number that lie in memory, and writes into nothing that was there; the conditions are that the slices lie there and that the library's variable errors.errorType holds the handle of the type 'error'. -/
import Derived.Test.YtldilfgabdemhaaDoorUn
import Derived.Test.YtldilfgabdemhaaDoorRp
import Derived.Test.YtldilfgabdemhaaDoorOw
import Derived.Deep.DeepCutAuto
namespace Go.Proofs.YtldilfgabdemhaaDoor
open Go.RowKit Go.Deep

theorem eqB_self (xs : List Int) : eqB xs xs = true := decide_eq_true rfl

theorem take_erase {α : Type} (l : List α) (k i : Nat) (hi : i < l.length) : (l.take (i + 1)).eraseIdx k = if i = k then (l.take i).eraseIdx k else (l.take i).eraseIdx k ++ [l[i]] := by
  rw [List.take_succ_eq_append_getElem hi]
  have hl : (l.take i).length = i := by rw [List.length_take]; omega
  by_cases e : i = k
  · subst e
    have e1 : (l.take i).eraseIdx i = l.take i := List.eraseIdx_of_length_le (by omega)
    have e2 : (l.take i ++ [l[i]]).eraseIdx i = l.take i ++ [l[i]].eraseIdx (i - (l.take i).length) := List.eraseIdx_append_of_length_le (by omega) _
    rw [if_pos rfl, e1, e2, hl, Nat.sub_self]
    simp
  · rw [if_neg e]
    by_cases hlt : k < i
    · rw [List.eraseIdx_append_of_lt_length (by omega)]
    · have e1 : (l.take i).eraseIdx k = l.take i := List.eraseIdx_of_length_le (by omega)
      have e2 : (l.take i ++ [l[i]]).eraseIdx k = l.take i ++ [l[i]].eraseIdx (k - (l.take i).length) := List.eraseIdx_append_of_length_le (by omega) _
      have e3 : [l[i]].eraseIdx (k - (l.take i).length) = [l[i]] := List.eraseIdx_of_length_le (by rw [hl]; simp; omega)
      rw [e2, e1, e3]

/-- The values but one, another one ahead of them. -/
theorem rows_others {w : World} {rs : List (List Int)} {vs : List Value} {v : Value} {x : List Int} {k : Nat} (hl : vs.length = rs.length) (hx : SliceIs w v x) (h : ∀ i (hi : i < vs.length), SliceIs w vs[i] (rowAt rs i)) :
    ∀ i (hi : i < (v :: vs.eraseIdx k).length), SliceIs w (v :: vs.eraseIdx k)[i] (rowAt (others rs x k) i) := by
  intro i hi
  cases i with
  | zero => exact hx
  | succ i =>
    have hi' : i < (vs.eraseIdx k).length := by simpa using hi
    have hi2 : i < (rs.eraseIdx k).length := by rw [List.length_eraseIdx] at hi' ⊢; rw [← hl]; exact hi'
    show SliceIs w (vs.eraseIdx k)[i] (rowAt (rs.eraseIdx k) i)
    rw [rowAt_lt hi2, List.getElem_eraseIdx, List.getElem_eraseIdx]
    rw [List.length_eraseIdx] at hi'
    by_cases e : i < k
    · rw [dif_pos e, dif_pos e]
      have := h i (by split at hi' <;> omega)
      rwa [rowAt_lt (by split at hi' <;> omega)] at this
    · rw [dif_neg e, dif_neg e]
      have := h (i + 1) (by split at hi' <;> omega)
      rwa [rowAt_lt (by split at hi' <;> omega)] at this

set_option maxHeartbeats 4000000 in
set_option maxRecDepth 100000 in
theorem says_walk (w : World) (vr vm vi : Value) (k : Int) (rs : List (List Int)) (xm xi : List Int) (hL : Laid w) (hr : RowsIs w vr rs) (hm : SliceIs w vm xm) (hx : SliceIs w vi xi) :
    Calls Tryd.prog 3 #[vr, vm, .int .i64 k, vi] w fun e w' => e = .returned (.bool true) ∧ Below w.heap.size w w' := by
  obtain ⟨ti, hti, hz0, hz1, hz2⟩ := info_parts Tryd.info23
  obtain ⟨ar, capr, rfl, hlr, hxr⟩ := hr
  have hr : RowsIs w (.slice ar rs.length capr) rs := ⟨ar, capr, rfl, hlr, hxr⟩
  clear hxr
  obtain ⟨am, cm, rfl, hlm, hxm⟩ := hm
  have hm : SliceIs w (.slice am xm.length cm) xm := ⟨am, cm, rfl, hlm, hxm⟩
  clear hxm
  obtain ⟨ai, ci, rfl, hli, hxi⟩ := hx
  have hx : SliceIs w (.slice ai xi.length ci) xi := ⟨ai, ci, rfl, hli, hxi⟩
  clear hxi
  go_enter Tryd.func3, Tryd.ntmps3
  go_wp2_with fail
  refine (rrows_any _ _ _ hr).mono ?_
  rintro e w1 ⟨rfl, q, rfl⟩
  have hb1 := below_drewN w w.heap.size q
  have hr1 := hr.later hb1
  go_wp2_with fail
  refine (check_any _ _ _ hr1).mono ?_
  rintro e w1 ⟨rfl, rfl⟩
  go_wp2_with fail
  refine (error_any _ _ _ (hL.later hb1)).mono ?_
  rintro e w1 ⟨rfl, hb2⟩
  rw [beq_self_eq_true]
  have HB1 : Hid (Below w.heap.size w w1) := hb1.trans (hb2.mono hb1.size)
  clear hb1 hb2 hr1
  go_upto_if 27 with fail
  go_cut [11] (fun s wx => SliceIs wx s (ofV rs) ∧ Below w.heap.size w wx)
  case first =>
    by_cases he : checkE rs = 0
    · have hz : (((checkE rs : Nat) : Int) == 0) = true := by rw [he]; rfl
      have HO : Hid (ofV rs = parity rs) := by show ofV rs = _; rw [ofV, if_pos he]
      have hr1 := hr.later HB1.out
      have HE : Hid (checkE rs = 0) := he
      clear he
      go_wp2_with fail
      refine (rpar_any _ _ _ _ hr1 (checkE_zero.1 HE.out)).mono ?_
      rintro e w2 ⟨v2, rfl, hs2, hb2⟩
      go_wp2_with fail
      go_meet
      case rel => exact ⟨by rw [HO.out]; exact hs2, HB1.out.trans (hb2.mono HB1.out.size)⟩
    · have hz : (((checkE rs : Nat) : Int) == 0) = false := by simp; omega
      have HO : Hid (ofV rs = []) := by show ofV rs = _; rw [ofV, if_neg he]
      clear he
      go_wp2_with fail
      go_meet
      case rel => exact ⟨by rw [HO.out]; exact slice_nil _, HB1.out⟩
  case rest =>
  obtain ⟨hs, hb⟩ := hcut
  have hr1 := hr.later hb
  go_wp2_with fail
  refine (of_any _ _ _ hr1).mono ?_
  rintro e w2 ⟨v2, rfl, hs2, hb2⟩
  have HB2 : Hid (Below w.heap.size w w2) := hb.trans (hb2.mono hb.size)
  have hsB := hs.later hb2
  clear hr1 hs hb hb2
  go_wp2_with fail
  refine (error_any _ _ _ (hL.later HB2.out)).mono ?_
  rintro e w3 ⟨rfl, hb3⟩
  rw [beq_self_eq_true]
  have hs3 := hs2.later hb3
  have hsC := hsB.later hb3
  have HB3 : Hid (Below w.heap.size w w3) := HB2.out.trans (hb3.mono HB2.out.size)
  clear hs2 hsB hb3 HB2
  go_wp2_with fail
  refine (ints_any _ _ _ _ _ hs3 hsC).mono ?_
  rintro e w4 ⟨rfl, q4, rfl⟩
  rw [eqB_self]
  have HB4 : Hid (Below w.heap.size w (w3.drewN q4)) := HB3.out.trans (below_drewN _ _ _)
  clear hs3 hsC HB3 HB1
  go_upto_if 44 with fail
  go_cut [9] (fun s wx => s = .int .i64 (eB rs xm : Int) ∧ Below w.heap.size w wx)
  case first =>
    by_cases he : checkE rs = 0
    · have hz : (((checkE rs : Nat) : Int) == 0) = true := by rw [he]; rfl
      have HO : Hid (eB rs xm = bytesE 16 xm) := by show eB rs xm = _; rw [eB, if_pos he]
      have hm4 := hm.later HB4.out
      clear he
      go_wp2_with fail
      refine (bytes_any _ _ _ _ hm4).mono ?_
      rintro e w5 ⟨rfl, rfl⟩
      go_wp2_with fail
      go_meet
      case rel => exact ⟨by rw [HO.out], HB4.out⟩
    · have hz : (((checkE rs : Nat) : Int) == 0) = false := by simp; omega
      have HO : Hid (eB rs xm = checkE rs) := by show eB rs xm = _; rw [eB, if_neg he]
      clear he
      go_wp2_with fail
      go_meet
      case rel => exact ⟨by rw [HO.out], HB4.out⟩
  case rest =>
  obtain ⟨rfl, hb5⟩ := hcut
  clear HB4
  go_upto_region 10 with fail
  go_cut [57] (fun s wx => s = .bool (cC rs xm) ∧ Below w.heap.size w wx)
  case first =>
    by_cases he : eB rs xm = 0
    · have hz : (((eB rs xm : Nat) : Int) == 0) = true := by rw [he]; rfl
      have hg := checkE_zero.1 (eB_zero he).1
      have h0m : 0 < rs.length := hg.1
      obtain ⟨ar', capr', b, off, vs, hv, _, hvl, ha, hbw, hcs⟩ := (hr.later hb5).parts
      cases hv
      have haa := ha h0m
      subst haa
      have hc0 := (hcs 0 (by rw [hvl]; exact h0m)).1
      obtain ⟨a0, c0, hv0, _, _⟩ := (hcs 0 (by rw [hvl]; exact h0m)).2
      rw [hv0] at hc0
      simp only [Nat.add_zero] at hc0
      have hpos : (0 : Int) < (rs.length : Int) := by omega
      clear hcs hvl ha hbw hv0 hg
      by_cases hl : xm.length = (rowAt rs 0).length
      · have hq : ((xm.length : Int) == ((rowAt rs 0).length : Int)) = true := by rw [hl]; simp
        have HO : Hid (cC rs xm = false) := by show cC rs xm = _; unfold cC; rw [he, hl]; simp
        clear he hl
        go_wp2_with fail
        go_meet
        case rel => exact ⟨by rw [HO.out, bne, hq]; rfl, hb5⟩
      · have hq : ((xm.length : Int) == ((rowAt rs 0).length : Int)) = false := by simp; omega
        have HO : Hid (cC rs xm = true) := by show cC rs xm = _; unfold cC; rw [he, decide_eq_false hl]; rfl
        clear he hl
        go_wp2_with fail
        go_meet
        case rel => exact ⟨by rw [HO.out, bne, hq]; rfl, hb5⟩
    · have hz : (((eB rs xm : Nat) : Int) == 0) = false := by simp; omega
      have HO : Hid (cC rs xm = false) := by show cC rs xm = _; unfold cC; rw [decide_eq_false he]; rfl
      clear he
      go_wp2_with fail
      go_meet
      case rel => exact ⟨by rw [HO.out], hb5⟩
  case rest =>
  obtain ⟨rfl, hb6⟩ := hcut
  clear hb5
  go_upto_if 57 with fail
  go_cut [9] (fun s wx => s = .int .i64 (eC rs xm : Int) ∧ Below w.heap.size w wx)
  case first =>
    cases hc : cC rs xm with
    | true =>
      have HO : Hid (eC rs xm = 3) := by show eC rs xm = _; unfold eC; rw [hc]; rfl
      clear hc
      go_wp2_with fail
      go_meet
      case rel => exact ⟨by rw [HO.out]; rfl, hb6⟩
    | false =>
      have HO : Hid (eC rs xm = eB rs xm) := by show eC rs xm = _; unfold eC; rw [hc]; rfl
      clear hc
      go_wp2_with fail
      go_meet
      case rel => exact ⟨by rw [HO.out], hb6⟩
  case rest =>
  obtain ⟨rfl, hb7⟩ := hcut
  clear hb6
  go_upto_region 12 with fail
  go_cut [67] (fun s wx => s = .bool (cD rs xm k) ∧ Below w.heap.size w wx)
  case first =>
    by_cases he : eC rs xm = 0
    · have hz : (((eC rs xm : Nat) : Int) == 0) = true := by rw [he]; rfl
      have HO : Hid (cD rs xm k = !decide (0 ≤ k ∧ k ≤ (rs.length : Int) - 1)) := by show cD rs xm k = _; unfold cD; rw [he]; rfl
      clear he
      unfold maxLen at hlr
      go_wp2_with fail
      refine (in_any _ _ _ _).mono ?_
      rintro e w8 ⟨rfl, rfl⟩
      cases hd : decide (0 ≤ k ∧ k ≤ (rs.length : Int) - 1) with
      | true =>
        rw [hd] at HO
        clear hd
        go_wp2_with fail
        go_meet
        case rel => exact ⟨by rw [HO.out]; rfl, hb7⟩
      | false =>
        rw [hd] at HO
        clear hd
        go_wp2_with fail
        go_meet
        case rel => exact ⟨by rw [HO.out]; rfl, hb7⟩
    · have hz : (((eC rs xm : Nat) : Int) == 0) = false := by simp; omega
      have HO : Hid (cD rs xm k = false) := by show cD rs xm k = _; unfold cD; rw [decide_eq_false he]; rfl
      clear he
      go_wp2_with fail
      go_meet
      case rel => exact ⟨by rw [HO.out], hb7⟩
  case rest =>
  obtain ⟨rfl, hb8⟩ := hcut
  clear hb7
  go_upto_if 67 with fail
  go_cut [9] (fun s wx => s = .int .i64 (eD rs xm k : Int) ∧ Below w.heap.size w wx)
  case first =>
    cases hc : cD rs xm k with
    | true =>
      have HO : Hid (eD rs xm k = 1) := by show eD rs xm k = _; unfold eD; rw [hc]; rfl
      clear hc
      go_wp2_with fail
      go_meet
      case rel => exact ⟨by rw [HO.out]; rfl, hb8⟩
    | false =>
      have HO : Hid (eD rs xm k = eC rs xm) := by show eD rs xm k = _; unfold eD; rw [hc]; rfl
      clear hc
      go_wp2_with fail
      go_meet
      case rel => exact ⟨by rw [HO.out], hb8⟩
  case rest =>
  obtain ⟨rfl, hb9⟩ := hcut
  clear hb8
  go_upto_if 69 with fail
  go_cut [11] (fun s wx => SliceIs wx s (agV rs xm k) ∧ Below w.heap.size w wx)
  case first =>
    by_cases he : eD rs xm k = 0
    · have hz : (((eD rs xm k : Nat) : Int) == 0) = true := by rw [he]; rfl
      have HO : Hid (agV rs xm k = parity (others rs xm k.toNat)) := by show agV rs xm k = _; rw [agV, if_pos he]
      obtain ⟨hC, hk0, hk1⟩ := eD_zero he
      obtain ⟨hB, hlm0⟩ := eC_zero hC
      obtain ⟨hE, hby⟩ := eB_zero hB
      have hg := checkE_zero.1 hE
      have HG : Hid (GoodRows (rowAt rs 0).length rs) := hg
      have HGM : Hid (Good (rowAt rs 0).length xm) := by
        have hrow := rowE_bytes (rowAt rs 0).length xm
        rw [if_pos hby, if_pos hlm0] at hrow
        exact rowE_zero.1 hrow
      obtain ⟨kn, rfl⟩ := Int.eq_ofNat_of_zero_le hk0
      have hm8 : rs.length ≤ 8 := hg.2.1
      have h0m : 0 < rs.length := hg.1
      have hkm : kn < rs.length := by omega
      obtain ⟨ar', capr', b, off, vs, hv, _, hvl, ha, hbw, hcs⟩ := (hr.later hb9).parts
      cases hv
      have haa := ha h0m
      subst haa
      have HV : Hid (vs.length = rs.length) := hvl
      have HCS : Hid (∀ i (hi : i < vs.length), wc.cell? ⟨b, off + i, none⟩ = some vs[i] ∧ SliceIs wc vs[i] (rowAt rs i)) := hcs
      have hbw := hbw h0m
      have hmc := hm.later hb9
      have HKN : Hid ((kn : Int).toNat = kn) := Int.toNat_natCast kn
      clear he hC hB hlm0 hE hby hg hvl hcs ha hk0 hk1
      have hown0 : (wc.alloc (.cells #[.slice am xm.length cm] 23)).ownsRow wc.heap.size 23 1 (.slice (some ⟨wc.heap.size, 0, none⟩) 1 1) 1 [.slice am xm.length cm] :=
        World.ownsRow_lit wc #[.slice am xm.length cm] 1 (Nat.le_refl _) (by unfold maxLen; omega) rfl
      have HO0 : Hid ((wc.alloc (.cells #[.slice am xm.length cm] 23)).ownsRow wc.heap.size 23 1 (.slice (some ⟨wc.heap.size, 0, none⟩) 1 1) 1 [.slice am xm.length cm]) := hown0
      clear hown0
      rw [hz]
      clear hz
      go_wp2
      go_loopw [15, 16] (fun t i wr => ∃ j : Nat, j ≤ rs.length ∧ i = .int .i64 j ∧ wr.ownsRow wc.heap.size 23 1 t (Value.slice am xm.length cm :: (vs.take j).eraseIdx kn).length (Value.slice am xm.length cm :: (vs.take j).eraseIdx kn) ∧ Below wc.heap.size wc wr) (fun _ i _ => rs.length - (intOf i).toNat)
      case atStart => exact ⟨0, Nat.zero_le _, rfl, by simpa using HO0.out, (Below.refl _ _).alloc (Nat.le_refl _) _⟩
      case round =>
        obtain ⟨j, hj, rfl, hown, hbel⟩ := hrel
        have HOj : Hid (wr.ownsRow wc.heap.size 23 1 u15 (Value.slice am xm.length cm :: (vs.take j).eraseIdx kn).length (Value.slice am xm.length cm :: (vs.take j).eraseIdx kn)) := hown
        have HB : Hid (Below wc.heap.size wc wr) := hbel
        clear hown hbel
        by_cases hlt : j < rs.length
        · by_cases ejk : j = kn
          · have hq : ((j : Int) == (kn : Int)) = true := by simp; omega
            have HT : Hid ((vs.take (j + 1)).eraseIdx kn = (vs.take j).eraseIdx kn) := by
              show (vs.take (j + 1)).eraseIdx kn = _
              rw [take_erase vs kn j (by rw [HV.out]; exact hlt), if_pos ejk]
            clear ejk
            go_wp2
            go_roundw
            case rel => exact ⟨j + 1, by omega, by go_num, by rw [HT.out]; exact HOj.out, HB.out⟩
            case measure => simp [intOf]; omega
          · have hq : ((j : Int) == (kn : Int)) = false := by simp; omega
            obtain ⟨vj, hvj, hcj, hsj⟩ : ∃ vj, vs[j]? = some vj ∧ wc.cell? ⟨b, off + j, none⟩ = some vj ∧ SliceIs wc vj (rowAt rs j) := by
              have hl : j < vs.length := by rw [HV.out]; exact hlt
              exact ⟨vs[j], List.getElem?_eq_getElem hl, (HCS.out j hl).1, (HCS.out j hl).2⟩
            have hcell : wr.cell? ⟨b, off + j, none⟩ = some vj := by rw [HB.out.cell (p := ⟨b, off + j, none⟩) hbw]; exact hcj
            have HT : Hid ((vs.take (j + 1)).eraseIdx kn = (vs.take j).eraseIdx kn ++ [vj]) := by
              show (vs.take (j + 1)).eraseIdx kn = _
              obtain ⟨hl, hvj'⟩ := List.getElem?_eq_some_iff.1 hvj
              rw [take_erase vs kn j hl, if_neg ejk, hvj']
            obtain ⟨aj, cj, hvj2, _, _⟩ := id hsj
            subst hvj2
            have hsz : wc.heap.size ≤ wr.heap.size := HB.out.size
            obtain ⟨nl, hnl⟩ : ∃ nl, nl = (Value.slice am xm.length cm :: (vs.take j).eraseIdx kn).length := ⟨_, rfl⟩
            have HNL : Hid (nl = (Value.slice am xm.length cm :: (vs.take j).eraseIdx kn).length) := hnl
            have hnl8 : nl ≤ 9 := by
              rw [hnl]
              have h1 : ((vs.take j).eraseIdx kn).length ≤ (vs.take j).length := List.length_eraseIdx_le _ _
              have h2 : (vs.take j).length ≤ j := List.length_take_le _ _
              simp only [List.length_cons]
              omega
            have HOn : Hid (wr.ownsRow wc.heap.size 23 1 u15 nl (Value.slice am xm.length cm :: (vs.take j).eraseIdx kn)) := by
              show wr.ownsRow _ _ _ _ nl _
              rw [hnl]; exact HOj.out
            clear hvj hcj ejk hnl
            go_wp2_with (at_builtin; refine wpList_append_own _ rfl (.tmp 81) (.tmp 86) 22 rfl wc.heap.size 23 ti (.slice none 0 0) 1 24 Tryd.underlying22 hti hz0 hz1 hz2 rfl (by decide) u15 nl (Value.slice am xm.length cm :: (vs.take j).eraseIdx kn) rfl (HOn.out.alloc _) ⟨wr.heap.size, 0, none⟩ 1 1 [.slice aj (rowAt rs j).length cj] rfl ?q1 ?q2 ?q3 ?q4 ?q5 ?q6 ?q7)
            case q1 => rfl
            case q2 => exact cell_one_new _ _ _
            case q3 =>
              intro u hu
              rw [List.mem_singleton.1 hu]; rfl
            case q4 => unfold maxLen; omega
            case q5 => omega
            case q6 => simp; omega
            case q7 =>
              intro v3 w3 hown hgr _
              have HO3 : Hid (w3.ownsRow wc.heap.size 23 1 v3 (Value.slice am xm.length cm :: (vs.take (j + 1)).eraseIdx kn).length (Value.slice am xm.length cm :: (vs.take (j + 1)).eraseIdx kn)) := by
                have el : (Value.slice am xm.length cm :: (vs.take (j + 1)).eraseIdx kn).length = nl + 1 := by
                  rw [HT.out, HNL.out]; simp
                show w3.ownsRow _ _ _ _ _ _
                rw [el, HT.out]; exact hown
              have HB3 : Hid (Below wc.heap.size wc w3) := (HB.out.alloc hsz _).grown hgr (by simp; omega) (fun k e => (HOn.out.lt k e).1)
              clear hown hgr
              go_wp2
              go_roundw
              case rel => first | exact ⟨j + 1, by omega, by go_num, HO3.out, HB3.out⟩ | ((repeat apply Exists.intro); exact ⟨⟨j + 1, by omega, by go_num, HO3.out, HB3.out⟩, rfl⟩)
              case measure => simp [intOf]; omega
        · have hjm : j = rs.length := by omega
          have hown := HOj.out
          rw [List.take_of_length_le (by rw [HV.out]; omega)] at hown
          have hlen : (Value.slice am xm.length cm :: vs.eraseIdx kn).length = rs.length := by
            simp only [List.length_cons, List.length_eraseIdx]
            rw [if_pos (by rw [HV.out]; exact hkm), HV.out]
            omega
          rw [hlen] at hown
          obtain ⟨g, cap3, hv3, hg1, hg2⟩ := own_slice hown h0m
          rw [hv3] at hown ⊢
          have hlo : (others rs xm kn).length = rs.length := by
            simp only [others, List.length_cons, List.length_eraseIdx]
            rw [if_pos hkm]
            omega
          have hr3 : RowsIs wr (.slice (some ⟨g, 0, none⟩) rs.length cap3) (others rs xm kn) :=
            rows_own hown hg2 hlr hlen hlo (rows_others HV.out (hmc.later HB.out) (fun i hi => (HCS.out i hi).2.later HB.out))
          have HGO : Hid (GoodRows (rowAt rs 0).length (others rs xm kn)) := others_good HG.out HGM.out hkm
          have hjm' : ¬ (j : Int) < (rs.length : Int) := by omega
          clear hjm hown hlen hv3 hlo
          go_wp2_with fail
          refine (rpar_any _ _ _ _ hr3 HGO.out).mono ?_
          rintro e w7 ⟨v7, rfl, hs7, hb7⟩
          go_wp2_with fail
          go_meet
          case rel => exact ⟨by rw [HO.out, HKN.out]; exact hs7, hb9.trans ((HB.out.trans (hb7.mono HB.out.size)).mono hb9.size)⟩
    · have hz : (((eD rs xm k : Nat) : Int) == 0) = false := by simp; omega
      have HO : Hid (agV rs xm k = []) := by show agV rs xm k = _; rw [agV, if_neg he]
      clear he
      go_wp2_with fail
      go_meet
      case rel => exact ⟨by rw [HO.out]; exact slice_nil _, hb9⟩
  case rest =>
  obtain ⟨hsA, hbA⟩ := hcut
  clear hb9
  go_wp2_with fail
  refine (again_any _ _ _ _ _ _ (hr.later hbA) (hm.later hbA)).mono ?_
  rintro e w2 ⟨v3, rfl, hs2, hb2⟩
  have HB2 : Hid (Below w.heap.size w w2) := hbA.trans (hb2.mono hbA.size)
  have hsB := hsA.later hb2
  clear hsA hbA hb2
  go_wp2_with fail
  refine (error_any _ _ _ (hL.later HB2.out)).mono ?_
  rintro e w3 ⟨rfl, hb3⟩
  rw [beq_self_eq_true]
  have hs3 := hs2.later hb3
  have hsC := hsB.later hb3
  have HB3 : Hid (Below w.heap.size w w3) := HB2.out.trans (hb3.mono HB2.out.size)
  clear hs2 hsB hb3 HB2
  go_wp2_with fail
  refine (ints_any _ _ _ _ _ hs3 hsC).mono ?_
  rintro e w4 ⟨rfl, q4, rfl⟩
  rw [eqB_self]
  have HB4 : Hid (Below w.heap.size w (w3.drewN q4)) := HB3.out.trans (below_drewN _ _ _)
  clear hs3 hsC HB3
  go_upto_if 107 with fail
  go_cut [18] (fun s wx => SliceIs wx s (rowAt rs 0) ∧ Below w.heap.size w wx)
  case first =>
    by_cases h0m : 0 < rs.length
    · obtain ⟨ar', capr', b, off, vs, hv, _, hvl, ha, hbw, hcs⟩ := (hr.later HB4.out).parts
      cases hv
      have haa := ha h0m
      subst haa
      have hc0 := (hcs 0 (by rw [hvl]; exact h0m)).1
      have hs0 := (hcs 0 (by rw [hvl]; exact h0m)).2
      obtain ⟨a0, c0, hv0, _, _⟩ := id hs0
      rw [hv0] at hc0 hs0
      simp only [Nat.add_zero] at hc0
      have hpos : (0 : Int) < (rs.length : Int) := by omega
      clear hcs hvl ha hbw hv0
      go_wp2_with fail
      go_meet
      case rel => exact ⟨hs0, HB4.out⟩
    · have hpos : ¬ (0 : Int) < (rs.length : Int) := by omega
      have HO : Hid (rowAt rs 0 = []) := by
        show rowAt rs 0 = []
        have : rs = [] := List.eq_nil_of_length_eq_zero (by omega)
        rw [this]; rfl
      go_wp2_with fail
      go_meet
      case rel => exact ⟨by rw [HO.out]; exact slice_nil _, HB4.out⟩
  case rest =>
  obtain ⟨hsW, hbW⟩ := hcut
  obtain ⟨w9, h9⟩ : ∃ x, x = wc := ⟨_, rfl⟩
  subst h9
  clear HB4
  obtain ⟨aw, cw, rfl, _, _⟩ := id hsW
  have hr3 := rows_three w9 _ _ _ _ _ _ (hm.later hbW) hsW (hx.later hbW)
  have hb10 : Below w9.heap.size w9 (w9.alloc (.cells #[.slice am xm.length cm, .slice aw (rowAt rs 0).length cw, .slice ai xi.length ci] 23)) := (Below.refl _ _).alloc (Nat.le_refl _) _
  go_wp2_with fail
  refine (rrows_any _ _ _ hr3).mono ?_
  rintro e w1 ⟨rfl, q, rfl⟩
  have hb11 := hb10.trans (below_drewN (w9.alloc (.cells #[.slice am xm.length cm, .slice aw (rowAt rs 0).length cw, .slice ai xi.length ci] 23)) w9.heap.size q)
  have hr11 := hr3.later (below_drewN _ _ q)
  go_upto_if 118 with fail
  go_cut [11] (fun s wx => SliceIs wx s (ofV [xm, rowAt rs 0, xi]) ∧ Below w9.heap.size w9 wx)
  case first =>
    by_cases he : checkE [xm, rowAt rs 0, xi] = 0
    · have hz : (((checkE [xm, rowAt rs 0, xi] : Nat) : Int) == 0) = true := by rw [he]; rfl
      have HO : Hid (ofV [xm, rowAt rs 0, xi] = parity [xm, rowAt rs 0, xi]) := by show ofV _ = _; rw [ofV, if_pos he]
      have HE : Hid (checkE [xm, rowAt rs 0, xi] = 0) := he
      clear he
      go_wp2_with fail
      refine (rpar_any _ _ _ _ hr11 (checkE_zero.1 HE.out)).mono ?_
      rintro e w2 ⟨v2, rfl, hs2, hb2⟩
      go_wp2_with fail
      go_meet
      case rel => exact ⟨by rw [HO.out]; exact hs2, hb11.trans (hb2.mono hb11.size)⟩
    · have hz : (((checkE [xm, rowAt rs 0, xi] : Nat) : Int) == 0) = false := by simp; omega
      have HO : Hid (ofV [xm, rowAt rs 0, xi] = []) := by show ofV _ = _; rw [ofV, if_neg he]
      clear he
      go_wp2_with fail
      go_meet
      case rel => exact ⟨by rw [HO.out]; exact slice_nil _, hb11⟩
  case rest =>
  obtain ⟨hsP, hbP⟩ := hcut
  have HBP : Hid (Below w.heap.size w wc) := hbW.trans (hbP.mono hbW.size)
  have hsW2 := hsW.later hbP
  clear hr3 hb10 hb11 hr11 hsW hbW hbP
  go_wp2_with fail
  refine (small_any _ _ _ _ _ _ _ (hm.later HBP.out) hsW2 (hx.later HBP.out)).mono ?_
  rintro e w2 ⟨v4, rfl, hs2, hb2⟩
  have HB2 : Hid (Below w.heap.size w w2) := HBP.out.trans (hb2.mono HBP.out.size)
  have hsB := hsP.later hb2
  clear hsP hb2 hsW2
  go_wp2_with fail
  refine (error_any _ _ _ (hL.later HB2.out)).mono ?_
  rintro e w3 ⟨rfl, hb3⟩
  rw [beq_self_eq_true]
  have hs3 := hs2.later hb3
  have hsC := hsB.later hb3
  have HB3 : Hid (Below w.heap.size w w3) := HB2.out.trans (hb3.mono HB2.out.size)
  clear hs2 hsB hb3 HB2
  go_wp2_with fail
  refine (ints_any _ _ _ _ _ hs3 hsC).mono ?_
  rintro e w4 ⟨rfl, q4, rfl⟩
  rw [eqB_self]
  go_wp2
  go_ret
  exact ⟨rfl, HB3.out.trans (below_drewN _ _ _)⟩

end Go.Proofs.YtldilfgabdemhaaDoor
