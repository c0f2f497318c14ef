/- This text proves that platterholdlaw1.ParityAgain returns true for all rows, each number and each list that lie in memory, and writes into nothing that was there; the conditions are that the slices lie there and that the library's variable errors.errorType holds the handle of the type 'error'. -/
import Derived.Test.YtldilfgabdemhaaDoorAg
import Derived.Test.YtldilfgabdemhaaDoorOw
import Derived.Test.YtldilfgabdemhaaDoorRf
import Derived.Test.YtldilfgabdemhaaDoorFa
namespace Go.Proofs.YtldilfgabdemhaaDoor
open Go.RowKit Go.Deep

theorem left_erase (i : Nat) : ∀ (rs : List (List Int)) (k : Nat), k < rs.length → left i rs = bx (nth (rowAt rs k) i) (left i (rs.eraseIdx k))
  | [], k, h => by simp at h
  | r :: rs, 0, _ => rfl
  | r :: rs, k + 1, h => by
    have ih := left_erase i rs k (by simpa using h)
    show bx (nth r i) (left i rs) = bx (nth (rowAt rs k) i) (bx (nth r i) (left i (rs.eraseIdx k)))
    rw [ih, ← bx_assoc, bx_comm (nth r i), bx_assoc]

theorem again_is {n k : Nat} {rs : List (List Int)} (hg : GoodRows n rs) (hk : k < rs.length) : parity (others rs (parity rs) k) = rowAt rs k := by
  have hp := parity_good hg
  have ho := others_good hg hp hk
  have gk := hg.2.2 k hk
  have l1 : (parity (others rs (parity rs) k)).length = n := by rw [parity_length, good_len ho]
  refine List.ext_getElem (by rw [l1, gk.2.1]) fun i h1 h2 => ?_
  have hi : i < n := by rw [l1] at h1; exact h1
  rw [← nth_lt h1, ← nth_lt h2, nth_par ho hi]
  show bx (nth (parity rs) i) (left i (rs.eraseIdx k)) = _
  rw [nth_par hg hi, left_erase i rs k hk, bx_assoc, bx_self, bx_zero (good_nth gk hi)]

theorem others_set (rs : List (List Int)) (more x : List Int) (k : Nat) : others (rs.set k x) more k = others rs more k := by
  unfold others
  rw [List.eraseIdx_set_eq]

theorem bytes_good {n : Nat} {xs : List Int} (hl : xs.length = n) (h : bytesE 16 xs = 0) : Good n xs := by
  have := rowE_bytes n xs
  rw [if_pos h, if_pos hl] at this
  exact rowE_zero.1 this

set_option maxHeartbeats 4000000 in
theorem again_walk (w : World) (vr vj : Value) (k : Int) (rs : List (List Int)) (xj : List Int) (hL : Laid w) (hr : RowsIs w vr rs) (hx : SliceIs w vj xj) :
    Calls Tryd.prog 4 #[vr, .int .i64 k, vj] w fun e w' => e = .returned (.bool true) ∧ Below w.heap.size w w' := by
  obtain ⟨i, hi, hz0, hz1, hz2⟩ := info_parts Tryd.info23
  obtain ⟨aj, cj, rfl, hlj, hxj⟩ := hx
  have hx : SliceIs w (.slice aj xj.length cj) xj := ⟨aj, cj, rfl, hlj, hxj⟩
  clear hlj hxj
  by_cases he : checkE rs = 0
  · have hg := checkE_zero.1 he
    obtain ⟨n, hn⟩ : ∃ n, n = (rowAt rs 0).length := ⟨_, rfl⟩
    rw [← hn] at hg
    clear hn
    obtain ⟨ar, capr, rfl, hlr, hxr⟩ := hr
    have hr : RowsIs w (.slice ar rs.length capr) rs := ⟨ar, capr, rfl, hlr, hxr⟩
    clear hxr
    have hm8 : rs.length ≤ 8 := hg.2.1
    have h0m : 0 < rs.length := hg.1
    obtain ⟨m, hm⟩ : ∃ m, m = rs.length := ⟨_, rfl⟩
    have HM : Hid (m = rs.length) := hm
    have HG : Hid (GoodRows n rs) := hg
    have HE : Hid (checkE rs = 0) := he
    have HP : Hid (Good n (parity rs)) := parity_good hg
    rw [← hm] at hr hm8 h0m ⊢
    clear hm hlr hg he
    by_cases hk : 0 ≤ k ∧ k ≤ (m : Int) - 1
    · obtain ⟨kn, rfl⟩ := Int.eq_ofNat_of_zero_le hk.1
      have hkm : kn < m := by omega
      go_enter Tryd.func4, Tryd.ntmps4
      go_wp2_with fail
      refine (fact_any _).mono ?_
      rintro e w1 ⟨rfl, hb1⟩
      have hr1 := hr.later hb1
      go_wp2_with fail
      refine (of_ok _ _ _ hr1 HE.out).mono ?_
      rintro e w2 ⟨v2, rfl, hs2, hb2⟩
      obtain ⟨a2, c2, rfl, hl2, hi2⟩ := hs2
      have hs2 : SliceIs w2 (.slice a2 (parity rs).length c2) (parity rs) := ⟨a2, c2, rfl, hl2, hi2⟩
      clear hl2 hi2
      have hr2 := hr1.later hb2
      have hx2 := (hx.later hb1).later hb2
      have hbb : Below w.heap.size w w2 := hb1.trans (hb2.mono hb1.size)
      clear hr hx hr1 hb1 hb2
      go_wp2_with fail
      refine (in_any _ _ _ _).mono ?_
      rintro e w3 ⟨rfl, rfl⟩
      rw [decide_eq_true hk]
      obtain ⟨ar', capr', b, off, vs, hv, _, hvl, ha, hbw, hcs⟩ := hr2.parts
      rw [← HM.out] at hv hvl ha hbw
      cases hv
      have haa := ha h0m
      subst haa
      clear ha
      have HV : Hid (vs.length = m) := hvl
      have HCS : Hid (∀ i (hi : i < vs.length), w2.cell? ⟨b, off + i, none⟩ = some vs[i] ∧ SliceIs w2 vs[i] (rowAt rs i)) := hcs
      have hbw := hbw h0m
      have hkm' : (kn : Int) < (m : Int) := by omega
      have HK : Hid (kn < rs.length) := by rw [← HM.out]; exact hkm
      clear hvl hcs hk
      go_wp2_with (at_builtin; refine wpList_append_own _ rfl (.tmp 42) (.tmp 43) 22 rfl w2.heap.size 23 i (.slice none 0 0) 1 24 Tryd.underlying22 hi hz0 hz1 hz2 rfl (by decide) (.slice none 0 0) 0 [] rfl (World.ownsRow_nil _ _ _ _) ⟨b, off, none⟩ m capr vs rfl ?q1 ?q2 ?q3 ?q4 ?q5 ?q6 ?q7)
      case q1 => rw [HV.out]; omega
      case q2 =>
        intro j u hu
        obtain ⟨hj, rfl⟩ := List.getElem?_eq_some_iff.1 hu
        rw [Go.WideShapes.add_plain]
        exact (HCS.out j hj).1
      case q3 =>
        intro u hu
        obtain ⟨j, hj, rfl⟩ := List.getElem_of_mem hu
        exact (HCS.out j hj).2.one
      case q4 => unfold maxLen; omega
      case q5 => omega
      case q6 => exact Nat.le_refl _
      case q7 =>
        intro v3 w3 hown hgr _
        obtain ⟨g, cap3, hv3, hg1, hg2⟩ := own_slice hown h0m
        rw [hv3]
        rw [hv3] at hown
        clear hv3
        have HB3 : Hid (Below w2.heap.size w2 w3) := (Below.refl _ _).grown hgr (Nat.le_refl _) (fun k e => by cases e)
        have HO : Hid (w3.ownsRow w2.heap.size 23 1 (.slice (some ⟨g, 0, none⟩) m cap3) m vs) := hown
        have hck : w3.cell? ⟨g, kn, none⟩ = vs[kn]? := hown.cellAt kn (by omega)
        obtain ⟨vk, hvk, hcellk, hslk⟩ : ∃ vk, vs[kn]? = some vk ∧ w2.cell? ⟨b, off + kn, none⟩ = some vk ∧ SliceIs w2 vk (rowAt rs kn) := by
          have hl : kn < vs.length := by rw [HV.out]; exact hkm
          exact ⟨vs[kn], List.getElem?_eq_getElem hl, (HCS.out kn hl).1, (HCS.out kn hl).2⟩
        rw [hvk] at hck
        obtain ⟨ak, ck, hvk2, _, _⟩ := id hslk
        subst hvk2
        clear hvk
        have hfk : w3.frozen? ⟨g, kn, none⟩ = false := hown.frozenAt kn
        have HR3 : Hid (RowsIs w3 (.slice (some ⟨g, 0, none⟩) m cap3) rs) :=
          rows_own hown hg2 (by unfold maxLen; omega) HV.out HM.out.symm (fun i hi => (HCS.out i hi).2.later HB3.out)
        have HEQ : Hid (eqB (parity (others rs (parity rs) kn)) (rowAt rs kn) = true) := by
          show eqB _ _ = true
          rw [again_is HG.out HK.out]
          exact decide_eq_true rfl
        clear hgr hown
        have hx3 := hx2.later HB3.out
        by_cases hj : ((xj.length : Int) == ((parity rs).length : Int)) = true
        · have HLJ : Hid (xj.length = n) := by show xj.length = n; have h1 := HP.out.2.1; have := beq_iff_eq.1 hj; omega
          by_cases hbe : bytesE 16 xj = 0
          · have HGX : Hid (Good n xj) := bytes_good HLJ.out hbe
            have HBE : Hid (((bytesE 16 xj : Nat) : Int) = 0) := by show ((bytesE 16 xj : Nat) : Int) = 0; rw [hbe]; rfl
            clear hbe
            have hst := HO.out.stored kn (.slice aj xj.length cj)
            have HW4 : Hid (Below w2.heap.size w2 (w3.setCell ⟨g, kn, none⟩ (.slice aj xj.length cj))) := HB3.out.setCell hg1 _
            have hr4 : RowsIs (w3.setCell ⟨g, kn, none⟩ (.slice aj xj.length cj)) (.slice (some ⟨g, 0, none⟩) m cap3) (rs.set kn xj) :=
              rows_own hst.1 (by simpa [World.setCell] using hg2) (by unfold maxLen; omega) (by simpa using HV.out) (by simpa using HM.out.symm)
                (rows_set HK.out (hx2.later HW4.out) (fun i hi => (HCS.out i hi).2.later HW4.out))
            have hs4 := hs2.later HW4.out
            have hk4 := hslk.later HW4.out
            have hrow4 : (w3.setCell ⟨g, kn, none⟩ (.slice aj xj.length cj)).cell? ⟨b, off + kn, none⟩ = some (.slice ak (rowAt rs kn).length ck) := by
              rw [HW4.out.cell (p := ⟨b, off + kn, none⟩) hbw]; exact hcellk
            obtain ⟨w4, hw4⟩ : ∃ w4, w4 = w3.setCell ⟨g, kn, none⟩ (.slice aj xj.length cj) := ⟨_, rfl⟩
            go_wp2_with fail
            refine (bytes_any _ _ _ _ hx3).mono ?_
            rintro e w5 ⟨rfl, rfl⟩
            rw [HBE.out]
            go_wp2_with fail
            rw [← hw4] at HW4 hr4 hs4 hk4 hrow4 ⊢
            have hbw4 : b < w4.heap.size := Nat.lt_of_lt_of_le hbw HW4.out.size
            have hkm4 : kn < (rs.set kn xj).length := by rw [List.length_set]; exact HK.out
            have HW4' : Hid (Below w.heap.size w w4) := hbb.trans (HW4.out.mono hbb.size)
            clear hw4 hst hck hfk HB3 HO hx2 hs2 hr2 hcellk hslk hx3
            refine (again_ok _ _ _ n kn _ _ hr4 hs4 (set_good HK.out HG.out HGX.out) HP.out hkm4).mono ?_
            rintro e w5 ⟨v5, rfl, hs5, hb5⟩
            rw [others_set] at hs5
            have hrow5 : w5.cell? ⟨b, off + kn, none⟩ = some (.slice ak (rowAt rs kn).length ck) := by
              rw [hb5.cell (p := ⟨b, off + kn, none⟩) hbw4]; exact hrow4
            have hk5 := hk4.later hb5
            have HB5 : Hid (Below w.heap.size w w5) := HW4'.out.trans (hb5.mono HW4'.out.size)
            clear hrow4 hr4 hs4 hk4 hkm4
            go_wp2_with fail
            refine (ints_any _ _ _ _ _ hs5 hk5).mono ?_
            rintro e w6 ⟨rfl, q, rfl⟩
            rw [HEQ.out]
            go_wp2
            go_ret
            exact ⟨rfl, HB5.out.trans (below_drewN _ _ _)⟩
          · have hbe' : (((bytesE 16 xj : Nat) : Int) == 0) = false := by simp; omega
            clear hbe
            have hs3 := hs2.later HB3.out
            have hk3 := hslk.later HB3.out
            have hrow3 : w3.cell? ⟨b, off + kn, none⟩ = some (.slice ak (rowAt rs kn).length ck) := by
              rw [HB3.out.cell (p := ⟨b, off + kn, none⟩) hbw]; exact hcellk
            have hbw3 : b < w3.heap.size := Nat.lt_of_lt_of_le hbw HB3.out.size
            have HW3' : Hid (Below w.heap.size w w3) := hbb.trans (HB3.out.mono hbb.size)
            clear hck hfk hx2 hs2 hr2 hcellk hslk
            go_wp2_with fail
            refine (bytes_any _ _ _ _ hx3).mono ?_
            rintro e w5 ⟨rfl, rfl⟩
            go_wp2_with fail
            refine (again_ok _ _ _ n kn _ _ HR3.out hs3 HG.out HP.out HK.out).mono ?_
            rintro e w5 ⟨v5, rfl, hs5, hb5⟩
            have hrow5 : w5.cell? ⟨b, off + kn, none⟩ = some (.slice ak (rowAt rs kn).length ck) := by
              rw [hb5.cell (p := ⟨b, off + kn, none⟩) hbw3]; exact hrow3
            have hk5 := hk3.later hb5
            have HB5 : Hid (Below w.heap.size w w5) := HW3'.out.trans (hb5.mono HW3'.out.size)
            clear hrow3 hs3 hk3
            go_wp2_with fail
            refine (ints_any _ _ _ _ _ hs5 hk5).mono ?_
            rintro e w6 ⟨rfl, q, rfl⟩
            rw [HEQ.out]
            go_wp2
            go_ret
            exact ⟨rfl, HB5.out.trans (below_drewN _ _ _)⟩
        · have hj' : ((xj.length : Int) == ((parity rs).length : Int)) = false := by simpa using hj
          clear hj
          have hs3 := hs2.later HB3.out
          have hk3 := hslk.later HB3.out
          have hrow3 : w3.cell? ⟨b, off + kn, none⟩ = some (.slice ak (rowAt rs kn).length ck) := by
            rw [HB3.out.cell (p := ⟨b, off + kn, none⟩) hbw]; exact hcellk
          have hbw3 : b < w3.heap.size := Nat.lt_of_lt_of_le hbw HB3.out.size
          have HW3' : Hid (Below w.heap.size w w3) := hbb.trans (HB3.out.mono hbb.size)
          clear hck hfk hx2 hs2 hr2 hcellk hslk
          go_wp2_with fail
          refine (again_ok _ _ _ n kn _ _ HR3.out hs3 HG.out HP.out HK.out).mono ?_
          rintro e w5 ⟨v5, rfl, hs5, hb5⟩
          have hrow5 : w5.cell? ⟨b, off + kn, none⟩ = some (.slice ak (rowAt rs kn).length ck) := by
            rw [hb5.cell (p := ⟨b, off + kn, none⟩) hbw3]; exact hrow3
          have hk5 := hk3.later hb5
          have HB5 : Hid (Below w.heap.size w w5) := HW3'.out.trans (hb5.mono HW3'.out.size)
          clear hrow3 hs3 hk3
          go_wp2_with fail
          refine (ints_any _ _ _ _ _ hs5 hk5).mono ?_
          rintro e w6 ⟨rfl, q, rfl⟩
          rw [HEQ.out]
          go_wp2
          go_ret
          exact ⟨rfl, HB5.out.trans (below_drewN _ _ _)⟩
    · go_enter Tryd.func4, Tryd.ntmps4
      go_wp2_with fail
      refine (fact_any _).mono ?_
      rintro e w1 ⟨rfl, hb1⟩
      have hr1 := hr.later hb1
      go_wp2_with fail
      refine (of_ok _ _ _ hr1 HE.out).mono ?_
      rintro e w2 ⟨v2, rfl, hs2, hb2⟩
      have hr2 := hr1.later hb2
      have hL2 := (hL.later hb1).later hb2
      have HB2 : Hid (Below w.heap.size w w2) := hb1.trans (hb2.mono hb1.size)
      go_wp2_with fail
      refine (in_any _ _ _ _).mono ?_
      rintro e w3 ⟨rfl, rfl⟩
      rw [decide_eq_false hk]
      go_wp2_with fail
      refine (again_err2 _ _ _ _ n _ _ hr2 hs2 HG.out (Or.inr (by rw [← HM.out]; omega))).mono ?_
      rintro e w3 ⟨rfl, rfl⟩
      rw [if_pos (rowE_zero.2 HP.out)]
      go_wp2_with fail
      refine (error_any 1 _ _ hL2).mono ?_
      rintro e w3 ⟨rfl, hb3⟩
      go_wp2
      go_ret
      exact ⟨rfl, HB2.out.trans (hb3.mono HB2.out.size)⟩
  · go_enter Tryd.func4, Tryd.ntmps4
    go_wp2_with fail
    refine (fact_any _).mono ?_
    rintro e w1 ⟨rfl, hb1⟩
    have hr1 := hr.later hb1
    go_wp2_with fail
    refine (of_err _ _ _ hr1 he).mono ?_
    rintro e w2 ⟨rfl, rfl⟩
    go_wp2
    go_ret
    exact ⟨rfl, hb1⟩

end Go.Proofs.YtldilfgabdemhaaDoor
