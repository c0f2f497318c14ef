/- This text proves what the law PathSays answers: true, for any two texts; old memory is as it was; the conditions are that the texts are not too long, that the library's variable internal/bytealg.MaxLen holds some number, and that errors.errorType holds what is laid. -/
import Derived.Test.YtdfobojkmilcbaaDoorR2
import Derived.Test.YtdfobojkmilcbaaDoorQ8
namespace Go.Proofs.YtdfobojkmilcbaaDoor
open Go.RowKit Go.Deep Go.Shelf

theorem rparts_any (w : World) (s : ByteArray) (hs : s.size ≤ maxLen) :
    Calls Tryd.prog 7 #[.string s] w fun e w' => ∃ v, e = .returned (.tuple #[v, .int .i64 (pE s.data.toList : Int)]) ∧ StrsIs w' v (nms s.data.toList) ∧ Below w.heap.size w w' := by
  unfold maxLen at hs
  have hsz : s.size = s.data.toList.length := Lib.size_eq s
  by_cases h1 : 60 < s.size
  · have he := pE_long (l := s.data.toList) (by omega)
    rw [nms_none (by rw [he]; decide), he]
    clear he hsz
    go_enter Tryd.func7, Tryd.ntmps7
    go_wp2
    go_ret2
    exact ⟨_, rfl, strs_nil _ _ _, Below.refl _ _⟩
  · by_cases h0 : 0 < s.size
    · cases hp : ((s[0].toNat : Int) == 47) with
      | true => exact rparts_loop w s (by omega) h0 hp
      | false =>
        have he := pE_bare (l := s.data.toList) (by omega) (by rw [pre_get s h0]; exact hp)
        rw [nms_none (by rw [he]; decide), he]
        have hz : ((s.size : Int) == 0) = false := by rw [beq_eq_false_iff_ne]; omega
        have hp2 : ((s[0].toNat : Int) != 47) = true := by rw [bne, hp]; rfl
        have hne : ¬ s = ByteArray.empty := fun e => by rw [e] at h0; simp at h0
        clear hp he hsz
        go_enter Tryd.func7, Tryd.ntmps7
        go_wp2
        go_ret2
        exact ⟨_, rfl, strs_nil _ _ _, Below.refl _ _⟩
    · have hsn : s = ⟨#[]⟩ := by
        rw [← bs_data s, show s.data.toList = [] from List.length_eq_zero_iff.1 (by omega)]; rfl
      subst hsn
      go_enter Tryd.func7, Tryd.ntmps7
      go_wp2
      go_ret2
      exact ⟨_, rfl, strs_nil _ _ _, Below.refl _ _⟩

theorem wid_nms (l : List UInt8) : wid (nms l) ≤ 1000000 := by
  by_cases h : pE l = 0
  · rw [nms_pN h]
    have h60 := (pE_ok h).1
    have h2 := (clean_again h).2.2
    have := shw_len (pN l)
    split at this
    · rename_i h0; rw [h0]; simp [wid]
    · omega
  · rw [nms_none h]; simp [wid]
theorem cln_nms {l : List UInt8} (h : pE l = 0) : cln l = shw (nms l) := by rw [cln_some h, nms_pN h]

set_option maxRecDepth 100000 in
set_option maxHeartbeats 4000000 in
theorem says_0 (w : World) (a b : ByteArray) (ha : a.size ≤ 140737488355328) (hb : b.size ≤ 140737488355328) (hM : Mx w) (hL : Laid w)
    (h1 : pE a.data.toList = 0) (h2 : [47].isPrefixOf b.data.toList = true) (h3 : pE (joi a.data.toList b.data.toList) = 0) :
    Calls Tryd.prog 3 #[.string a, .string b] w fun e w' => e = .returned (.bool true) ∧ Below w.heap.size w w' := by
  have hsa : a.size ≤ maxLen := by unfold maxLen; omega
  have HR1 : Hid _ := fun (w : World) => rparts_any w a hsa
  have HP : Hid _ := fun (w : World) (hm : Mx w) => parts_any w a hsa hm
  have HN1 : Hid _ := fun (w : World) => name_any w a hsa
  have HN2 : Hid _ := fun (w : World) => rname_any w a hsa
  have HC : Hid _ := fun (w : World) (hm : Mx w) => clean_any w a hsa hm
  have HJ : Hid _ := fun (w : World) (hm : Mx w) => join_path w a b (by omega) (by omega) hm
  have HE1 : Hid _ := fun (w : World) (hl : Laid w) => error_any (pE a.data.toList) ((pE a.data.toList : Nat) : Int) w hl
  have HE2 : Hid _ := fun (w : World) (hl : Laid w) => error_any (pE (joi a.data.toList b.data.toList)) ((pE (joi a.data.toList b.data.toList) : Nat) : Int) w hl
  rw [show (((pE a.data.toList : Nat) : Int) == ((pE a.data.toList : Nat) : Int)) = true from by simp] at HE1
  rw [show (((pE (joi a.data.toList b.data.toList) : Nat) : Int) == ((pE (joi a.data.toList b.data.toList) : Nat) : Int)) = true from by simp] at HE2
  have HR2 : Hid _ := fun (w : World) => rparts_any w b (by unfold maxLen; omega)
  rw [show b.data.toList = joi a.data.toList b.data.toList from (joi_yes h2).symm] at HR2
  have hb0 : 0 < b.size := by
    obtain ⟨r, hr⟩ := (pre_iff _).1 h2
    rw [Lib.size_eq, hr]; simp
  have hb1 : ((b[0].toNat : Int) == 47) = true := by rw [← pre_get b hb0]; exact h2
  have HS1 : Hid _ := fun (w : World) (v : Value) (hv : StrsIs w v (nms a.data.toList)) => shown_any w v _ hv (wid_nms _)
  rw [← cln_nms h1] at HS1
  have hz1 : (((pE a.data.toList : Nat) : Int) == 0) = true := by rw [h1]; rfl
  have hq1 : ((bs (cln a.data.toList)).toList == (bs (cln a.data.toList)).toList) = true := by simp
  have HS2 : Hid _ := fun (w : World) (v : Value) (hv : StrsIs w v (nms (joi a.data.toList b.data.toList))) => shown_any w v _ hv (wid_nms _)
  rw [← cln_nms h3] at HS2
  have hz2 : (((pE (joi a.data.toList b.data.toList) : Nat) : Int) == 0) = true := by rw [h3]; rfl
  have hq2 : ((bs (cln (joi a.data.toList b.data.toList))).toList == (bs (cln (joi a.data.toList b.data.toList))).toList) = true := by simp
  clear h1 h2 h3
  generalize joi a.data.toList b.data.toList = lj at *
  generalize ((pE a.data.toList : Nat) : Int) = z1 at *
  generalize errV (pE a.data.toList) = y1 at *
  generalize bs (cln a.data.toList) = C1 at *
  generalize nms a.data.toList = ns1 at *
  generalize ((pE lj : Nat) : Int) = z2 at *
  generalize errV (pE lj) = y2 at *
  generalize bs (cln lj) = C2 at *
  generalize nms lj = ns2 at *
  generalize isN a.data.toList = nb at *
  have hnb : (nb == nb) = true := by simp
  have HM : Hid (Mx w) := hM
  have HL : Hid (Laid w) := hL
  clear hM hL hsa
  go_enter Tryd.func3, Tryd.ntmps3
  go_wp2_with fail
  refine (HR1.out w).mono ?_
  rintro e w1 ⟨v1, rfl, hv1, hb1'⟩
  have HM1 : Hid (Mx w1) := HM.out.later hb1'
  have HL1 : Hid (Laid w1) := HL.out.later hb1'
  have HV1 : Hid (StrsIs w1 v1 ns1) := hv1
  have HB1 : Hid (Below w.heap.size w w1) := hb1'
  clear hv1 hb1'
  go_wp2_with fail
  refine (HS1.out w1 v1 HV1.out).mono ?_
  rintro e w' ⟨rfl, rfl⟩
  go_wp2_with fail
  refine (HP.out w1 HM1.out).mono ?_
  rintro e w2 ⟨v2, rfl, hv2, hb2⟩
  have HM2 : Hid (Mx w2) := HM1.out.later hb2
  have HL2 : Hid (Laid w2) := HL1.out.later hb2
  have HV2 : Hid (StrsIs w2 v2 ns1) := hv2
  have HB2 : Hid (Below w.heap.size w w2) := Below.next HB1.out hb2
  have HV12 : Hid (StrsIs w2 v1 ns1) := HV1.out.later (Nat.le_refl _) hb2
  clear hv2 hb2
  go_wp2_with fail
  refine (HN1.out w2).mono ?_
  rintro e w' ⟨rfl, rfl⟩
  go_wp2_with fail
  refine (HN2.out w2).mono ?_
  rintro e w' ⟨rfl, rfl⟩
  go_wp2_with fail
  refine (HE1.out w2 HL2.out).mono ?_
  rintro e w3 ⟨rfl, hbx⟩
  have HM3 : Hid (Mx w3) := HM2.out.later hbx
  have HL3 : Hid (Laid w3) := HL2.out.later hbx
  have HB3 : Hid (Below w.heap.size w w3) := Below.next HB2.out hbx
  have HV3 : Hid (StrsIs w3 v2 ns1) := HV2.out.later (Nat.le_refl _) hbx
  have HV13 : Hid (StrsIs w3 v1 ns1) := HV12.out.later (Nat.le_refl _) hbx
  clear hbx
  go_wp2_with fail
  have HT := texts_any w3 v2 v1 ns1 ns1 HV3.out HV13.out
  rw [eqS_self] at HT
  refine HT.mono ?_
  clear HT
  rintro e w4 ⟨rfl, hbx⟩
  have HM4 : Hid (Mx w4) := HM3.out.later hbx
  have HL4 : Hid (Laid w4) := HL3.out.later hbx
  have HB4 : Hid (Below w.heap.size w w4) := Below.next HB3.out hbx
  clear hbx
  go_wp2_with fail
  refine (HC.out w4 HM4.out).mono ?_
  rintro e w5 ⟨rfl, hbx⟩
  have HM5 : Hid (Mx w5) := HM4.out.later hbx
  have HL5 : Hid (Laid w5) := HL4.out.later hbx
  have HB5 : Hid (Below w.heap.size w w5) := Below.next HB4.out hbx
  clear hbx
  go_wp2_with fail
  refine (HE1.out w5 HL5.out).mono ?_
  rintro e w6 ⟨rfl, hbx⟩
  have HM6 : Hid (Mx w6) := HM5.out.later hbx
  have HL6 : Hid (Laid w6) := HL5.out.later hbx
  have HB6 : Hid (Below w.heap.size w w6) := Below.next HB5.out hbx
  clear hbx
  go_wp2_with fail
  refine (HR2.out w6).mono ?_
  rintro e w7 ⟨v7, rfl, hv7, hbx⟩
  have HM7 : Hid (Mx w7) := HM6.out.later hbx
  have HL7 : Hid (Laid w7) := HL6.out.later hbx
  have HV7 : Hid (StrsIs w7 v7 ns2) := hv7
  have HB7 : Hid (Below w.heap.size w w7) := Below.next HB6.out hbx
  clear hv7 hbx
  go_wp2_with fail
  refine (HS2.out w7 v7 HV7.out).mono ?_
  rintro e w' ⟨rfl, rfl⟩
  go_wp2_with fail
  refine (HJ.out w7 HM7.out).mono ?_
  rintro e w8 ⟨rfl, hbx⟩
  have HL8 : Hid (Laid w8) := HL7.out.later hbx
  have HB8 : Hid (Below w.heap.size w w8) := Below.next HB7.out hbx
  clear hbx
  go_wp2_with fail
  refine (HE2.out w8 HL8.out).mono ?_
  rintro e w9 ⟨rfl, hbx⟩
  have HB9 : Hid (Below w.heap.size w w9) := Below.next HB8.out hbx
  clear hbx
  go_wp2_with fail
  go_ret
  exact ⟨rfl, HB9.out⟩

set_option maxRecDepth 100000 in
set_option maxHeartbeats 4000000 in
theorem says_1 (w : World) (a b : ByteArray) (ha : a.size ≤ 140737488355328) (hb : b.size ≤ 140737488355328) (hM : Mx w) (hL : Laid w)
    (h1 : pE a.data.toList = 0) (h2 : [47].isPrefixOf b.data.toList = true) (h3 : ¬ pE (joi a.data.toList b.data.toList) = 0) :
    Calls Tryd.prog 3 #[.string a, .string b] w fun e w' => e = .returned (.bool true) ∧ Below w.heap.size w w' := by
  have hsa : a.size ≤ maxLen := by unfold maxLen; omega
  have HR1 : Hid _ := fun (w : World) => rparts_any w a hsa
  have HP : Hid _ := fun (w : World) (hm : Mx w) => parts_any w a hsa hm
  have HN1 : Hid _ := fun (w : World) => name_any w a hsa
  have HN2 : Hid _ := fun (w : World) => rname_any w a hsa
  have HC : Hid _ := fun (w : World) (hm : Mx w) => clean_any w a hsa hm
  have HJ : Hid _ := fun (w : World) (hm : Mx w) => join_path w a b (by omega) (by omega) hm
  have HE1 : Hid _ := fun (w : World) (hl : Laid w) => error_any (pE a.data.toList) ((pE a.data.toList : Nat) : Int) w hl
  have HE2 : Hid _ := fun (w : World) (hl : Laid w) => error_any (pE (joi a.data.toList b.data.toList)) ((pE (joi a.data.toList b.data.toList) : Nat) : Int) w hl
  rw [show (((pE a.data.toList : Nat) : Int) == ((pE a.data.toList : Nat) : Int)) = true from by simp] at HE1
  rw [show (((pE (joi a.data.toList b.data.toList) : Nat) : Int) == ((pE (joi a.data.toList b.data.toList) : Nat) : Int)) = true from by simp] at HE2
  have HR2 : Hid _ := fun (w : World) => rparts_any w b (by unfold maxLen; omega)
  rw [show b.data.toList = joi a.data.toList b.data.toList from (joi_yes h2).symm] at HR2
  have hb0 : 0 < b.size := by
    obtain ⟨r, hr⟩ := (pre_iff _).1 h2
    rw [Lib.size_eq, hr]; simp
  have hb1 : ((b[0].toNat : Int) == 47) = true := by rw [← pre_get b hb0]; exact h2
  have HS1 : Hid _ := fun (w : World) (v : Value) (hv : StrsIs w v (nms a.data.toList)) => shown_any w v _ hv (wid_nms _)
  rw [← cln_nms h1] at HS1
  have hz1 : (((pE a.data.toList : Nat) : Int) == 0) = true := by rw [h1]; rfl
  have hq1 : ((bs (cln a.data.toList)).toList == (bs (cln a.data.toList)).toList) = true := by simp
  have hz2 : (((pE (joi a.data.toList b.data.toList) : Nat) : Int) == 0) = false := by rw [beq_eq_false_iff_ne]; omega
  rw [cln_none h3, show bs [] = ⟨#[]⟩ from rfl] at HJ
  clear h1 h2 h3
  generalize joi a.data.toList b.data.toList = lj at *
  generalize ((pE a.data.toList : Nat) : Int) = z1 at *
  generalize errV (pE a.data.toList) = y1 at *
  generalize bs (cln a.data.toList) = C1 at *
  generalize nms a.data.toList = ns1 at *
  generalize ((pE lj : Nat) : Int) = z2 at *
  generalize errV (pE lj) = y2 at *
  generalize nms lj = ns2 at *
  generalize isN a.data.toList = nb at *
  have hnb : (nb == nb) = true := by simp
  have HM : Hid (Mx w) := hM
  have HL : Hid (Laid w) := hL
  clear hM hL hsa
  go_enter Tryd.func3, Tryd.ntmps3
  go_wp2_with fail
  refine (HR1.out w).mono ?_
  rintro e w1 ⟨v1, rfl, hv1, hb1'⟩
  have HM1 : Hid (Mx w1) := HM.out.later hb1'
  have HL1 : Hid (Laid w1) := HL.out.later hb1'
  have HV1 : Hid (StrsIs w1 v1 ns1) := hv1
  have HB1 : Hid (Below w.heap.size w w1) := hb1'
  clear hv1 hb1'
  go_wp2_with fail
  refine (HS1.out w1 v1 HV1.out).mono ?_
  rintro e w' ⟨rfl, rfl⟩
  go_wp2_with fail
  refine (HP.out w1 HM1.out).mono ?_
  rintro e w2 ⟨v2, rfl, hv2, hb2⟩
  have HM2 : Hid (Mx w2) := HM1.out.later hb2
  have HL2 : Hid (Laid w2) := HL1.out.later hb2
  have HV2 : Hid (StrsIs w2 v2 ns1) := hv2
  have HB2 : Hid (Below w.heap.size w w2) := Below.next HB1.out hb2
  have HV12 : Hid (StrsIs w2 v1 ns1) := HV1.out.later (Nat.le_refl _) hb2
  clear hv2 hb2
  go_wp2_with fail
  refine (HN1.out w2).mono ?_
  rintro e w' ⟨rfl, rfl⟩
  go_wp2_with fail
  refine (HN2.out w2).mono ?_
  rintro e w' ⟨rfl, rfl⟩
  go_wp2_with fail
  refine (HE1.out w2 HL2.out).mono ?_
  rintro e w3 ⟨rfl, hbx⟩
  have HM3 : Hid (Mx w3) := HM2.out.later hbx
  have HL3 : Hid (Laid w3) := HL2.out.later hbx
  have HB3 : Hid (Below w.heap.size w w3) := Below.next HB2.out hbx
  have HV3 : Hid (StrsIs w3 v2 ns1) := HV2.out.later (Nat.le_refl _) hbx
  have HV13 : Hid (StrsIs w3 v1 ns1) := HV12.out.later (Nat.le_refl _) hbx
  clear hbx
  go_wp2_with fail
  have HT := texts_any w3 v2 v1 ns1 ns1 HV3.out HV13.out
  rw [eqS_self] at HT
  refine HT.mono ?_
  clear HT
  rintro e w4 ⟨rfl, hbx⟩
  have HM4 : Hid (Mx w4) := HM3.out.later hbx
  have HL4 : Hid (Laid w4) := HL3.out.later hbx
  have HB4 : Hid (Below w.heap.size w w4) := Below.next HB3.out hbx
  clear hbx
  go_wp2_with fail
  refine (HC.out w4 HM4.out).mono ?_
  rintro e w5 ⟨rfl, hbx⟩
  have HM5 : Hid (Mx w5) := HM4.out.later hbx
  have HL5 : Hid (Laid w5) := HL4.out.later hbx
  have HB5 : Hid (Below w.heap.size w w5) := Below.next HB4.out hbx
  clear hbx
  go_wp2_with fail
  refine (HE1.out w5 HL5.out).mono ?_
  rintro e w6 ⟨rfl, hbx⟩
  have HM6 : Hid (Mx w6) := HM5.out.later hbx
  have HL6 : Hid (Laid w6) := HL5.out.later hbx
  have HB6 : Hid (Below w.heap.size w w6) := Below.next HB5.out hbx
  clear hbx
  go_wp2_with fail
  refine (HR2.out w6).mono ?_
  rintro e w7 ⟨v7, rfl, hv7, hbx⟩
  have HM7 : Hid (Mx w7) := HM6.out.later hbx
  have HL7 : Hid (Laid w7) := HL6.out.later hbx
  have HV7 : Hid (StrsIs w7 v7 ns2) := hv7
  have HB7 : Hid (Below w.heap.size w w7) := Below.next HB6.out hbx
  clear hv7 hbx
  go_wp2_with fail
  refine (HJ.out w7 HM7.out).mono ?_
  rintro e w8 ⟨rfl, hbx⟩
  have HL8 : Hid (Laid w8) := HL7.out.later hbx
  have HB8 : Hid (Below w.heap.size w w8) := Below.next HB7.out hbx
  clear hbx
  go_wp2_with fail
  refine (HE2.out w8 HL8.out).mono ?_
  rintro e w9 ⟨rfl, hbx⟩
  have HB9 : Hid (Below w.heap.size w w9) := Below.next HB8.out hbx
  clear hbx
  go_wp2_with fail
  go_ret
  exact ⟨rfl, HB9.out⟩

set_option maxRecDepth 100000 in
set_option maxHeartbeats 4000000 in
theorem says_2 (w : World) (a b : ByteArray) (ha : a.size ≤ 140737488355328) (hb : b.size ≤ 140737488355328) (hM : Mx w) (hL : Laid w)
    (h1 : pE a.data.toList = 0) (h2 : [47].isPrefixOf b.data.toList = false) (h3 : pE (joi a.data.toList b.data.toList) = 0) :
    Calls Tryd.prog 3 #[.string a, .string b] w fun e w' => e = .returned (.bool true) ∧ Below w.heap.size w w' := by
  have hsa : a.size ≤ maxLen := by unfold maxLen; omega
  have HR1 : Hid _ := fun (w : World) => rparts_any w a hsa
  have HP : Hid _ := fun (w : World) (hm : Mx w) => parts_any w a hsa hm
  have HN1 : Hid _ := fun (w : World) => name_any w a hsa
  have HN2 : Hid _ := fun (w : World) => rname_any w a hsa
  have HC : Hid _ := fun (w : World) (hm : Mx w) => clean_any w a hsa hm
  have HJ : Hid _ := fun (w : World) (hm : Mx w) => join_path w a b (by omega) (by omega) hm
  have HE1 : Hid _ := fun (w : World) (hl : Laid w) => error_any (pE a.data.toList) ((pE a.data.toList : Nat) : Int) w hl
  have HE2 : Hid _ := fun (w : World) (hl : Laid w) => error_any (pE (joi a.data.toList b.data.toList)) ((pE (joi a.data.toList b.data.toList) : Nat) : Int) w hl
  rw [show (((pE a.data.toList : Nat) : Int) == ((pE a.data.toList : Nat) : Int)) = true from by simp] at HE1
  rw [show (((pE (joi a.data.toList b.data.toList) : Nat) : Int) == ((pE (joi a.data.toList b.data.toList) : Nat) : Int)) = true from by simp] at HE2
  have hJs : (a ++ ⟨#[47]⟩ ++ b).size ≤ maxLen := by rw [size_app, size_app, size_one]; unfold maxLen; omega
  have HR2 : Hid _ := fun (w : World) => rparts_any w (a ++ ⟨#[47]⟩ ++ b) hJs
  rw [show (a ++ ⟨#[47]⟩ ++ b : ByteArray).data.toList = joi a.data.toList b.data.toList from by rw [data_app, data_app, joi_no h2]] at HR2
  have hb1 : Hid (∀ hb0 : 0 < b.size, ((b[0].toNat : Int) == 47) = false) := fun hb0 => by rw [← pre_get b hb0]; exact h2
  have HS1 : Hid _ := fun (w : World) (v : Value) (hv : StrsIs w v (nms a.data.toList)) => shown_any w v _ hv (wid_nms _)
  rw [← cln_nms h1] at HS1
  have hz1 : (((pE a.data.toList : Nat) : Int) == 0) = true := by rw [h1]; rfl
  have hq1 : ((bs (cln a.data.toList)).toList == (bs (cln a.data.toList)).toList) = true := by simp
  have HS2 : Hid _ := fun (w : World) (v : Value) (hv : StrsIs w v (nms (joi a.data.toList b.data.toList))) => shown_any w v _ hv (wid_nms _)
  rw [← cln_nms h3] at HS2
  have hz2 : (((pE (joi a.data.toList b.data.toList) : Nat) : Int) == 0) = true := by rw [h3]; rfl
  have hq2 : ((bs (cln (joi a.data.toList b.data.toList))).toList == (bs (cln (joi a.data.toList b.data.toList))).toList) = true := by simp
  clear h1 h2 h3
  generalize hJd : (a ++ ⟨#[47]⟩ ++ b : ByteArray) = J at *
  generalize joi a.data.toList b.data.toList = lj at *
  generalize ((pE a.data.toList : Nat) : Int) = z1 at *
  generalize errV (pE a.data.toList) = y1 at *
  generalize bs (cln a.data.toList) = C1 at *
  generalize nms a.data.toList = ns1 at *
  generalize ((pE lj : Nat) : Int) = z2 at *
  generalize errV (pE lj) = y2 at *
  generalize bs (cln lj) = C2 at *
  generalize nms lj = ns2 at *
  generalize isN a.data.toList = nb at *
  have hnb : (nb == nb) = true := by simp
  have HM : Hid (Mx w) := hM
  have HL : Hid (Laid w) := hL
  clear hM hL hsa
  go_enter Tryd.func3, Tryd.ntmps3
  go_wp2_with fail
  refine (HR1.out w).mono ?_
  rintro e w1 ⟨v1, rfl, hv1, hb1'⟩
  have HM1 : Hid (Mx w1) := HM.out.later hb1'
  have HL1 : Hid (Laid w1) := HL.out.later hb1'
  have HV1 : Hid (StrsIs w1 v1 ns1) := hv1
  have HB1 : Hid (Below w.heap.size w w1) := hb1'
  clear hv1 hb1'
  go_wp2_with fail
  refine (HS1.out w1 v1 HV1.out).mono ?_
  rintro e w' ⟨rfl, rfl⟩
  go_wp2_with fail
  refine (HP.out w1 HM1.out).mono ?_
  rintro e w2 ⟨v2, rfl, hv2, hb2⟩
  have HM2 : Hid (Mx w2) := HM1.out.later hb2
  have HL2 : Hid (Laid w2) := HL1.out.later hb2
  have HV2 : Hid (StrsIs w2 v2 ns1) := hv2
  have HB2 : Hid (Below w.heap.size w w2) := Below.next HB1.out hb2
  have HV12 : Hid (StrsIs w2 v1 ns1) := HV1.out.later (Nat.le_refl _) hb2
  clear hv2 hb2
  go_wp2_with fail
  refine (HN1.out w2).mono ?_
  rintro e w' ⟨rfl, rfl⟩
  go_wp2_with fail
  refine (HN2.out w2).mono ?_
  rintro e w' ⟨rfl, rfl⟩
  go_wp2_with fail
  refine (HE1.out w2 HL2.out).mono ?_
  rintro e w3 ⟨rfl, hbx⟩
  have HM3 : Hid (Mx w3) := HM2.out.later hbx
  have HL3 : Hid (Laid w3) := HL2.out.later hbx
  have HB3 : Hid (Below w.heap.size w w3) := Below.next HB2.out hbx
  have HV3 : Hid (StrsIs w3 v2 ns1) := HV2.out.later (Nat.le_refl _) hbx
  have HV13 : Hid (StrsIs w3 v1 ns1) := HV12.out.later (Nat.le_refl _) hbx
  clear hbx
  go_wp2_with fail
  have HT := texts_any w3 v2 v1 ns1 ns1 HV3.out HV13.out
  rw [eqS_self] at HT
  refine HT.mono ?_
  clear HT
  rintro e w4 ⟨rfl, hbx⟩
  have HM4 : Hid (Mx w4) := HM3.out.later hbx
  have HL4 : Hid (Laid w4) := HL3.out.later hbx
  have HB4 : Hid (Below w.heap.size w w4) := Below.next HB3.out hbx
  clear hbx
  go_wp2_with fail
  refine (HC.out w4 HM4.out).mono ?_
  rintro e w5 ⟨rfl, hbx⟩
  have HM5 : Hid (Mx w5) := HM4.out.later hbx
  have HL5 : Hid (Laid w5) := HL4.out.later hbx
  have HB5 : Hid (Below w.heap.size w w5) := Below.next HB4.out hbx
  clear hbx
  go_wp2_with fail
  refine (HE1.out w5 HL5.out).mono ?_
  rintro e w6 ⟨rfl, hbx⟩
  have HM6 : Hid (Mx w6) := HM5.out.later hbx
  have HL6 : Hid (Laid w6) := HL5.out.later hbx
  have HB6 : Hid (Below w.heap.size w w6) := Below.next HB5.out hbx
  clear hbx
  by_cases hb0 : 0 < b.size
  rotate_left
  all_goals (first | (have hb2 := hb1.out hb0; clear hb1; go_wp2_with fail) | (clear hb1; go_wp2_with fail))
  all_goals (
    refine (HR2.out w6).mono ?_
    rintro e w7 ⟨v7, rfl, hv7, hbx⟩
    have HM7 : Hid (Mx w7) := HM6.out.later hbx
    have HL7 : Hid (Laid w7) := HL6.out.later hbx
    have HV7 : Hid (StrsIs w7 v7 ns2) := hv7
    have HB7 : Hid (Below w.heap.size w w7) := Below.next HB6.out hbx
    clear hv7 hbx
    go_wp2_with fail
    refine (HS2.out w7 v7 HV7.out).mono ?_
    rintro e w' ⟨rfl, rfl⟩
    go_wp2_with fail
    refine (HJ.out w7 HM7.out).mono ?_
    rintro e w8 ⟨rfl, hbx⟩
    have HL8 : Hid (Laid w8) := HL7.out.later hbx
    have HB8 : Hid (Below w.heap.size w w8) := Below.next HB7.out hbx
    clear hbx
    go_wp2_with fail
    refine (HE2.out w8 HL8.out).mono ?_
    rintro e w9 ⟨rfl, hbx⟩
    have HB9 : Hid (Below w.heap.size w w9) := Below.next HB8.out hbx
    clear hbx
    go_wp2_with fail
    go_ret
    exact ⟨rfl, HB9.out⟩)

set_option maxRecDepth 100000 in
set_option maxHeartbeats 4000000 in
theorem says_3 (w : World) (a b : ByteArray) (ha : a.size ≤ 140737488355328) (hb : b.size ≤ 140737488355328) (hM : Mx w) (hL : Laid w)
    (h1 : pE a.data.toList = 0) (h2 : [47].isPrefixOf b.data.toList = false) (h3 : ¬ pE (joi a.data.toList b.data.toList) = 0) :
    Calls Tryd.prog 3 #[.string a, .string b] w fun e w' => e = .returned (.bool true) ∧ Below w.heap.size w w' := by
  have hsa : a.size ≤ maxLen := by unfold maxLen; omega
  have HR1 : Hid _ := fun (w : World) => rparts_any w a hsa
  have HP : Hid _ := fun (w : World) (hm : Mx w) => parts_any w a hsa hm
  have HN1 : Hid _ := fun (w : World) => name_any w a hsa
  have HN2 : Hid _ := fun (w : World) => rname_any w a hsa
  have HC : Hid _ := fun (w : World) (hm : Mx w) => clean_any w a hsa hm
  have HJ : Hid _ := fun (w : World) (hm : Mx w) => join_path w a b (by omega) (by omega) hm
  have HE1 : Hid _ := fun (w : World) (hl : Laid w) => error_any (pE a.data.toList) ((pE a.data.toList : Nat) : Int) w hl
  have HE2 : Hid _ := fun (w : World) (hl : Laid w) => error_any (pE (joi a.data.toList b.data.toList)) ((pE (joi a.data.toList b.data.toList) : Nat) : Int) w hl
  rw [show (((pE a.data.toList : Nat) : Int) == ((pE a.data.toList : Nat) : Int)) = true from by simp] at HE1
  rw [show (((pE (joi a.data.toList b.data.toList) : Nat) : Int) == ((pE (joi a.data.toList b.data.toList) : Nat) : Int)) = true from by simp] at HE2
  have hJs : (a ++ ⟨#[47]⟩ ++ b).size ≤ maxLen := by rw [size_app, size_app, size_one]; unfold maxLen; omega
  have HR2 : Hid _ := fun (w : World) => rparts_any w (a ++ ⟨#[47]⟩ ++ b) hJs
  rw [show (a ++ ⟨#[47]⟩ ++ b : ByteArray).data.toList = joi a.data.toList b.data.toList from by rw [data_app, data_app, joi_no h2]] at HR2
  have hb1 : Hid (∀ hb0 : 0 < b.size, ((b[0].toNat : Int) == 47) = false) := fun hb0 => by rw [← pre_get b hb0]; exact h2
  have HS1 : Hid _ := fun (w : World) (v : Value) (hv : StrsIs w v (nms a.data.toList)) => shown_any w v _ hv (wid_nms _)
  rw [← cln_nms h1] at HS1
  have hz1 : (((pE a.data.toList : Nat) : Int) == 0) = true := by rw [h1]; rfl
  have hq1 : ((bs (cln a.data.toList)).toList == (bs (cln a.data.toList)).toList) = true := by simp
  have hz2 : (((pE (joi a.data.toList b.data.toList) : Nat) : Int) == 0) = false := by rw [beq_eq_false_iff_ne]; omega
  rw [cln_none h3, show bs [] = ⟨#[]⟩ from rfl] at HJ
  clear h1 h2 h3
  generalize hJd : (a ++ ⟨#[47]⟩ ++ b : ByteArray) = J at *
  generalize joi a.data.toList b.data.toList = lj at *
  generalize ((pE a.data.toList : Nat) : Int) = z1 at *
  generalize errV (pE a.data.toList) = y1 at *
  generalize bs (cln a.data.toList) = C1 at *
  generalize nms a.data.toList = ns1 at *
  generalize ((pE lj : Nat) : Int) = z2 at *
  generalize errV (pE lj) = y2 at *
  generalize nms lj = ns2 at *
  generalize isN a.data.toList = nb at *
  have hnb : (nb == nb) = true := by simp
  have HM : Hid (Mx w) := hM
  have HL : Hid (Laid w) := hL
  clear hM hL hsa
  go_enter Tryd.func3, Tryd.ntmps3
  go_wp2_with fail
  refine (HR1.out w).mono ?_
  rintro e w1 ⟨v1, rfl, hv1, hb1'⟩
  have HM1 : Hid (Mx w1) := HM.out.later hb1'
  have HL1 : Hid (Laid w1) := HL.out.later hb1'
  have HV1 : Hid (StrsIs w1 v1 ns1) := hv1
  have HB1 : Hid (Below w.heap.size w w1) := hb1'
  clear hv1 hb1'
  go_wp2_with fail
  refine (HS1.out w1 v1 HV1.out).mono ?_
  rintro e w' ⟨rfl, rfl⟩
  go_wp2_with fail
  refine (HP.out w1 HM1.out).mono ?_
  rintro e w2 ⟨v2, rfl, hv2, hb2⟩
  have HM2 : Hid (Mx w2) := HM1.out.later hb2
  have HL2 : Hid (Laid w2) := HL1.out.later hb2
  have HV2 : Hid (StrsIs w2 v2 ns1) := hv2
  have HB2 : Hid (Below w.heap.size w w2) := Below.next HB1.out hb2
  have HV12 : Hid (StrsIs w2 v1 ns1) := HV1.out.later (Nat.le_refl _) hb2
  clear hv2 hb2
  go_wp2_with fail
  refine (HN1.out w2).mono ?_
  rintro e w' ⟨rfl, rfl⟩
  go_wp2_with fail
  refine (HN2.out w2).mono ?_
  rintro e w' ⟨rfl, rfl⟩
  go_wp2_with fail
  refine (HE1.out w2 HL2.out).mono ?_
  rintro e w3 ⟨rfl, hbx⟩
  have HM3 : Hid (Mx w3) := HM2.out.later hbx
  have HL3 : Hid (Laid w3) := HL2.out.later hbx
  have HB3 : Hid (Below w.heap.size w w3) := Below.next HB2.out hbx
  have HV3 : Hid (StrsIs w3 v2 ns1) := HV2.out.later (Nat.le_refl _) hbx
  have HV13 : Hid (StrsIs w3 v1 ns1) := HV12.out.later (Nat.le_refl _) hbx
  clear hbx
  go_wp2_with fail
  have HT := texts_any w3 v2 v1 ns1 ns1 HV3.out HV13.out
  rw [eqS_self] at HT
  refine HT.mono ?_
  clear HT
  rintro e w4 ⟨rfl, hbx⟩
  have HM4 : Hid (Mx w4) := HM3.out.later hbx
  have HL4 : Hid (Laid w4) := HL3.out.later hbx
  have HB4 : Hid (Below w.heap.size w w4) := Below.next HB3.out hbx
  clear hbx
  go_wp2_with fail
  refine (HC.out w4 HM4.out).mono ?_
  rintro e w5 ⟨rfl, hbx⟩
  have HM5 : Hid (Mx w5) := HM4.out.later hbx
  have HL5 : Hid (Laid w5) := HL4.out.later hbx
  have HB5 : Hid (Below w.heap.size w w5) := Below.next HB4.out hbx
  clear hbx
  go_wp2_with fail
  refine (HE1.out w5 HL5.out).mono ?_
  rintro e w6 ⟨rfl, hbx⟩
  have HM6 : Hid (Mx w6) := HM5.out.later hbx
  have HL6 : Hid (Laid w6) := HL5.out.later hbx
  have HB6 : Hid (Below w.heap.size w w6) := Below.next HB5.out hbx
  clear hbx
  by_cases hb0 : 0 < b.size
  rotate_left
  all_goals (first | (have hb2 := hb1.out hb0; clear hb1; go_wp2_with fail) | (clear hb1; go_wp2_with fail))
  all_goals (
    refine (HR2.out w6).mono ?_
    rintro e w7 ⟨v7, rfl, hv7, hbx⟩
    have HM7 : Hid (Mx w7) := HM6.out.later hbx
    have HL7 : Hid (Laid w7) := HL6.out.later hbx
    have HV7 : Hid (StrsIs w7 v7 ns2) := hv7
    have HB7 : Hid (Below w.heap.size w w7) := Below.next HB6.out hbx
    clear hv7 hbx
    go_wp2_with fail
    refine (HJ.out w7 HM7.out).mono ?_
    rintro e w8 ⟨rfl, hbx⟩
    have HL8 : Hid (Laid w8) := HL7.out.later hbx
    have HB8 : Hid (Below w.heap.size w w8) := Below.next HB7.out hbx
    clear hbx
    go_wp2_with fail
    refine (HE2.out w8 HL8.out).mono ?_
    rintro e w9 ⟨rfl, hbx⟩
    have HB9 : Hid (Below w.heap.size w w9) := Below.next HB8.out hbx
    clear hbx
    go_wp2_with fail
    go_ret
    exact ⟨rfl, HB9.out⟩)

set_option maxRecDepth 100000 in
set_option maxHeartbeats 4000000 in
theorem says_4 (w : World) (a b : ByteArray) (ha : a.size ≤ 140737488355328) (hb : b.size ≤ 140737488355328) (hM : Mx w) (hL : Laid w)
    (h1 : ¬ pE a.data.toList = 0) (h2 : [47].isPrefixOf b.data.toList = true) (h3 : pE (joi a.data.toList b.data.toList) = 0) :
    Calls Tryd.prog 3 #[.string a, .string b] w fun e w' => e = .returned (.bool true) ∧ Below w.heap.size w w' := by
  have hsa : a.size ≤ maxLen := by unfold maxLen; omega
  have HR1 : Hid _ := fun (w : World) => rparts_any w a hsa
  have HP : Hid _ := fun (w : World) (hm : Mx w) => parts_any w a hsa hm
  have HN1 : Hid _ := fun (w : World) => name_any w a hsa
  have HN2 : Hid _ := fun (w : World) => rname_any w a hsa
  have HC : Hid _ := fun (w : World) (hm : Mx w) => clean_any w a hsa hm
  have HJ : Hid _ := fun (w : World) (hm : Mx w) => join_path w a b (by omega) (by omega) hm
  have HE1 : Hid _ := fun (w : World) (hl : Laid w) => error_any (pE a.data.toList) ((pE a.data.toList : Nat) : Int) w hl
  have HE2 : Hid _ := fun (w : World) (hl : Laid w) => error_any (pE (joi a.data.toList b.data.toList)) ((pE (joi a.data.toList b.data.toList) : Nat) : Int) w hl
  rw [show (((pE a.data.toList : Nat) : Int) == ((pE a.data.toList : Nat) : Int)) = true from by simp] at HE1
  rw [show (((pE (joi a.data.toList b.data.toList) : Nat) : Int) == ((pE (joi a.data.toList b.data.toList) : Nat) : Int)) = true from by simp] at HE2
  have HR2 : Hid _ := fun (w : World) => rparts_any w b (by unfold maxLen; omega)
  rw [show b.data.toList = joi a.data.toList b.data.toList from (joi_yes h2).symm] at HR2
  have hb0 : 0 < b.size := by
    obtain ⟨r, hr⟩ := (pre_iff _).1 h2
    rw [Lib.size_eq, hr]; simp
  have hb1 : ((b[0].toNat : Int) == 47) = true := by rw [← pre_get b hb0]; exact h2
  have hz1 : (((pE a.data.toList : Nat) : Int) == 0) = false := by rw [beq_eq_false_iff_ne]; omega
  rw [cln_none h1, show bs [] = ⟨#[]⟩ from rfl] at HC
  have HS2 : Hid _ := fun (w : World) (v : Value) (hv : StrsIs w v (nms (joi a.data.toList b.data.toList))) => shown_any w v _ hv (wid_nms _)
  rw [← cln_nms h3] at HS2
  have hz2 : (((pE (joi a.data.toList b.data.toList) : Nat) : Int) == 0) = true := by rw [h3]; rfl
  have hq2 : ((bs (cln (joi a.data.toList b.data.toList))).toList == (bs (cln (joi a.data.toList b.data.toList))).toList) = true := by simp
  clear h1 h2 h3
  generalize joi a.data.toList b.data.toList = lj at *
  generalize ((pE a.data.toList : Nat) : Int) = z1 at *
  generalize errV (pE a.data.toList) = y1 at *
  generalize nms a.data.toList = ns1 at *
  generalize ((pE lj : Nat) : Int) = z2 at *
  generalize errV (pE lj) = y2 at *
  generalize bs (cln lj) = C2 at *
  generalize nms lj = ns2 at *
  generalize isN a.data.toList = nb at *
  have hnb : (nb == nb) = true := by simp
  have HM : Hid (Mx w) := hM
  have HL : Hid (Laid w) := hL
  clear hM hL hsa
  go_enter Tryd.func3, Tryd.ntmps3
  go_wp2_with fail
  refine (HR1.out w).mono ?_
  rintro e w1 ⟨v1, rfl, hv1, hb1'⟩
  have HM1 : Hid (Mx w1) := HM.out.later hb1'
  have HL1 : Hid (Laid w1) := HL.out.later hb1'
  have HV1 : Hid (StrsIs w1 v1 ns1) := hv1
  have HB1 : Hid (Below w.heap.size w w1) := hb1'
  clear hv1 hb1'
  go_wp2_with fail
  refine (HP.out w1 HM1.out).mono ?_
  rintro e w2 ⟨v2, rfl, hv2, hb2⟩
  have HM2 : Hid (Mx w2) := HM1.out.later hb2
  have HL2 : Hid (Laid w2) := HL1.out.later hb2
  have HV2 : Hid (StrsIs w2 v2 ns1) := hv2
  have HB2 : Hid (Below w.heap.size w w2) := Below.next HB1.out hb2
  have HV12 : Hid (StrsIs w2 v1 ns1) := HV1.out.later (Nat.le_refl _) hb2
  clear hv2 hb2
  go_wp2_with fail
  refine (HN1.out w2).mono ?_
  rintro e w' ⟨rfl, rfl⟩
  go_wp2_with fail
  refine (HN2.out w2).mono ?_
  rintro e w' ⟨rfl, rfl⟩
  go_wp2_with fail
  refine (HE1.out w2 HL2.out).mono ?_
  rintro e w3 ⟨rfl, hbx⟩
  have HM3 : Hid (Mx w3) := HM2.out.later hbx
  have HL3 : Hid (Laid w3) := HL2.out.later hbx
  have HB3 : Hid (Below w.heap.size w w3) := Below.next HB2.out hbx
  have HV3 : Hid (StrsIs w3 v2 ns1) := HV2.out.later (Nat.le_refl _) hbx
  have HV13 : Hid (StrsIs w3 v1 ns1) := HV12.out.later (Nat.le_refl _) hbx
  clear hbx
  go_wp2_with fail
  have HT := texts_any w3 v2 v1 ns1 ns1 HV3.out HV13.out
  rw [eqS_self] at HT
  refine HT.mono ?_
  clear HT
  rintro e w4 ⟨rfl, hbx⟩
  have HM4 : Hid (Mx w4) := HM3.out.later hbx
  have HL4 : Hid (Laid w4) := HL3.out.later hbx
  have HB4 : Hid (Below w.heap.size w w4) := Below.next HB3.out hbx
  clear hbx
  go_wp2_with fail
  refine (HC.out w4 HM4.out).mono ?_
  rintro e w5 ⟨rfl, hbx⟩
  have HM5 : Hid (Mx w5) := HM4.out.later hbx
  have HL5 : Hid (Laid w5) := HL4.out.later hbx
  have HB5 : Hid (Below w.heap.size w w5) := Below.next HB4.out hbx
  clear hbx
  go_wp2_with fail
  refine (HE1.out w5 HL5.out).mono ?_
  rintro e w6 ⟨rfl, hbx⟩
  have HM6 : Hid (Mx w6) := HM5.out.later hbx
  have HL6 : Hid (Laid w6) := HL5.out.later hbx
  have HB6 : Hid (Below w.heap.size w w6) := Below.next HB5.out hbx
  clear hbx
  go_wp2_with fail
  refine (HR2.out w6).mono ?_
  rintro e w7 ⟨v7, rfl, hv7, hbx⟩
  have HM7 : Hid (Mx w7) := HM6.out.later hbx
  have HL7 : Hid (Laid w7) := HL6.out.later hbx
  have HV7 : Hid (StrsIs w7 v7 ns2) := hv7
  have HB7 : Hid (Below w.heap.size w w7) := Below.next HB6.out hbx
  clear hv7 hbx
  go_wp2_with fail
  refine (HS2.out w7 v7 HV7.out).mono ?_
  rintro e w' ⟨rfl, rfl⟩
  go_wp2_with fail
  refine (HJ.out w7 HM7.out).mono ?_
  rintro e w8 ⟨rfl, hbx⟩
  have HL8 : Hid (Laid w8) := HL7.out.later hbx
  have HB8 : Hid (Below w.heap.size w w8) := Below.next HB7.out hbx
  clear hbx
  go_wp2_with fail
  refine (HE2.out w8 HL8.out).mono ?_
  rintro e w9 ⟨rfl, hbx⟩
  have HB9 : Hid (Below w.heap.size w w9) := Below.next HB8.out hbx
  clear hbx
  go_wp2_with fail
  go_ret
  exact ⟨rfl, HB9.out⟩

set_option maxRecDepth 100000 in
set_option maxHeartbeats 4000000 in
theorem says_5 (w : World) (a b : ByteArray) (ha : a.size ≤ 140737488355328) (hb : b.size ≤ 140737488355328) (hM : Mx w) (hL : Laid w)
    (h1 : ¬ pE a.data.toList = 0) (h2 : [47].isPrefixOf b.data.toList = true) (h3 : ¬ pE (joi a.data.toList b.data.toList) = 0) :
    Calls Tryd.prog 3 #[.string a, .string b] w fun e w' => e = .returned (.bool true) ∧ Below w.heap.size w w' := by
  have hsa : a.size ≤ maxLen := by unfold maxLen; omega
  have HR1 : Hid _ := fun (w : World) => rparts_any w a hsa
  have HP : Hid _ := fun (w : World) (hm : Mx w) => parts_any w a hsa hm
  have HN1 : Hid _ := fun (w : World) => name_any w a hsa
  have HN2 : Hid _ := fun (w : World) => rname_any w a hsa
  have HC : Hid _ := fun (w : World) (hm : Mx w) => clean_any w a hsa hm
  have HJ : Hid _ := fun (w : World) (hm : Mx w) => join_path w a b (by omega) (by omega) hm
  have HE1 : Hid _ := fun (w : World) (hl : Laid w) => error_any (pE a.data.toList) ((pE a.data.toList : Nat) : Int) w hl
  have HE2 : Hid _ := fun (w : World) (hl : Laid w) => error_any (pE (joi a.data.toList b.data.toList)) ((pE (joi a.data.toList b.data.toList) : Nat) : Int) w hl
  rw [show (((pE a.data.toList : Nat) : Int) == ((pE a.data.toList : Nat) : Int)) = true from by simp] at HE1
  rw [show (((pE (joi a.data.toList b.data.toList) : Nat) : Int) == ((pE (joi a.data.toList b.data.toList) : Nat) : Int)) = true from by simp] at HE2
  have HR2 : Hid _ := fun (w : World) => rparts_any w b (by unfold maxLen; omega)
  rw [show b.data.toList = joi a.data.toList b.data.toList from (joi_yes h2).symm] at HR2
  have hb0 : 0 < b.size := by
    obtain ⟨r, hr⟩ := (pre_iff _).1 h2
    rw [Lib.size_eq, hr]; simp
  have hb1 : ((b[0].toNat : Int) == 47) = true := by rw [← pre_get b hb0]; exact h2
  have hz1 : (((pE a.data.toList : Nat) : Int) == 0) = false := by rw [beq_eq_false_iff_ne]; omega
  rw [cln_none h1, show bs [] = ⟨#[]⟩ from rfl] at HC
  have hz2 : (((pE (joi a.data.toList b.data.toList) : Nat) : Int) == 0) = false := by rw [beq_eq_false_iff_ne]; omega
  rw [cln_none h3, show bs [] = ⟨#[]⟩ from rfl] at HJ
  clear h1 h2 h3
  generalize joi a.data.toList b.data.toList = lj at *
  generalize ((pE a.data.toList : Nat) : Int) = z1 at *
  generalize errV (pE a.data.toList) = y1 at *
  generalize nms a.data.toList = ns1 at *
  generalize ((pE lj : Nat) : Int) = z2 at *
  generalize errV (pE lj) = y2 at *
  generalize nms lj = ns2 at *
  generalize isN a.data.toList = nb at *
  have hnb : (nb == nb) = true := by simp
  have HM : Hid (Mx w) := hM
  have HL : Hid (Laid w) := hL
  clear hM hL hsa
  go_enter Tryd.func3, Tryd.ntmps3
  go_wp2_with fail
  refine (HR1.out w).mono ?_
  rintro e w1 ⟨v1, rfl, hv1, hb1'⟩
  have HM1 : Hid (Mx w1) := HM.out.later hb1'
  have HL1 : Hid (Laid w1) := HL.out.later hb1'
  have HV1 : Hid (StrsIs w1 v1 ns1) := hv1
  have HB1 : Hid (Below w.heap.size w w1) := hb1'
  clear hv1 hb1'
  go_wp2_with fail
  refine (HP.out w1 HM1.out).mono ?_
  rintro e w2 ⟨v2, rfl, hv2, hb2⟩
  have HM2 : Hid (Mx w2) := HM1.out.later hb2
  have HL2 : Hid (Laid w2) := HL1.out.later hb2
  have HV2 : Hid (StrsIs w2 v2 ns1) := hv2
  have HB2 : Hid (Below w.heap.size w w2) := Below.next HB1.out hb2
  have HV12 : Hid (StrsIs w2 v1 ns1) := HV1.out.later (Nat.le_refl _) hb2
  clear hv2 hb2
  go_wp2_with fail
  refine (HN1.out w2).mono ?_
  rintro e w' ⟨rfl, rfl⟩
  go_wp2_with fail
  refine (HN2.out w2).mono ?_
  rintro e w' ⟨rfl, rfl⟩
  go_wp2_with fail
  refine (HE1.out w2 HL2.out).mono ?_
  rintro e w3 ⟨rfl, hbx⟩
  have HM3 : Hid (Mx w3) := HM2.out.later hbx
  have HL3 : Hid (Laid w3) := HL2.out.later hbx
  have HB3 : Hid (Below w.heap.size w w3) := Below.next HB2.out hbx
  have HV3 : Hid (StrsIs w3 v2 ns1) := HV2.out.later (Nat.le_refl _) hbx
  have HV13 : Hid (StrsIs w3 v1 ns1) := HV12.out.later (Nat.le_refl _) hbx
  clear hbx
  go_wp2_with fail
  have HT := texts_any w3 v2 v1 ns1 ns1 HV3.out HV13.out
  rw [eqS_self] at HT
  refine HT.mono ?_
  clear HT
  rintro e w4 ⟨rfl, hbx⟩
  have HM4 : Hid (Mx w4) := HM3.out.later hbx
  have HL4 : Hid (Laid w4) := HL3.out.later hbx
  have HB4 : Hid (Below w.heap.size w w4) := Below.next HB3.out hbx
  clear hbx
  go_wp2_with fail
  refine (HC.out w4 HM4.out).mono ?_
  rintro e w5 ⟨rfl, hbx⟩
  have HM5 : Hid (Mx w5) := HM4.out.later hbx
  have HL5 : Hid (Laid w5) := HL4.out.later hbx
  have HB5 : Hid (Below w.heap.size w w5) := Below.next HB4.out hbx
  clear hbx
  go_wp2_with fail
  refine (HE1.out w5 HL5.out).mono ?_
  rintro e w6 ⟨rfl, hbx⟩
  have HM6 : Hid (Mx w6) := HM5.out.later hbx
  have HL6 : Hid (Laid w6) := HL5.out.later hbx
  have HB6 : Hid (Below w.heap.size w w6) := Below.next HB5.out hbx
  clear hbx
  go_wp2_with fail
  refine (HR2.out w6).mono ?_
  rintro e w7 ⟨v7, rfl, hv7, hbx⟩
  have HM7 : Hid (Mx w7) := HM6.out.later hbx
  have HL7 : Hid (Laid w7) := HL6.out.later hbx
  have HV7 : Hid (StrsIs w7 v7 ns2) := hv7
  have HB7 : Hid (Below w.heap.size w w7) := Below.next HB6.out hbx
  clear hv7 hbx
  go_wp2_with fail
  refine (HJ.out w7 HM7.out).mono ?_
  rintro e w8 ⟨rfl, hbx⟩
  have HL8 : Hid (Laid w8) := HL7.out.later hbx
  have HB8 : Hid (Below w.heap.size w w8) := Below.next HB7.out hbx
  clear hbx
  go_wp2_with fail
  refine (HE2.out w8 HL8.out).mono ?_
  rintro e w9 ⟨rfl, hbx⟩
  have HB9 : Hid (Below w.heap.size w w9) := Below.next HB8.out hbx
  clear hbx
  go_wp2_with fail
  go_ret
  exact ⟨rfl, HB9.out⟩

set_option maxRecDepth 100000 in
set_option maxHeartbeats 4000000 in
theorem says_6 (w : World) (a b : ByteArray) (ha : a.size ≤ 140737488355328) (hb : b.size ≤ 140737488355328) (hM : Mx w) (hL : Laid w)
    (h1 : ¬ pE a.data.toList = 0) (h2 : [47].isPrefixOf b.data.toList = false) (h3 : pE (joi a.data.toList b.data.toList) = 0) :
    Calls Tryd.prog 3 #[.string a, .string b] w fun e w' => e = .returned (.bool true) ∧ Below w.heap.size w w' := by
  have hsa : a.size ≤ maxLen := by unfold maxLen; omega
  have HR1 : Hid _ := fun (w : World) => rparts_any w a hsa
  have HP : Hid _ := fun (w : World) (hm : Mx w) => parts_any w a hsa hm
  have HN1 : Hid _ := fun (w : World) => name_any w a hsa
  have HN2 : Hid _ := fun (w : World) => rname_any w a hsa
  have HC : Hid _ := fun (w : World) (hm : Mx w) => clean_any w a hsa hm
  have HJ : Hid _ := fun (w : World) (hm : Mx w) => join_path w a b (by omega) (by omega) hm
  have HE1 : Hid _ := fun (w : World) (hl : Laid w) => error_any (pE a.data.toList) ((pE a.data.toList : Nat) : Int) w hl
  have HE2 : Hid _ := fun (w : World) (hl : Laid w) => error_any (pE (joi a.data.toList b.data.toList)) ((pE (joi a.data.toList b.data.toList) : Nat) : Int) w hl
  rw [show (((pE a.data.toList : Nat) : Int) == ((pE a.data.toList : Nat) : Int)) = true from by simp] at HE1
  rw [show (((pE (joi a.data.toList b.data.toList) : Nat) : Int) == ((pE (joi a.data.toList b.data.toList) : Nat) : Int)) = true from by simp] at HE2
  have hJs : (a ++ ⟨#[47]⟩ ++ b).size ≤ maxLen := by rw [size_app, size_app, size_one]; unfold maxLen; omega
  have HR2 : Hid _ := fun (w : World) => rparts_any w (a ++ ⟨#[47]⟩ ++ b) hJs
  rw [show (a ++ ⟨#[47]⟩ ++ b : ByteArray).data.toList = joi a.data.toList b.data.toList from by rw [data_app, data_app, joi_no h2]] at HR2
  have hb1 : Hid (∀ hb0 : 0 < b.size, ((b[0].toNat : Int) == 47) = false) := fun hb0 => by rw [← pre_get b hb0]; exact h2
  have hz1 : (((pE a.data.toList : Nat) : Int) == 0) = false := by rw [beq_eq_false_iff_ne]; omega
  rw [cln_none h1, show bs [] = ⟨#[]⟩ from rfl] at HC
  have HS2 : Hid _ := fun (w : World) (v : Value) (hv : StrsIs w v (nms (joi a.data.toList b.data.toList))) => shown_any w v _ hv (wid_nms _)
  rw [← cln_nms h3] at HS2
  have hz2 : (((pE (joi a.data.toList b.data.toList) : Nat) : Int) == 0) = true := by rw [h3]; rfl
  have hq2 : ((bs (cln (joi a.data.toList b.data.toList))).toList == (bs (cln (joi a.data.toList b.data.toList))).toList) = true := by simp
  clear h1 h2 h3
  generalize hJd : (a ++ ⟨#[47]⟩ ++ b : ByteArray) = J at *
  generalize joi a.data.toList b.data.toList = lj at *
  generalize ((pE a.data.toList : Nat) : Int) = z1 at *
  generalize errV (pE a.data.toList) = y1 at *
  generalize nms a.data.toList = ns1 at *
  generalize ((pE lj : Nat) : Int) = z2 at *
  generalize errV (pE lj) = y2 at *
  generalize bs (cln lj) = C2 at *
  generalize nms lj = ns2 at *
  generalize isN a.data.toList = nb at *
  have hnb : (nb == nb) = true := by simp
  have HM : Hid (Mx w) := hM
  have HL : Hid (Laid w) := hL
  clear hM hL hsa
  go_enter Tryd.func3, Tryd.ntmps3
  go_wp2_with fail
  refine (HR1.out w).mono ?_
  rintro e w1 ⟨v1, rfl, hv1, hb1'⟩
  have HM1 : Hid (Mx w1) := HM.out.later hb1'
  have HL1 : Hid (Laid w1) := HL.out.later hb1'
  have HV1 : Hid (StrsIs w1 v1 ns1) := hv1
  have HB1 : Hid (Below w.heap.size w w1) := hb1'
  clear hv1 hb1'
  go_wp2_with fail
  refine (HP.out w1 HM1.out).mono ?_
  rintro e w2 ⟨v2, rfl, hv2, hb2⟩
  have HM2 : Hid (Mx w2) := HM1.out.later hb2
  have HL2 : Hid (Laid w2) := HL1.out.later hb2
  have HV2 : Hid (StrsIs w2 v2 ns1) := hv2
  have HB2 : Hid (Below w.heap.size w w2) := Below.next HB1.out hb2
  have HV12 : Hid (StrsIs w2 v1 ns1) := HV1.out.later (Nat.le_refl _) hb2
  clear hv2 hb2
  go_wp2_with fail
  refine (HN1.out w2).mono ?_
  rintro e w' ⟨rfl, rfl⟩
  go_wp2_with fail
  refine (HN2.out w2).mono ?_
  rintro e w' ⟨rfl, rfl⟩
  go_wp2_with fail
  refine (HE1.out w2 HL2.out).mono ?_
  rintro e w3 ⟨rfl, hbx⟩
  have HM3 : Hid (Mx w3) := HM2.out.later hbx
  have HL3 : Hid (Laid w3) := HL2.out.later hbx
  have HB3 : Hid (Below w.heap.size w w3) := Below.next HB2.out hbx
  have HV3 : Hid (StrsIs w3 v2 ns1) := HV2.out.later (Nat.le_refl _) hbx
  have HV13 : Hid (StrsIs w3 v1 ns1) := HV12.out.later (Nat.le_refl _) hbx
  clear hbx
  go_wp2_with fail
  have HT := texts_any w3 v2 v1 ns1 ns1 HV3.out HV13.out
  rw [eqS_self] at HT
  refine HT.mono ?_
  clear HT
  rintro e w4 ⟨rfl, hbx⟩
  have HM4 : Hid (Mx w4) := HM3.out.later hbx
  have HL4 : Hid (Laid w4) := HL3.out.later hbx
  have HB4 : Hid (Below w.heap.size w w4) := Below.next HB3.out hbx
  clear hbx
  go_wp2_with fail
  refine (HC.out w4 HM4.out).mono ?_
  rintro e w5 ⟨rfl, hbx⟩
  have HM5 : Hid (Mx w5) := HM4.out.later hbx
  have HL5 : Hid (Laid w5) := HL4.out.later hbx
  have HB5 : Hid (Below w.heap.size w w5) := Below.next HB4.out hbx
  clear hbx
  go_wp2_with fail
  refine (HE1.out w5 HL5.out).mono ?_
  rintro e w6 ⟨rfl, hbx⟩
  have HM6 : Hid (Mx w6) := HM5.out.later hbx
  have HL6 : Hid (Laid w6) := HL5.out.later hbx
  have HB6 : Hid (Below w.heap.size w w6) := Below.next HB5.out hbx
  clear hbx
  by_cases hb0 : 0 < b.size
  rotate_left
  all_goals (first | (have hb2 := hb1.out hb0; clear hb1; go_wp2_with fail) | (clear hb1; go_wp2_with fail))
  all_goals (
    refine (HR2.out w6).mono ?_
    rintro e w7 ⟨v7, rfl, hv7, hbx⟩
    have HM7 : Hid (Mx w7) := HM6.out.later hbx
    have HL7 : Hid (Laid w7) := HL6.out.later hbx
    have HV7 : Hid (StrsIs w7 v7 ns2) := hv7
    have HB7 : Hid (Below w.heap.size w w7) := Below.next HB6.out hbx
    clear hv7 hbx
    go_wp2_with fail
    refine (HS2.out w7 v7 HV7.out).mono ?_
    rintro e w' ⟨rfl, rfl⟩
    go_wp2_with fail
    refine (HJ.out w7 HM7.out).mono ?_
    rintro e w8 ⟨rfl, hbx⟩
    have HL8 : Hid (Laid w8) := HL7.out.later hbx
    have HB8 : Hid (Below w.heap.size w w8) := Below.next HB7.out hbx
    clear hbx
    go_wp2_with fail
    refine (HE2.out w8 HL8.out).mono ?_
    rintro e w9 ⟨rfl, hbx⟩
    have HB9 : Hid (Below w.heap.size w w9) := Below.next HB8.out hbx
    clear hbx
    go_wp2_with fail
    go_ret
    exact ⟨rfl, HB9.out⟩)

set_option maxRecDepth 100000 in
set_option maxHeartbeats 4000000 in
theorem says_7 (w : World) (a b : ByteArray) (ha : a.size ≤ 140737488355328) (hb : b.size ≤ 140737488355328) (hM : Mx w) (hL : Laid w)
    (h1 : ¬ pE a.data.toList = 0) (h2 : [47].isPrefixOf b.data.toList = false) (h3 : ¬ pE (joi a.data.toList b.data.toList) = 0) :
    Calls Tryd.prog 3 #[.string a, .string b] w fun e w' => e = .returned (.bool true) ∧ Below w.heap.size w w' := by
  have hsa : a.size ≤ maxLen := by unfold maxLen; omega
  have HR1 : Hid _ := fun (w : World) => rparts_any w a hsa
  have HP : Hid _ := fun (w : World) (hm : Mx w) => parts_any w a hsa hm
  have HN1 : Hid _ := fun (w : World) => name_any w a hsa
  have HN2 : Hid _ := fun (w : World) => rname_any w a hsa
  have HC : Hid _ := fun (w : World) (hm : Mx w) => clean_any w a hsa hm
  have HJ : Hid _ := fun (w : World) (hm : Mx w) => join_path w a b (by omega) (by omega) hm
  have HE1 : Hid _ := fun (w : World) (hl : Laid w) => error_any (pE a.data.toList) ((pE a.data.toList : Nat) : Int) w hl
  have HE2 : Hid _ := fun (w : World) (hl : Laid w) => error_any (pE (joi a.data.toList b.data.toList)) ((pE (joi a.data.toList b.data.toList) : Nat) : Int) w hl
  rw [show (((pE a.data.toList : Nat) : Int) == ((pE a.data.toList : Nat) : Int)) = true from by simp] at HE1
  rw [show (((pE (joi a.data.toList b.data.toList) : Nat) : Int) == ((pE (joi a.data.toList b.data.toList) : Nat) : Int)) = true from by simp] at HE2
  have hJs : (a ++ ⟨#[47]⟩ ++ b).size ≤ maxLen := by rw [size_app, size_app, size_one]; unfold maxLen; omega
  have HR2 : Hid _ := fun (w : World) => rparts_any w (a ++ ⟨#[47]⟩ ++ b) hJs
  rw [show (a ++ ⟨#[47]⟩ ++ b : ByteArray).data.toList = joi a.data.toList b.data.toList from by rw [data_app, data_app, joi_no h2]] at HR2
  have hb1 : Hid (∀ hb0 : 0 < b.size, ((b[0].toNat : Int) == 47) = false) := fun hb0 => by rw [← pre_get b hb0]; exact h2
  have hz1 : (((pE a.data.toList : Nat) : Int) == 0) = false := by rw [beq_eq_false_iff_ne]; omega
  rw [cln_none h1, show bs [] = ⟨#[]⟩ from rfl] at HC
  have hz2 : (((pE (joi a.data.toList b.data.toList) : Nat) : Int) == 0) = false := by rw [beq_eq_false_iff_ne]; omega
  rw [cln_none h3, show bs [] = ⟨#[]⟩ from rfl] at HJ
  clear h1 h2 h3
  generalize hJd : (a ++ ⟨#[47]⟩ ++ b : ByteArray) = J at *
  generalize joi a.data.toList b.data.toList = lj at *
  generalize ((pE a.data.toList : Nat) : Int) = z1 at *
  generalize errV (pE a.data.toList) = y1 at *
  generalize nms a.data.toList = ns1 at *
  generalize ((pE lj : Nat) : Int) = z2 at *
  generalize errV (pE lj) = y2 at *
  generalize nms lj = ns2 at *
  generalize isN a.data.toList = nb at *
  have hnb : (nb == nb) = true := by simp
  have HM : Hid (Mx w) := hM
  have HL : Hid (Laid w) := hL
  clear hM hL hsa
  go_enter Tryd.func3, Tryd.ntmps3
  go_wp2_with fail
  refine (HR1.out w).mono ?_
  rintro e w1 ⟨v1, rfl, hv1, hb1'⟩
  have HM1 : Hid (Mx w1) := HM.out.later hb1'
  have HL1 : Hid (Laid w1) := HL.out.later hb1'
  have HV1 : Hid (StrsIs w1 v1 ns1) := hv1
  have HB1 : Hid (Below w.heap.size w w1) := hb1'
  clear hv1 hb1'
  go_wp2_with fail
  refine (HP.out w1 HM1.out).mono ?_
  rintro e w2 ⟨v2, rfl, hv2, hb2⟩
  have HM2 : Hid (Mx w2) := HM1.out.later hb2
  have HL2 : Hid (Laid w2) := HL1.out.later hb2
  have HV2 : Hid (StrsIs w2 v2 ns1) := hv2
  have HB2 : Hid (Below w.heap.size w w2) := Below.next HB1.out hb2
  have HV12 : Hid (StrsIs w2 v1 ns1) := HV1.out.later (Nat.le_refl _) hb2
  clear hv2 hb2
  go_wp2_with fail
  refine (HN1.out w2).mono ?_
  rintro e w' ⟨rfl, rfl⟩
  go_wp2_with fail
  refine (HN2.out w2).mono ?_
  rintro e w' ⟨rfl, rfl⟩
  go_wp2_with fail
  refine (HE1.out w2 HL2.out).mono ?_
  rintro e w3 ⟨rfl, hbx⟩
  have HM3 : Hid (Mx w3) := HM2.out.later hbx
  have HL3 : Hid (Laid w3) := HL2.out.later hbx
  have HB3 : Hid (Below w.heap.size w w3) := Below.next HB2.out hbx
  have HV3 : Hid (StrsIs w3 v2 ns1) := HV2.out.later (Nat.le_refl _) hbx
  have HV13 : Hid (StrsIs w3 v1 ns1) := HV12.out.later (Nat.le_refl _) hbx
  clear hbx
  go_wp2_with fail
  have HT := texts_any w3 v2 v1 ns1 ns1 HV3.out HV13.out
  rw [eqS_self] at HT
  refine HT.mono ?_
  clear HT
  rintro e w4 ⟨rfl, hbx⟩
  have HM4 : Hid (Mx w4) := HM3.out.later hbx
  have HL4 : Hid (Laid w4) := HL3.out.later hbx
  have HB4 : Hid (Below w.heap.size w w4) := Below.next HB3.out hbx
  clear hbx
  go_wp2_with fail
  refine (HC.out w4 HM4.out).mono ?_
  rintro e w5 ⟨rfl, hbx⟩
  have HM5 : Hid (Mx w5) := HM4.out.later hbx
  have HL5 : Hid (Laid w5) := HL4.out.later hbx
  have HB5 : Hid (Below w.heap.size w w5) := Below.next HB4.out hbx
  clear hbx
  go_wp2_with fail
  refine (HE1.out w5 HL5.out).mono ?_
  rintro e w6 ⟨rfl, hbx⟩
  have HM6 : Hid (Mx w6) := HM5.out.later hbx
  have HL6 : Hid (Laid w6) := HL5.out.later hbx
  have HB6 : Hid (Below w.heap.size w w6) := Below.next HB5.out hbx
  clear hbx
  by_cases hb0 : 0 < b.size
  rotate_left
  all_goals (first | (have hb2 := hb1.out hb0; clear hb1; go_wp2_with fail) | (clear hb1; go_wp2_with fail))
  all_goals (
    refine (HR2.out w6).mono ?_
    rintro e w7 ⟨v7, rfl, hv7, hbx⟩
    have HM7 : Hid (Mx w7) := HM6.out.later hbx
    have HL7 : Hid (Laid w7) := HL6.out.later hbx
    have HV7 : Hid (StrsIs w7 v7 ns2) := hv7
    have HB7 : Hid (Below w.heap.size w w7) := Below.next HB6.out hbx
    clear hv7 hbx
    go_wp2_with fail
    refine (HJ.out w7 HM7.out).mono ?_
    rintro e w8 ⟨rfl, hbx⟩
    have HL8 : Hid (Laid w8) := HL7.out.later hbx
    have HB8 : Hid (Below w.heap.size w w8) := Below.next HB7.out hbx
    clear hbx
    go_wp2_with fail
    refine (HE2.out w8 HL8.out).mono ?_
    rintro e w9 ⟨rfl, hbx⟩
    have HB9 : Hid (Below w.heap.size w w9) := Below.next HB8.out hbx
    clear hbx
    go_wp2_with fail
    go_ret
    exact ⟨rfl, HB9.out⟩)

/-- The law, for any two texts. -/
theorem pathSays_any (w : World) (a b : ByteArray) (ha : a.size ≤ 140737488355328) (hb : b.size ≤ 140737488355328) (hM : Mx w) (hL : Laid w) :
    Calls Tryd.prog 3 #[.string a, .string b] w fun e w' => e = .returned (.bool true) ∧ Below w.heap.size w w' := by
  by_cases h1 : pE a.data.toList = 0
  · cases h2 : [47].isPrefixOf b.data.toList with
    | true =>
      by_cases h3 : pE (joi a.data.toList b.data.toList) = 0
      · exact says_0 w a b ha hb hM hL h1 h2 h3
      · exact says_1 w a b ha hb hM hL h1 h2 h3
    | false =>
      by_cases h3 : pE (joi a.data.toList b.data.toList) = 0
      · exact says_2 w a b ha hb hM hL h1 h2 h3
      · exact says_3 w a b ha hb hM hL h1 h2 h3
  · cases h2 : [47].isPrefixOf b.data.toList with
    | true =>
      by_cases h3 : pE (joi a.data.toList b.data.toList) = 0
      · exact says_4 w a b ha hb hM hL h1 h2 h3
      · exact says_5 w a b ha hb hM hL h1 h2 h3
    | false =>
      by_cases h3 : pE (joi a.data.toList b.data.toList) = 0
      · exact says_6 w a b ha hb hM hL h1 h2 h3
      · exact says_7 w a b ha hb hM hL h1 h2 h3

end Go.Proofs.YtdfobojkmilcbaaDoor
