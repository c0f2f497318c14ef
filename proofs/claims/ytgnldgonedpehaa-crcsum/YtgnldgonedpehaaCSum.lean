/- This text proves that platterholdlaw1.CrcSum returns true for any two lists, and lets all old memory be; the only condition is that the slices lie there. -/
import Derived.Test.YtgnldgonedpehaaCf
import Derived.Test.YtgnldgonedpehaaIn
import Derived.Test.YtgnldgonedpehaaRy
import Derived.Test.YtgnldgonedpehaaSp
namespace Go.Proofs.Ytgnldgonedpehaa
open Go.RowKit Go.Deep

/-- Two lists of bytes, taken together by exclusive or. -/
def sumTo (xa xb : List Int) (j : Nat) : List Int := fl j (fun i => fnL xa i ^^^ fnL xb i)

theorem sumTo_succ (xa xb : List Int) (j : Nat) : cellsOf (sumTo xa xb j) ++ [.int .i64 ((fnL xa j ^^^ fnL xb j : Nat) : Int)] = cellsOf (sumTo xa xb (j + 1)) := by
  rw [cellsOf_snoc]
  exact congrArg cellsOf (fl_snoc j _)

theorem sumTo_E {xa xb : List Int} {j : Nat} (hj : j ≤ 64) (ha : ∀ i, i < xa.length → isByte (nth xa i)) (hb : ∀ i, i < xb.length → isByte (nth xb i)) : bytE (sumTo xa xb j) = 0 := by
  refine bytE_ok (by unfold sumTo; rw [fl_len]; exact hj) fun i hi => ?_
  unfold sumTo at hi ⊢
  rw [fl_len] at hi
  rw [fl_nth hi]
  exact isByte_of_nat (Nat.xor_lt_two_pow (n := 8) (fnL_byte ha i) (fnL_byte hb i))

theorem sumTo_crc {xa xb : List Int} (hl : xa.length = xb.length) : crcL (sumTo xa xb xa.length) = crcL xa ^^^ crcL xb := by
  unfold crcL sumTo
  rw [fl_len, crcN_congr (g := fun i => fnL xa i ^^^ fnL xb i) fun i hi => by
    show (nth (fl xa.length fun i => fnL xa i ^^^ fnL xb i) i).toNat = fnL xa i ^^^ fnL xb i
    rw [fl_nth hi]; rfl]
  rw [crcN_xor, hl]

set_option maxHeartbeats 4000000 in
theorem csum_err1 (w : World) (va vb : Value) (xa xb : List Int) (ha : SliceIs w va xa) (hb : SliceIs w vb xb) (he : bytE xa ≠ 0) :
    Calls Try.prog 3 #[va, vb] w fun e w' => e = .returned (.bool true) ∧ Below w.heap.size w w' := by
  have HE : Hid (sumV xa = _) := sumV_no he
  have HA : Hid (SliceIs w va xa) := ha
  have HB : Hid (SliceIs w vb xb) := hb
  have HV : Hid (∃ x y, sumV xb = .tuple #[x, y]) := ⟨_, _, rfl⟩
  clear he ha hb
  go_enter Try.func3, Try.ntmps3
  go_wp2_with fail
  refine (cfact_any w).mono ?_
  rintro e w1 ⟨rfl, hb1⟩
  have HB1 : Hid (Below w.heap.size w w1) := hb1
  clear hb1
  go_wp2_with fail
  refine (sum_any w1 va xa (HA.out.later HB1.out)).mono ?_
  rintro e w2 ⟨rfl, rfl⟩
  rw [HE.out]
  go_wp2_with fail
  refine (sum_any w1 vb xb (HB.out.later HB1.out)).mono ?_
  rintro e w2 ⟨rfl, rfl⟩
  obtain ⟨x, y, hv⟩ := HV.out
  rw [hv]
  go_wp2
  go_ret
  exact ⟨rfl, HB1.out⟩

set_option maxHeartbeats 4000000 in
theorem csum_err2 (w : World) (va vb : Value) (xa xb : List Int) (ha : SliceIs w va xa) (hb : SliceIs w vb xb) (he : bytE xa = 0) (he2 : bytE xb ≠ 0) :
    Calls Try.prog 3 #[va, vb] w fun e w' => e = .returned (.bool true) ∧ Below w.heap.size w w' := by
  have HE : Hid (sumV xa = _) := sumV_ok he
  have HE2 : Hid (sumV xb = _) := sumV_no he2
  have HA : Hid (SliceIs w va xa) := ha
  have HB : Hid (SliceIs w vb xb) := hb
  clear he he2 ha hb
  go_enter Try.func3, Try.ntmps3
  go_wp2_with fail
  refine (cfact_any w).mono ?_
  rintro e w1 ⟨rfl, hb1⟩
  have HB1 : Hid (Below w.heap.size w w1) := hb1
  clear hb1
  go_wp2_with fail
  refine (sum_any w1 va xa (HA.out.later HB1.out)).mono ?_
  rintro e w2 ⟨rfl, rfl⟩
  rw [HE.out]
  go_wp2_with fail
  refine (sum_any w1 vb xb (HB.out.later HB1.out)).mono ?_
  rintro e w2 ⟨rfl, rfl⟩
  rw [HE2.out]
  go_wp2
  go_ret
  exact ⟨rfl, HB1.out⟩

set_option maxHeartbeats 4000000 in
theorem csum_len (w : World) (va vb : Value) (xa xb : List Int) (ha : SliceIs w va xa) (hb : SliceIs w vb xb) (he : bytE xa = 0) (he2 : bytE xb = 0) (hl : xa.length ≠ xb.length) :
    Calls Try.prog 3 #[va, vb] w fun e w' => e = .returned (.bool true) ∧ Below w.heap.size w w' := by
  have HE : Hid (sumV xa = _) := sumV_ok he
  have HE2 : Hid (sumV xb = _) := sumV_ok he2
  have HA : Hid (SliceIs w va xa) := ha
  have HB : Hid (SliceIs w vb xb) := hb
  obtain ⟨aa, ca, rfl, _⟩ := id ha
  obtain ⟨ab, cb, rfl, _⟩ := id hb
  have hne : ((xa.length : Int) != (xb.length : Int)) = true := by simp; omega
  clear he he2 ha hb hl
  go_enter Try.func3, Try.ntmps3
  go_wp2_with fail
  refine (cfact_any w).mono ?_
  rintro e w1 ⟨rfl, hb1⟩
  have HB1 : Hid (Below w.heap.size w w1) := hb1
  clear hb1
  go_wp2_with fail
  refine (sum_any w1 _ xa (HA.out.later HB1.out)).mono ?_
  rintro e w2 ⟨rfl, rfl⟩
  rw [HE.out]
  go_wp2_with fail
  refine (sum_any w1 _ xb (HB.out.later HB1.out)).mono ?_
  rintro e w2 ⟨rfl, rfl⟩
  rw [HE2.out]
  go_wp2
  go_ret
  exact ⟨rfl, HB1.out⟩

set_option maxHeartbeats 8000000 in
theorem csum_good (w : World) (va vb : Value) (xa xb : List Int) (ha : SliceIs w va xa) (hb : SliceIs w vb xb) (he : bytE xa = 0) (he2 : bytE xb = 0) (hl : xa.length = xb.length) :
    Calls Try.prog 3 #[va, vb] w fun e w' => e = .returned (.bool true) ∧ Below w.heap.size w w' := by
  obtain ⟨h64, hba⟩ := bytE_zero he
  obtain ⟨_, hbb⟩ := bytE_zero he2
  have HE : Hid (sumV xa = _) := sumV_ok he
  have HE2 : Hid (sumV xb = _) := sumV_ok he2
  have HA : Hid (SliceIs w va xa) := ha
  have HB : Hid (SliceIs w vb xb) := hb
  have HFA : Hid (∀ i, fnL xa i < 256) := fnL_byte hba
  have HFB : Hid (∀ i, fnL xb i < 256) := fnL_byte hbb
  have HBA : Hid (∀ i, i < xa.length → isByte (nth xa i)) := hba
  have HBB : Hid (∀ i, i < xb.length → isByte (nth xb i)) := hbb
  have HL : Hid (xa.length = xb.length) := hl
  obtain ⟨aa, ca, hva, _⟩ := id ha
  obtain ⟨ab, cb, hvb, _⟩ := id hb
  rw [← hl] at hvb
  obtain ⟨n, hn⟩ : ∃ n, n = xa.length := ⟨_, rfl⟩
  have HN : Hid (n = xa.length) := hn
  rw [← hn] at hva hvb h64
  subst hva hvb
  clear he he2 ha hb hba hbb hl hn
  go_enter Try.func3, Try.ntmps3
  go_wp2_with fail
  refine (cfact_any w).mono ?_
  rintro e w3 ⟨rfl, hb1⟩
  have HB3 : Hid (Below w.heap.size w w3) := hb1
  clear hb1
  go_wp2_with fail
  refine (sum_any w3 _ xa (HA.out.later HB3.out)).mono ?_
  rintro e w2 ⟨rfl, rfl⟩
  rw [HE.out]
  go_wp2_with fail
  refine (sum_any w3 _ xb (HB.out.later HB3.out)).mono ?_
  rintro e w2 ⟨rfl, rfl⟩
  rw [HE2.out]
  obtain ⟨aa', ca', ba, oa, hva, _, haa, hca⟩ := (HA.out.later HB3.out).where
  obtain ⟨ab', cb', bb, ob, hvb, _, hab, hcb⟩ := (HB.out.later HB3.out).where
  rw [← HN.out] at hva haa hca
  rw [← HL.out, ← HN.out] at hvb hab hcb
  cases hva
  cases hvb
  have HCA : Hid (∀ i, i < n → w3.cell? ⟨ba, oa + i, none⟩ = some (.int .i64 (fnL xa i : Int))) := fun i hi => by
    rw [hca i hi, fnL_int HBA.out (by rw [← HN.out]; exact hi)]
  have HCB : Hid (∀ i, i < n → w3.cell? ⟨bb, ob + i, none⟩ = some (.int .i64 (fnL xb i : Int))) := fun i hi => by
    rw [hcb i hi, fnL_int HBB.out (by rw [← HL.out, ← HN.out]; exact hi)]
  have HWA : Hid (0 < n → ba < w3.heap.size ∧ bb < w3.heap.size) := fun h0 => by
    obtain ⟨_, _, e1, _, i1⟩ := HA.out.later HB3.out
    obtain ⟨_, _, e2, _, i2⟩ := HB.out.later HB3.out
    obtain ⟨b1, o1, e3, l1, _⟩ := i1 (fun e => by have h1 := HN.out; rw [e, List.length_nil] at h1; omega)
    obtain ⟨b2, o2, e4, l2, _⟩ := i2 (fun e => by have h1 := HN.out; have h2 := HL.out; rw [e, List.length_nil] at h2; omega)
    have q1 := (Value.slice.inj e1).1
    have q2 := (Value.slice.inj e2).1
    rw [haa h0, e3] at q1
    rw [hab h0, e4] at q2
    cases q1
    cases q2
    exact ⟨l1, l2⟩
  clear hca hcb
  obtain ⟨ti, hti, hz0, hz1, hz2⟩ := info_parts Try.info3
  have hni : ((n : Int) != (n : Int)) = false := by simp
  go_wp2
  go_loopw [10, 11] (fun s i wr => ∃ j : Nat, j ≤ n ∧ i = .int .i64 j ∧ wr.ownsRow w3.heap.size 3 1 s j (cellsOf (sumTo xa xb j)) ∧ Below w3.heap.size w3 wr) (fun _ i _ => n - (intOf i).toNat)
  case atStart => exact ⟨0, Nat.zero_le _, rfl, World.ownsRow_nil _ _ _ _, Below.refl _ _⟩
  case round =>
    obtain ⟨j, hj, rfl, hown, hbel⟩ := hrel
    have HO : Hid (wr.ownsRow w3.heap.size 3 1 u10 j (cellsOf (sumTo xa xb j))) := hown
    have HBL : Hid (Below w3.heap.size w3 wr) := hbel
    clear hown hbel
    by_cases hlt : j < n
    · have e2 := haa (by omega)
      have e3 := hab (by omega)
      subst e2 e3
      have h1 : wr.cell? ⟨ba, oa + j, none⟩ = some (.int .i64 (fnL xa j : Int)) := by rw [HBL.out.cell (p := ⟨ba, oa + j, none⟩) (HWA.out (by omega)).1]; exact HCA.out j hlt
      have h2 : wr.cell? ⟨bb, ob + j, none⟩ = some (.int .i64 (fnL xb j : Int)) := by rw [HBL.out.cell (p := ⟨bb, ob + j, none⟩) (HWA.out (by omega)).2]; exact HCB.out j hlt
      have hj' : (j : Int) < (n : Int) := by omega
      have hxa : fnL xa j < 256 := HFA.out j
      have hxb : fnL xb j < 256 := HFB.out j
      have HSU' : Hid (cellsOf (sumTo xa xb j) ++ [.int .i64 ((fnL xa j ^^^ fnL xb j : Nat) : Int)] = cellsOf (sumTo xa xb (j + 1))) := sumTo_succ xa xb j
      clear haa hab
      generalize fnL xa j = p at h1 hxa HSU'
      generalize fnL xb j = r at h2 hxb HSU'
      go_wp2_with fail
      go_region_law (first
        | (refine step_append_own rfl (.tmp 46) (.tmp 56) 22 rfl w3.heap.size 3 ti (.int .i64 0) 1 8 Try.underlying22 hti hz0 hz1 hz2 rfl (by decide) u10 j (cellsOf (sumTo xa xb j)) (by simp [Act.eval]) (HO.out.alloc _) ⟨wr.heap.size, 0, none⟩ 1 1 [.int .i64 ((p ^^^ r : Nat) : Int)] (by simp [Act.eval]) rfl (fun i u hu => by rw [addr_at]; exact (cell_new wr _ 3 i).trans (by simpa using hu)) (fun u hu => by rw [List.mem_singleton.1 hu]; rfl) (by unfold maxLen; omega) (by omega) (Nat.le_trans HBL.out.size (by simp)) ?_; intro v' w' hown hgr)
        | (go_simp; go_at_call 7; refine (rxor_any p r _ (by omega) (by omega)).mono ?_; rintro e w' ⟨rfl, rfl⟩))
      all_goals
        have HO2 : Hid (w'.ownsRow w3.heap.size 3 1 v' (j + 1) (cellsOf (sumTo xa xb (j + 1)))) := by rw [HSU'.out] at hown; exact hown
        have HB6 : Hid (Below w3.heap.size w3 w') := (HBL.out.alloc HBL.out.size _).drew.grown hgr (by simp; have := HBL.out.size; omega) (fun k e => (HO.out.lt k e).1)
        clear hown hgr
        go_wp2
        go_roundw
        case rel => exact ⟨j + 1, by omega, by go_num, HO2.out, HB6.out⟩
        case measure => simp [intOf]; omega
    · have hjn : j = n := by omega
      subst hjn
      have HS5 : Hid (SliceIs wr u10 (sumTo xa xb j)) := slice_own HO.out (by unfold maxLen; omega)
      have HE5 : Hid (sumV (sumTo xa xb j) = _) := sumV_ok (sumTo_E h64 HBA.out HBB.out)
      have HX : Hid (crcL (sumTo xa xb j) = crcL xa ^^^ crcL xb) := by rw [HN.out]; exact sumTo_crc HL.out
      have HB5 : Hid (Below w.heap.size w wr) := Below.next HB3.out HBL.out
      have hx := crcL_lt xa
      have hy := crcL_lt xb
      clear haa hab
      go_wp2_with fail
      refine (sum_any wr _ (sumTo xa xb j) HS5.out).mono ?_
      rintro e w5 ⟨rfl, rfl⟩
      rw [HE5.out, HX.out]
      have hz : (((crcL xa ^^^ crcL xb : Nat) : Int) == ((crcL xa ^^^ crcL xb : Nat) : Int)) = true := by simp
      go_wp2_with fail
      refine (in_yes (crcL xa : Int) 0 255 wr (by omega)).mono ?_
      rintro e w6 ⟨rfl, rfl⟩
      go_wp2_with fail
      refine (in_yes (crcL xb : Int) 0 255 wr (by omega)).mono ?_
      rintro e w6 ⟨rfl, rfl⟩
      go_wp2_with fail
      refine (rxor_any (crcL xa) (crcL xb) wr (by omega) (by omega)).mono ?_
      rintro e w6 ⟨rfl, rfl⟩
      go_wp2
      go_ret
      exact ⟨rfl, HB5.out⟩

theorem crcSum_any (w : World) (va vb : Value) (xa xb : List Int) (ha : SliceIs w va xa) (hb : SliceIs w vb xb) :
    Calls Try.prog 3 #[va, vb] w fun e w' => e = .returned (.bool true) ∧ Below w.heap.size w w' := by
  by_cases h1 : bytE xa = 0
  · by_cases h2 : bytE xb = 0
    · by_cases h3 : xa.length = xb.length
      · exact csum_good w va vb xa xb ha hb h1 h2 h3
      · exact csum_len w va vb xa xb ha hb h1 h2 h3
    · exact csum_err2 w va vb xa xb ha hb h1 h2
  · exact csum_err1 w va vb xa xb ha hb h1

end Go.Proofs.Ytgnldgonedpehaa
