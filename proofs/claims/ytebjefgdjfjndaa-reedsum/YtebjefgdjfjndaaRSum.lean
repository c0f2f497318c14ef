/- This text proves that platterholdlaw1.ReedSum returns true for any two lists and any number, and lets all old memory be; the only condition is that the slices lie there. -/
import Derived.Test.YtebjefgdjfjndaaRe7
import Derived.Test.YtebjefgdjfjndaaRx
import Derived.Deep.RegionLaw
namespace Go.Proofs.Ytebjefgdjfjndaa
open Go.RowKit Go.Deep

/-- append onto a slice of the call's own, as one step of a region that draws. -/
theorem step_append_own {P : Program} {ops : Array Oper} {o : Oper} {a : Act} {w : World} {K : Act → World → Prop} {Q : Exit → Act → World → Prop} {E : Prop}
    (hg : o.guard = none) (s x : Operand) (t : TypeId) (hop : o.op = Op.call { callee := Callee.builtin Builtin.append, args := #[s, x], argTypes := #[t, t] })
    (base : Nat) (e : TypeId) (i : TypeInfo) (z : Value) (size bytes : Nat) (ht : P.underlying t = some (.slice e)) (hi : P.info? e = some i) (hz : i.zero = some z)
    (hsize : i.size = size) (hby : i.bytes = bytes) (hzs : z.cells.size = size) (hsz : 0 < size)
    (v : Value) (n : Nat) (xs : List Value) (hs : a.eval s = v) (hown : w.ownsRow base e size v n xs)
    (ad : Addr) (m c : Nat) (news : List Value) (hx : a.eval x = .slice (some ad) m c) (hl : news.length = m * size) (hnews : ∀ j u, news[j]? = some u → w.cell? (ad.add j) = some u) (h1 : ∀ u ∈ news, u.oneCell' = true)
    (h63 : n + m ≤ maxLen) (hbytes : (n + m) * bytes ≤ 140737488355328) (hbase : base ≤ w.heap.size)
    (hK : ∀ v' w', w'.ownsRow base e size v' (n + m) (xs ++ news) → w.grownBy w' v.ownBlock → K (a.put o.dst v') w') :
    if Region.wanted o (yielded ops a.tmps) = true then Oper.wp P o a w K Q else E := by
  have hw : Region.wanted o (yielded ops a.tmps) = true := by simp [Region.wanted, hg]
  rw [if_pos hw]
  exact wp_append_own w s x t hop base e i z size bytes ht hi hz hsize hby hzs hsz v n xs hs hown ad m c news hx hl hnews h1 h63 hbytes hbase fun v' w' h2 h3 _ => hK v' w' h2 h3

/-- The sum of two lists, as far as it is made. -/
def sumTo (xa xb : List Int) (j : Nat) : List Int := fl j (fun i => (nth xa i).toNat ^^^ (nth xb i).toNat)

theorem sumTo_succ (xa xb : List Int) (j : Nat) : cellsOf (sumTo xa xb j) ++ [.int .i64 (((nth xa j).toNat ^^^ (nth xb j).toNat : Nat) : Int)] = cellsOf (sumTo xa xb (j + 1)) := by
  simp [cellsOf, sumTo, fl, List.range_succ]

theorem sumTo_len (xa xb : List Int) (j : Nat) : (sumTo xa xb j).length = j := fl_len _ _
theorem sumTo_nth {xa xb : List Int} {j i : Nat} (h : i < j) : nth (sumTo xa xb j) i = (((nth xa i).toNat ^^^ (nth xb i).toNat : Nat) : Int) := fl_nth h

theorem sum_makeE {xa xb : List Int} {n : Nat} {more : Int} (h1 : makeE xa more = 0) (h2 : makeE xb more = 0) (hn : n = xa.length) (hl : xa.length = xb.length) : makeE (sumTo xa xb n) more = 0 := by
  obtain ⟨a1, a2, a3, a4, a5⟩ := makeE_zero h1
  obtain ⟨_, _, b3, _, _⟩ := makeE_zero h2
  unfold makeE
  rw [sumTo_len, if_neg (by omega), if_neg (by omega), if_pos]
  rw [Bool.and_eq_true]
  refine ⟨all_byte fun i hi => ?_, decide_eq_true ⟨a4, a5⟩⟩
  rw [sumTo_len] at hi
  rw [sumTo_nth hi]
  exact isByte_of_nat (xor_byte (toNat_byte a3 i) (toNat_byte b3 i))

/-- The shards of a sum are the sums of shards. -/
theorem sum_code {xa xb y2 y3 y4 : List Int} {n : Nat} {more : Int} {f g h : Nat → Nat} (hn : n = xa.length) (hl : xa.length = xb.length) (h8 : n ≤ 8) (hf : Code xa more f y2) (hg : Code xb more g y3) (hh : Code (sumTo xa xb n) more h y4) (i : Nat) : evF h i n = evF f i n ^^^ evF g i n := by
  have t1 : Thru n (fun i => i) (fun i => (nth (sumTo xa xb n) i).toNat) h := by have := hh.1; rwa [sumTo_len] at this
  have t2 : Thru n (fun i => i) (fun i => (nth (sumTo xa xb n) i).toNat) (fun i => f i ^^^ g i) := by
    refine ⟨fun i => xor_byte (hf.1.1 i) (hg.1.1 i), fun j hj => ?_⟩
    show evF (fun i => f i ^^^ g i) j n = (nth (sumTo xa xb n) j).toNat
    have e1 : evF f j n = (nth xa j).toNat := by have := hf.1.2 j (by omega); rwa [← hn] at this
    have e2 : evF g j n = (nth xb j).toNat := by have := hg.1.2 j (by omega); rwa [← hl, ← hn] at this
    rw [evF_xor, e1, e2, sumTo_nth hj, Int.toNat_natCast]
  rw [t1.same (grows_id n) (fun i hi => by omega) t2 i, evF_xor]

set_option maxHeartbeats 4000000 in
theorem sum_err1 (w : World) (va vb : Value) (xa xb : List Int) (more : Int) (ha : SliceIs w va xa) (hb : SliceIs w vb xb) (he : makeE xa more ≠ 0) :
    Calls Try.prog 5 #[va, vb, .int .i64 more] w fun e w' => e = .returned (.bool true) ∧ Below w.heap.size w w' := by
  have HE : Hid (errV (makeE xa more) = .iface 45 (.int .i64 (makeE xa more : Int))) := errV_pos he
  have HA : Hid (SliceIs w va xa) := ha
  have HB : Hid (SliceIs w vb xb) := hb
  clear he ha hb
  go_enter Try.func5, Try.ntmps5
  go_wp2_with fail
  refine (rfact_any w).mono ?_
  rintro e w1 ⟨rfl, hb1⟩
  have HB1 : Hid (Below w.heap.size w w1) := hb1
  clear hb1
  go_wp2_with fail
  refine (make_any w1 va xa more (HA.out.later HB1.out)).mono ?_
  rintro e w2 ⟨v2, y2, rfl, _, hb2, _, _⟩
  have HB2 : Hid (Below w.heap.size w w2) := Below.next HB1.out hb2
  rw [HE.out]
  clear hb2
  go_wp2_with fail
  refine (make_any w2 vb xb more (HB.out.later HB2.out)).mono ?_
  rintro e w3 ⟨v3, y3, rfl, _, hb3, _, _⟩
  have HB3 : Hid (Below w.heap.size w w3) := Below.next HB2.out hb3
  clear hb3
  go_wp2
  go_ret
  exact ⟨rfl, HB3.out⟩

set_option maxHeartbeats 4000000 in
theorem sum_err2 (w : World) (va vb : Value) (xa xb : List Int) (more : Int) (ha : SliceIs w va xa) (hb : SliceIs w vb xb) (he : makeE xa more = 0) (he2 : makeE xb more ≠ 0) :
    Calls Try.prog 5 #[va, vb, .int .i64 more] w fun e w' => e = .returned (.bool true) ∧ Below w.heap.size w w' := by
  have HE : Hid (errV (makeE xa more) = .nilIface) := by show errV (makeE xa more) = .nilIface; rw [he]; rfl
  have HE2 : Hid (errV (makeE xb more) = .iface 45 (.int .i64 (makeE xb more : Int))) := errV_pos he2
  have HA : Hid (SliceIs w va xa) := ha
  have HB : Hid (SliceIs w vb xb) := hb
  clear he he2 ha hb
  go_enter Try.func5, Try.ntmps5
  go_wp2_with fail
  refine (rfact_any w).mono ?_
  rintro e w1 ⟨rfl, hb1⟩
  have HB1 : Hid (Below w.heap.size w w1) := hb1
  clear hb1
  go_wp2_with fail
  refine (make_any w1 va xa more (HA.out.later HB1.out)).mono ?_
  rintro e w2 ⟨v2, y2, rfl, _, hb2, _, _⟩
  have HB2 : Hid (Below w.heap.size w w2) := Below.next HB1.out hb2
  rw [HE.out]
  clear hb2
  go_wp2_with fail
  refine (make_any w2 vb xb more (HB.out.later HB2.out)).mono ?_
  rintro e w3 ⟨v3, y3, rfl, _, hb3, _, _⟩
  have HB3 : Hid (Below w.heap.size w w3) := Below.next HB2.out hb3
  rw [HE2.out]
  clear hb3
  go_wp2
  go_ret
  exact ⟨rfl, HB3.out⟩

set_option maxHeartbeats 4000000 in
theorem sum_len (w : World) (va vb : Value) (xa xb : List Int) (more : Int) (ha : SliceIs w va xa) (hb : SliceIs w vb xb) (he : makeE xa more = 0) (he2 : makeE xb more = 0) (hl : xa.length ≠ xb.length) :
    Calls Try.prog 5 #[va, vb, .int .i64 more] w fun e w' => e = .returned (.bool true) ∧ Below w.heap.size w w' := by
  have HE : Hid (errV (makeE xa more) = .nilIface) := by show errV (makeE xa more) = .nilIface; rw [he]; rfl
  have HE2 : Hid (errV (makeE xb more) = .nilIface) := by show errV (makeE xb more) = .nilIface; rw [he2]; rfl
  have HA : Hid (SliceIs w va xa) := ha
  have HB : Hid (SliceIs w vb xb) := hb
  obtain ⟨aa, ca, rfl, _⟩ := id ha
  obtain ⟨ab, cb, rfl, _⟩ := id hb
  have hne : ((xa.length : Int) != (xb.length : Int)) = true := by simp; omega
  clear he he2 ha hb hl
  go_enter Try.func5, Try.ntmps5
  go_wp2_with fail
  refine (rfact_any w).mono ?_
  rintro e w1 ⟨rfl, hb1⟩
  have HB1 : Hid (Below w.heap.size w w1) := hb1
  clear hb1
  go_wp2_with fail
  refine (make_any w1 _ xa more (HA.out.later HB1.out)).mono ?_
  rintro e w2 ⟨v2, y2, rfl, _, hb2, _, _⟩
  have HB2 : Hid (Below w.heap.size w w2) := Below.next HB1.out hb2
  rw [HE.out]
  clear hb2
  go_wp2_with fail
  refine (make_any w2 _ xb more (HB.out.later HB2.out)).mono ?_
  rintro e w3 ⟨v3, y3, rfl, _, hb3, _, _⟩
  have HB3 : Hid (Below w.heap.size w w3) := Below.next HB2.out hb3
  rw [HE2.out]
  clear hb3
  go_wp2
  go_ret
  exact ⟨rfl, HB3.out⟩

set_option maxHeartbeats 8000000 in
theorem sum_good (w : World) (va vb : Value) (xa xb : List Int) (more : Int) (ha : SliceIs w va xa) (hb : SliceIs w vb xb) (he : makeE xa more = 0) (he2 : makeE xb more = 0) (hl : xa.length = xb.length) :
    Calls Try.prog 5 #[va, vb, .int .i64 more] w fun e w' => e = .returned (.bool true) ∧ Below w.heap.size w w' := by
  obtain ⟨_, h8, hba, hm0, hm4⟩ := makeE_zero he
  obtain ⟨_, _, hbb, _, _⟩ := makeE_zero he2
  have HE : Hid (errV (makeE xa more) = .nilIface) := by show errV (makeE xa more) = .nilIface; rw [he]; rfl
  have HE2 : Hid (errV (makeE xb more) = .nilIface) := by show errV (makeE xb more) = .nilIface; rw [he2]; rfl
  have HZ : Hid (makeE xa more = 0) := he
  have HZ2 : Hid (makeE xb more = 0) := he2
  have HA : Hid (SliceIs w va xa) := ha
  have HB : Hid (SliceIs w vb xb) := hb
  have HBA : Hid (∀ i, i < xa.length → isByte (nth xa i)) := hba
  have HBB : Hid (∀ i, i < xb.length → isByte (nth xb i)) := hbb
  have HL : Hid (xa.length = xb.length) := hl
  obtain ⟨aa, ca, hva, _⟩ := id ha
  obtain ⟨ab, cb, hvb, _⟩ := id hb
  rw [← hl] at hvb
  obtain ⟨n, hn⟩ : ∃ n, n = xa.length := ⟨_, rfl⟩
  have HN : Hid (n = xa.length) := hn
  rw [← hn] at hva hvb h8
  obtain ⟨k, rfl⟩ : ∃ k : Nat, more = k := ⟨more.toNat, by omega⟩
  have hk4 : k ≤ 4 := by omega
  subst hva hvb
  clear he he2 ha hb hba hbb hl hn hm0 hm4
  go_enter Try.func5, Try.ntmps5
  go_wp2_with fail
  refine (rfact_any w).mono ?_
  rintro e w1 ⟨rfl, hb1⟩
  have HB1 : Hid (Below w.heap.size w w1) := hb1
  clear hb1
  go_wp2_with fail
  refine (make_any w1 _ xa k (HA.out.later HB1.out)).mono ?_
  rintro e w2 ⟨v2, y2, rfl, hs2, hb2, hc2, _⟩
  obtain ⟨f, hf⟩ := hc2 HZ.out
  have HF : Hid (Code xa k f y2) := hf
  have HS2 : Hid (SliceIs w2 v2 y2) := hs2
  have HB2 : Hid (Below w.heap.size w w2) := Below.next HB1.out hb2
  rw [HE.out]
  clear hb2 hc2 hf hs2
  go_wp2_with fail
  refine (make_any w2 _ xb k (HB.out.later HB2.out)).mono ?_
  rintro e w3 ⟨v3, y3, rfl, hs3, hb3, hc3, _⟩
  obtain ⟨g, hg⟩ := hc3 HZ2.out
  have HG : Hid (Code xb k g y3) := hg
  have HS3 : Hid (SliceIs w3 v3 y3) := hs3
  have HS2' : Hid (SliceIs w3 v2 y2) := HS2.out.later hb3
  have HB3 : Hid (Below w.heap.size w w3) := Below.next HB2.out hb3
  rw [HE2.out]
  clear hb3 hc3 hg hs3
  obtain ⟨aa', ca', ba, oa, hva, _, haa, hca⟩ := (HA.out.later HB3.out).where
  obtain ⟨ab', cb', bb, ob, hvb, _, hab, hcb⟩ := (HB.out.later HB3.out).where
  rw [← HN.out] at hva haa hca
  rw [← HL.out, ← HN.out] at hvb hab hcb
  cases hva
  cases hvb
  have HCA : Hid (∀ i, i < n → w3.cell? ⟨ba, oa + i, none⟩ = some (.int .i64 ((nth xa i).toNat : Int))) := fun i hi => by
    rw [hca i hi]
    have := (HBA.out i (by rw [← HN.out]; exact hi)).1
    congr 2; omega
  have HCB : Hid (∀ i, i < n → w3.cell? ⟨bb, ob + i, none⟩ = some (.int .i64 ((nth xb i).toNat : Int))) := fun i hi => by
    rw [hcb i hi]
    have := (HBB.out i (by rw [← HL.out, ← HN.out]; exact hi)).1
    congr 2; omega
  have HWA : Hid (0 < n → ba < w3.heap.size ∧ bb < w3.heap.size) := fun h0 => by
    obtain ⟨_, _, e1, _, i1⟩ := HA.out.later HB3.out
    obtain ⟨_, _, e2, _, i2⟩ := HB.out.later HB3.out
    obtain ⟨b1, o1, e3, l1, _⟩ := i1 (fun e => by have h1 := HN.out; rw [e, List.length_nil] at h1; omega)
    obtain ⟨b2, o2, e4, l2, _⟩ := i2 (fun e => by have h1 := HN.out; have h2 := HL.out; rw [e, List.length_nil] at h2; omega)
    have q1 := (Value.slice.inj e1).1
    have q2 := (Value.slice.inj e2).1
    rw [haa h0, e3] at q1
    rw [hab h0, e4] at q2
    cases q1
    cases q2
    exact ⟨l1, l2⟩
  clear hca hcb
  obtain ⟨ti, hti, hz0, hz1, hz2⟩ := info_parts Try.info3
  have hni : ((n : Int) != (n : Int)) = false := by simp
  go_wp2
  go_loopw [12, 13] (fun s i wr => ∃ j : Nat, j ≤ n ∧ i = .int .i64 j ∧ wr.ownsRow w3.heap.size 3 1 s j (cellsOf (sumTo xa xb j)) ∧ Below w3.heap.size w3 wr) (fun _ i _ => n - (intOf i).toNat)
  case atStart => exact ⟨0, Nat.zero_le _, rfl, World.ownsRow_nil _ _ _ _, Below.refl _ _⟩
  case round =>
    obtain ⟨j, hj, rfl, hown, hbel⟩ := hrel
    rename_i u12
    have HO : Hid (wr.ownsRow w3.heap.size 3 1 u12 j (cellsOf (sumTo xa xb j))) := hown
    have HBL : Hid (Below w3.heap.size w3 wr) := hbel
    clear hown hbel
    by_cases hlt : j < n
    · have e2 := haa (by omega)
      have e3 := hab (by omega)
      subst e2 e3
      have h1 : wr.cell? ⟨ba, oa + j, none⟩ = some (.int .i64 ((nth xa j).toNat : Int)) := by rw [HBL.out.cell (p := ⟨ba, oa + j, none⟩) (HWA.out (by omega)).1]; exact HCA.out j hlt
      have h2 : wr.cell? ⟨bb, ob + j, none⟩ = some (.int .i64 ((nth xb j).toNat : Int)) := by rw [HBL.out.cell (p := ⟨bb, ob + j, none⟩) (HWA.out (by omega)).2]; exact HCB.out j hlt
      have hj' : (j : Int) < (n : Int) := by omega
      have hxa : (nth xa j).toNat < 256 := toNat_byte HBA.out j
      have hxb : (nth xb j).toNat < 256 := toNat_byte HBB.out j
      have HSU := sumTo_succ xa xb j
      have HSU' : Hid (cellsOf (sumTo xa xb j) ++ [.int .i64 (((nth xa j).toNat ^^^ (nth xb j).toNat : Nat) : Int)] = cellsOf (sumTo xa xb (j + 1))) := HSU
      clear HSU haa hab
      generalize (nth xa j).toNat = p at h1 hxa HSU'
      generalize (nth xb j).toNat = r at h2 hxb HSU'
      go_wp2_with fail
      go_region_law (first
        | (refine step_append_own rfl (.tmp 51) (.tmp 61) 22 rfl w3.heap.size 3 ti (.int .i64 0) 1 8 Try.underlying22 hti hz0 hz1 hz2 rfl (by decide) u12 j (cellsOf (sumTo xa xb j)) (by simp [Act.eval]) (HO.out.alloc _) ⟨wr.heap.size, 0, none⟩ 1 1 [.int .i64 ((p ^^^ r : Nat) : Int)] (by simp [Act.eval]) rfl (fun i u hu => by rw [addr_at]; exact (cell_new wr _ 3 i).trans (by simpa using hu)) (fun u hu => by rw [List.mem_singleton.1 hu]; rfl) (by unfold maxLen; omega) (by omega) (Nat.le_trans HBL.out.size (by simp)) ?_; intro v' w' hown hgr)
        | (go_simp; go_at_call 13; refine (rxor_any p r _ (by omega) (by omega)).mono ?_; rintro e w' ⟨rfl, rfl⟩))
      all_goals
        have HO2 : Hid (w'.ownsRow w3.heap.size 3 1 v' (j + 1) (cellsOf (sumTo xa xb (j + 1)))) := by rw [HSU'.out] at hown; exact hown
        have HB6 : Hid (Below w3.heap.size w3 w') := (HBL.out.alloc HBL.out.size _).drew.grown hgr (by simp; have := HBL.out.size; omega) (fun k e => (HO.out.lt k e).1)
        clear hown hgr
        go_wp2
        go_roundw
        case rel => exact ⟨j + 1, by omega, by go_num, HO2.out, HB6.out⟩
        case measure => simp [intOf]; omega
    · have hjn : j = n := by omega
      subst hjn
      obtain ⟨gg, cp, hu, hg1, hg2⟩ := own_where HO.out (by have := makeE_zero HZ.out; rw [HN.out]; exact this.1)
      subst hu
      have HS5 : Hid (SliceIs wr (.slice (some ⟨gg, 0, none⟩) j cp) (sumTo xa xb j)) := slice_owned HO.out (by unfold maxLen; omega) hg2
      have HY2 : Hid (SliceIs wr v2 y2) := HS2'.out.later HBL.out
      have HY3 : Hid (SliceIs wr v3 y3) := HS3.out.later HBL.out
      have HB5 : Hid (Below w.heap.size w wr) := Below.next HB3.out HBL.out
      clear hg1 hg2
      go_wp2_with fail
      refine (make_ok wr _ (sumTo xa xb j) k HS5.out (sum_makeE HZ.out HZ2.out HN.out HL.out)).mono ?_
      rintro e w5 ⟨v5, h, ht5, rfl, hs5, hb5⟩
      rw [sumTo_len] at hs5
      have HH : Hid (Code (sumTo xa xb j) k h (fl (j + k) (fun i => evF h i j))) := ⟨ht5, by rw [sumTo_len]; rfl⟩
      have HY4 : Hid (SliceIs w5 v5 (fl (j + k) (fun i => evF h i j))) := hs5
      have HY2' : Hid (SliceIs w5 v2 y2) := HY2.out.later hb5
      have HY3' : Hid (SliceIs w5 v3 y3) := HY3.out.later hb5
      have HB7 : Hid (Below w.heap.size w w5) := Below.next HB5.out hb5
      clear ht5 hs5 hb5
      have hl2 : y2.length = j + k := by rw [code_len HF.out, ← HN.out]; rfl
      have hl3 : y3.length = j + k := by rw [code_len HG.out, ← HL.out, ← HN.out]; rfl
      obtain ⟨a2, c2, b2, o2, hv2, _, ha2, hc2⟩ := HY2'.out.where
      obtain ⟨a3, c3, b3, o3, hv3, _, ha3, hc3⟩ := HY3'.out.where
      obtain ⟨a4, c4, b4, o4, hv4, _, ha4, hc4⟩ := HY4.out.where
      rw [hl2] at hv2 ha2 hc2
      rw [hl3] at hv3 ha3 hc3
      rw [fl_len] at hv4 ha4 hc4
      have HC2 : Hid (∀ i, i < j + k → w5.cell? ⟨b2, o2 + i, none⟩ = some (.int .i64 (evF f i j : Int))) := fun i hi => by rw [hc2 i hi, code_nth HF.out (by rw [← HN.out]; exact hi), ← HN.out]
      have HC3 : Hid (∀ i, i < j + k → w5.cell? ⟨b3, o3 + i, none⟩ = some (.int .i64 (evF g i j : Int))) := fun i hi => by rw [hc3 i hi, code_nth HG.out (by rw [← HL.out, ← HN.out]; exact hi), ← HL.out, ← HN.out]
      have HC4 : Hid (∀ i, i < j + k → w5.cell? ⟨b4, o4 + i, none⟩ = some (.int .i64 ((evF f i j ^^^ evF g i j : Nat) : Int))) := fun i hi => by rw [hc4 i hi, fl_nth hi, sum_code HN.out HL.out h8 HF.out HG.out HH.out i]
      subst hv2 hv3 hv4
      clear hc2 hc3 hc4 hl2 hl3
      obtain ⟨N, hNe⟩ : ∃ N, N = j + k := ⟨_, rfl⟩
      have HNK : Hid (N = j + k) := hNe
      rw [← hNe] at ha2 ha3 ha4 HC2 HC3 HC4 ⊢
      have hN12 : N ≤ 12 := by omega
      have hnn : ((N : Int) != (N : Int)) = false := by simp
      clear hNe
      go_wp2
      go_loopw [16] (fun i wv => ∃ m : Nat, m ≤ N ∧ i = .int .i64 m ∧ ∃ q, wv = w5.drewN q) (fun i _ => N - (intOf i).toNat)
      case atStart => exact ⟨0, Nat.zero_le _, rfl, 0, rfl⟩
      case round =>
        obtain ⟨m, hm, rfl, q, rfl⟩ := hrel
        by_cases hmN : m < N
        · have e2 := ha2 (by omega)
          have e3 := ha3 (by omega)
          have e4 := ha4 (by omega)
          subst e2 e3 e4
          have h1 := HC2.out m hmN
          have h2 := HC3.out m hmN
          have h3 := HC4.out m hmN
          have hp : evF f m j < 256 := evF_byte HF.out.1.1 (by omega) _
          have hr : evF g m j < 256 := evF_byte HG.out.1.1 (by omega) _
          have hm' : (m : Int) < (N : Int) := by omega
          clear ha2 ha3 ha4
          generalize evF f m j = p at h1 h3 hp
          generalize evF g m j = r at h2 h3 hr
          have A1 : ∀ n, Calls Try.prog 10 #[.int .i64 (p : Int), .int .i64 0, .int .i64 255] (w5.drewN (q + n)) fun e w' => e = .returned (.bool true) ∧ ∃ m, w' = w5.drewN (q + m) :=
            fun n => (in_yes (p : Int) 0 255 _ (by omega)).mono fun _ _ h => ⟨h.1, n, h.2.symm⟩
          have A2 : ∀ n, Calls Try.prog 10 #[.int .i64 (r : Int), .int .i64 0, .int .i64 255] (w5.drewN (q + n)) fun e w' => e = .returned (.bool true) ∧ ∃ m, w' = w5.drewN (q + m) :=
            fun n => (in_yes (r : Int) 0 255 _ (by omega)).mono fun _ _ h => ⟨h.1, n, h.2.symm⟩
          have A3 : ∀ n, Calls Try.prog 13 #[.int .i64 (p : Int), .int .i64 (r : Int)] (w5.drewN (q + n)) fun e w' => e = .returned (.int .i64 ((p ^^^ r : Nat) : Int)) ∧ ∃ m, w' = w5.drewN (q + m) :=
            fun n => (rxor_any p r _ (by omega) (by omega)).mono fun _ _ h => ⟨h.1, n, h.2.symm⟩
          have hx : (((p ^^^ r : Nat) : Int) != ((p ^^^ r : Nat) : Int)) = false := by simp
          generalize ((p ^^^ r : Nat) : Int) = z at h3 A3 hx
          clear hp hr
          go_wp2
          go_quiet (first
            | (go_at_call 13; exact A3 _)
            | (go_at_call_of 10 (Value.int IntKind.i64 (p : Int)); exact A1 _)
            | (go_at_call 10; exact A2 _))
          go_wp2
          go_roundw
          case rel => exact ⟨m + 1, by omega, by go_num, q + nq, rfl⟩
          case measure => simp [intOf]; omega
        · have hmN' : m = N := by omega
          subst hmN'
          have HB8 : Hid (Below w.heap.size w (w5.drewN q)) := Below.next HB7.out (below_drewN _ _ _)
          go_wp2
          go_ret
          exact ⟨rfl, HB8.out⟩

theorem sum_any (w : World) (va vb : Value) (xa xb : List Int) (more : Int) (ha : SliceIs w va xa) (hb : SliceIs w vb xb) :
    Calls Try.prog 5 #[va, vb, .int .i64 more] w fun e w' => e = .returned (.bool true) ∧ Below w.heap.size w w' := by
  by_cases h1 : makeE xa more = 0
  · by_cases h2 : makeE xb more = 0
    · by_cases h3 : xa.length = xb.length
      · exact sum_good w va vb xa xb more ha hb h1 h2 h3
      · exact sum_len w va vb xa xb more ha hb h1 h2 h3
    · exact sum_err2 w va vb xa xb more ha hb h1 h2
  · exact sum_err1 w va vb xa xb more ha hb h1

end Go.Proofs.Ytebjefgdjfjndaa
