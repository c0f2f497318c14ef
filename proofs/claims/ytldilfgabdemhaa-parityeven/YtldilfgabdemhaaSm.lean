/- This text proves that platterholdlaw1.ParitySmall returns true for all rows, each number and each list that lie in memory, and writes into nothing that was there; the only condition is that the slices lie there. -/
import Derived.Test.YtldilfgabdemhaaFa
import Derived.Test.YtldilfgabdemhaaMa
import Derived.Deep.Slices
namespace Go.Proofs.Ytldilfgabdemhaa
open Go.RowKit Go.Deep

theorem Try.info27 : (Try.prog.info? 27).map (fun i => (i.zero, i.size, i.bytes)) = some (some (.slice none 0 0), 1, 24) := by kernel_rfl

/-- The slices' values, as a list. -/
theorem RowsIs.parts {w : World} {v : Value} {rs : List (List Int)} (h : RowsIs w v rs) : ∃ a cap b off, ∃ vs : List Value, v = .slice a rs.length cap ∧ rs.length ≤ maxLen ∧ vs.length = rs.length ∧
    (0 < rs.length → a = some ⟨b, off, none⟩) ∧ (0 < rs.length → b < w.heap.size) ∧ ∀ i (hi : i < vs.length), w.cell? ⟨b, off + i, none⟩ = some vs[i] ∧ SliceIs w vs[i] (rowAt rs i) := by
  obtain ⟨a, cap, hv, hl, hx⟩ := h
  by_cases hne : rs = []
  · subst hne
    exact ⟨a, cap, 0, 0, [], hv, hl, rfl, fun h => by simp at h, fun h => by simp at h, fun i hi => by simp at hi⟩
  · obtain ⟨b, off, h1, h2, h3⟩ := hx hne
    obtain ⟨f, hf⟩ := choose_lt h3
    exact ⟨a, cap, b, off, (List.range rs.length).map f, hv, hl, by simp, fun _ => h1, fun _ => h2, fun i hi => by
      have hi' : i < rs.length := by simpa using hi
      simpa using hf i hi'⟩

theorem SliceIs.one {w : World} {v : Value} {xs : List Int} (h : SliceIs w v xs) : v.oneCell' = true := by
  obtain ⟨a, c, rfl, _⟩ := h
  rfl

/-- A slice of slices of the call's own. -/
theorem rows_own {w : World} {base : Nat} {g n cap : Nat} {vs : List Value} {rs : List (List Int)} (h : w.ownsRow base 27 1 (.slice (some ⟨g, 0, none⟩) n cap) n vs) (hg : g < w.heap.size) (hm : n ≤ maxLen) (hv : vs.length = n) (hr : rs.length = n)
    (hs : ∀ i (hi : i < vs.length), SliceIs w vs[i] (rowAt rs i)) : RowsIs w (.slice (some ⟨g, 0, none⟩) n cap) rs := by
  refine ⟨_, cap, by rw [hr], by rw [hr]; exact hm, fun _ => ⟨g, 0, rfl, hg, fun i hi => ?_⟩⟩
  have hi' : i < vs.length := by rw [hv, ← hr]; exact hi
  refine ⟨vs[i], ?_, hs i hi'⟩
  rw [Nat.zero_add, h.cellAt i (by rw [← hv]; omega)]
  simp [hi']

theorem own_slice {w : World} {base e n : Nat} {v : Value} {vs : List Value} (h : w.ownsRow base e 1 v n vs) (hn : 0 < n) : ∃ g cap, v = .slice (some ⟨g, 0, none⟩) n cap ∧ base ≤ g ∧ g < w.heap.size := by
  rcases h.2 with ⟨_, h0⟩ | ⟨g, cap, cur, h1, h2, h3, _⟩
  · omega
  · exact ⟨g, cap, h1, h2, (Array.getElem?_eq_some_iff.1 h3).1⟩

theorem rows_set {rs : List (List Int)} {vs : List Value} {w : World} {k : Nat} {v : Value} {x : List Int} (hk : k < rs.length) (hx : SliceIs w v x) (h : ∀ i (hi : i < vs.length), SliceIs w vs[i] (rowAt rs i)) :
    ∀ i (hi : i < (vs.set k v).length), SliceIs w (vs.set k v)[i] (rowAt (rs.set k x) i) := by
  intro i hi
  rw [rowAt_set x hk, List.getElem_set]
  by_cases e : i = k
  · subst e; simpa using hx
  · rw [if_neg (fun h => e h.symm), if_neg e]
    exact h i (by simpa using hi)

set_option maxHeartbeats 4000000 in
theorem small_walk (w : World) (vr vi : Value) (k : Int) (rs : List (List Int)) (xi : List Int) (hr : RowsIs w vr rs) (hx : SliceIs w vi xi) :
    Calls Try.prog 4 #[vr, .int .i64 k, vi] w fun e w' => e = .returned (.bool true) ∧ Below w.heap.size w w' := by
  obtain ⟨i, hi, hz0, hz1, hz2⟩ := info_parts Try.info27
  obtain ⟨ai, ci, rfl, hli, hxi⟩ := hx
  have hx : SliceIs w (.slice ai xi.length ci) xi := ⟨ai, ci, rfl, hli, hxi⟩
  clear hli hxi
  by_cases he : checkE rs = 0
  · have hg := checkE_zero.1 he
    obtain ⟨n, hn⟩ : ∃ n, n = (rowAt rs 0).length := ⟨_, rfl⟩
    rw [← hn] at hg
    clear hn
    obtain ⟨ar, capr, rfl, hlr, hxr⟩ := hr
    have hr : RowsIs w (.slice ar rs.length capr) rs := ⟨ar, capr, rfl, hlr, hxr⟩
    clear hxr
    have hm8 : rs.length ≤ 8 := hg.2.1
    obtain ⟨m, hm⟩ : ∃ m, m = rs.length := ⟨_, rfl⟩
    have HM : Hid (m = rs.length) := hm
    have HG : Hid (GoodRows n rs) := hg
    have HE : Hid (checkE rs = 0) := he
    rw [← hm] at hr hm8 ⊢
    clear hm hlr hg he
    by_cases hk : 0 ≤ k ∧ k ≤ (m : Int) - 1
    · obtain ⟨kn, rfl⟩ := Int.eq_ofNat_of_zero_le hk.1
      have hkm : kn < m := by omega
      have h0m : 0 < m := by omega
      go_enter Try.func4, Try.ntmps4
      go_wp2_with fail
      refine (fact_any _).mono ?_
      rintro e w1 ⟨rfl, hb1⟩
      have hr1 := hr.later hb1
      go_wp2_with fail
      refine (of_ok _ _ _ hr1 HE.out).mono ?_
      rintro e w2 ⟨v2, rfl, hs2, hb2⟩
      obtain ⟨a2, c2, rfl, hl2, hi2⟩ := hs2
      have hs2 : SliceIs w2 (.slice a2 (parity rs).length c2) (parity rs) := ⟨a2, c2, rfl, hl2, hi2⟩
      clear hl2 hi2
      have hr2 := hr1.later hb2
      have hx2 := (hx.later hb1).later hb2
      have hbb : Below w.heap.size w w2 := hb1.trans (hb2.mono hb1.size)
      clear hr hx hr1 hb1 hb2
      go_wp2_with fail
      refine (in_any _ _ _ _).mono ?_
      rintro e w3 ⟨rfl, rfl⟩
      rw [decide_eq_true hk]
      obtain ⟨ar', capr', b, off, vs, hv, _, hvl, ha, hbw, hcs⟩ := hr2.parts
      rw [← HM.out] at hv hvl ha hbw
      cases hv
      have haa := ha h0m
      subst haa
      clear ha
      have HV : Hid (vs.length = m) := hvl
      have HCS : Hid (∀ i (hi : i < vs.length), w2.cell? ⟨b, off + i, none⟩ = some vs[i] ∧ SliceIs w2 vs[i] (rowAt rs i)) := hcs
      have hbw := hbw h0m
      have hkm' : (kn : Int) < (m : Int) := by omega
      clear hvl hcs hk
      go_wp2_with (at_builtin; refine wpList_append_own _ rfl (.tmp 33) (.tmp 34) 26 rfl w2.heap.size 27 i (.slice none 0 0) 1 24 Try.underlying26 hi hz0 hz1 hz2 rfl (by decide) (.slice none 0 0) 0 [] rfl (World.ownsRow_nil _ _ _ _) ⟨b, off, none⟩ m capr vs rfl ?q1 ?q2 ?q3 ?q4 ?q5 ?q6 ?q7)
      case q1 => rw [HV.out]; omega
      case q2 =>
        intro j u hu
        obtain ⟨hj, rfl⟩ := List.getElem?_eq_some_iff.1 hu
        rw [Go.WideShapes.add_plain]
        exact (HCS.out j hj).1
      case q3 =>
        intro u hu
        obtain ⟨j, hj, rfl⟩ := List.getElem_of_mem hu
        exact (HCS.out j hj).2.one
      case q4 => unfold maxLen; omega
      case q5 => omega
      case q6 => exact Nat.le_refl _
      case q7 =>
        intro v3 w3 hown hgr _
        obtain ⟨g, cap3, hv3, hg1, hg2⟩ := own_slice hown h0m
        rw [hv3]
        rw [hv3] at hown
        clear hv3
        have hb3 : Below w2.heap.size w2 w3 := (Below.refl _ _).grown hgr (Nat.le_refl _) (fun k e => by cases e)
        have HB3 : Hid (Below w2.heap.size w2 w3) := hb3
        have HO : Hid (w3.ownsRow w2.heap.size 27 1 (.slice (some ⟨g, 0, none⟩) m cap3) m vs) := hown
        have hck : w3.cell? ⟨g, kn, none⟩ = vs[kn]? := hown.cellAt kn (by omega)
        obtain ⟨vk, hvk, hcellk, hslk⟩ : ∃ vk, vs[kn]? = some vk ∧ w2.cell? ⟨b, off + kn, none⟩ = some vk ∧ SliceIs w2 vk (rowAt rs kn) := by
          have hl : kn < vs.length := by rw [HV.out]; exact hkm
          exact ⟨vs[kn], List.getElem?_eq_getElem hl, (HCS.out kn hl).1, (HCS.out kn hl).2⟩
        rw [hvk] at hck
        obtain ⟨ak, ck, hvk2, _, _⟩ := id hslk
        subst hvk2
        clear hvk
        have hfk : w3.frozen? ⟨g, kn, none⟩ = false := hown.frozenAt kn
        clear hgr hown hb3
        have hst := HO.out.stored kn (.slice ai xi.length ci)
        have HW4 : Hid (Below w2.heap.size w2 (w3.setCell ⟨g, kn, none⟩ (.slice ai xi.length ci))) := HB3.out.setCell hg1 _
        have hr4 : RowsIs (w3.setCell ⟨g, kn, none⟩ (.slice ai xi.length ci)) (.slice (some ⟨g, 0, none⟩) m cap3) (rs.set kn xi) :=
          rows_own hst.1 (by simpa [World.setCell] using hg2) (by unfold maxLen; omega) (by simpa using HV.out) (by simpa using HM.out.symm)
            (rows_set (by rw [← HM.out]; exact hkm) (hx2.later HW4.out) (fun i hi => (HCS.out i hi).2.later HW4.out))
        have hs4 := hs2.later HW4.out
        have hx4 := hx2.later HW4.out
        have hk4 := hslk.later HW4.out
        have hrow4 : (w3.setCell ⟨g, kn, none⟩ (.slice ai xi.length ci)).cell? ⟨b, off + kn, none⟩ = some (.slice ak (rowAt rs kn).length ck) := by
          rw [HW4.out.cell (p := ⟨b, off + kn, none⟩) hbw]; exact hcellk
        obtain ⟨w4, hw4⟩ : ∃ w4, w4 = w3.setCell ⟨g, kn, none⟩ (.slice ai xi.length ci) := ⟨_, rfl⟩
        go_wp2_with fail
        rw [← hw4] at HW4 hr4 hs4 hx4 hk4 hrow4 ⊢
        clear hw4 hst hck hfk HB3 HO hx2 hs2 hr2 hcellk hslk
        have HP : Hid (Good n (parity rs)) := parity_good HG.out
        have HPL : Hid ((parity rs).length = n) := HP.out.2.1
        have HK : Hid (kn < rs.length) := by rw [← HM.out]; exact hkm
        have hbw4 : b < w4.heap.size := Nat.lt_of_lt_of_le hbw HW4.out.size
        by_cases hln : xi.length = n
        · have hq : ((xi.length : Int) == ((parity rs).length : Int)) = true := by rw [hln, HPL.out]; simp
          have HLN : Hid (xi.length = n) := hln
          clear hln
          by_cases hgx : Good n xi
          · have HE1 : Hid (checkE (rs.set kn xi) = 0) := checkE_of (set_good HK.out HG.out hgx)
            have HE2 : Hid (checkE [parity rs, rowAt rs kn, xi] = 0) := checkE_of (three_good HP.out (HG.out.2.2 kn HK.out) hgx)
            have HE3 : Hid (eqB (parity [parity rs, rowAt rs kn, xi]) (parity (rs.set kn xi)) = true) := by
              show eqB _ _ = true
              rw [small_is HK.out HG.out hgx]
              exact decide_eq_true rfl
            refine (of_ok _ _ _ hr4 HE1.out).mono ?_
            rintro e w5 ⟨v5, rfl, hs5, hb5⟩
            have hrow5 : w5.cell? ⟨b, off + kn, none⟩ = some (.slice ak (rowAt rs kn).length ck) := by
              rw [hb5.cell (p := ⟨b, off + kn, none⟩) hbw4]; exact hrow4
            have hm5 := hs4.later hb5
            have hx5 := hx4.later hb5
            have hk5 := hk4.later hb5
            clear hrow4 hr4 hs4 hx4 hk4
            go_wp2_with fail
            refine (small_ok _ _ _ _ _ _ _ hm5 hk5 hx5 HE2.out).mono ?_
            rintro e w6 ⟨v6, rfl, hs6, hb6⟩
            have hs56 := hs5.later hb6
            clear hrow5 hm5 hx5 hk5 hs5
            go_wp2_with fail
            refine (ints_any _ _ _ _ _ hs6 hs56).mono ?_
            rintro e w7 ⟨rfl, q, rfl⟩
            rw [HE3.out]
            go_wp2
            go_ret
            have hb24 : Below w.heap.size w w4 := hbb.trans (HW4.out.mono hbb.size)
            have hb25 : Below w.heap.size w w5 := hb24.trans (hb5.mono hb24.size)
            exact ⟨rfl, (hb25.trans (hb6.mono hb25.size)).trans (below_drewN _ _ _)⟩
          · have HE1 : Hid (checkE (rs.set kn xi) ≠ 0) := fun h => hgx (set_zero HK.out HG.out HLN.out h)
            have HE2 : Hid (checkE [parity rs, rowAt rs kn, xi] ≠ 0) := fun h => hgx (three_zero HPL.out h)
            refine (of_err _ _ _ hr4 HE1.out).mono ?_
            rintro e w5 ⟨rfl, rfl⟩
            go_wp2_with fail
            refine (small_err _ _ _ _ _ _ _ hs4 hk4 hx4 HE2.out).mono ?_
            rintro e w6 ⟨rfl, hb6⟩
            go_wp2
            go_ret
            have hb24 : Below w.heap.size w w4 := hbb.trans (HW4.out.mono hbb.size)
            exact ⟨rfl, hb24.trans (hb6.mono hb24.size)⟩
        · have hq : ((xi.length : Int) == ((parity rs).length : Int)) = false := by rw [HPL.out]; simp; omega
          have HE2 : Hid (checkE [parity rs, rowAt rs kn, xi] ≠ 0) := fun h => hln (three_zero HPL.out h).2.1
          have hb24 : Below w.heap.size w w4 := hbb.trans (HW4.out.mono hbb.size)
          by_cases he1 : checkE (rs.set kn xi) = 0
          · refine (of_ok _ _ _ hr4 he1).mono ?_
            rintro e w5 ⟨v5, rfl, hs5, hb5⟩
            have hrow5 : w5.cell? ⟨b, off + kn, none⟩ = some (.slice ak (rowAt rs kn).length ck) := by
              rw [hb5.cell (p := ⟨b, off + kn, none⟩) hbw4]; exact hrow4
            have hm5 := hs4.later hb5
            have hx5 := hx4.later hb5
            have hk5 := hk4.later hb5
            clear hrow4 hr4 hs4 hx4 hk4 he1
            go_wp2_with fail
            refine (small_err _ _ _ _ _ _ _ hm5 hk5 hx5 HE2.out).mono ?_
            rintro e w6 ⟨rfl, hb6⟩
            go_wp2
            go_ret
            have hb25 : Below w.heap.size w w5 := hb24.trans (hb5.mono hb24.size)
            exact ⟨rfl, hb25.trans (hb6.mono hb25.size)⟩
          · refine (of_err _ _ _ hr4 he1).mono ?_
            rintro e w5 ⟨rfl, rfl⟩
            go_wp2_with fail
            refine (small_err _ _ _ _ _ _ _ hs4 hk4 hx4 HE2.out).mono ?_
            rintro e w6 ⟨rfl, hb6⟩
            go_wp2
            go_ret
            exact ⟨rfl, hb24.trans (hb6.mono hb24.size)⟩
    · go_enter Try.func4, Try.ntmps4
      go_wp2_with fail
      refine (fact_any _).mono ?_
      rintro e w1 ⟨rfl, hb1⟩
      have hr1 := hr.later hb1
      go_wp2_with fail
      refine (of_ok _ _ _ hr1 HE.out).mono ?_
      rintro e w2 ⟨v2, rfl, hs2, hb2⟩
      go_wp2_with fail
      refine (in_any _ _ _ _).mono ?_
      rintro e w3 ⟨rfl, rfl⟩
      rw [decide_eq_false hk]
      go_wp2
      go_ret
      exact ⟨rfl, hb1.trans (hb2.mono hb1.size)⟩
  · go_enter Try.func4, Try.ntmps4
    go_wp2_with fail
    refine (fact_any _).mono ?_
    rintro e w1 ⟨rfl, hb1⟩
    have hr1 := hr.later hb1
    go_wp2_with fail
    refine (of_err _ _ _ hr1 he).mono ?_
    rintro e w2 ⟨rfl, rfl⟩
    go_wp2
    go_ret
    exact ⟨rfl, hb1⟩

end Go.Proofs.Ytldilfgabdemhaa
