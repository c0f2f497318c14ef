/- This text proves what the document's Move answers: the tree with a name moved, or what is wrong; old memory is as it was; the conditions are those of the document's At. -/
import Derived.Test.YtdlmkienogimgaaGreatDoorMb3
import Derived.Deep.RegionHeld3
import Derived.Deep.QuietTactic
import Derived.Deep.DeepCutAuto
namespace Go.Proofs.YtdlmkienogimgaaGreatDoor
open Go.RowKit Go.Deep Go.Shelf

/-- A box of a name. -/
def BoxN (w : World) (b : Nat) (x y : Value) : Prop := w.heap[b]? = some (.cells #[x, y] 90 (0, 0))
theorem BoxN.facts {w : World} {b : Nat} {x y : Value} (h : BoxN w b x y) : w.cell? ⟨b, 0, none⟩ = some x ∧ w.cell? ⟨b, 1, none⟩ = some y ∧ w.frozen? ⟨b, 0, none⟩ = false ∧ w.frozen? ⟨b, 1, none⟩ = false := by
  unfold BoxN at h
  refine ⟨?_, ?_, ?_, ?_⟩ <;> simp [World.cell?, World.frozen?, h]
theorem BoxN.set {w : World} {b : Nat} {x y : Value} (h : BoxN w b x y) (u v : Value) : BoxN ((w.setCell ⟨b, 0, none⟩ u).setCell ⟨b, 1, none⟩ v) b u v := by
  unfold BoxN at h ⊢
  simp [World.setCell, Array.getElem?_modify, h]
theorem boxN_new (w : World) (x y : Value) : BoxN (w.alloc (.cells #[x, y] 90)) w.heap.size x y := blk_alloc_new _ _
theorem row_still {w w' : World} {base e z n : Nat} {v : Value} {xs : List Value} (h : w.ownsRow base e z v n xs) (hb : Below w.heap.size w w') : w'.ownsRow base e z v n xs := by
  refine ⟨h.1, ?_⟩
  rcases h.2 with h0 | ⟨b, cap, cur, h1, h2, h3, h4⟩
  · exact .inl h0
  · exact .inr ⟨b, cap, cur, h1, h2, by rw [hb.block b (Array.getElem?_eq_some_iff.1 h3).1]; exact h3, h4⟩

/-- The document's names with one moved. -/
def mvN (D : List Nm) (P P2 : List UInt8) (e : Nat) : List Nm := if e = 0 then D.map (mvD P P2) else D
theorem mvN_zero (D : List Nm) (P P2 : List UInt8) : mvN D P P2 0 = D.map (mvD P P2) := rfl
theorem mvN_bad {D : List Nm} {P P2 : List UInt8} {e : Nat} (h : e ≠ 0) : mvN D P P2 e = D := if_neg h
theorem mvD_same {P P2 : List UInt8} {x : Nm} (h : x.1 = P) : mvD P P2 x = (P2, x.2) := if_pos h
theorem mvD_under {P P2 : List UInt8} {x : Nm} (h : x.1 ≠ P) (hb : bgn x.1 P = true) : mvD P P2 x = (P2 ++ x.1.drop P.length, x.2) := by unfold mvD; rw [if_neg h, if_pos hb]
theorem mvD_off {P P2 : List UInt8} {x : Nm} (h : x.1 ≠ P) (hb : bgn x.1 P = false) : mvD P P2 x = x := by unfold mvD; rw [if_neg h, if_neg (by rw [hb]; simp)]
theorem dpx_same {P P2 : List UInt8} {x : Nm} (h : x.1 = P) : dpx P P2 x = false := by unfold dpx; simp [h]
theorem dpx_off {P P2 : List UInt8} {x : Nm} (hb : bgn x.1 P = false) : dpx P P2 x = false := by unfold dpx; simp [hb]
theorem dpx_under {P P2 : List UInt8} {x : Nm} (h : x.1 ≠ P) (hb : bgn x.1 P = true) : dpx P P2 x = decide (8 < sls (P2 ++ x.1.drop P.length)) := by unfold dpx; simp [h, hb]
theorem bgn_len {s p : List UInt8} (h : bgn s p = true) : p.length < s.length := by
  unfold bgn at h
  obtain ⟨u, hu⟩ := decide_eq_true_iff.1 h
  have := congrArg List.length hu
  simp at this
  omega
theorem bs_drop (Y2 y Y : ByteArray) : (Y2 ++ y.extract Y.size y.size) = bs (Y2.data.toList ++ y.data.toList.drop Y.data.toList.length) := by
  rw [← bs_data (Y2 ++ y.extract Y.size y.size)]
  congr 1
  have h1 : Y.data.toList.length = Y.size := by rw [Lib.size_eq]
  have h2 : y.data.toList.length = y.size := by rw [Lib.size_eq]
  rw [ByteArray.data_append, Array.toList_append, Lib.extract_data, h1]
  congr 1
  rw [List.take_of_length_le]
  rw [List.length_drop]; omega

set_option maxHeartbeats 8000000 in
set_option maxRecDepth 100000 in
theorem dmove_any (w : World) (vD vB : Value) (L : List Ent) (M : Nat → Option Nat) (num : Nat → Nat) (D : List Nm) (B : List Bool) (hD : NamedIs w vD D) (hB : BoolsIs w vB B) (hm : Mt L M num D B) (s s2 : ByteArray) (hs : s.size ≤ maxLen) (hs2 : s2.size ≤ maxLen) :
    Calls Tryz.prog 22 #[.agg #[vD, vB], .string s, .string s2] w fun e w' => ∃ vD', e = .returned (.tuple #[.agg #[vD', vB], .int .i64 (mvE L M s.data.toList s2.data.toList : Nat)]) ∧ NamedIs w' vD' (mvN D (shw (pN s.data.toList)) (shw (pN s2.data.toList)) (mvE L M s.data.toList s2.data.toList)) ∧ Below w.heap.size w w' := by
  obtain ⟨aD, cD, rfl⟩ := hD.form
  obtain ⟨aB, cB, rfl⟩ := hB.form
  obtain ⟨nD, hnD⟩ : ∃ n, D.length = n := ⟨_, rfl⟩
  obtain ⟨nB, hnB⟩ : ∃ n, B.length = n := ⟨_, rfl⟩
  have HND : Hid (D.length = nD) := hnD
  have HNB : Hid (B.length = nB) := hnB
  rw [hnD] at hD ⊢
  rw [hnB] at hB ⊢
  clear hnD hnB
  have h24 : nD ≤ 24 := by have := hm.few; have := hm.good.few; have := HND.out; omega
  obtain ⟨w1, hw1⟩ : ∃ w1, (w.alloc (.cells #[.slice aD nD cD, .slice aB nB cB] 42)).alloc (.cells #[.slice none 0 0, .slice none 0 0] 42) = w1 := ⟨_, rfl⟩
  have hb1 : Below w.heap.size w w1 := by rw [← hw1]; exact (below_alloc w _).trans ((below_alloc _ _).mono (by simp))
  have hz1 : w1.heap.size = w.heap.size + 2 := by rw [← hw1]; simp
  have k0 : Box2 w1 w.heap.size (.slice aD nD cD) (.slice aB nB cB) := by rw [← hw1]; exact (box2_new w _ _).later (below_alloc _ _)
  have k1 : Box2 w1 (w.heap.size + 1) (.slice none 0 0) (.slice none 0 0) := by
    rw [← hw1]
    have := box2_new (w.alloc (.cells #[.slice aD nD cD, .slice aB nB cB] 42)) (.slice none 0 0) (.slice none 0 0)
    simpa using this
  have HX : Hid (∀ w', Below w1.heap.size w1 w' → Box2 w' w.heap.size (.slice aD nD cD) (.slice aB nB cB) ∧ Box2 w' (w.heap.size + 1) (.slice none 0 0) (.slice none 0 0)) :=
    fun w' hb => ⟨k0.later hb, k1.later hb⟩
  have HB1 : Hid (Below w.heap.size w w1) := hb1
  have HZ1 : Hid (w1.heap.size = w.heap.size + 2) := hz1
  have HSp : Hid _ := fun (w' : World) (hb : Below w.heap.size w w') => dspot_any w' (.slice aD nD cD) (.slice aB nB cB) L M num D B (hD.later hb) (hB.later hb) hm s hs
  have HSq : Hid _ := fun (w' : World) (hb : Below w.heap.size w w') => dspot_any w' (.slice aD nD cD) (.slice aB nB cB) L M num D B (hD.later hb) (hB.later hb) hm s2 hs2
  have HFd : Hid _ := fun (w' : World) (hb : Below w.heap.size w w') => find_any w' (.slice aD nD cD) (.slice aB nB cB) D (hD.later hb)
  have HW1 : Hid ((w.alloc (.cells #[.slice aD nD cD, .slice aB nB cB] 42)).alloc (.cells #[.slice none 0 0, .slice none 0 0] 42) = w1) := hw1
  have HD : Hid (NamedIs w (.slice aD nD cD) D) := hD
  obtain ⟨l, hl⟩ : ∃ l, s.data.toList = l := ⟨_, rfl⟩
  obtain ⟨l2, hl2⟩ : ∃ l, s2.data.toList = l := ⟨_, rfl⟩
  rw [hl] at HSp ⊢
  rw [hl2] at HSq ⊢
  clear k0 k1 hb1 hw1 hl hl2 hz1
  by_cases he : spE L M l = 0
  · obtain ⟨q, kn, d, m, hp, hqk, hk, hlq, hM, hV⟩ := spE_zero hm.good he
    obtain ⟨g1, g2⟩ := pN_right hp
    rw [hqk] at g1 g2
    have hT : spT L M l = shw (q ++ [kn]) := by unfold spT; rw [if_pos he, hqk]
    rw [hT, he] at HSp
    have HPl : Hid ((bs (shw (q ++ [kn]))).size ≤ 41 ∧ (bs (shw (q ++ [kn]))).data.toList = shw (q ++ [kn])) := ⟨by rw [Lib.size_eq, data_bs]; exact (shw_path g1 g2).2.2, data_bs _⟩
    have HF1 : Hid _ := fun (w' : World) (hb : Below w.heap.size w w') => HFd.out w' hb (bs (shw (q ++ [kn])))
    rw [data_bs, hm.find g1 g2] at HF1
    rw [hqk]
    cases hlk : look L (q ++ [kn]) with
    | none =>
      have hE : mvE L M l l2 = 5 := by unfold mvE; rw [if_neg (by simp [he]), hqk, if_pos hlk]
      rw [hE]
      rw [hlk] at HF1
      simp only [nO] at HF1
      generalize shw (q ++ [kn]) = P at *
      generalize bs P = Y at *
      clear hp hqk hk hlq hM hV g1 g2 hT he hlk hE hD hB hm HPl
      go_enter Tryz.func22, Tryz.ntmps22
      go_wp2_with fail
      rw [HW1.out]
      refine Calls.mono (HSp.out w1 HB1.out) ?_
      rintro e w2 ⟨rfl, hb2⟩
      obtain ⟨hx0, hx1⟩ := HX.out w2 hb2
      obtain ⟨x0, x1, _, _⟩ := hx0.facts
      have HB2 : Hid (Below w.heap.size w w2) := HB1.out.trans (hb2.mono HB1.out.size)
      have hG2 : w.heap.size + 2 ≤ w2.heap.size := by have := hb2.size; have := HZ1.out; omega
      clear hb2

      go_wp2_with fail
      refine Calls.mono (HF1.out w2 HB2.out) ?_
      rintro e w3 ⟨rfl, hb3⟩
      have hx0 := hx0.later hb3
      have hx1 := hx1.later hb3
      obtain ⟨x0, x1, _, _⟩ := hx0.facts
      have HB3 : Hid (Below w.heap.size w w3) := HB2.out.trans (hb3.mono HB2.out.size)
      have hG3 : w.heap.size + 2 ≤ w3.heap.size := by have := hb3.size; omega
      clear hb3

      obtain ⟨y0, y1, f0, f1⟩ := hx1.facts
      clear hx0 hx1
      go_wp2_with fail
      refine bodyPost_ret (v := .tuple #[.agg #[.slice aD nD cD, .slice aB nB cB], .int .i64 5]) ?_ rfl ?_
      · rw [results_cell2 rfl]
        go_simp
      · have hf := below_set2 (b := w.heap.size + 1) HB3.out (by omega) (.slice aD nD cD) (.slice aB nB cB)
        exact ⟨_, rfl, by rw [mvN_bad (by decide)]; exact HD.out.later hf, hf⟩
    | some i =>
      rw [hlk] at HF1
      simp only [nO] at HF1
      by_cases he2 : spE L M l2 = 0
      · obtain ⟨q2, kn2, d2, m2, hp2, hqk2, hk2, hlq2, hM2, hV2⟩ := spE_zero hm.good he2
        obtain ⟨j1, j2⟩ := pN_right hp2
        rw [hqk2] at j1 j2
        have hT2 : spT L M l2 = shw (q2 ++ [kn2]) := by unfold spT; rw [if_pos he2, hqk2]
        rw [hT2, he2] at HSq
        have HPl2 : Hid ((bs (shw (q2 ++ [kn2]))).size ≤ 41 ∧ (bs (shw (q2 ++ [kn2]))).data.toList = shw (q2 ++ [kn2])) := ⟨by rw [Lib.size_eq, data_bs]; exact (shw_path j1 j2).2.2, data_bs _⟩
        have HF2 : Hid _ := fun (w' : World) (hb : Below w.heap.size w w') => HFd.out w' hb (bs (shw (q2 ++ [kn2])))
        rw [data_bs, hm.find j1 j2] at HF2
        rw [hqk2]
        cases hlk2 : look L (q2 ++ [kn2]) with
        | some i2 =>
          have hE : mvE L M l l2 = 6 := by
            unfold mvE
            have : frE L M l2 = 6 := by unfold frE; rw [if_neg (by simp [he2]), hqk2, hlk2]; rfl
            rw [if_neg (by simp [he]), hqk, if_neg (by rw [hlk]; simp), this]; rfl
          rw [hE]
          rw [hlk2] at HF2
          simp only [nO] at HF2
          generalize shw (q ++ [kn]) = P at *
          generalize shw (q2 ++ [kn2]) = P2 at *
          generalize bs P = Y at *
          generalize bs P2 = Y2 at *
          generalize num i = z at *
          generalize num i2 = z2 at *
          have hz0 : ¬ ((z : Int) < 0) := by omega
          have hz2 : (0 : Int) ≤ (z2 : Int) := by omega
          clear hp hqk hk hlq hM hV g1 g2 hT he hlk hE hD hB hm HPl hp2 hqk2 hk2 hlq2 hM2 hV2 j1 j2 hT2 he2 hlk2 HPl2
          go_enter Tryz.func22, Tryz.ntmps22
          go_wp2_with fail
          rw [HW1.out]
          refine Calls.mono (HSp.out w1 HB1.out) ?_
          rintro e w2 ⟨rfl, hb2⟩
          obtain ⟨hx0, hx1⟩ := HX.out w2 hb2
          obtain ⟨x0, x1, _, _⟩ := hx0.facts
          have HB2 : Hid (Below w.heap.size w w2) := HB1.out.trans (hb2.mono HB1.out.size)
          have hG2 : w.heap.size + 2 ≤ w2.heap.size := by have := hb2.size; have := HZ1.out; omega
          clear hb2

          go_wp2_with fail
          refine Calls.mono (HF1.out w2 HB2.out) ?_
          rintro e w3 ⟨rfl, hb3⟩
          have hx0 := hx0.later hb3
          have hx1 := hx1.later hb3
          obtain ⟨x0, x1, _, _⟩ := hx0.facts
          have HB3 : Hid (Below w.heap.size w w3) := HB2.out.trans (hb3.mono HB2.out.size)
          have hG3 : w.heap.size + 2 ≤ w3.heap.size := by have := hb3.size; omega
          clear hb3

          go_wp2_with fail
          refine Calls.mono (HSq.out w3 HB3.out) ?_
          rintro e w4 ⟨rfl, hb4⟩
          have hx0 := hx0.later hb4
          have hx1 := hx1.later hb4
          obtain ⟨x0, x1, _, _⟩ := hx0.facts
          have HB4 : Hid (Below w.heap.size w w4) := HB3.out.trans (hb4.mono HB3.out.size)
          have hG4 : w.heap.size + 2 ≤ w4.heap.size := by have := hb4.size; omega
          clear hb4

          go_wp2_with fail
          refine Calls.mono (HF2.out w4 HB4.out) ?_
          rintro e w5 ⟨rfl, hb5⟩
          have hx0 := hx0.later hb5
          have hx1 := hx1.later hb5
          obtain ⟨x0, x1, _, _⟩ := hx0.facts
          have HB5 : Hid (Below w.heap.size w w5) := HB4.out.trans (hb5.mono HB4.out.size)
          have hG5 : w.heap.size + 2 ≤ w5.heap.size := by have := hb5.size; omega
          clear hb5

          obtain ⟨y0, y1, f0, f1⟩ := hx1.facts
          clear hx0 hx1
          go_wp2_with fail
          refine bodyPost_ret (v := .tuple #[.agg #[.slice aD nD cD, .slice aB nB cB], .int .i64 6]) ?_ rfl ?_
          · rw [results_cell2 rfl]
            go_simp
          · have hf := below_set2 (b := w.heap.size + 1) HB5.out (by omega) (.slice aD nD cD) (.slice aB nB cB)
            exact ⟨_, rfl, by rw [mvN_bad (by decide)]; exact HD.out.later hf, hf⟩
        | none =>
          rw [hlk2] at HF2
          simp only [nO] at HF2
          have hfr : frE L M l2 = 0 := by unfold frE; rw [if_neg (by simp [he2]), hqk2, hlk2]; rfl
          have hgd : ((atF L M (pN l2).dropLast).2.getD 0) = d2 := by
            rw [hqk2, List.dropLast_concat]
            rcases atF_cases hm.good q2 with ⟨j, hj, hj2⟩ | ⟨e, _, hj, hj2⟩
            · rw [hj]; rw [hlq2] at hj2; exact (Option.some.inj hj2).symm
            · rw [hlq2] at hj2; cases hj2
          obtain ⟨z1, z2⟩ := hm.dirs _ _ (look_mem hlk)
          have hmet := met_bgn hm.good (p := q ++ [kn]) (by simp) hlk hlq2 (by rw [hM2]; rfl) hk2
          have hdeep := hm.deep (p := q ++ [kn]) (p2 := q2 ++ [kn2]) (by simp) g2 (by simp) j1 j2
          have hdr : mvE L M l l2 = if (M i).isSome && bgn (shw (q2 ++ [kn2])) (shw (q ++ [kn])) then 7 else if (∃ x ∈ D, dpx (shw (q ++ [kn])) (shw (q2 ++ [kn2])) x = true) then 4 else 0 := by
            unfold mvE
            rw [if_neg (by simp [he]), hqk, if_neg (by rw [hlk]; simp), if_neg (by simp [hfr]), hgd, hqk2, hlk, Option.getD_some, hmet]
            simp only [hdeep]
          obtain ⟨mE, hmE⟩ : ∃ n, mvE L M l l2 = n := ⟨_, rfl⟩
          rw [hmE] at hdr ⊢
          obtain ⟨aa, cc, b2, o2, e2, hlB, ha2, hc2⟩ := hB.where
          rw [HNB.out] at e2 hlB
          cases e2
          have hzB : num i < nB := by rw [← HNB.out]; exact z1
          have haa := ha2 (by rw [HNB.out]; omega)
          subst haa
          have hcz := hc2 (num i) z1
          rw [z2] at hcz
          have HCB : Hid (∀ w', Below w.heap.size w w' → w'.cell? ⟨b2, o2 + num i, none⟩ = some (.bool (M i).isSome)) := fun w' hb => keepU hb hcz
          unfold maxLen at hlB
          have HLn : Hid (∀ x ∈ D, x.1.length ≤ 41) := fun x hx => by
            obtain ⟨y, _, hne, e, _, a8, an⟩ := hm.name hx
            rw [e, ← shw_sg hne]; exact (shw_path a8 an).2.2
          generalize shw (q ++ [kn]) = P at *
          generalize hPP : shw (q2 ++ [kn2]) = P2 at *
          generalize bs P = Y at *
          generalize hYY : bs P2 = Y2 at *
          have HY2 : Hid (bs P2 = Y2) := hYY
          clear hYY hPP
          generalize num i = z at *
          generalize (M i).isSome = dv at *
          have hz0 : ¬ ((z : Int) < 0) := by omega
          have HBg : Hid _ := fun (w : World) => begins_any w Y2 Y (by have := HPl.out.1; unfold maxLen; omega)
          rw [HPl.out.2, HPl2.out.2] at HBg
          generalize hbg : bgn P2 P = bg at *
          have HE7 : Hid ((dv && bg) = true → mE = 7) := fun h => by rw [hdr, if_pos h]
          have HE4 : Hid ((dv && bg) = false → (∃ x ∈ D, dpx P P2 x = true) → mE = 4) := fun h h2 => by rw [hdr, if_neg (by rw [h]; simp), if_pos h2]
          have HE0 : Hid ((dv && bg) = false → (¬ ∃ x ∈ D, dpx P P2 x = true) → mE = 0) := fun h h2 => by rw [hdr, if_neg (by rw [h]; simp), if_neg h2]
          clear hp hqk hk hlq hM hV g1 g2 hT he hlk hD hB hm hp2 hqk2 hk2 hlq2 hM2 hV2 j1 j2 hT2 he2 hlk2 hfr hgd z1 z2 hmet hdeep hdr hmE ha2 hc2 hcz hbg
          by_cases hdb : (dv && bg) = true
          · obtain ⟨rfl, rfl⟩ : dv = true ∧ bg = true := by simpa using hdb
            have hE := HE7.out rfl
            subst hE
            go_enter Tryz.func22, Tryz.ntmps22
            go_wp2_with fail
            rw [HW1.out]
            refine Calls.mono (HSp.out w1 HB1.out) ?_
            rintro e w2 ⟨rfl, hb2⟩
            obtain ⟨hx0, hx1⟩ := HX.out w2 hb2
            obtain ⟨x0, x1, _, _⟩ := hx0.facts
            have HB2 : Hid (Below w.heap.size w w2) := HB1.out.trans (hb2.mono HB1.out.size)
            have hG2 : w.heap.size + 2 ≤ w2.heap.size := by have := hb2.size; have := HZ1.out; omega
            clear hb2

            go_wp2_with fail
            refine Calls.mono (HF1.out w2 HB2.out) ?_
            rintro e w3 ⟨rfl, hb3⟩
            have hx0 := hx0.later hb3
            have hx1 := hx1.later hb3
            obtain ⟨x0, x1, _, _⟩ := hx0.facts
            have HB3 : Hid (Below w.heap.size w w3) := HB2.out.trans (hb3.mono HB2.out.size)
            have hG3 : w.heap.size + 2 ≤ w3.heap.size := by have := hb3.size; omega
            clear hb3

            go_wp2_with fail
            refine Calls.mono (HSq.out w3 HB3.out) ?_
            rintro e w4 ⟨rfl, hb4⟩
            have hx0 := hx0.later hb4
            have hx1 := hx1.later hb4
            obtain ⟨x0, x1, _, _⟩ := hx0.facts
            have HB4 : Hid (Below w.heap.size w w4) := HB3.out.trans (hb4.mono HB3.out.size)
            have hG4 : w.heap.size + 2 ≤ w4.heap.size := by have := hb4.size; omega
            clear hb4

            go_wp2_with fail
            refine Calls.mono (HF2.out w4 HB4.out) ?_
            rintro e w5 ⟨rfl, hb5⟩
            have hx0 := hx0.later hb5
            have hx1 := hx1.later hb5
            obtain ⟨x0, x1, _, _⟩ := hx0.facts
            have HB5 : Hid (Below w.heap.size w w5) := HB4.out.trans (hb5.mono HB4.out.size)
            have hG5 : w.heap.size + 2 ≤ w5.heap.size := by have := hb5.size; omega
            clear hb5

            obtain ⟨y0, y1, f0, f1⟩ := hx1.facts
            have cDz := HCB.out w5 HB5.out
            have HFx : Hid _ := fun (w' : World) (hb : Below w5.heap.size w5 w') => HF1.out w' (HB5.out.trans (hb.mono HB5.out.size))
            have HKx : Hid (∀ w', Below w5.heap.size w5 w' → w'.cell? ⟨w.heap.size, 0, none⟩ = some (.slice aD nD cD) ∧ w'.cell? ⟨w.heap.size, 1, none⟩ = some (.slice (some ⟨b2, o2, none⟩) nB cB) ∧ w'.cell? ⟨b2, o2 + z, none⟩ = some (.bool true)) := fun w' hb => ⟨(hx0.later hb).facts.1, (hx0.later hb).facts.2.1, HCB.out w' (HB5.out.trans (hb.mono HB5.out.size))⟩
            go_wp2_with fail
            go_region_held3 (fun w' => w'.cell? ⟨w.heap.size, 0, none⟩ = some (.slice aD nD cD) ∧ w'.cell? ⟨w.heap.size, 1, none⟩ = some (.slice (some ⟨b2, o2, none⟩) nB cB) ∧ w'.cell? ⟨b2, o2 + z, none⟩ = some (.bool true))
              (first | go_keep | (go_split_ands; exact HKx.out _ HB6.out))
              (first
                | (go_at_call 48; refine (HFx.out _ (below_draw _ _)).mono ?_; rintro e w6 ⟨rfl, hb6⟩; have HB6 : Hid (Below w5.heap.size w5 w6) := undrewB hb6)
                | (go_at_call 49; refine (HBg.out _).mono ?_; rintro e w7 ⟨rfl, rfl⟩))
            have hx0 := hx0.later HB6.out
            have hx1 := hx1.later HB6.out
            obtain ⟨x0, x1, g0, g1⟩ := hx0.facts
            obtain ⟨y0, y1, f0, f1⟩ := hx1.facts
            have HB6' : Hid (Below w.heap.size w w6) := HB5.out.trans (HB6.out.mono HB5.out.size)
            have hG6 : w.heap.size + 2 ≤ w6.heap.size := by have := HB6.out.size; omega

            obtain ⟨y0, y1, f0, f1⟩ := hx1.facts
            go_wp2_with fail
            refine bodyPost_ret (v := .tuple #[.agg #[.slice aD nD cD, .slice (some ⟨b2, o2, none⟩) nB cB], .int .i64 7]) ?_ rfl ?_
            · rw [results_cell2 rfl]
              go_simp
            · have hf := below_set2 (b := w.heap.size + 1) HB6'.out (by omega) (.slice aD nD cD) (.slice (some ⟨b2, o2, none⟩) nB cB)
              exact ⟨_, rfl, by rw [mvN_bad (by decide)]; exact HD.out.later hf, hf⟩
          · have hdf : (dv && bg) = false := by simpa using hdb
            have HE4 : Hid _ := HE4.out hdf
            have HE0 : Hid _ := HE0.out hdf
            clear hdb

            go_enter Tryz.func22, Tryz.ntmps22
            go_wp2_with fail
            rw [HW1.out]
            refine Calls.mono (HSp.out w1 HB1.out) ?_
            rintro e w2 ⟨rfl, hb2⟩
            obtain ⟨hx0, hx1⟩ := HX.out w2 hb2
            obtain ⟨x0, x1, _, _⟩ := hx0.facts
            have HB2 : Hid (Below w.heap.size w w2) := HB1.out.trans (hb2.mono HB1.out.size)
            have hG2 : w.heap.size + 2 ≤ w2.heap.size := by have := hb2.size; have := HZ1.out; omega
            clear hb2

            go_wp2_with fail
            refine Calls.mono (HF1.out w2 HB2.out) ?_
            rintro e w3 ⟨rfl, hb3⟩
            have hx0 := hx0.later hb3
            have hx1 := hx1.later hb3
            obtain ⟨x0, x1, _, _⟩ := hx0.facts
            have HB3 : Hid (Below w.heap.size w w3) := HB2.out.trans (hb3.mono HB2.out.size)
            have hG3 : w.heap.size + 2 ≤ w3.heap.size := by have := hb3.size; omega
            clear hb3

            go_wp2_with fail
            refine Calls.mono (HSq.out w3 HB3.out) ?_
            rintro e w4 ⟨rfl, hb4⟩
            have hx0 := hx0.later hb4
            have hx1 := hx1.later hb4
            obtain ⟨x0, x1, _, _⟩ := hx0.facts
            have HB4 : Hid (Below w.heap.size w w4) := HB3.out.trans (hb4.mono HB3.out.size)
            have hG4 : w.heap.size + 2 ≤ w4.heap.size := by have := hb4.size; omega
            clear hb4

            go_wp2_with fail
            refine Calls.mono (HF2.out w4 HB4.out) ?_
            rintro e w5 ⟨rfl, hb5⟩
            have hx0 := hx0.later hb5
            have hx1 := hx1.later hb5
            obtain ⟨x0, x1, _, _⟩ := hx0.facts
            have HB5 : Hid (Below w.heap.size w w5) := HB4.out.trans (hb5.mono HB4.out.size)
            have hG5 : w.heap.size + 2 ≤ w5.heap.size := by have := hb5.size; omega
            clear hb5

            go_upto_region 11 with fail
            go_cut [55] (fun s55 wx => s55 = .bool false ∧ Hid (Below w5.heap.size w5 wx))
            case first =>
              clear HE4 HE0
              cases dv with
              | true =>
                obtain rfl : bg = false := by simpa using hdf
                obtain ⟨y0, y1, f0, f1⟩ := hx1.facts
                have cDz := HCB.out w5 HB5.out
                have HFx : Hid _ := fun (w' : World) (hb : Below w5.heap.size w5 w') => HF1.out w' (HB5.out.trans (hb.mono HB5.out.size))
                have HKx : Hid (∀ w', Below w5.heap.size w5 w' → w'.cell? ⟨w.heap.size, 0, none⟩ = some (.slice aD nD cD) ∧ w'.cell? ⟨w.heap.size, 1, none⟩ = some (.slice (some ⟨b2, o2, none⟩) nB cB) ∧ w'.cell? ⟨b2, o2 + z, none⟩ = some (.bool true)) := fun w' hb => ⟨(hx0.later hb).facts.1, (hx0.later hb).facts.2.1, HCB.out w' (HB5.out.trans (hb.mono HB5.out.size))⟩
                go_wp2_with fail
                go_region_held3 (fun w' => w'.cell? ⟨w.heap.size, 0, none⟩ = some (.slice aD nD cD) ∧ w'.cell? ⟨w.heap.size, 1, none⟩ = some (.slice (some ⟨b2, o2, none⟩) nB cB) ∧ w'.cell? ⟨b2, o2 + z, none⟩ = some (.bool true))
                  (first | go_keep | (go_split_ands; exact HKx.out _ HB6.out))
                  (first
                    | (go_at_call 48; refine (HFx.out _ (below_draw _ _)).mono ?_; rintro e w6 ⟨rfl, hb6⟩; have HB6 : Hid (Below w5.heap.size w5 w6) := undrewB hb6)
                    | (go_at_call 49; refine (HBg.out _).mono ?_; rintro e w7 ⟨rfl, rfl⟩))
                have hx0 := hx0.later HB6.out
                have hx1 := hx1.later HB6.out
                obtain ⟨x0, x1, g0, g1⟩ := hx0.facts
                obtain ⟨y0, y1, f0, f1⟩ := hx1.facts
                have HB6' : Hid (Below w.heap.size w w6) := HB5.out.trans (HB6.out.mono HB5.out.size)
                have hG6 : w.heap.size + 2 ≤ w6.heap.size := by have := HB6.out.size; omega

                go_wp2_with fail
                go_meet
                case rel => exact ⟨rfl, HB6⟩
              | false =>
                have HFx : Hid _ := fun (w' : World) (hb : Below w5.heap.size w5 w') => HF1.out w' (HB5.out.trans (hb.mono HB5.out.size))
                have HKx : Hid (∀ w', Below w5.heap.size w5 w' → w'.cell? ⟨w.heap.size, 0, none⟩ = some (.slice aD nD cD) ∧ w'.cell? ⟨w.heap.size, 1, none⟩ = some (.slice (some ⟨b2, o2, none⟩) nB cB) ∧ w'.cell? ⟨b2, o2 + z, none⟩ = some (.bool false)) := fun w' hb => ⟨(hx0.later hb).facts.1, (hx0.later hb).facts.2.1, HCB.out w' (HB5.out.trans (hb.mono HB5.out.size))⟩
                obtain ⟨u0, u1, cD5⟩ := HKx.out w5 (Below.refl _ _)
                first
                  | (go_region_with (first | (go_at_call 48; refine (HFx.out _ (below_draw _ _)).mono ?_; rintro e w6 ⟨rfl, hb6⟩; have HB6 : Hid (Below w5.heap.size w5 w6) := undrewB hb6; obtain ⟨x60, x61, cD6⟩ := HKx.out w6 HB6.out)))
                  | fail "no way"
                all_goals
                  go_wp2_with fail
                  go_meet
                  case rel => exact ⟨rfl, HB6⟩
            case rest =>
              rename World => w6
              obtain ⟨rfl, HB6⟩ := hcut
              have hx0 := hx0.later HB6.out
              have hx1 := hx1.later HB6.out
              obtain ⟨x0, x1, g0, g1⟩ := hx0.facts
              obtain ⟨y0, y1, f0, f1⟩ := hx1.facts
              have HB6' : Hid (Below w.heap.size w w6) := HB5.out.trans (HB6.out.mono HB5.out.size)
              have hG6 : w.heap.size + 2 ≤ w6.heap.size := by have := HB6.out.size; omega
              obtain ⟨a', c', b, o, e', hl, ha, _, hc⟩ := (HD.out.later HB6'.out).where
              rw [HND.out] at e' hl ha hc
              cases e'
              have HA : Hid (0 < nD → aD = some ⟨b, o, none⟩) := ha
              have HC : Hid (∀ i, i < nD → w6.cell? ⟨b, o + i * 2, none⟩ = some (.string (bs (nAt D i).1)) ∧ w6.cell? ⟨b, o + i * 2 + 1, none⟩ = some (.int .i64 ((nAt D i).2 : Int))) := hc
              unfold maxLen at hl
              have HX0 : Hid (∀ w', Below w6.heap.size w6 w' → Box2 w' w.heap.size (.slice aD nD cD) (.slice (some ⟨b2, o2, none⟩) nB cB)) := fun w' hb => hx0.later hb
              have HX1 : Hid (∀ w', Below w6.heap.size w6 w' → Box2 w' (w.heap.size + 1) (.slice none 0 0) (.slice none 0 0)) := fun w' hb => hx1.later hb
              clear x0 x1 y0 y1 f0 f1 g0 g1 hx0 hx1 ha hc
              go_wp2_with fail
              go_loopw [7, 11, 12] (fun r nm i wr => ∃ (k : Nat) (xs : List Nm), k ≤ nD ∧ r = .int .i64 0 ∧ i = .int .i64 k ∧ Hid (wr.ownsRow w6.heap.size 90 2 nm xs.length (ndc xs)) ∧ xs = (D.take k).map (mvD P P2) ∧ Hid (∀ x ∈ D.take k, dpx P P2 x = false) ∧ Hid (Below w6.heap.size w6 wr)) (fun _ _ i _ => nD - (intOf i).toNat)
              case atStart => exact ⟨0, [], Nat.zero_le _, rfl, rfl, World.ownsRow_nil _ _ _ _, rfl, fun x hx => by simp at hx, Below.refl _ _⟩
              case round =>
                obtain ⟨k, xs, hk, rfl, rfl, HO, hxs, HBs, HB⟩ := hrel
                have HXs : Hid (xs = (D.take k).map (mvD P P2)) := hxs
                obtain ⟨x0, x1, g0, g1⟩ := (HX0.out wr HB.out).facts
                obtain ⟨y0, y1, f0, f1⟩ := (HX1.out wr HB.out).facts
                have hxl : xs.length ≤ k := by rw [hxs, List.length_map, List.length_take]; omega
                clear hxs
                by_cases hlt : k < nD
                · have haa := HA.out (by omega)
                  subst haa
                  have n1 := keepU HB.out (HC.out k hlt).1
                  have n2 := keepU HB.out (HC.out k hlt).2
                  have hkD : k < D.length := by have := HND.out; omega
                  have HTk : Hid (D.take (k + 1) = D.take k ++ [nAt D k]) := by
                    show D.take (k + 1) = _
                    rw [take_one hkD, nAt_lt hkD]
                  have HL : Hid ((nAt D k).1.length ≤ 41) := HLn.out _ (nAt_mem hkD)
                  have HIn : Hid (nAt D k ∈ D) := nAt_mem hkD
                  have HBe : Hid _ := fun (w : World) => begins_any w (bs (nAt D k).1) Y (by have := HPl.out.1; unfold maxLen; omega)
                  rw [data_bs, HPl.out.2] at HBe
                  generalize hx : nAt D k = x at *
                  obtain ⟨xp, xz⟩ := x
                  dsimp only at *
                  have HXp : Hid ((bs xp).data.toList = xp ∧ (bs xp).size ≤ 41) := ⟨data_bs _, by rw [Lib.size_eq, data_bs]; exact HL.out⟩
                  have HXb : Hid (bs xp = bs xp) := rfl
                  clear hx hkD
                  by_cases heq : xp = P
                  · have hq : ((bs xp).toList == Y.toList) = true := by rw [bs_list, Lib.toList_data, HPl.out.2, heq]; simp
                    have HX1 : Hid (xs ++ [(P2, xz)] = (D.take (k + 1)).map (mvD P P2) ∧ ∀ x ∈ D.take (k + 1), dpx P P2 x = false) := by
                      show xs ++ [(P2, xz)] = _ ∧ ∀ x ∈ D.take (k + 1), dpx P P2 x = false
                      rw [HTk.out, List.map_append, ← HXs.out]
                      refine ⟨by rw [List.map_singleton, mvD_same heq], fun x hx => ?_⟩
                      rcases List.mem_append.1 hx with hx | hx
                      · exact HBs.out x hx
                      · rw [List.mem_singleton.1 hx]; exact dpx_same heq
                    have HN1 : Hid (∀ w : World, NamedIs (w.alloc (.cells #[.string Y2, .int .i64 (xz : Int)] 90)) (.slice (some ⟨w.heap.size, 0, none⟩) 1 1) [(P2, xz)]) := fun w => by rw [← HY2.out]; exact names_one w (P2, xz)
                    clear heq HTk HBe HXb
                    generalize bs xp = y at *
                    go_upto_region 24 with fail
                    obtain ⟨w8, hw8⟩ : ∃ w8, wr.alloc (.cells #[.string Y2, .int .i64 (xz : Int)] 90) = w8 := ⟨_, rfl⟩
                    have hbx : BoxN w8 wr.heap.size (.string Y2) (.int .i64 (xz : Int)) := by rw [← hw8]; exact boxN_new _ _ _
                    have HB8 : Hid (Below wr.heap.size wr w8) := by show Below wr.heap.size wr w8; rw [← hw8]; exact below_alloc _ _
                    rw [hw8]
                    obtain ⟨c0, c1, _, _⟩ := hbx.facts
                    have HO8 : Hid (w8.ownsRow w6.heap.size 90 2 u11 xs.length (ndc xs)) := row_still HO.out HB8.out
                    clear hw8 hbx
                    go_wp2_with (at_builtin; refine wpList_append_names rfl (.tmp 96) (.tmp 98) rfl w6.heap.size u11 xs.length xs rfl (HO8.out.alloc _) _ [(P2, xz)] rfl (HN1.out _) ?q1 ?q2 ?q3)
                    case q1 => first | omega | (simp; omega)
                    case q2 => have := HB.out.size; have := HB8.out.size; first | omega | (simp; omega)
                    case q3 =>
                      intro v1 w9 hown hb9
                      have HO1 : Hid (w9.ownsRow w6.heap.size 90 2 v1 (xs ++ [(P2, xz)]).length (ndc (xs ++ [(P2, xz)]))) := by rw [List.length_append]; exact hown
                      have HB9 : Hid (Below w6.heap.size w6 w9) := by
                        have z8 := HB8.out.mono HB.out.size
                        exact (HB.out.trans z8).trans (((below_alloc w8 _).mono (by have := HB.out.size; have := HB8.out.size; omega)).trans hb9)
                      clear hown hb9
                      go_wp2_with fail
                      go_roundw
                      case rel => exact ⟨k + 1, _, by omega, rfl, by go_num, HO1, HX1.out.1, HX1.out.2, HB9⟩
                      case measure => simp [intOf]; omega
                  · have hq : ((bs xp).toList == Y.toList) = false := by rw [bs_list, Lib.toList_data, HPl.out.2]; simp [heq]
                    by_cases hbg : bgn xp P = true
                    · rw [hbg] at HBe
                      have hlen : Y.size < (bs xp).size := by
                        have := bgn_len hbg
                        have e1 : (bs xp).size = xp.length := by rw [Lib.size_eq, data_bs]
                        have e2 : Y.size = P.length := by rw [Lib.size_eq, HPl.out.2]
                        omega
                      have hcat := bs_drop Y2 (bs xp) Y
                      rw [data_bs, HPl.out.2, HPl2.out.2] at hcat
                      have HCat : Hid (Y2 ++ (bs xp).extract Y.size (bs xp).size = bs (P2 ++ xp.drop P.length)) := hcat
                      have hy2 : Y2.size ≤ 41 := HPl2.out.1
                      have hys : (bs xp).size ≤ 41 := HXp.out.2
                      have hes : ((bs xp).extract Y.size (bs xp).size).size ≤ 41 := by rw [ByteArray.size_extract]; omega
                      have HSl : Hid _ := fun (w : World) => slashes_any w (bs (P2 ++ xp.drop P.length)) (by
                        have e2 : Y2.size = P2.length := by rw [Lib.size_eq, HPl2.out.2]
                        have := HPl2.out.1
                        have := HL.out
                        rw [Lib.size_eq, data_bs, List.length_append, List.length_drop]; omega)
                      rw [data_bs] at HSl
                      have HDp : Hid (dpx P P2 (xp, xz) = decide (8 < sls (P2 ++ xp.drop P.length))) := dpx_under heq hbg
                      have HN1 : Hid (∀ w : World, NamedIs (w.alloc (.cells #[.string (bs (P2 ++ xp.drop P.length)), .int .i64 (xz : Int)] 90)) (.slice (some ⟨w.heap.size, 0, none⟩) 1 1) [(P2 ++ xp.drop P.length, xz)]) := fun w => names_one w (P2 ++ xp.drop P.length, xz)
                      by_cases h8 : 8 < sls (P2 ++ xp.drop P.length)
                      · have h4 := HE4.out ⟨(xp, xz), HIn.out, by rw [HDp.out]; simpa using h8⟩
                        subst h4
                        have h8' : (8 : Int) < (sls (P2 ++ xp.drop P.length) : Nat) := by omega
                        generalize sls (P2 ++ xp.drop P.length) = n8 at *
                        generalize bs (P2 ++ xp.drop P.length) = y3 at *
                        clear heq hbg HTk HXb HN1 hcat h8
                        generalize bs xp = y at *
                        go_wp2_with fail
                        refine Calls.mono (HBe.out _) ?_
                        rintro e w' ⟨rfl, rfl⟩
                        go_wp2_with fail
                        obtain ⟨w8, hw8⟩ : ∃ w8, wr.alloc (.cells #[.string y, .int .i64 (xz : Int)] 90) = w8 := ⟨_, rfl⟩
                        have hbx : BoxN w8 wr.heap.size (.string y) (.int .i64 (xz : Int)) := by rw [← hw8]; exact boxN_new _ _ _
                        have HB8 : Hid (Below wr.heap.size wr w8) := by show Below wr.heap.size wr w8; rw [← hw8]; exact below_alloc _ _
                        rw [hw8]
                        obtain ⟨c0, c1, d0, d1⟩ := hbx.facts
                        clear hw8
                        go_region_with fail
                        all_goals
                          rw [HCat.out]
                          obtain ⟨w9, hw9⟩ : ∃ w9, ((w8.setCell ⟨wr.heap.size, 0, none⟩ (.string y3)).setCell ⟨wr.heap.size, 1, none⟩ (.int .i64 (xz : Int))).drew = w9 := ⟨_, rfl⟩
                          have hby : BoxN w9 wr.heap.size (.string y3) (.int .i64 (xz : Int)) := by rw [← hw9]; exact hbx.set (.string y3) (.int .i64 (xz : Int))
                          have HB9 : Hid (Below wr.heap.size wr w9) := by
                            show Below wr.heap.size wr w9
                            rw [← hw9]
                            have z := below_set2 (b := wr.heap.size) HB8.out (Nat.le_refl _) (.string y3) (.int .i64 (xz : Int))
                            exact ⟨z.os, z.tape, z.output, z.size, z.block⟩
                          rw [hw9]
                          have HB69 : Hid (Below w6.heap.size w6 w9) := HB.out.trans (HB9.out.mono HB.out.size)
                          obtain ⟨x0, x1, g0, g1⟩ := (HX0.out w9 HB69.out).facts
                          obtain ⟨y0, y1, f0, f1⟩ := (HX1.out w9 HB69.out).facts
                          clear hw9 hbx c0 c1 d0 d1
                          obtain ⟨c0, c1, d0, d1⟩ := hby.facts
                          go_wp2_with fail
                          refine Calls.mono (HSl.out _) ?_
                          rintro e w' ⟨rfl, rfl⟩
                          go_wp2_with fail
                          refine bodyPost_ret (v := .tuple #[.agg #[.slice (some ⟨b, o, none⟩) nD cD, .slice (some ⟨b2, o2, none⟩) nB cB], .int .i64 4]) ?_ rfl ?_
                          · rw [results_cell2 rfl]
                            go_simp
                          · have hf := below_set2 (b := w.heap.size + 1) (HB6'.out.trans (HB69.out.mono HB6'.out.size)) (by omega) (.slice (some ⟨b, o, none⟩) nD cD) (.slice (some ⟨b2, o2, none⟩) nB cB)
                            exact ⟨_, rfl, by rw [mvN_bad (by decide)]; exact HD.out.later hf, hf⟩
                      · have h8' : ¬ ((8 : Int) < (sls (P2 ++ xp.drop P.length) : Nat)) := by omega
                        have hdf : dpx P P2 (xp, xz) = false := by rw [HDp.out]; simpa using h8
                        have HXn : Hid (xs ++ [(P2 ++ xp.drop P.length, xz)] = (D.take (k + 1)).map (mvD P P2) ∧ ∀ x ∈ D.take (k + 1), dpx P P2 x = false) := by
                          show xs ++ [(P2 ++ xp.drop P.length, xz)] = _ ∧ ∀ x ∈ D.take (k + 1), dpx P P2 x = false
                          rw [HTk.out, List.map_append, ← HXs.out]
                          refine ⟨by rw [List.map_singleton, mvD_under heq hbg], fun x hx => ?_⟩
                          rcases List.mem_append.1 hx with hx | hx
                          · exact HBs.out x hx
                          · rw [List.mem_singleton.1 hx]; exact hdf
                        generalize sls (P2 ++ xp.drop P.length) = n8 at *
                        generalize bs (P2 ++ xp.drop P.length) = y3 at *
                        clear heq hbg HTk HXb hcat h8 hdf
                        generalize bs xp = y at *
                        go_wp2_with fail
                        refine Calls.mono (HBe.out _) ?_
                        rintro e w' ⟨rfl, rfl⟩
                        go_wp2_with fail
                        obtain ⟨w8, hw8⟩ : ∃ w8, wr.alloc (.cells #[.string y, .int .i64 (xz : Int)] 90) = w8 := ⟨_, rfl⟩
                        have hbx : BoxN w8 wr.heap.size (.string y) (.int .i64 (xz : Int)) := by rw [← hw8]; exact boxN_new _ _ _
                        have HB8 : Hid (Below wr.heap.size wr w8) := by show Below wr.heap.size wr w8; rw [← hw8]; exact below_alloc _ _
                        rw [hw8]
                        obtain ⟨c0, c1, d0, d1⟩ := hbx.facts
                        clear hw8
                        go_region_with fail
                        all_goals
                          rw [HCat.out]
                          obtain ⟨w9, hw9⟩ : ∃ w9, ((w8.setCell ⟨wr.heap.size, 0, none⟩ (.string y3)).setCell ⟨wr.heap.size, 1, none⟩ (.int .i64 (xz : Int))).drew = w9 := ⟨_, rfl⟩
                          have hby : BoxN w9 wr.heap.size (.string y3) (.int .i64 (xz : Int)) := by rw [← hw9]; exact hbx.set (.string y3) (.int .i64 (xz : Int))
                          have HB9 : Hid (Below wr.heap.size wr w9) := by
                            show Below wr.heap.size wr w9
                            rw [← hw9]
                            have z := below_set2 (b := wr.heap.size) HB8.out (Nat.le_refl _) (.string y3) (.int .i64 (xz : Int))
                            exact ⟨z.os, z.tape, z.output, z.size, z.block⟩
                          rw [hw9]
                          have HB69 : Hid (Below w6.heap.size w6 w9) := HB.out.trans (HB9.out.mono HB.out.size)
                          obtain ⟨x0, x1, g0, g1⟩ := (HX0.out w9 HB69.out).facts
                          obtain ⟨y0, y1, f0, f1⟩ := (HX1.out w9 HB69.out).facts
                          clear hw9 hbx c0 c1 d0 d1
                          obtain ⟨c0, c1, d0, d1⟩ := hby.facts
                          go_wp2_with fail
                          refine Calls.mono (HSl.out _) ?_
                          rintro e w' ⟨rfl, rfl⟩
                          have HO9 : Hid (w9.ownsRow w6.heap.size 90 2 u11 xs.length (ndc xs)) := row_still HO.out HB9.out
                          go_wp2_with (at_builtin; refine wpList_append_names rfl (.tmp 96) (.tmp 98) rfl w6.heap.size u11 xs.length xs rfl (HO9.out.alloc _) _ [(P2 ++ xp.drop P.length, xz)] rfl (HN1.out _) ?q1 ?q2 ?q3)
                          case q1 => first | omega | (simp; omega)
                          case q2 => have := HB.out.size; have := HB9.out.size; first | omega | (simp; omega)
                          case q3 =>
                            intro v1 wz hown hbz
                            have HO1 : Hid (wz.ownsRow w6.heap.size 90 2 v1 (xs ++ [(P2 ++ xp.drop P.length, xz)]).length (ndc (xs ++ [(P2 ++ xp.drop P.length, xz)]))) := by rw [List.length_append]; exact hown
                            have HBz : Hid (Below w6.heap.size w6 wz) := HB69.out.trans (((below_alloc w9 _).mono HB69.out.size).trans hbz)
                            clear hown hbz
                            go_wp2_with fail
                            go_roundw
                            case rel => exact ⟨k + 1, _, by omega, rfl, by go_num, HO1, HXn.out.1, HXn.out.2, HBz⟩
                            case measure => simp [intOf]; omega
                    · have hbf : bgn xp P = false := by simpa using hbg
                      rw [hbf] at HBe
                      have HN1 : Hid (∀ w : World, NamedIs (w.alloc (.cells #[.string (bs xp), .int .i64 (xz : Int)] 90)) (.slice (some ⟨w.heap.size, 0, none⟩) 1 1) [(xp, xz)]) := fun w => names_one w (xp, xz)
                      have HX1 : Hid (xs ++ [(xp, xz)] = (D.take (k + 1)).map (mvD P P2) ∧ ∀ x ∈ D.take (k + 1), dpx P P2 x = false) := by
                        show xs ++ [(xp, xz)] = _ ∧ ∀ x ∈ D.take (k + 1), dpx P P2 x = false
                        rw [HTk.out, List.map_append, ← HXs.out]
                        refine ⟨by rw [List.map_singleton, mvD_off heq hbf], fun x hx => ?_⟩
                        rcases List.mem_append.1 hx with hx | hx
                        · exact HBs.out x hx
                        · rw [List.mem_singleton.1 hx]; exact dpx_off hbf
                      clear heq HTk HXb hbg hbf
                      generalize bs xp = y at *
                      go_wp2_with fail
                      refine Calls.mono (HBe.out _) ?_
                      rintro e w' ⟨rfl, rfl⟩
                      go_upto_region 24 with fail
                      obtain ⟨w8, hw8⟩ : ∃ w8, wr.alloc (.cells #[.string y, .int .i64 (xz : Int)] 90) = w8 := ⟨_, rfl⟩
                      have hbx : BoxN w8 wr.heap.size (.string y) (.int .i64 (xz : Int)) := by rw [← hw8]; exact boxN_new _ _ _
                      have HB8 : Hid (Below wr.heap.size wr w8) := by show Below wr.heap.size wr w8; rw [← hw8]; exact below_alloc _ _
                      rw [hw8]
                      obtain ⟨c0, c1, _, _⟩ := hbx.facts
                      have HO8 : Hid (w8.ownsRow w6.heap.size 90 2 u11 xs.length (ndc xs)) := row_still HO.out HB8.out
                      clear hw8 hbx
                      go_wp2_with (at_builtin; refine wpList_append_names rfl (.tmp 96) (.tmp 98) rfl w6.heap.size u11 xs.length xs rfl (HO8.out.alloc _) _ [(xp, xz)] rfl (HN1.out _) ?q1 ?q2 ?q3)
                      case q1 => first | omega | (simp; omega)
                      case q2 => have := HB.out.size; have := HB8.out.size; first | omega | (simp; omega)
                      case q3 =>
                        intro v1 w9 hown hb9
                        have HO1 : Hid (w9.ownsRow w6.heap.size 90 2 v1 (xs ++ [(xp, xz)]).length (ndc (xs ++ [(xp, xz)]))) := by rw [List.length_append]; exact hown
                        have HB9 : Hid (Below w6.heap.size w6 w9) := by
                          have z8 := HB8.out.mono HB.out.size
                          exact (HB.out.trans z8).trans (((below_alloc w8 _).mono (by have := HB.out.size; have := HB8.out.size; omega)).trans hb9)
                        clear hown hb9
                        go_wp2_with fail
                        go_roundw
                        case rel => exact ⟨k + 1, _, by omega, rfl, by go_num, HO1, HX1.out.1, HX1.out.2, HB9⟩
                        case measure => simp [intOf]; omega
                · have hkn : k = nD := by omega
                  have hall : D.take k = D := List.take_of_length_le (by have := HND.out; omega)
                  have h0 := HE0.out (fun ⟨x, hx, hb⟩ => by have := HBs.out x (by rw [hall]; exact hx); rw [hb] at this; cases this)
                  subst h0
                  have HXD : Hid (xs = mvN D P P2 0) := by
                    show xs = _
                    rw [HXs.out, hall, mvN_zero]
                  obtain ⟨a8, c8, rfl⟩ := row_form HO.out
                  clear hall hkn
                  go_wp2_with fail
                  refine bodyPost_ret (v := .tuple #[.agg #[.slice a8 xs.length c8, .slice (some ⟨b2, o2, none⟩) nB cB], .int .i64 0]) ?_ rfl ?_
                  · rw [results_cell2 rfl]
                    go_simp
                  · have hf := below_set2 (b := w.heap.size + 1) ((HB6'.out.trans (HB.out.mono HB6'.out.size)).setCell (p := ⟨w.heap.size, 0, none⟩) (Nat.le_refl _) (.slice a8 xs.length c8)) (by omega) (.slice a8 xs.length c8) (.slice (some ⟨b2, o2, none⟩) nB cB)
                    refine ⟨_, rfl, ?_, hf⟩
                    rw [← HXD.out]
                    refine names_own (base := w6.heap.size) (own_off (own_off (own_off HO.out ?_ _) ?_ _) ?_ _) (by unfold maxLen; omega)
                    · show w.heap.size < _; omega
                    · show w.heap.size + 1 < _; omega
                    · show w.heap.size + 1 < _; omega
      · have hE : mvE L M l l2 = spE L M l2 := by
          unfold mvE
          have : frE L M l2 = spE L M l2 := if_pos he2
          rw [if_neg (by simp [he]), hqk, if_neg (by rw [hlk]; simp), this, if_pos he2]
        have hT2 : spT L M l2 = [] := by unfold spT; rw [if_neg he2]
        rw [hE]
        rw [hT2] at HSq
        have hz : ¬ ((spE L M l2 : Int) = 0) := by omega
        have HBd : Hid (spE L M l2 ≠ 0) := he2
        generalize shw (q ++ [kn]) = P at *
        generalize bs P = Y at *
        generalize num i = z at *
        have hz0 : ¬ ((z : Int) < 0) := by omega
        generalize spE L M l2 = E at *
        clear hp hqk hk hlq hM hV g1 g2 hT he hlk hD hB hm HPl hE hT2 he2
        go_enter Tryz.func22, Tryz.ntmps22
        go_wp2_with fail
        rw [HW1.out]
        refine Calls.mono (HSp.out w1 HB1.out) ?_
        rintro e w2 ⟨rfl, hb2⟩
        obtain ⟨hx0, hx1⟩ := HX.out w2 hb2
        obtain ⟨x0, x1, _, _⟩ := hx0.facts
        have HB2 : Hid (Below w.heap.size w w2) := HB1.out.trans (hb2.mono HB1.out.size)
        have hG2 : w.heap.size + 2 ≤ w2.heap.size := by have := hb2.size; have := HZ1.out; omega
        clear hb2

        go_wp2_with fail
        refine Calls.mono (HF1.out w2 HB2.out) ?_
        rintro e w3 ⟨rfl, hb3⟩
        have hx0 := hx0.later hb3
        have hx1 := hx1.later hb3
        obtain ⟨x0, x1, _, _⟩ := hx0.facts
        have HB3 : Hid (Below w.heap.size w w3) := HB2.out.trans (hb3.mono HB2.out.size)
        have hG3 : w.heap.size + 2 ≤ w3.heap.size := by have := hb3.size; omega
        clear hb3

        go_wp2_with fail
        refine Calls.mono (HSq.out w3 HB3.out) ?_
        rintro e w4 ⟨rfl, hb4⟩
        have hx0 := hx0.later hb4
        have hx1 := hx1.later hb4
        obtain ⟨x0, x1, _, _⟩ := hx0.facts
        have HB4 : Hid (Below w.heap.size w w4) := HB3.out.trans (hb4.mono HB3.out.size)
        have hG4 : w.heap.size + 2 ≤ w4.heap.size := by have := hb4.size; omega
        clear hb4

        obtain ⟨y0, y1, f0, f1⟩ := hx1.facts
        clear hx0 hx1
        go_wp2_with fail
        refine bodyPost_ret (v := .tuple #[.agg #[.slice aD nD cD, .slice aB nB cB], .int .i64 (E : Nat)]) ?_ rfl ?_
        · rw [results_cell2 rfl]
          go_simp
        · have hf := below_set2 (b := w.heap.size + 1) HB4.out (by omega) (.slice aD nD cD) (.slice aB nB cB)
          exact ⟨_, rfl, by rw [mvN_bad HBd.out]; exact HD.out.later hf, hf⟩
  · have hE : mvE L M l l2 = spE L M l := if_pos he
    have hT : spT L M l = [] := by unfold spT; rw [if_neg he]
    rw [hE]
    rw [hT] at HSp
    have hz : ¬ ((spE L M l : Int) = 0) := by omega
    have HBd : Hid (spE L M l ≠ 0) := he
    generalize spE L M l = E at *
    clear hE hT he hD hB hm
    go_enter Tryz.func22, Tryz.ntmps22
    go_wp2_with fail
    rw [HW1.out]
    refine Calls.mono (HSp.out w1 HB1.out) ?_
    rintro e w2 ⟨rfl, hb2⟩
    obtain ⟨hx0, hx1⟩ := HX.out w2 hb2
    obtain ⟨x0, x1, _, _⟩ := hx0.facts
    have HB2 : Hid (Below w.heap.size w w2) := HB1.out.trans (hb2.mono HB1.out.size)
    have hG2 : w.heap.size + 2 ≤ w2.heap.size := by have := hb2.size; have := HZ1.out; omega
    clear hb2

    obtain ⟨y0, y1, f0, f1⟩ := hx1.facts
    clear hx0 hx1
    go_wp2_with fail
    refine bodyPost_ret (v := .tuple #[.agg #[.slice aD nD cD, .slice aB nB cB], .int .i64 (E : Nat)]) ?_ rfl ?_
    · rw [results_cell2 rfl]
      go_simp
    · have hf := below_set2 (b := w.heap.size + 1) HB2.out (by omega) (.slice aD nD cD) (.slice aB nB cB)
      exact ⟨_, rfl, by rw [mvN_bad HBd.out]; exact HD.out.later hf, hf⟩

end Go.Proofs.YtdlmkienogimgaaGreatDoor
